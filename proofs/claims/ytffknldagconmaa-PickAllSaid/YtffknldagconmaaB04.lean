/-
  Texts that the claims of this seat share, part 4.
-/
import Derived.RangeFuncNested
import Derived.RangeFuncBound
import Derived.RangeFuncCalls
import Derived.RangeFuncLeaves
import Derived.Shelf.Abstract
import Derived.Shelf.RegionOpen
import Derived.WalkKit
import Derived.OwnWalkIn
import Derived.TacticsInMore
import Derived.LoopNIn
import Derived.LoopIn
import Derived.Test.YtffknldagconmaaB01
import Derived.Test.YtffknldagconmaaB03
set_option linter.unusedVariables false
set_option linter.unusedSimpArgs false
namespace Go.Proofs.Ytffknldagconmaa
set_option maxRecDepth 100000
set_option linter.unusedVariables false
set_option linter.unusedSimpArgs false
open Go.RowKit Go.Sort Go.Shelf

theorem St11.put {q q2 : Nat} {A B : World} (h : St11 q q2 A B) {l : Nat} (o : Obj) (h1 : q ≤ l) (h2 : l < q2) : St11 q q2 A (B.putObj l o) :=
  h.trans ⟨rfl, rfl, rfl, by simp, fun k hk hc => World.putObj_heap_other (by omega)⟩
/-- what lies in blocks q to q2 lies as it lay -/
def Kept11 (q q2 : Nat) (X Y : World) : Prop := X.heap.size ≤ Y.heap.size ∧ ∀ k, q ≤ k → k < q2 → Y.heap[k]? = X.heap[k]?
theorem Kept11.trans {q q2 : Nat} {X Y Z : World} (h : Kept11 q q2 X Y) (k : Kept11 q q2 Y Z) : Kept11 q q2 X Z := ⟨Nat.le_trans h.1 k.1, fun j h1 h2 => (k.2 j h1 h2).trans (h.2 j h1 h2)⟩

theorem range_own {P : Program} {g : Operand} {ps : Array Tmp} {assign body : Code} {Q : Exit → Act → World → Prop} {a : Act} {w : World} {n : Nat} {gf : Nat} {lb : Array Value} (hg : a.eval g = .func (.func gf) #[] lb) (eg : ∀ args w, (callFunc gf args).run P w = .ok (.enter gf args) w)
    (t : Nat → Value) (N : Nat) (hps : ps.size = 1) (I : Nat → Nat → World → Prop)
    (hI : ∀ q q2 j X Y, I q2 j X → w.heap.size ≤ q → St11 q q2 X Y → I q2 j Y) (hI2 : ∀ q2 j X l o, I q2 j X → w.heap.size ≤ l → l < w.heap.size + 2 → I q2 j (X.putObj l o))
    (h0 : ∀ q2 X, Below w.heap.size w X → w.heap.size + 2 ≤ q2 → q2 ≤ X.heap.size → I q2 0 X)
    (hseq : ∀ (lp : Nat) (W : World) (J : Nat → Nat → World → Prop), Below w.heap.size w W → W.heap.size = w.heap.size + 2 →
      (∀ q2 j X Y, J q2 j X → St11 W.heap.size q2 X Y → J q2 j Y) → (∀ q2 X, Below W.heap.size W X → W.heap.size ≤ q2 → q2 ≤ X.heap.size → J q2 0 X) → (∀ q2 j X, J q2 j X → I q2 j X) →
      (∀ q2 j X, W.heap.size ≤ q2 → q2 ≤ X.heap.size → j < N → J q2 j X → YieldAt Fence.wide (n - 1 - 1) P lp #[t j] X fun e X' => e = .returned (.bool true) ∧ J q2 (j + 1) X' ∧ Kept11 W.heap.size q2 X X') →
      CallsIn Fence.wide (n - 1) P gf (#[.func (.yield lp) #[] #[]] ++ lb) W fun e W' => (∃ v, e = .returned v) ∧ ∃ q2, J q2 N W')
    (a₁ : Nat → Act)
    (hassign : ∀ (l j : Nat) (X : World) (K : Act → World → Prop), K (a₁ j) X →
      assign.wpIn (Fence.wide.inRound l) (n - 1 - 1) P (Exit.then K (fun _ _ _ => False)) { tmps := (ps.zip #[t j]).foldl (fun t (p, v) => t.setIfInBounds p v) a.tmps, defers := [] } X)
    (hbody : ∀ (l q2 j : Nat) (X : World), I q2 j X → w.heap.size + 2 ≤ q2 → q2 ≤ X.heap.size → j < N → body.wpIn (Fence.wide.inRound l) (n - 1 - 1) P (fun e _ X' => e = .normal ∧ I q2 (j + 1) X' ∧ Kept11 w.heap.size q2 X X') (a₁ j) X)
    (hdone : ∀ (q2 : Nat) (W : World), I q2 N W → W.heap[w.heap.size]? = some (.deferred (some [])) → Q .normal { a with defers := { target := .collected w.heap.size, args := #[] } :: a.defers } W) :
    (Code.rangeFunc g ps assign body).wpIn Fence.wide n P Q a w := by
  refine wpIn_rangeFunc ?_
  intro fn hfn
  obtain ⟨rec, hrec⟩ : ∃ rec : LoopState → Option Code → Loop, rec = fun st pe => { state := st, pending := pe, fn, tmps := a.tmps, params := ps, assign, body, defers := w.heap.size } := ⟨_, rfl⟩
  obtain ⟨W1, hW1⟩ : ∃ W1, (w.alloc (.deferred (some []))).alloc (.loop (rec .ready none)) = W1 := ⟨_, rfl⟩
  have hs1 : W1.heap.size = w.heap.size + 2 := by rw [← hW1]; simp
  have hL1 : W1.heap[w.heap.size + 1]? = some (.loop (rec .ready none)) := by
    rw [← hW1]
    have := World.alloc_heap_new (w.alloc (.deferred (some []))) (.loop (rec .ready none))
    rwa [World.size_alloc] at this
  have hK1 : W1.heap[w.heap.size]? = some (.deferred (some [])) := by
    rw [← hW1]
    exact (Below.heap_alloc _ _ _ (by simp)).trans (World.alloc_heap_new w _)
  have hb1 : Below w.heap.size w W1 := by
    rw [← hW1]
    exact ((Below.refl _ w).alloc (Nat.le_refl _) _).alloc (by simp) _
  refine ⟨w.heap.size + 1, [{ target := .collected w.heap.size, args := #[] }], W1, { target := .fn (.func gf) lb, args := #[.func (.yield (w.heap.size + 1)) #[] #[]] }, W1, gf,
    #[.func (.yield (w.heap.size + 1)) #[] #[]] ++ lb, W1, ?_, ?_, ?_, ?_, ?_, ?_⟩
  · rw [← hW1, hrec]; exact run_enterLoop_outer _ _ _ _ _
  · simp only [resolve, hg]
    simp [go_sem]
  · intro f' _; trivial
  · simp [invoke, go_sem, eg]
  · intro h; cases h
  refine (hseq (w.heap.size + 1) W1 (fun q2 j X => (I q2 j X ∧ w.heap.size + 2 ≤ q2) ∧ X.heap[w.heap.size + 1]? = some (.loop (rec .ready none)) ∧ X.heap[w.heap.size]? = some (.deferred (some []))) hb1 hs1 ?_ ?_ ?_ ?_).mono ?_
  · rintro q2 j X Y ⟨⟨hi, hq⟩, hl, hk⟩ hst
    have hX1 := lt_heap6' hl
    exact ⟨⟨hI _ _ _ _ _ hi (by omega) hst, hq⟩, (hst.same _ hX1 (.inl (by omega))).trans hl, (hst.same _ (by omega) (.inl (by omega))).trans hk⟩
  · intro q2 X hb hq hq2
    exact ⟨⟨h0 q2 X (hb1.trans (hb.mono hb1.size)) (by omega) hq2, by omega⟩, (hb.block _ (by omega)).trans hL1, (hb.block _ (by omega)).trans hK1⟩
  · intro q2 j X h; exact h.1.1
  · rintro q2 j X hq hq2 hj ⟨⟨hi, hqq⟩, hl, hk⟩
    have hlt : w.heap.size + 1 < X.heap.size := lt_heap6' hl
    have hy := run_yield (P := P) (args := #[t j]) hl (by rw [hrec]; exact hps.symm)
    rw [hrec] at hy
    refine ⟨fn, _, assign, body, hy, roundIn_of_wpIn hfn (hassign _ j X _ ?_)⟩
    refine ⟨_, run_beginRound hl (by rw [hrec]), ?_⟩
    have hl2 : (X.putObj (w.heap.size + 1) (.loop { rec .ready none with state := .busy })).heap[w.heap.size + 1]? = some (.loop { rec .ready none with state := .busy }) := World.putObj_heap_same hlt
    have hk2 : (X.putObj (w.heap.size + 1) (.loop { rec .ready none with state := .busy })).heap[w.heap.size]? = some (.deferred (some [])) := (World.putObj_heap_other (by omega)).trans hk
    have hsz2 : (X.putObj (w.heap.size + 1) (.loop { rec .ready none with state := .busy })).heap.size = X.heap.size := by simp
    refine wpIn_mono (hbody _ q2 j _ (hI2 _ _ _ _ _ hi (by omega) (by omega)) hqq (by simp; omega) hj) ?_
    rintro e a3 W3 ⟨rfl, hi3, hkp3⟩
    have hl3 := (hkp3.2 (w.heap.size + 1) (by omega) (by omega)).trans hl2
    have hk3 := (hkp3.2 w.heap.size (by omega) (by omega)).trans hk2
    have hend := run_endRound (P := P) none hl3
    rw [hrec] at hend
    refine ⟨_, _, hend, rfl, ⟨⟨hI2 _ _ _ _ _ hi3 (by omega) (by omega), hqq⟩, ?_, (World.putObj_heap_other (by omega)).trans hk3⟩, ?_, ?_⟩
    · rw [hrec]
      exact World.putObj_heap_same (lt_heap6' hl3)
    · have := hkp3.1
      simp at this ⊢
      omega
    · intro k h1 h2
      rw [World.putObj_heap_other (by omega), hkp3.2 k (by omega) h2, World.putObj_heap_other (by omega)]
  · rintro e W2 ⟨⟨v, rfl⟩, q2, ⟨hi, hq⟩, hl, hk⟩
    refine ⟨none, _, by have := run_endLoop (P := P) hl (by rw [hrec]; simp); rw [hrec] at this; exact this, hdone q2 _ (hI2 _ _ _ _ _ hi (by omega) (by omega)) ((World.putObj_heap_other (by omega)).trans hk)⟩
end Go.Proofs.Ytffknldagconmaa
namespace Go.Proofs.Ytffknldagconmaa
set_option maxRecDepth 100000
set_option linter.unusedVariables false
set_option linter.unusedSimpArgs false
open Go.RowKit Go.Sort Go.Shelf
attribute [local go_sem] Oper.semAt_some

theorem Crew.st {W W' : World} {q q2 C : Nat} {AS : Option Addr} {cS D : Nat} {l : List Int} (h : Crew W q q2 C AS cS D l) {q3 : Nat} (hk : Kept11 q q2 W W') : Crew W' q q2 C AS cS D l := h.keeps hk.2
set_option maxHeartbeats 16000000 in
theorem turns1_in (lp Lb Pb : Nat) (A B : Option Addr) (picks l : List Int) (c d : Nat) (W : World)
    (hLb : W.cell? ⟨Lb, 0, none⟩ = some (.slice B l.length d)) (hP : InL W A picks c) (hL : Now W B l) (hl : l.length ≤ 11) (hm : ∀ k, 0 ≤ l.getD k 0 ∧ l.getD k 0 ≤ 1000000) (htot : totP l ≤ 99999)
    (J : Nat → Nat → World → Prop) (hJ : ∀ q2 j X Y, J q2 j X → St11 W.heap.size q2 X Y → J q2 j Y) (hJ0 : ∀ q2 X, Below W.heap.size W X → W.heap.size ≤ q2 → q2 ≤ X.heap.size → J q2 0 X)
    (hJr : ∀ q2 j X, J q2 j X → X.cell? ⟨Pb, 0, none⟩ = some (.slice A picks.length c) ∧ Now X A picks)
    (hY : ∀ q2 j X, W.heap.size ≤ q2 → q2 ≤ X.heap.size → j < totP l → J q2 j X → YieldAt Fence.wide 4 Try.prog lp #[.int .i64 (tnP picks l j : Int)] X fun e X' => e = .returned (.bool true) ∧ J q2 (j + 1) X' ∧ Kept11 W.heap.size q2 X X') :
    CallsIn Fence.wide 5 Try.prog 20 #[.func (.yield lp) #[] #[], .pointer (some ⟨Lb, 0, none⟩), .pointer (some ⟨Pb, 0, none⟩)] W fun e W' => (∃ v, e = .returned v) ∧ ∃ q2, J q2 (totP l) W' := by
  have HY := Lib.hid hY
  have HJ := Lib.hid hJ
  have HJ0 := Lib.hid hJ0
  have HJR := Lib.hid hJr
  have HM := Lib.hid hm
  have HP := Lib.hid hP
  have hcrew := crewOf_any B l d W hL hl
  have hpl := hP.len
  clear hY hJ hJ0 hJr hm hL hP
  refine callsIn_of_wp Try.func20 rfl trivial ?_ rfl
  simp only [Try.ntmps20, List.size_toArray, List.length_cons, List.length_nil, Nat.reduceAdd, Nat.reduceSub, Array.replicate_succ, Array.replicate_zero, List.push_toArray, List.append_toArray, List.nil_append, List.cons_append]
  gi_wp2
  refine ⟨trivial, (callsIn_wide.2 hcrew).mono ?_⟩
  rintro e X1 ⟨AS, cS, D, rfl, hS, hD, hSD, hb1⟩
  clear hcrew
  have hrow := heap_alloc_new X1 (.cells #[.slice AS l.length cS, .slice (some ⟨D, 0, none⟩) (l.length + 1) (l.length + 1), .int .i64 (manyP l : Int)] 43)
  have hal := (Below.refl X1.heap.size X1).alloc (Nat.le_refl _) (.cells #[.slice AS l.length cS, .slice (some ⟨D, 0, none⟩) (l.length + 1) (l.length + 1), .int .i64 (manyP l : Int)] 43)
  have hS2 := own_next hS hal
  have hD2 := own_next hD hal
  have hSb := own_bounds hS
  have hDb := own_bounds hD _ rfl
  simp only at hDb
  have hsz : (X1.alloc (.cells #[.slice AS l.length cS, .slice (some ⟨D, 0, none⟩) (l.length + 1) (l.length + 1), .int .i64 (manyP l : Int)] 43)).heap.size = X1.heap.size + 1 := by simp
  have hb2 := Qt.more hb1 hb1.size hal
  have hsb1 := hb1.size
  have HC0 : Hid (Crew (X1.alloc (.cells #[.slice AS l.length cS, .slice (some ⟨D, 0, none⟩) (l.length + 1) (l.length + 1), .int .i64 (manyP l : Int)] 43)) W.heap.size (X1.heap.size + 1) X1.heap.size AS cS D l ∧ J (X1.heap.size + 1) 0 (X1.alloc (.cells #[.slice AS l.length cS, .slice (some ⟨D, 0, none⟩) (l.length + 1) (l.length + 1), .int .i64 (manyP l : Int)] 43)) ∧ X1.heap.size + 1 ≤ (X1.alloc (.cells #[.slice AS l.length cS, .slice (some ⟨D, 0, none⟩) (l.length + 1) (l.length + 1), .int .i64 (manyP l : Int)] 43)).heap.size) :=
    ⟨⟨hrow, hS2, hD2, ⟨hsb1, by omega⟩, ⟨by omega, by omega⟩, fun a ha => ⟨by have := hSb a ha; omega, by have := hSb a ha; omega, hSD a ha⟩⟩, HJ0.out _ _ hb2 (by omega) (by omega), by omega⟩
  clear hrow hal hS2 hD2 hSb hDb hS hD hSD hb2 hb1 hsz
  gi_wp2
  generalize X1.alloc (.cells #[.slice AS l.length cS, .slice (some ⟨D, 0, none⟩) (l.length + 1) (l.length + 1), .int .i64 (manyP l : Int)] 43) = X2 at *
  generalize X1.heap.size = C at *
  gi_loopw [5, 6] (fun lst st wr => ∃ j : Nat, j ≤ totP l ∧ st = .int .i64 j ∧ lst = .int .i64 (stP picks l j).2 ∧ Hid (Crew wr W.heap.size (C + 1) C AS cS D (stP picks l j).1 ∧ J (C + 1) j wr ∧ C + 1 ≤ wr.heap.size)) (fun _ st _ => totP l - (intOf st).toNat)
  case atStart => exact ⟨0, Nat.zero_le _, rfl, rfl, HC0.out⟩
  case round =>
    obtain ⟨j, hj, rfl, rfl, HH⟩ := hrel
    have hcr := HH.out.1
    have hJj := HH.out.2.1
    have c2 := hcr.c2
    obtain ⟨pb, hpn⟩ := HJR.out _ _ _ hJj
    have hsl := (stP_ok picks l j hj).2
    have hsb := stP_bd picks l 1000000 HM.out j hj
    have hlast : -1 ≤ (stP picks l j).2 ∧ (stP picks l j).2 < l.length := by
      cases j with
      | zero => exact ⟨by show (-1 : Int) ≤ -1; omega, by show (-1 : Int) < _; omega⟩
      | succ j =>
        have := (tnP_ok picks l (show j < totP l by omega)).2.1
        rw [stP_succ]
        exact ⟨by show (-1 : Int) ≤ (tnP picks l j : Int); omega, by show (tnP picks l j : Int) < _; omega⟩
    by_cases hlt : j < totP l
    · obtain ⟨t1, t2, t3, t4⟩ := tnP_ok picks l hlt
      have hdef : tnP picks l j = kthP (stP picks l j).1 (rankP picks j (manyP (stP picks l j).1) (uptoP (stP picks l j).1 (stP picks l j).2)) := rfl
      have hss := stP_succ picks l j
      have hY := fun X h => HY.out (C + 1) j X (by have := hcr.cb; omega) h hlt
      obtain ⟨T, hT⟩ : ∃ T, T = tnP picks l j := ⟨_, rfl⟩
      rw [← hT] at t2 t3 hdef hss hY
      obtain ⟨⟨l2, last⟩, hs⟩ : ∃ s, s = stP picks l j := ⟨_, rfl⟩
      rw [← hs] at hcr c2 hsl hsb hlast t1 t3 hdef hss ⊢
      simp only at hcr c2 hsl hsb hlast t1 t3 hdef hss ⊢
      have hml := many_le l2
      have hupb : uptoP l2 last ≤ 1000000 := by have := cntP_many l2 (last + 1).toNat; unfold uptoP; omega
      have hjb : (j : Int) < 1000000 := by omega
      have hup := fun W' (hb : Below wr.heap.size wr W') => upto_any W' _ _ C AS cS D l2 last (hcr.below hb) (by omega) hlast.1 (by omega)
      have hro := fun W' (hb : Below wr.heap.size wr W') => rankOf_any A picks c (j : Int) (manyP l2) (uptoP l2 last) W' (hpn.below hb) HP.out.len HP.out.fit (by omega) (by omega) hupb ⟨by omega, by omega⟩
      have hat := fun W' (hb : Below wr.heap.size wr W') => at_any W' _ _ C AS cS D l2 (rankP picks j (manyP l2) (uptoP l2 last)) (hcr.below hb) (by omega) (rankP_lt _ _ _ t1)
      rw [← hdef] at hat
      have HH2 := Lib.hid (And.intro hcr (And.intro hJj HH.out.2.2))
      have HT3 := Lib.hid (And.intro t3 (And.intro hsl hsb))
      have HSS := Lib.hid hss
      have HYY := Lib.hid hY
      generalize uptoP l2 last = u at *
      generalize hrk : rankP picks (j : Int) (manyP l2) u = rk at *
      have hmz : (0 : Int) < (manyP l2 : Int) := by omega
      generalize manyP l2 = m at *
      clear hcr hJj hpn hsl hsb hlast t1 t3 t4 hdef hss hY hs hT hml hupb hrk HH
      have HUP := Lib.hid hup
      have HRO := Lib.hid hro
      have HAT := Lib.hid hat
      clear hup hro hat
      clear hjb
      gi_wp2_with fail
      have hup := HUP.out
      have hro := HRO.out
      have hat := HAT.out
      have q0 := Qt.cell_in pb
      have q2 := Qt.cell_in c2
      clear HUP HRO HAT
      refine wpIn_wide.2 ?_
      refine Qt.below_all (by kernel_rfl) (by kernel_rfl) ?_
      iterate 9 (go_big_quiet_step (first
        | (go_at_call 23; exact Qt.at_same hup)
        | (go_at_call 17; exact Qt.at_same hro)
        | (go_at_call 22; exact Qt.at_call' hat)))
      refine wpQuiet_nil ?_
      intro w2 hb2
      obtain ⟨g1, g2, g3⟩ := HH2.out
      have hcr2 := g1.below hb2
      have hJ2 := HJ.out _ _ _ _ g2 (st_below hb2)
      have hsz2 := hb2.size
      obtain ⟨t3, hsl, hsb⟩ := HT3.out
      have htn := turn11_any w2 _ _ C AS cS D l2 T hcr2 (by omega) t3 (hsb T).2
      have H3 := Lib.hid (And.intro hJ2 (Nat.le_trans g3 hsz2))
      clear hup hro hat q0 q2 pb c2 hb2 g1 g2 g3 hcr2 hJ2 hsz2 t3 hsb hsl
      gi_wp2_with fail
      refine ⟨trivial, (callsIn_wide.2 htn).mono ?_⟩
      rintro e w3 ⟨⟨v3, rfl⟩, hcr3, hst3⟩
      have hJ3 := HJ.out _ _ _ _ H3.out.1 hst3
      have hsz3 := Nat.le_trans H3.out.2 hst3.size
      obtain ⟨fn, tmps, assign, body, hy, hR⟩ := HYY.out w3 hsz3 hJ3
      have HC3 := Lib.hid hcr3
      have HS3 := Lib.hid (And.intro hsz3 hsb1)
      clear htn hcr3 hst3 hJ3 hsz3 hsb1
      gi_wp2_with fail
      refine hR.mono ?_
      clear hR hy
      rintro e w4 ⟨rfl, hJ4, hk4⟩
      have HN : Hid (Crew w4 W.heap.size (C + 1) C AS cS D (stP picks l (j + 1)).1 ∧ J (C + 1) (j + 1) w4 ∧ C + 1 ≤ w4.heap.size) := ⟨by rw [HSS.out]; exact HC3.out.keeps hk4.2, hJ4, Nat.le_trans HS3.out.1 hk4.1⟩
      clear hJ4 hk4
      gi_wp2_with fail
      go_roundw
      case measure => simp [intOf]; omega
      case rel => exact ⟨j + 1, by omega, by go_num, by rw [HSS.out], HN.out⟩
    · obtain rfl : j = totP l := by omega
      have hend := stP_end picks l
      rw [hend] at c2
      have HF := Lib.hid hJj
      clear hcr hJj pb hpn hsl hsb hlast hend HH
      gi_wp2_with fail
      go_end0
      exact ⟨⟨_, rfl⟩, C + 1, HF.out⟩
end Go.Proofs.Ytffknldagconmaa
namespace Go.Proofs.Ytffknldagconmaa
set_option maxRecDepth 100000
set_option linter.unusedVariables false
set_option linter.unusedSimpArgs false
open Go.RowKit Go.Sort Go.Shelf
attribute [local go_sem] Oper.semAt_some

theorem append_run_in {F : Fence} {n : Nat} {P : Program} {w : World} {ops : Array Oper} {rest : List Oper} {o : Oper} {a : Act} {Q : Exit → Act → World → Prop}
    (hg : o.guard = none) (s x : Operand) (t : TypeId) (hop : o.op = Op.call { callee := Callee.builtin Builtin.append, args := #[s, x], argTypes := #[t, t] })
    (v u : Value) (hs : a.eval s = v) (hx : a.eval x = u) (v' : Value) (w' : World) (hrun : (Builtin.append_ #[t, t] o.type #[v, u]).run P w = .ok v' w') (h : wpListIn F n P ops Q rest (a.put o.dst v') w') : wpListIn F n P ops Q (o :: rest) a w := by
  refine wpListIn_plain hg fun K hK => ?_
  unfold Oper.wpIn
  refine ⟨?_, ?_⟩
  · simp [Oper.about, hop, resolve, Target.leads, Sem.run_pure]
  · rw [Oper.semAt_plain F _ _ (by rw [hop]; intro c hc; cases hc)]
    simp [execOp, hop, resolve, invoke, builtin, hs, hx, hrun, Result.andThen]
    exact hK _ _ h
theorem turns_any (A B : Option Addr) (n m c d : Nat) (w : World) :
    Calls Try.prog 19 #[.slice A n c, .slice B m d] w fun e w' => e = .returned (.func (.func 20) #[] #[.pointer (some ⟨w.heap.size + 1, 0, none⟩), .pointer (some ⟨w.heap.size, 0, none⟩)]) ∧ w' = (w.alloc (.cells #[.slice A n c] 22)).alloc (.cells #[.slice B m d] 22) := by
  go_enter Try.func19, Try.ntmps19
  go_wp2
  go_ret
  exact ⟨rfl, rfl⟩
/-- what is known between two turns: w at the call, w2 where the range begins -/
structure TurnsI (w w2 : World) (A : Option Addr) (picks l : List Int) (c q2 j : Nat) (X : World) : Prop where
  box : ∃ v, Boxed X w.heap.size 22 v ∧ Own X q2 v (turnsTo picks l j)
  pb : Boxed X (w.heap.size + 1) 22 (.slice A picks.length c)
  q : w2.heap.size + 2 ≤ q2
  bel : Below w.heap.size w X
theorem TurnsI.st {w w2 : World} {A : Option Addr} {picks l : List Int} {c q q2 j : Nat} {X Y : World} (hw : w2.heap.size = w.heap.size + 3) (h : TurnsI w w2 A picks l c q2 j X) (hq : w2.heap.size ≤ q) (hs : St11 q q2 X Y) : TurnsI w w2 A picks l c q2 j Y := by
  obtain ⟨v, hb, ho⟩ := h.box
  have h1 := hb.lt
  have h2 := h.pb.lt
  refine ⟨⟨v, (hs.same _ h1 (.inl (by omega))).trans hb, own_keeps ho fun g hg => ?_⟩, (hs.same _ h2 (.inl (by omega))).trans h.pb, h.q, h.bel.trans ⟨hs.os, hs.tape, hs.output, hs.size, fun k hk => hs.same k (by have := h.bel.size; omega) (.inl (by omega))⟩⟩
  have := World.ownsRow.lt ho g hg
  exact hs.same g this.2 (.inr this.1)
theorem TurnsI.put {w w2 : World} {A : Option Addr} {picks l : List Int} {c q2 j : Nat} {X : World} (hw : w2.heap.size = w.heap.size + 3) (h : TurnsI w w2 A picks l c q2 j X) {lb : Nat} (o : Obj) (h1 : w2.heap.size ≤ lb) (h2 : lb < w2.heap.size + 2) : TurnsI w w2 A picks l c q2 j (X.putObj lb o) := by
  obtain ⟨v, hb, ho⟩ := h.box
  have hq := h.q
  have hk : ∀ k, k ≠ lb → (X.putObj lb o).heap[k]? = X.heap[k]? := fun k hk => World.putObj_heap_other (by omega)
  refine ⟨⟨v, (hk _ (by omega)).trans hb, own_keeps ho fun g hg => hk g ?_⟩, (hk _ (by omega)).trans h.pb, h.q, h.bel.trans ⟨rfl, rfl, rfl, by simp, fun k hk2 => hk k (by omega)⟩⟩
  have := World.ownsRow.lt ho g hg
  omega
def TurnsR (picks l : List Int) (w : World) (e : Ending) (w' : World) : Prop := ∃ v, e = .returned v ∧ Own w' w.heap.size v (turnsP picks l) ∧ Below w.heap.size w w'
set_option maxHeartbeats 16000000 in
theorem turns11_any (A B : Option Addr) (picks l : List Int) (c d : Nat) (w : World) (hP : InL w A picks c) (hL : Now w B l) (hl : l.length ≤ 11) (hm : ∀ k, 0 ≤ l.getD k 0 ∧ l.getD k 0 ≤ 1000000) (htot : totP l ≤ 99999) :
    Calls Try.prog 15 #[.slice A picks.length c, .slice B l.length d] w (TurnsR picks l w) := by
  have HP := Lib.hid hP
  have HL := Lib.hid hL
  have HM := Lib.hid hm
  clear hP hL hm
  refine (callsIn_wide (n := 6)).1 ?_
  refine callsIn_of_wp_marks Try.func15 rfl trivial ?_ rfl
  simp only [Try.ntmps15, List.size_toArray, List.length_cons, List.length_nil, Nat.reduceAdd, Nat.reduceSub, Array.replicate_succ, Array.replicate_zero, List.push_toArray, List.append_toArray, List.nil_append, List.cons_append]
  gi_wp2
  refine ⟨trivial, (callsIn_wide.2 (turns_any A B _ _ c d _)).mono ?_⟩
  rintro e w' ⟨rfl, rfl⟩
  gi_wp2
  have hb1 := (Below.refl w.heap.size w).alloc (Nat.le_refl _) (.cells #[.slice none 0 0] 22)
  have hb2 := hb1.alloc (by simp) (.cells #[.slice A picks.length c] 22)
  have hb3 := hb2.alloc (by simp; omega) (.cells #[.slice B l.length d] 22)
  have x1 := Boxed.new w 22 (.slice none 0 0)
  have x2 := Boxed.new (w.alloc (.cells #[.slice none 0 0] 22)) 22 (.slice A picks.length c)
  have x3 := Boxed.new ((w.alloc (.cells #[.slice none 0 0] 22)).alloc (.cells #[.slice A picks.length c] 22)) 22 (.slice B l.length d)
  have y1 := (x1.alloc (.cells #[.slice A picks.length c] 22)).alloc (.cells #[.slice B l.length d] 22)
  have y2 := x2.alloc (.cells #[.slice B l.length d] 22)
  rw [World.size_alloc] at y2
  rw [World.size_alloc, World.size_alloc] at x3
  have hsz : (((w.alloc (.cells #[.slice none 0 0] 22)).alloc (.cells #[.slice A picks.length c] 22)).alloc (.cells #[.slice B l.length d] 22)).heap.size = w.heap.size + 3 := by simp
  clear x1 x2 hb1 hb2
  obtain ⟨w2, hw2⟩ : ∃ w2, ((w.alloc (.cells #[.slice none 0 0] 22)).alloc (.cells #[.slice A picks.length c] 22)).alloc (.cells #[.slice B l.length d] 22) = w2 := ⟨_, rfl⟩
  rw [hw2] at hb3 y1 y2 x3 hsz ⊢
  clear hw2
  have hIs : ∀ q q2 j X Y, TurnsI w w2 A picks l c q2 j X → w2.heap.size ≤ q → St11 q q2 X Y → TurnsI w w2 A picks l c q2 j Y := fun q q2 j X Y h1 h2 h3 => h1.st hsz h2 h3
  refine range_own (gf := 20) (lb := #[.pointer (some ⟨w.heap.size + 1 + 1, 0, none⟩), .pointer (some ⟨w.heap.size + 1, 0, none⟩)]) rfl (enters_of Try.func20 (by kernel_rfl) rfl)
    (fun j => .int .i64 (tnP picks l j : Int)) (totP l) rfl (TurnsI w w2 A picks l c) hIs (fun q2 j X lb o h1 h2 h3 => h1.put hsz o h2 h3)
    ?start ?seq (fun j => { tmps := #[.slice A picks.length c, .slice B l.length d, undef, undef, .slice none 0 0, .pointer (some ⟨w.heap.size, 0, none⟩), .int .i64 (tnP picks l j : Int), .slice A picks.length c, .slice B l.length d, .func (.func 20) #[] #[.pointer (some ⟨w.heap.size + 1 + 1, 0, none⟩), .pointer (some ⟨w.heap.size + 1, 0, none⟩)], .int .i64 (tnP picks l j : Int), undef, undef, undef, undef, undef, undef, undef, undef], defers := [] }) ?assign ?body ?done
  case start =>
    intro q2 X hb hq hq2
    refine ⟨⟨.slice none 0 0, (hb.block _ (by omega)).trans y1, World.ownsRow_nil _ _ _ _⟩, (hb.block _ (by omega)).trans y2, hq, hb3.trans (hb.mono (by omega))⟩
  case seq =>
    intro lp W J hbW hszW hJ hJ0 hJI hY
    have hb4 := hb3.trans (hbW.mono (by omega))
    refine turns1_in lp _ _ A B picks l c d W ((World.cell?_of_block (w := w2) (hbW.block _ (by show w.heap.size + 1 + 1 < _; omega))).trans x3.cell) (HP.out.below hb4) (HL.out.below hb4) hl HM.out htot J hJ (fun q2 X h1 h2 h3 => hJ0 q2 X h1 h2 h3) (fun q2 j X h => ?_) hY
    have hi := hJI _ _ _ h
    exact ⟨hi.pb.cell, HP.out.now.below hi.bel⟩
  case assign =>
    intro lp j X K hK
    gi_wp2
    exact hK
  case body =>
    rintro lp q2 j X ⟨⟨v, hbx, hown⟩, hpb, hq, hbel⟩ _ hq2 hj
    have hc := hbx.cell
    have hf := hbx.frozen
    have htl := turnsTo_len picks l j
    obtain ⟨v', X2, hrun, hown2, hb5⟩ := push_any (tnP picks l j : Int) hq2 hown (by omega)
    rw [← turnsTo_succ] at hown2
    obtain ⟨A3, c3, hv3, _, _⟩ := hown2.reads
    rw [turnsTo_len] at hv3
    have e1 := (hb5.cell (p := ⟨w.heap.size, 0, none⟩) (by show w.heap.size < q2; omega)).trans hc
    have e2 := (hb5.frozen (p := ⟨w.heap.size, 0, none⟩) (by show w.heap.size < q2; omega)).trans hf
    subst hv3
    have hne : ¬ (((j + 1 : Nat)) : Int) = 100000 := by omega
    have hneb : ((((j + 1 : Nat)) : Int) == 100000) = false := beq_eq_false_iff_ne.2 hne
    have HRun := Lib.hid hrun
    have HFN : Hid (TurnsI w w2 A picks l c q2 (j + 1) (X2.setCell ⟨w.heap.size, 0, none⟩ (.slice A3 (j + 1) c3)) ∧ Kept11 w2.heap.size q2 X (X2.setCell ⟨w.heap.size, 0, none⟩ (.slice A3 (j + 1) c3))) := by
      have hbx2 : Boxed X2 w.heap.size 22 v := (hb5.block _ (by omega)).trans hbx
      have hpb2 : Boxed X2 (w.heap.size + 1) 22 (.slice A picks.length c) := (hb5.block _ (by omega)).trans hpb
      refine ⟨⟨⟨_, hbx2.set _, own_keeps hown2 fun g hg => heap_other ?_⟩, hpb2.other (by omega) _, hq, (hbel.trans (hb5.mono (by omega))).setCell (p := ⟨w.heap.size, 0, none⟩) (Nat.le_refl _) _⟩, ?_, fun k h1 h2 => ?_⟩
      · have := (World.ownsRow.lt hown2 g hg).1; omega
      · have := hb5.size; simp; omega
      · rw [heap_other (by omega), hb5.block k h2]
    clear hbx hown hrun hown2 hb5 hbel hpb hf
    gi_wp2_with (gi_at_builtin; refine append_run_in rfl (.tmp 11) (.tmp 13) 22 rfl _ _ rfl rfl _ _ HRun.out ?_)
    exact ⟨HFN.out.1, by rw [← hsz]; exact HFN.out.2⟩
  case done =>
    intro q2 W3 hI hK
    obtain ⟨v, hbx, hown⟩ := hI.box
    have hc := hbx.cell
    have hq := hI.q
    have HFN : Hid (Own W3 w.heap.size v (turnsP picks l) ∧ Below w.heap.size w W3) := ⟨own_more hown (by omega), hI.bel⟩
    have HQ := Lib.hid hq
    have HSZ := Lib.hid hsz
    clear hbx hown hI hq hIs hsz
    gi_wp2
    refine ⟨by simp, .inl ⟨_, _, rfl, run_takeDeferred hK, ?_⟩⟩
    have hbd := belowK_b (n₀ := w.heap.size) (w := w2) (by have := HSZ.out; omega) W3 w2.heap.size (.deferred (some [])) (.deferred none) (Nat.le_refl _) hK rfl rfl
    exact ⟨_, results_tmp rfl _ _ _, ⟨v, rfl, ownsRow_putObj HFN.out.1 _ hK rfl, HFN.out.2.trans hbd⟩⟩
end Go.Proofs.Ytffknldagconmaa
namespace Go.Proofs.Ytffknldagconmaa
set_option maxRecDepth 100000
set_option linter.unusedVariables false
set_option linter.unusedSimpArgs false
open Go.RowKit Go.Sort

/-- where the search begins -/
def fromP (n : Nat) (last : Int) : Nat := if 0 ≤ last ∧ last < (n : Int) then (last + 1).toNat else 0
theorem fromP_le (n : Nat) (last : Int) : fromP n last ≤ n := by unfold fromP; split <;> omega
theorem upto_from (l : List Int) (last : Int) (h : 0 < manyP l) : uptoP l last % manyP l = cntP l (fromP l.length last) % manyP l := by
  unfold uptoP fromP
  by_cases h1 : 0 ≤ last ∧ last < (l.length : Int)
  · rw [if_pos h1]
  · rw [if_neg h1]
    by_cases h2 : last < 0
    · rw [show (last + 1).toNat = 0 by omega]
    · rw [cntP_past l (show l.length ≤ (last + 1).toNat by omega), Nat.mod_self]
      show 0 = 0 % _
      rw [Nat.zero_mod]
/-- how far it is from there -/
def farP (n f t : Nat) : Nat := if f ≤ t then t - f else t + n - f
theorem far_ok {l : List Int} {f t : Nat} (hf : f ≤ l.length) (hm : 0 < manyP l) (ht : t = kthP l (cntP l f % manyP l)) :
    t < l.length ∧ 0 < l.getD t 0 ∧ farP l.length f t < l.length ∧ (f + farP l.length f t) % l.length = t ∧ ∀ i, i < farP l.length f t → ¬ 0 < l.getD ((f + i) % l.length) 0 := by
  obtain ⟨k1, k2, k3⟩ := kth_ok (l := l) (r := cntP l f % manyP l) (Nat.mod_lt _ hm)
  rw [← ht] at k1 k2 k3
  have hcm := cntP_many l f
  refine ⟨k1, k2, ?_⟩
  by_cases hc : cntP l f = manyP l
  · rw [hc, Nat.mod_self] at k3
    have htf : t < f := by
      rcases Nat.lt_or_ge t f with h | h
      · exact h
      · have := cntP_mono l h; omega
    have hfar : farP l.length f t = t + l.length - f := by unfold farP; rw [if_neg (by omega)]
    rw [hfar]
    refine ⟨by omega, ?_, fun i hi h0 => ?_⟩
    · rw [show f + (t + l.length - f) = t + l.length by omega, Nat.add_mod_right, Nat.mod_eq_of_lt k1]
    · by_cases hi2 : f + i < l.length
      · rw [Nat.mod_eq_of_lt hi2] at h0
        have h1 := cntP_mono l (show f ≤ f + i by omega)
        have h2 := live_many h0
        omega
      · rw [Nat.mod_eq_sub_mod (by omega), Nat.mod_eq_of_lt (by omega)] at h0
        have h1 := cntP_mono l (show f + i - l.length + 1 ≤ t by omega)
        rw [live_cnt h0] at h1
        omega
  · rw [Nat.mod_eq_of_lt (by omega)] at k3
    have htf : f ≤ t := by
      rcases Nat.lt_or_ge t f with h | h
      · have := cntP_mono l (show t + 1 ≤ f from h); rw [live_cnt k2] at this; omega
      · exact h
    have hfar : farP l.length f t = t - f := by unfold farP; rw [if_pos htf]
    rw [hfar]
    refine ⟨by omega, ?_, fun i hi h0 => ?_⟩
    · rw [show f + (t - f) = t by omega, Nat.mod_eq_of_lt k1]
    · rw [Nat.mod_eq_of_lt (by omega)] at h0
      have h1 := cntP_mono l (show f + i + 1 ≤ t by omega)
      have h2 := cntP_mono l (show f ≤ f + i by omega)
      rw [live_cnt h0] at h1
      omega
theorem refMany_any (B : Option Addr) (l : List Int) (d : Nat) (w : World) (hL : Now w B l) (hl : l.length ≤ 1000000) :
    Calls Try.prog 18 #[.slice B l.length d] w fun e w' => e = .returned (.int .i64 (manyP l : Int)) ∧ w = w' := by
  have HL := Lib.hid hL
  have HM := Lib.hid (show cntP l l.length = manyP l from rfl)
  clear hL
  go_enter Try.func18, Try.ntmps18
  go_wp2
  go_loopw [3, 4] (fun m i wr => ∃ k : Nat, k ≤ l.length ∧ i = .int .i64 k ∧ m = .int .i64 (cntP l k : Int) ∧ wr = w) (fun _ i _ => l.length - (intOf i).toNat)
  case atStart => exact ⟨0, Nat.zero_le _, rfl, rfl, rfl⟩
  case round =>
    obtain ⟨k, hk, rfl, rfl, hwr⟩ := hrel
    subst hwr
    by_cases hlt : k < l.length
    · have hltz : (k : Int) < (l.length : Int) := by omega
      obtain ⟨b, off, rfl, hbB, hcell⟩ := Rd.at_ HL.out (by omega)
      have y0 := hcell k hlt
      have e1 := cntP_succ l k
      have hc1 := cntP_le l k
      obtain ⟨x, hx⟩ : ∃ x, x = l.getD k 0 := ⟨_, rfl⟩
      rw [← hx] at y0 e1
      obtain ⟨m, hm⟩ : ∃ m, m = cntP l k := ⟨_, rfl⟩
      rw [← hm] at e1 hc1 ⊢
      have hmk : m ≤ 1000000 := by omega
      clear hcell hx hm hc1
      by_cases h0 : x < 1
      · rw [livI_no (by omega)] at e1
        have HE := Lib.hid e1
        have h0' : ¬ 0 < x := by omega
        clear e1
        go_wp2
        go_roundw
        case measure => simp [intOf]; omega
        case rel => exact ⟨k + 1, by omega, by go_num, by rw [HE.out, Nat.add_zero], by first | trivial | rfl⟩
      · rw [livI_yes (by omega)] at e1
        have HE := Lib.hid e1
        have h0' : 0 < x := by omega
        clear e1
        go_wp2
        go_roundw
        case measure => simp [intOf]; omega
        case rel => exact ⟨k + 1, by omega, by go_num, by rw [HE.out]; go_num, by first | trivial | rfl⟩
    · obtain rfl : k = l.length := by omega
      have hltz : ¬ (l.length : Int) < (l.length : Int) := by omega
      rw [HM.out]
      go_wp2
      go_ret
      exact ⟨rfl, by first | trivial | rfl⟩
set_option maxHeartbeats 8000000 in
theorem refNext11_any (A B : Option Addr) (picks l : List Int) (c d : Nat) (step last : Int) (w : World) (hP : InL w A picks c) (hL : InL w B l d) (hl : l.length ≤ 1000000) (hs : I64 step) (hla : I64 last) :
    Calls Try.prog 13 #[.slice A picks.length c, .int .i64 step, .slice B l.length d, .int .i64 last] w fun e w' => e = .returned (.int .i64 (nextP picks step l last)) ∧ w = w' := by
  have hmany := fun W (h : Now W B l) => refMany_any B l d W h hl
  have hm1 := many_le l
  have hnp : nextP picks step l last = if manyP l = 0 then -1 else (nextN picks step l last : Int) := rfl
  generalize hr : nextP picks step l last = r
  rw [hr] at hnp
  have HP := Lib.hid hP
  have HL := Lib.hid hL
  obtain ⟨la1, la2⟩ := hla
  obtain ⟨s1, s2⟩ := hs
  clear hP hL hr
  go_enter Try.func13, Try.ntmps13
  go_wp2_with fail
  refine (hmany _ HL.out.now).mono ?_
  rintro e w' ⟨rfl, rfl⟩
  by_cases hm0 : manyP l = 0
  · rw [if_pos hm0] at hnp
    subst hnp
    rw [hm0]
    clear hmany
    go_wp2
    go_ret
    exact ⟨rfl, rfl⟩
  rw [if_neg hm0] at hnp
  have hmz : ¬ ((manyP l : Nat) : Int) = 0 := by omega
  have hmz2 : (((manyP l : Nat) : Int) == 0) = false := beq_eq_false_iff_ne.2 hmz
  have hrk := rankP_lt picks step (many := manyP l) (uptoP l last) (by omega)
  have hT : nextN picks step l last = kthP l (rankP picks step (manyP l) (uptoP l last)) := rfl
  obtain ⟨T, hTT⟩ : ∃ T, T = nextN picks step l last := ⟨_, rfl⟩
  rw [← hTT] at hT hnp
  subst hnp
  clear hTT hmany
  by_cases h : step < 0 ∨ (picks.length : Int) ≤ step
  · rw [rankP_no h, upto_from l last (by omega)] at hT
    have hfl := fromP_le l.length last
    have hfdef : fromP l.length last = if 0 ≤ last ∧ last < (l.length : Int) then (last + 1).toNat else 0 := rfl
    obtain ⟨f, hf⟩ : ∃ f, f = fromP l.length last := ⟨_, rfl⟩
    rw [← hf] at hT hfl hfdef
    obtain ⟨q1, q2, q3, q4, q5⟩ := far_ok hfl (by omega) hT
    have hfz : (f : Int) = if 0 ≤ last ∧ last < (l.length : Int) then last + 1 else 0 := by rw [hfdef]; split <;> omega
    obtain ⟨D, hD⟩ : ∃ D, D = farP l.length f T := ⟨_, rfl⟩
    rw [← hD] at q3 q4 q5
    have HQ := Lib.hid (And.intro q2 (And.intro q4 q5))
    have hll : (0 : Int) < (l.length : Int) := by omega
    have hml : (manyP l : Int) ≤ 1000000 := by omega
    clear hrk hf hfdef hT hD q2 q4 q5
    generalize manyP l = m at *
    clear hm0 hm1
    by_cases hst : step < 0
    · clear h
      by_cases hin : 0 ≤ last ∧ last < (l.length : Int)
      · rw [if_pos hin] at hfz
        obtain ⟨hl0, hl1⟩ := hin
        have HF := Lib.hid hfz
        clear hfz
        go_wp2
        clear hmz hmz2
        go_loopw [14] (fun i wr => ∃ k : Nat, k ≤ D ∧ i = .int .i64 k ∧ wr = w) (fun i _ => D - (intOf i).toNat)
        case atStart => exact ⟨0, Nat.zero_le _, rfl, rfl⟩
        case round =>
          obtain ⟨k, hk, rfl, hwr⟩ := hrel
          subst hwr
          have hkz : (k : Int) < 2 * (l.length : Int) := by omega
          obtain ⟨q2, q4, q5⟩ := HQ.out
          obtain ⟨p, hp⟩ : ∃ p, p = (f + k) % l.length := ⟨_, rfl⟩
          have hpl : p < l.length := by rw [hp]; exact Nat.mod_lt _ (by omega)
          have hpz : (p : Int) < (l.length : Int) := by omega
          have hq : ((f : Int) + (k : Int)) % (l.length : Int) = (p : Int) := by rw [hp]; simp
          rw [HF.out] at hq
          skip
          obtain ⟨b, off, rfl, hbB, hcell⟩ := Rd.at_ HL.out.now (by omega)
          have y0 := hcell p hpl
          obtain ⟨x, hx⟩ : ∃ x, x = l.getD p 0 := ⟨_, rfl⟩
          rw [← hx] at y0
          by_cases hkD : k = D
          · have hpT : p = T := by rw [hp, hkD, q4]
            have hx0 : 0 < x := by rw [hx, hpT]; exact q2
            clear q2 q4 q5 hx hcell hp
            subst hpT hkD
            go_wp2
            go_ret
            exact ⟨by first | rfl | exact Qt.ret_int hq, by first | trivial | rfl⟩
          · have hx0 : ¬ 0 < x := by rw [hx, hp]; have h9 := q5 k (by omega); omega
            clear q2 q4 q5 hx hcell hp
            go_wp2
            go_roundw
            case measure => simp [intOf]; omega
            case rel => exact ⟨k + 1, by omega, by go_num, by first | trivial | rfl⟩
      · rw [if_neg hin] at hfz
        by_cases hl0 : last < 0
        · clear hin
          have HF := Lib.hid hfz
          clear hfz
          go_wp2
          clear hmz hmz2
          go_loopw [14] (fun i wr => ∃ k : Nat, k ≤ D ∧ i = .int .i64 k ∧ wr = w) (fun i _ => D - (intOf i).toNat)
          case atStart => exact ⟨0, Nat.zero_le _, rfl, rfl⟩
          case round =>
            obtain ⟨k, hk, rfl, hwr⟩ := hrel
            subst hwr
            have hkz : (k : Int) < 2 * (l.length : Int) := by omega
            obtain ⟨q2, q4, q5⟩ := HQ.out
            obtain ⟨p, hp⟩ : ∃ p, p = (f + k) % l.length := ⟨_, rfl⟩
            have hpl : p < l.length := by rw [hp]; exact Nat.mod_lt _ (by omega)
            have hpz : (p : Int) < (l.length : Int) := by omega
            have hq : ((f : Int) + (k : Int)) % (l.length : Int) = (p : Int) := by rw [hp]; simp
            rw [HF.out] at hq
            rw [Int.zero_add] at hq
            obtain ⟨b, off, rfl, hbB, hcell⟩ := Rd.at_ HL.out.now (by omega)
            have y0 := hcell p hpl
            obtain ⟨x, hx⟩ : ∃ x, x = l.getD p 0 := ⟨_, rfl⟩
            rw [← hx] at y0
            by_cases hkD : k = D
            · have hpT : p = T := by rw [hp, hkD, q4]
              have hx0 : 0 < x := by rw [hx, hpT]; exact q2
              clear q2 q4 q5 hx hcell hp
              subst hpT hkD
              go_wp2
              go_ret
              exact ⟨by first | rfl | exact Qt.ret_int hq, by first | trivial | rfl⟩
            · have hx0 : ¬ 0 < x := by rw [hx, hp]; have h9 := q5 k (by omega); omega
              clear q2 q4 q5 hx hcell hp
              go_wp2
              go_roundw
              case measure => simp [intOf]; omega
              case rel => exact ⟨k + 1, by omega, by go_num, by first | trivial | rfl⟩
        · have hl1 : (l.length : Int) ≤ last := by omega
          clear hin
          have HF := Lib.hid hfz
          clear hfz
          go_wp2
          clear hmz hmz2
          go_loopw [14] (fun i wr => ∃ k : Nat, k ≤ D ∧ i = .int .i64 k ∧ wr = w) (fun i _ => D - (intOf i).toNat)
          case atStart => exact ⟨0, Nat.zero_le _, rfl, rfl⟩
          case round =>
            obtain ⟨k, hk, rfl, hwr⟩ := hrel
            subst hwr
            have hkz : (k : Int) < 2 * (l.length : Int) := by omega
            obtain ⟨q2, q4, q5⟩ := HQ.out
            obtain ⟨p, hp⟩ : ∃ p, p = (f + k) % l.length := ⟨_, rfl⟩
            have hpl : p < l.length := by rw [hp]; exact Nat.mod_lt _ (by omega)
            have hpz : (p : Int) < (l.length : Int) := by omega
            have hq : ((f : Int) + (k : Int)) % (l.length : Int) = (p : Int) := by rw [hp]; simp
            rw [HF.out] at hq
            rw [Int.zero_add] at hq
            obtain ⟨b, off, rfl, hbB, hcell⟩ := Rd.at_ HL.out.now (by omega)
            have y0 := hcell p hpl
            obtain ⟨x, hx⟩ : ∃ x, x = l.getD p 0 := ⟨_, rfl⟩
            rw [← hx] at y0
            by_cases hkD : k = D
            · have hpT : p = T := by rw [hp, hkD, q4]
              have hx0 : 0 < x := by rw [hx, hpT]; exact q2
              clear q2 q4 q5 hx hcell hp
              subst hpT hkD
              go_wp2
              go_ret
              exact ⟨by first | rfl | exact Qt.ret_int hq, by first | trivial | rfl⟩
            · have hx0 : ¬ 0 < x := by rw [hx, hp]; have h9 := q5 k (by omega); omega
              clear q2 q4 q5 hx hcell hp
              go_wp2
              go_roundw
              case measure => simp [intOf]; omega
              case rel => exact ⟨k + 1, by omega, by go_num, by first | trivial | rfl⟩
    · have hst2 : (picks.length : Int) ≤ step := by omega
      clear h
      by_cases hin : 0 ≤ last ∧ last < (l.length : Int)
      · rw [if_pos hin] at hfz
        obtain ⟨hl0, hl1⟩ := hin
        have HF := Lib.hid hfz
        clear hfz
        go_wp2
        clear hmz hmz2
        go_loopw [14] (fun i wr => ∃ k : Nat, k ≤ D ∧ i = .int .i64 k ∧ wr = w) (fun i _ => D - (intOf i).toNat)
        case atStart => exact ⟨0, Nat.zero_le _, rfl, rfl⟩
        case round =>
          obtain ⟨k, hk, rfl, hwr⟩ := hrel
          subst hwr
          have hkz : (k : Int) < 2 * (l.length : Int) := by omega
          obtain ⟨q2, q4, q5⟩ := HQ.out
          obtain ⟨p, hp⟩ : ∃ p, p = (f + k) % l.length := ⟨_, rfl⟩
          have hpl : p < l.length := by rw [hp]; exact Nat.mod_lt _ (by omega)
          have hpz : (p : Int) < (l.length : Int) := by omega
          have hq : ((f : Int) + (k : Int)) % (l.length : Int) = (p : Int) := by rw [hp]; simp
          rw [HF.out] at hq
          skip
          obtain ⟨b, off, rfl, hbB, hcell⟩ := Rd.at_ HL.out.now (by omega)
          have y0 := hcell p hpl
          obtain ⟨x, hx⟩ : ∃ x, x = l.getD p 0 := ⟨_, rfl⟩
          rw [← hx] at y0
          by_cases hkD : k = D
          · have hpT : p = T := by rw [hp, hkD, q4]
            have hx0 : 0 < x := by rw [hx, hpT]; exact q2
            clear q2 q4 q5 hx hcell hp
            subst hpT hkD
            go_wp2
            go_ret
            exact ⟨by first | rfl | exact Qt.ret_int hq, by first | trivial | rfl⟩
          · have hx0 : ¬ 0 < x := by rw [hx, hp]; have h9 := q5 k (by omega); omega
            clear q2 q4 q5 hx hcell hp
            go_wp2
            go_roundw
            case measure => simp [intOf]; omega
            case rel => exact ⟨k + 1, by omega, by go_num, by first | trivial | rfl⟩
      · rw [if_neg hin] at hfz
        by_cases hl0 : last < 0
        · clear hin
          have HF := Lib.hid hfz
          clear hfz
          go_wp2
          clear hmz hmz2
          go_loopw [14] (fun i wr => ∃ k : Nat, k ≤ D ∧ i = .int .i64 k ∧ wr = w) (fun i _ => D - (intOf i).toNat)
          case atStart => exact ⟨0, Nat.zero_le _, rfl, rfl⟩
          case round =>
            obtain ⟨k, hk, rfl, hwr⟩ := hrel
            subst hwr
            have hkz : (k : Int) < 2 * (l.length : Int) := by omega
            obtain ⟨q2, q4, q5⟩ := HQ.out
            obtain ⟨p, hp⟩ : ∃ p, p = (f + k) % l.length := ⟨_, rfl⟩
            have hpl : p < l.length := by rw [hp]; exact Nat.mod_lt _ (by omega)
            have hpz : (p : Int) < (l.length : Int) := by omega
            have hq : ((f : Int) + (k : Int)) % (l.length : Int) = (p : Int) := by rw [hp]; simp
            rw [HF.out] at hq
            rw [Int.zero_add] at hq
            obtain ⟨b, off, rfl, hbB, hcell⟩ := Rd.at_ HL.out.now (by omega)
            have y0 := hcell p hpl
            obtain ⟨x, hx⟩ : ∃ x, x = l.getD p 0 := ⟨_, rfl⟩
            rw [← hx] at y0
            by_cases hkD : k = D
            · have hpT : p = T := by rw [hp, hkD, q4]
              have hx0 : 0 < x := by rw [hx, hpT]; exact q2
              clear q2 q4 q5 hx hcell hp
              subst hpT hkD
              go_wp2
              go_ret
              exact ⟨by first | rfl | exact Qt.ret_int hq, by first | trivial | rfl⟩
            · have hx0 : ¬ 0 < x := by rw [hx, hp]; have h9 := q5 k (by omega); omega
              clear q2 q4 q5 hx hcell hp
              go_wp2
              go_roundw
              case measure => simp [intOf]; omega
              case rel => exact ⟨k + 1, by omega, by go_num, by first | trivial | rfl⟩
        · have hl1 : (l.length : Int) ≤ last := by omega
          clear hin
          have HF := Lib.hid hfz
          clear hfz
          go_wp2
          clear hmz hmz2
          go_loopw [14] (fun i wr => ∃ k : Nat, k ≤ D ∧ i = .int .i64 k ∧ wr = w) (fun i _ => D - (intOf i).toNat)
          case atStart => exact ⟨0, Nat.zero_le _, rfl, rfl⟩
          case round =>
            obtain ⟨k, hk, rfl, hwr⟩ := hrel
            subst hwr
            have hkz : (k : Int) < 2 * (l.length : Int) := by omega
            obtain ⟨q2, q4, q5⟩ := HQ.out
            obtain ⟨p, hp⟩ : ∃ p, p = (f + k) % l.length := ⟨_, rfl⟩
            have hpl : p < l.length := by rw [hp]; exact Nat.mod_lt _ (by omega)
            have hpz : (p : Int) < (l.length : Int) := by omega
            have hq : ((f : Int) + (k : Int)) % (l.length : Int) = (p : Int) := by rw [hp]; simp
            rw [HF.out] at hq
            rw [Int.zero_add] at hq
            obtain ⟨b, off, rfl, hbB, hcell⟩ := Rd.at_ HL.out.now (by omega)
            have y0 := hcell p hpl
            obtain ⟨x, hx⟩ : ∃ x, x = l.getD p 0 := ⟨_, rfl⟩
            rw [← hx] at y0
            by_cases hkD : k = D
            · have hpT : p = T := by rw [hp, hkD, q4]
              have hx0 : 0 < x := by rw [hx, hpT]; exact q2
              clear q2 q4 q5 hx hcell hp
              subst hpT hkD
              go_wp2
              go_ret
              exact ⟨by first | rfl | exact Qt.ret_int hq, by first | trivial | rfl⟩
            · have hx0 : ¬ 0 < x := by rw [hx, hp]; have h9 := q5 k (by omega); omega
              clear q2 q4 q5 hx hcell hp
              go_wp2
              go_roundw
              case measure => simp [intOf]; omega
              case rel => exact ⟨k + 1, by omega, by go_num, by first | trivial | rfl⟩
  · obtain ⟨s, rfl⟩ : ∃ s : Nat, step = s := ⟨step.toNat, by omega⟩
    have hs : s < picks.length := by omega
    have hsz : (s : Int) < (picks.length : Int) := by omega
    rw [rankP_yes hs] at hT hrk
    obtain ⟨b, off, rfl, hbB, hcell⟩ := Rd.at_ HP.out.now (by omega)
    have y0 := hcell s hs
    have i0 := HP.out.fit s hs
    obtain ⟨x, hx⟩ : ∃ x, x = picks.getD s 0 := ⟨_, rfl⟩
    rw [← hx] at y0 i0 hT hrk
    have hpb := pickI_bd x (manyP l) (by omega)
    obtain ⟨i1, i2⟩ := i0
    obtain ⟨p, hp⟩ : ∃ p : Nat, pickI x (manyP l) = p := ⟨(pickI x (manyP l)).toNat, by omega⟩
    have hT2 : T = kthP l p := by rw [hT, hp, Int.toNat_natCast]
    have hpr : p < manyP l := by omega
    obtain ⟨k1, k2, k3⟩ := kth_ok hpr
    rw [← hT2] at k1 k2 k3
    have hp2 := hp
    unfold pickI at hp2
    have HK := Lib.hid (And.intro k2 k3)
    have hpl : p ≤ 1000000 := by omega
    clear hcell hx hrk hT hT2 k2 k3 hp hpb
    generalize manyP l = m at *
    have hms : m ≤ 1000000 := by omega
    clear h hm0 hm1
    by_cases hneg : x < 0
    · rw [if_pos hneg, ← Int.tmod_eq_emod_of_nonneg (by omega), Int.neg_tmod] at hp2
      have HP2 := Lib.hid hp2
      go_wp2
      clear hmz hmz2 hp2
      go_loopw [11, 12] (fun q i wr => ∃ (k s2 : Nat), k ≤ T ∧ i = .int .i64 k ∧ q = .int .i64 (s2 : Int) ∧ Hid (s2 + cntP l k = p) ∧ wr = w) (fun _ i _ => l.length - (intOf i).toNat)
      case atStart => exact ⟨0, p, Nat.zero_le _, rfl, by first | rfl | rw [HP2.out], (show Hid _ from Nat.add_zero _), rfl⟩
      case round =>
        obtain ⟨k, s2, hkT, rfl, rfl, HC, hwr2⟩ := hrel
        subst hwr2
        have hlt : k < l.length := by omega
        have hltz : (k : Int) < (l.length : Int) := by omega
        obtain ⟨b2, off2, rfl, hbB2, hcell⟩ := Rd.at_ HL.out.now (by omega)
        have y2 := hcell k hlt
        have e1 := cntP_succ l k
        have hki := @live_inj l k T
        obtain ⟨n2, n3⟩ := HK.out
        have hC := HC.out
        obtain ⟨z, hz⟩ : ∃ z, z = l.getD k 0 := ⟨_, rfl⟩
        rw [← hz] at y2 e1 hki
        have HZ := Lib.hid hz
        clear hcell hz y0
        by_cases h0 : z ≤ 0
        · rw [livI_no (by omega)] at e1
          have hne : k ≠ T := fun e => by have hz := HZ.out; rw [e] at hz; omega
          have HE := Lib.hid (show s2 + cntP l (k + 1) = p by omega)
          clear e1 hki n2 n3 hC
          go_wp2
          go_roundw
          case measure => simp [intOf]; omega
          case rel => exact ⟨k + 1, s2, by omega, by go_num, by first | trivial | rfl, (show Hid _ from HE.out), by first | trivial | rfl⟩
        · rw [livI_yes (by omega)] at e1
          by_cases h1 : s2 = 0
          · have hkT2 : k = T := hki (by omega) n2 (by omega)
            subst h1 hkT2
            clear e1 hki n2 n3 hC
            go_wp2
            go_ret
            exact ⟨by first | rfl | simp, by first | trivial | rfl⟩
          · have hne : k ≠ T := fun e => by rw [e] at hC; omega
            have HE := Lib.hid (show (s2 - 1) + cntP l (k + 1) = p by omega)
            have hsz : ¬ (s2 : Int) = 0 := by omega
            have hsz2 : ((s2 : Int) == 0) = false := beq_eq_false_iff_ne.2 hsz
            have hx2 : (0 : Int) < z := by omega
            have hsl : s2 ≤ 1000000 := by omega
            clear e1 hki n2 n3 hC
            go_wp2
            go_roundw
            case measure => simp [intOf]; omega
            case rel => exact ⟨k + 1, s2 - 1, by omega, by go_num, by rw [show ((s2 - 1 : Nat) : Int) = (s2 : Int) - 1 by omega], (show Hid _ from HE.out), by first | trivial | rfl⟩
    · rw [if_neg hneg] at hp2
      have HP2 := Lib.hid hp2
      go_wp2
      clear hmz hmz2 hp2
      go_loopw [11, 12] (fun q i wr => ∃ (k s2 : Nat), k ≤ T ∧ i = .int .i64 k ∧ q = .int .i64 (s2 : Int) ∧ Hid (s2 + cntP l k = p) ∧ wr = w) (fun _ i _ => l.length - (intOf i).toNat)
      case atStart => exact ⟨0, p, Nat.zero_le _, rfl, by first | rfl | rw [HP2.out], (show Hid _ from Nat.add_zero _), rfl⟩
      case round =>
        obtain ⟨k, s2, hkT, rfl, rfl, HC, hwr2⟩ := hrel
        subst hwr2
        have hlt : k < l.length := by omega
        have hltz : (k : Int) < (l.length : Int) := by omega
        obtain ⟨b2, off2, rfl, hbB2, hcell⟩ := Rd.at_ HL.out.now (by omega)
        have y2 := hcell k hlt
        have e1 := cntP_succ l k
        have hki := @live_inj l k T
        obtain ⟨n2, n3⟩ := HK.out
        have hC := HC.out
        obtain ⟨z, hz⟩ : ∃ z, z = l.getD k 0 := ⟨_, rfl⟩
        rw [← hz] at y2 e1 hki
        have HZ := Lib.hid hz
        clear hcell hz y0
        by_cases h0 : z ≤ 0
        · rw [livI_no (by omega)] at e1
          have hne : k ≠ T := fun e => by have hz := HZ.out; rw [e] at hz; omega
          have HE := Lib.hid (show s2 + cntP l (k + 1) = p by omega)
          clear e1 hki n2 n3 hC
          go_wp2
          go_roundw
          case measure => simp [intOf]; omega
          case rel => exact ⟨k + 1, s2, by omega, by go_num, by first | trivial | rfl, (show Hid _ from HE.out), by first | trivial | rfl⟩
        · rw [livI_yes (by omega)] at e1
          by_cases h1 : s2 = 0
          · have hkT2 : k = T := hki (by omega) n2 (by omega)
            subst h1 hkT2
            clear e1 hki n2 n3 hC
            go_wp2
            go_ret
            exact ⟨by first | rfl | simp, by first | trivial | rfl⟩
          · have hne : k ≠ T := fun e => by rw [e] at hC; omega
            have HE := Lib.hid (show (s2 - 1) + cntP l (k + 1) = p by omega)
            have hsz : ¬ (s2 : Int) = 0 := by omega
            have hsz2 : ((s2 : Int) == 0) = false := beq_eq_false_iff_ne.2 hsz
            have hx2 : (0 : Int) < z := by omega
            have hsl : s2 ≤ 1000000 := by omega
            clear e1 hki n2 n3 hC
            go_wp2
            go_roundw
            case measure => simp [intOf]; omega
            case rel => exact ⟨k + 1, s2 - 1, by omega, by go_num, by rw [show ((s2 - 1 : Nat) : Int) = (s2 : Int) - 1 by omega], (show Hid _ from HE.out), by first | trivial | rfl⟩
end Go.Proofs.Ytffknldagconmaa
namespace Go.Proofs.Ytffknldagconmaa
set_option maxRecDepth 100000
set_option linter.unusedVariables false
set_option linter.unusedSimpArgs false
open Go.RowKit Go.Sort

theorem stP_i64 {picks l : List Int} (hm : ∀ k, 0 ≤ l.getD k 0 ∧ l.getD k 0 ≤ 1000000) {j : Nat} (hj : j ≤ totP l) : ∀ k, k < (stP picks l j).1.length → I64 ((stP picks l j).1.getD k 0) := fun k _ => by
  have := stP_bd picks l 1000000 hm j hj k
  unfold I64
  omega
theorem stP_last (picks : List Int) {l : List Int} {j : Nat} (hj : j ≤ totP l) : -1 ≤ (stP picks l j).2 ∧ (stP picks l j).2 < l.length := by
  cases j with
  | zero => exact ⟨by show (-1 : Int) ≤ -1; omega, by show (-1 : Int) < _; omega⟩
  | succ j =>
    have := (tnP_ok picks l (show j < totP l by omega)).2.1
    rw [stP_succ]
    exact ⟨by show (-1 : Int) ≤ (tnP picks l j : Int); omega, by show (tnP picks l j : Int) < _; omega⟩
theorem nextP_end (picks l : List Int) : nextP picks (totP l) (stP picks l (totP l)).1 (stP picks l (totP l)).2 = -1 := by
  unfold nextP
  rw [if_pos (stP_end picks l)]
set_option maxHeartbeats 16000000 in
theorem refTurns11_any (A B : Option Addr) (picks l : List Int) (c d : Nat) (w : World) (hP : InL w A picks c) (hL : Now w B l) (hl : l.length ≤ 11) (hm : ∀ k, 0 ≤ l.getD k 0 ∧ l.getD k 0 ≤ 1000000) (htot : totP l ≤ 99999) :
    Calls Try.prog 16 #[.slice A picks.length c, .slice B l.length d] w (TurnsR picks l w) := by
  obtain ⟨vN, w1, hrun, hown, hgr⟩ := appW_any (out := []) d (Nat.le_refl _) (World.ownsRow_nil w w.heap.size 3 1) hL (by simp; omega)
  rw [List.nil_append] at hown
  obtain ⟨AN, cN, rfl, hcN, _⟩ := own_slice hown
  have hb1 : Below w.heap.size w w1 := (Below.refl _ _).grown hgr (Nat.le_refl _) (fun k e => by simp [Value.ownBlock] at e)
  have HP := Lib.hid hP
  have HM := Lib.hid hm
  have HRun := Lib.hid hrun
  have HO := Lib.hid (And.intro hown hb1)
  have HANB := Lib.hid (own_bounds hown)
  clear hP hL hm hrun hown hgr hb1
  go_enter Try.func16, Try.ntmps16
  go_wp2_with (at_builtin; refine Lib.wpList_append_run _ rfl (.const (.slice none 0 0)) (.tmp 9) 22 22 rfl _ _ rfl rfl _ _ HRun.out ?_)
  clear HRun
  go_loopw [6, 7] (fun o la wr => ∃ j : Nat, j ≤ totP l ∧ la = .int .i64 (stP picks l j).2 ∧ Hid (Own wr w.heap.size (.slice AN l.length cN) (stP picks l j).1 ∧ Own wr w1.heap.size o (turnsTo picks l j) ∧ Below w.heap.size w wr ∧ w1.heap.size ≤ wr.heap.size)) (fun o _ _ => totP l - (match o with | .slice _ n _ => n | _ => 0))
  case atStart => exact ⟨0, Nat.zero_le _, rfl, (show Hid _ from ⟨HO.out.1, World.ownsRow_nil _ _ _ _, HO.out.2, Nat.le_refl _⟩)⟩
  case round =>
    obtain ⟨j, hj, rfl, HH⟩ := hrel
    obtain ⟨h1, h2, h3, h4⟩ := HH.out
    have htl := turnsTo_len picks l j
    obtain ⟨AO, cO, hv, hcO, _⟩ := h2.reads
    rw [htl] at hv
    subst hv
    have hsl := (stP_ok picks l j hj).2
    have hla := stP_last picks hj
    have hfit := stP_i64 (picks := picks) HM.out hj
    have hnx := refNext11_any A AN picks (stP picks l j).1 c cN (j : Int) (stP picks l j).2 wr (HP.out.below h3) ⟨by obtain ⟨A', c', e, _, hN⟩ := (show Own wr w.heap.size (.slice AN (stP picks l j).1.length cN) (stP picks l j).1 by rw [hsl]; exact h1).reads; injection e with e1; subst e1; exact hN, by omega, hfit⟩ (by omega) ⟨by omega, by omega⟩ ⟨by omega, by omega⟩
    rw [hsl] at hnx
    by_cases hlt : j < totP l
    · obtain ⟨t1, t2, t3, t4⟩ := tnP_ok picks l hlt
      have hss := stP_succ picks l j
      have hts := turnsTo_succ picks l j
      rw [t4] at hnx
      obtain ⟨T, hT⟩ : ∃ T, T = tnP picks l j := ⟨_, rfl⟩
      rw [← hT] at t2 t3 hss hts hnx
      obtain ⟨⟨l2, last⟩, hs⟩ : ∃ s, s = stP picks l j := ⟨_, rfl⟩
      rw [← hs] at h1 hsl hla hfit hnx t3 hss ⊢
      simp only at h1 hsl hla hfit hnx t3 hss ⊢
      obtain ⟨v', w', hrun, hown, hb2⟩ := push_any (T : Int) h4 h2 (by omega)
      rw [← hts] at hown
      have h1' : Own w' w.heap.size (.slice AN l.length cN) l2 := own_keeps h1 fun g hg => hb2.block g (by
        cases AN with
        | none => cases hg
        | some a => have := (HANB.out a rfl).2; simp [Value.ownBlock] at hg; omega)
      have hTl : T < l2.length := by omega
      rw [← hsl] at h1'
      obtain ⟨g, rfl, hgq, hgl, hgf, hgc⟩ := own_row h1' (by omega)
      have y0 := hgc T hTl
      have yf := hgf T
      have hx := hfit T hTl
      obtain ⟨x, hxx⟩ : ∃ x, x = l2.getD T 0 := ⟨_, rfl⟩
      rw [← hxx] at y0 hss hx t3
      obtain ⟨x1, x2⟩ := hx
      have hgb := (HANB.out _ rfl).2
      simp only at hgb
      have hput := own_put h1' rfl T (x - 1)
      rw [hsl] at hput
      have HFN : Hid (Own (w'.setCell ⟨g, T, none⟩ (.int .i64 (x - 1))) w.heap.size (.slice (some ⟨g, 0, none⟩) l.length cN) (stP picks l (j + 1)).1 ∧ Own (w'.setCell ⟨g, T, none⟩ (.int .i64 (x - 1))) w1.heap.size v' (turnsTo picks l (j + 1)) ∧ Below w.heap.size w (w'.setCell ⟨g, T, none⟩ (.int .i64 (x - 1))) ∧ w1.heap.size ≤ (w'.setCell ⟨g, T, none⟩ (.int .i64 (x - 1))).heap.size) := by
        refine ⟨by rw [hss]; exact hput, own_keeps hown fun b hb => heap_other ?_, ((h3.trans (hb2.mono HO.out.2.size)).setCell (p := ⟨g, T, none⟩) hgq _), ?_⟩
        · have := (World.ownsRow.lt hown b hb).1; omega
        · have := hb2.size; simp; omega
      have HRun := Lib.hid hrun
      have HS2 := Lib.hid hss
      have hTz : ¬ ((T : Int) < 0) := by omega
      have hTlz : (T : Int) < (l.length : Int) := by omega
      have hvl : ∃ A' c', v' = .slice A' (j + 1) c' := by
        obtain ⟨A', c', e, _⟩ := hown.reads
        rw [turnsTo_len] at e
        exact ⟨A', c', e⟩
      obtain ⟨A2, c2, rfl⟩ := hvl
      have hjd : decide ((j : Int) < 100000) = true := decide_eq_true (by omega)
      clear h1 h2 h3 h4 htl hla hfit t1 t2 t4 hss hts hT hs hown hb2 h1' hput hgf hgc hrun hxx hsl HH hgq hgl hgb
      go_wp2_with fail
      refine hnx.mono ?_
      rintro e w3 ⟨rfl, rfl⟩
      clear hnx hjd
      go_wp2_with (at_builtin; refine Lib.wpList_append_run _ rfl (.tmp 23) (.tmp 25) 22 22 rfl _ _ rfl rfl _ _ HRun.out ?_)
      go_roundw
      case measure => simp; omega
      case rel => exact ⟨j + 1, by omega, by rw [HS2.out], HFN.out⟩
    · obtain rfl : j = totP l := by omega
      rw [nextP_end] at hnx
      have HFN : Hid (Own wr w.heap.size (.slice AO (totP l) cO) (turnsP picks l) ∧ Below w.heap.size w wr) := ⟨own_more h2 HO.out.2.size, h3⟩
      have hjd : decide ((totP l : Int) < 100000) = true := decide_eq_true (by omega)
      clear h1 h2 h3 h4 htl hla hfit hsl HH
      go_wp2_with fail
      refine hnx.mono ?_
      rintro e w3 ⟨rfl, rfl⟩
      clear hnx
      go_wp2_with fail
      go_ret
      exact ⟨_, rfl, HFN.out.1, HFN.out.2⟩
end Go.Proofs.Ytffknldagconmaa
namespace Go.Proofs.Ytffknldagconmaa
set_option maxRecDepth 100000
set_option linter.unusedVariables false
set_option linter.unusedSimpArgs false
open Go.RowKit Go.Sort

theorem now_lits (w : World) (l : List Int) : Now (w.alloc (.cells (l.map (Value.int .i64)).toArray 3)) (some ⟨w.heap.size, 0, none⟩) l := fun j hj => by
  refine ⟨w.heap.size, 0, rfl, by simp, ?_⟩
  rw [Lib.cell_of_heap (heap_alloc_new w _)]
  simp [List.getD_eq_getElem?_getD, List.getElem?_eq_getElem hj]
theorem small_i64x11 {l : List Int} (h : l.all (fun x => decide (-1000 ≤ x ∧ x ≤ 1000)) = true) : ∀ j, j < l.length → I64 (l.getD j 0) := fun j hj => by
  rw [List.getD_eq_getElem?_getD, List.getElem?_eq_getElem hj, Option.getD_some]
  have := List.all_eq_true.1 h _ (List.getElem_mem hj)
  simp only [decide_eq_true_eq] at this
  unfold I64
  omega
theorem inl_lits (w : World) (l : List Int) (c : Nat) (h : l.all (fun x => decide (-1000 ≤ x ∧ x ≤ 1000)) = true) (hl : l.length ≤ 1000) : InL (w.alloc (.cells (l.map (Value.int .i64)).toArray 3)) (some ⟨w.heap.size, 0, none⟩) l c := ⟨now_lits w l, by omega, small_i64x11 h⟩
theorem inl_nil (w : World) (c : Nat) : InL w none [] c := ⟨now_nil _ _, by simp, fun j hj => absurd hj (Nat.not_lt_zero j)⟩
theorem i64_small11 {x : Int} (h : decide (-1000 ≤ x ∧ x ≤ 1000) = true) : I64 x := by
  simp only [decide_eq_true_eq] at h
  unfold I64
  omega
set_option maxHeartbeats 8000000 in
theorem awake11_any (w : World) : Calls Try.prog 9 #[] w fun e w' => e = .returned (.bool true) ∧ Below w.heap.size w w' := by
  have hba := (Below.refl w.heap.size w).alloc (Nat.le_refl _) (.cells #[.int .i64 1, .int .i64 1] 3)
  have hbb := hba.alloc (by simp) (.cells #[.int .i64 2, .int .i64 2] 3)
  have i1 := (inl_lits w [1, 1] 2 (by decide) (by simp)).below ((Below.refl _ _).alloc (Nat.le_refl _) (.cells #[.int .i64 2, .int .i64 2] 3))
  have i2 := now_lits (w.alloc (.cells #[.int .i64 1, .int .i64 1] 3)) [2, 2]
  rw [World.size_alloc] at i2
  have h1 := turns11_any (some ⟨w.heap.size, 0, none⟩) (some ⟨w.heap.size + 1, 0, none⟩) [1, 1] [2, 2] 2 2 ((w.alloc (.cells #[.int .i64 1, .int .i64 1] 3)).alloc (.cells #[.int .i64 2, .int .i64 2] 3)) i1 i2 (by simp) (by intro k; match k with | 0 => decide | 1 => decide | k + 2 => (rw [getD_past _ (by simp)]; decide)) (by decide)
  have HB := Lib.hid hbb
  clear hba hbb i1 i2
  go_enter Try.func9, Try.ntmps9
  go_wp2_with fail
  refine h1.mono ?_
  rintro r w1 ⟨v, rfl, ho, hb1⟩
  rw [show turnsP [1, 1] [2, 2] = [1, 1, 0, 0] by decide +kernel] at ho
  obtain ⟨A1, c1, rfl, hc1, hN1⟩ := own_slice ho
  have HB1 := Lib.hid (Qt.more HB.out HB.out.size hb1)
  have HN1 := Lib.hid hN1
  clear h1 hb1 ho hN1 HB
  go_wp2_with fail
  have hw2 := (Below.refl w1.heap.size w1).alloc (Nat.le_refl _) (.cells #[.int .i64 1, .int .i64 1, .int .i64 0, .int .i64 0] 3)
  refine (ints_yes (HN1.out.below hw2) (now_lits w1 [1, 1, 0, 0]) rfl rfl (by simp) rfl).mono ?_
  rintro r w2 ⟨rfl, hb2⟩
  have HB2 := Lib.hid (Qt.more HB1.out HB1.out.size (Qt.more hw2 hw2.size hb2))
  clear hw2 hb2 HN1 HB1
  have h2 := next11_any none (some ⟨w2.heap.size, 0, none⟩) [] [0, 3, 0, 1] 0 4 0 1 (w2.alloc (.cells #[.int .i64 0, .int .i64 3, .int .i64 0, .int .i64 1] 3)) (inl_nil _ _) (inl_lits w2 [0, 3, 0, 1] 4 (by decide) (by simp)) (by simp) (i64_small11 (by decide)) (i64_small11 (by decide))
  rw [show nextP [] 0 [0, 3, 0, 1] 1 = 3 by decide +kernel] at h2
  have HB3 : Hid (Below w.heap.size w (w2.alloc (.cells #[.int .i64 0, .int .i64 3, .int .i64 0, .int .i64 1] 3))) := HB2.out.alloc HB2.out.size _
  clear HB2
  go_wp2_with fail
  refine h2.mono ?_
  rintro r w3 ⟨rfl, rfl⟩
  clear h2
  generalize w2.alloc (.cells #[.int .i64 0, .int .i64 3, .int .i64 0, .int .i64 1] 3) = w3 at *
  have h3 := next11_any none (some ⟨w3.heap.size, 0, none⟩) [] [0, 3, 0, 1] 0 4 0 3 (w3.alloc (.cells #[.int .i64 0, .int .i64 3, .int .i64 0, .int .i64 1] 3)) (inl_nil _ _) (inl_lits w3 [0, 3, 0, 1] 4 (by decide) (by simp)) (by simp) (i64_small11 (by decide)) (i64_small11 (by decide))
  rw [show nextP [] 0 [0, 3, 0, 1] 3 = 1 by decide +kernel] at h3
  have HB4 : Hid (Below w.heap.size w (w3.alloc (.cells #[.int .i64 0, .int .i64 3, .int .i64 0, .int .i64 1] 3))) := HB3.out.alloc HB3.out.size _
  clear HB3
  go_wp2_with fail
  refine h3.mono ?_
  rintro r w4 ⟨rfl, rfl⟩
  clear h3
  generalize w3.alloc (.cells #[.int .i64 0, .int .i64 3, .int .i64 0, .int .i64 1] 3) = w4 at *
  have hba := HB4.out.alloc HB4.out.size (.cells #[.int .i64 (-2)] 3)
  have hbb := hba.alloc (by have := HB4.out.size; simp; omega) (.cells #[.int .i64 1, .int .i64 0, .int .i64 1] 3)
  have i1 := (inl_lits w4 [-2] 1 (by decide) (by simp)).below ((Below.refl _ _).alloc (Nat.le_refl _) (.cells #[.int .i64 1, .int .i64 0, .int .i64 1] 3))
  have i2 := inl_lits (w4.alloc (.cells #[.int .i64 (-2)] 3)) [1, 0, 1] 3 (by decide) (by simp)
  rw [World.size_alloc] at i2
  have h4 := next11_any (some ⟨w4.heap.size, 0, none⟩) (some ⟨w4.heap.size + 1, 0, none⟩) [-2] [1, 0, 1] 1 3 0 0 ((w4.alloc (.cells #[.int .i64 (-2)] 3)).alloc (.cells #[.int .i64 1, .int .i64 0, .int .i64 1] 3)) i1 i2 (by simp) (i64_small11 (by decide)) (i64_small11 (by decide))
  rw [show nextP [-2] 0 [1, 0, 1] 0 = 2 by decide +kernel] at h4
  have HB5 := Lib.hid hbb
  clear hba hbb i1 i2 HB4
  go_wp2_with fail
  refine h4.mono ?_
  rintro r w5 ⟨rfl, rfl⟩
  clear h4
  generalize (w4.alloc (.cells #[.int .i64 (-2)] 3)).alloc (.cells #[.int .i64 1, .int .i64 0, .int .i64 1] 3) = w5 at *
  have h5 := next11_any none (some ⟨w5.heap.size, 0, none⟩) [] [0, -1] 0 2 0 0 (w5.alloc (.cells #[.int .i64 0, .int .i64 (-1)] 3)) (inl_nil _ _) (inl_lits w5 [0, -1] 2 (by decide) (by simp)) (by simp) (i64_small11 (by decide)) (i64_small11 (by decide))
  rw [show nextP [] 0 [0, -1] 0 = -1 by decide +kernel] at h5
  have HB6 : Hid (Below w.heap.size w (w5.alloc (.cells #[.int .i64 0, .int .i64 (-1)] 3))) := HB5.out.alloc HB5.out.size _
  clear HB5
  go_wp2_with fail
  refine h5.mono ?_
  rintro r w6 ⟨rfl, rfl⟩
  clear h5
  go_wp2_with fail
  go_ret
  exact ⟨rfl, HB6.out⟩
end Go.Proofs.Ytffknldagconmaa
namespace Go.Proofs.Ytffknldagconmaa
set_option linter.unusedVariables false
set_option linter.unusedSimpArgs false

/-- how many turns a worker has had -/
def hadP (picks l : List Int) (v : Nat) : Nat → Nat
  | 0 => 0
  | j + 1 => hadP picks l v j + if tnP picks l j = v then 1 else 0
theorem hadP_le (picks l : List Int) (v : Nat) : ∀ j, hadP picks l v j ≤ j := by
  intro j
  induction j with
  | zero => exact Nat.le_refl _
  | succ j ih => unfold hadP; split <;> omega
theorem st_had (picks l : List Int) (v : Nat) : ∀ j, j ≤ totP l → (stP picks l j).1.getD v 0 = l.getD v 0 - (hadP picks l v j : Int) := by
  intro j
  induction j with
  | zero => intro _; show l.getD v 0 = l.getD v 0 - ((0 : Nat) : Int); omega
  | succ j ih =>
    intro h
    have i := ih (by omega)
    obtain ⟨_, t2, _, _⟩ := tnP_ok picks l (show j < totP l by omega)
    have hl := (stP_ok picks l j (by omega)).2
    rw [stP_succ]
    unfold hadP
    show (List.set _ (tnP picks l j) _).getD v 0 = _
    by_cases hv : tnP picks l j = v
    · rw [if_pos hv]
      subst hv
      have hlt : tnP picks l j < (stP picks l j).1.length := by omega
      rw [List.getD_eq_getElem?_getD, List.getElem?_set, if_pos rfl, if_pos hlt, Option.getD_some]
      omega
    · rw [if_neg hv, List.getD_eq_getElem?_getD, List.getElem?_set, if_neg hv, ← List.getD_eq_getElem?_getD]
      omega
/-- how far it is from the last one to a worker -/
def distP (n : Nat) (last : Int) (v : Nat) : Int := if last < (v : Int) then v - last else v + n - last
theorem distP_bd {n v : Nat} {last : Int} (h1 : -1 ≤ last) (h2 : last < n) (hv : v < n) : 1 ≤ distP n last v ∧ distP n last v ≤ n := by
  unfold distP
  split <;> omega
theorem turn_free {picks l : List Int} {j : Nat} (h : j < totP l) (hp : picks.length ≤ j) : tnP picks l j = kthP (stP picks l j).1 (cntP (stP picks l j).1 (fromP l.length (stP picks l j).2) % manyP (stP picks l j).1) := by
  obtain ⟨t1, _⟩ := tnP_ok picks l h
  have hl := (stP_ok picks l j (by omega)).2
  unfold tnP nextN
  rw [rankP_no (.inr (by omega)), upto_from _ _ t1, hl]
theorem fromP_last {n : Nat} {last : Int} (h1 : -1 ≤ last) (h2 : last < n) : (fromP n last : Int) = last + 1 := by
  unfold fromP
  split <;> omega
theorem dist_less {n f D T v : Nat} {last : Int} (h1 : -1 ≤ last) (h2 : last < n) (hf : (f : Int) = last + 1) (hv : v < n) (hT : T < n) (hD : D < n) (hDT : (f + D) % n = T) (hne : v ≠ T) (hno : ∀ i, i < D → (f + i) % n ≠ v) : distP n T v + 1 ≤ distP n last v := by
  obtain ⟨e, he⟩ : ∃ e : Nat, distP n last v = e + 1 := ⟨(distP n last v - 1).toNat, by have := distP_bd h1 h2 hv; omega⟩
  have hen : e < n := by have := distP_bd h1 h2 hv; omega
  have hev : (f + e) % n = v := by
    unfold distP at he
    split at he
    · rw [show f + e = v by omega, Nat.mod_eq_of_lt hv]
    · rw [show f + e = v + n by omega, Nat.add_mod_right, Nat.mod_eq_of_lt hv]
  have hDe : D < e := by
    rcases Nat.lt_trichotomy D e with h | h | h
    · exact h
    · subst h; omega
    · exact absurd hev (hno e h)
  have c1 : (f + D) % n = f + D ∧ f + D < n ∨ (f + D) % n = f + D - n ∧ n ≤ f + D := by
    by_cases h : f + D < n
    · exact .inl ⟨Nat.mod_eq_of_lt h, h⟩
    · exact .inr ⟨by rw [Nat.mod_eq_sub_mod (by omega), Nat.mod_eq_of_lt (by omega)], by omega⟩
  have c2 : (f + e) % n = f + e ∧ f + e < n ∨ (f + e) % n = f + e - n ∧ n ≤ f + e := by
    by_cases h : f + e < n
    · exact .inl ⟨Nat.mod_eq_of_lt h, h⟩
    · exact .inr ⟨by rw [Nat.mod_eq_sub_mod (by omega), Nat.mod_eq_of_lt (by omega)], by omega⟩
  rw [he]
  unfold distP
  split <;> omega
theorem stP_last2 (picks : List Int) {l : List Int} {j : Nat} (hj : j ≤ totP l) : -1 ≤ (stP picks l j).2 ∧ (stP picks l j).2 < l.length := by
  cases j with
  | zero => exact ⟨by show (-1 : Int) ≤ -1; omega, by show (-1 : Int) < _; omega⟩
  | succ j =>
    have := (tnP_ok picks l (show j < totP l by omega)).2.1
    rw [stP_succ]
    exact ⟨by show (-1 : Int) ≤ (tnP picks l j : Int); omega, by show (tnP picks l j : Int) < _; omega⟩
/-- how long a worker has been waiting -/
def waitP (picks l : List Int) (v : Nat) : Nat → Nat
  | 0 => 0
  | j + 1 => if tnP picks l j = v then 0 else if picks.length ≤ j ∧ (hadP picks l v j : Int) < l.getD v 0 then waitP picks l v j + 1 else waitP picks l v j
theorem wait_bd {picks l : List Int} {v : Nat} (hv : v < l.length) : ∀ j, j ≤ totP l → waitP picks l v j ≤ l.length ∧ ((hadP picks l v j : Int) < l.getD v 0 → (waitP picks l v j : Int) + distP l.length (stP picks l j).2 v ≤ l.length) ∧ (j ≤ picks.length → waitP picks l v j = 0) := by
  intro j
  induction j with
  | zero =>
    intro _
    refine ⟨Nat.zero_le _, fun _ => ?_, fun _ => rfl⟩
    have := stP_last2 picks (l := l) (j := 0) (Nat.zero_le _)
    have := distP_bd this.1 this.2 hv
    show ((0 : Nat) : Int) + _ ≤ _
    omega
  | succ j ih =>
    intro h
    obtain ⟨i1, i2, i3⟩ := ih (by omega)
    obtain ⟨la1, la2⟩ := stP_last2 picks (l := l) (j := j) (by omega)
    obtain ⟨lb1, lb2⟩ := stP_last2 picks (l := l) (j := j + 1) h
    obtain ⟨t1, t2, t3, t4⟩ := tnP_ok picks l (show j < totP l by omega)
    have hd := distP_bd lb1 lb2 hv
    have hs : (stP picks l (j + 1)).2 = (tnP picks l j : Int) := by rw [stP_succ]
    have hh : hadP picks l v (j + 1) = hadP picks l v j + if tnP picks l j = v then 1 else 0 := rfl
    have hw : waitP picks l v (j + 1) = if tnP picks l j = v then 0 else if picks.length ≤ j ∧ (hadP picks l v j : Int) < l.getD v 0 then waitP picks l v j + 1 else waitP picks l v j := rfl
    rw [hh, hw]
    by_cases hT : tnP picks l j = v
    · rw [if_pos hT, if_pos hT]
      exact ⟨by omega, fun _ => by omega, fun _ => rfl⟩
    · rw [if_neg hT, if_neg hT, Nat.add_zero]
      by_cases hc : picks.length ≤ j ∧ (hadP picks l v j : Int) < l.getD v 0
      · rw [if_pos hc]
        obtain ⟨hp, hlv⟩ := hc
        have hfree := turn_free (show j < totP l by omega) hp
        have hl := (stP_ok picks l j (by omega)).2
        have hfp := fromP_last la1 la2
        have hfl := fromP_le l.length (stP picks l j).2
        obtain ⟨q1, q2, q3, q4, q5⟩ := far_ok (l := (stP picks l j).1) (f := fromP l.length (stP picks l j).2) (by rw [hl]; exact hfl) t1 hfree
        rw [hl] at q1 q3 q4 q5
        have hlive := st_had picks l v j (by omega)
        have hless := dist_less la1 la2 hfp hv q1 q3 q4 (Ne.symm hT) (fun i hi e => q5 i hi (by rw [e, hlive]; omega))
        have i2 := i2 hlv
        have i2' : ((waitP picks l v j + 1 : Nat) : Int) + distP l.length (stP picks l (j + 1)).2 v ≤ l.length := by rw [hs]; omega
        refine ⟨by omega, fun _ => i2', fun hj => by omega⟩
      · rw [if_neg hc]
        refine ⟨i1, fun hlv => ?_, fun hj => i3 (by omega)⟩
        rw [i3 (by omega)]
        show ((0 : Nat) : Int) + _ ≤ _
        omega
/-! ### rounds -/
/-- what all have had -/
def RoundP (l : List Int) (j : Nat) (r : Int) : Prop := ∀ v, v < l.length → (hadP [] l v j : Int) = if (v : Int) ≤ (stP [] l j).2 then min (l.getD v 0) (r + 1) else min (l.getD v 0) r
theorem round_ok {l : List Int} (h0 : ∀ k, 0 ≤ l.getD k 0) : ∀ j, j ≤ totP l → ∃ r, RoundP l j r := by
  intro j
  induction j with
  | zero =>
    intro _
    refine ⟨0, fun v hv => ?_⟩
    rw [if_neg (by show ¬ (v : Int) ≤ -1; omega)]
    show ((0 : Nat) : Int) = _
    have := h0 v
    omega
  | succ j ih =>
    intro h
    obtain ⟨r, hr⟩ := ih (by omega)
    obtain ⟨la1, la2⟩ := stP_last2 [] (l := l) (j := j) (by omega)
    obtain ⟨t1, t2, t3, t4⟩ := tnP_ok [] l (show j < totP l by omega)
    have hfree := turn_free (picks := []) (show j < totP l by omega) (Nat.zero_le _)
    have hl := (stP_ok [] l j (by omega)).2
    have hfp := fromP_last la1 la2
    have hfl := fromP_le l.length (stP [] l j).2
    obtain ⟨q1, q2, q3, q4, q5⟩ := far_ok (l := (stP [] l j).1) (f := fromP l.length (stP [] l j).2) (by rw [hl]; exact hfl) t1 hfree
    rw [hl] at q1 q3 q4 q5
    have hs : (stP [] l (j + 1)).2 = (tnP [] l j : Int) := by rw [stP_succ]
    have hdead : ∀ v, v < l.length → (∃ i, i < farP l.length (fromP l.length (stP [] l j).2) (tnP [] l j) ∧ (fromP l.length (stP [] l j).2 + i) % l.length = v) → l.getD v 0 ≤ (hadP [] l v j : Int) := fun v hv ⟨i, hi, he⟩ => by
      have := q5 i hi
      rw [he, st_had [] l v j (by omega)] at this
      omega
    rw [st_had [] l (tnP [] l j) j (by omega)] at t3
    have hT := hr _ t2
    generalize hf : fromP l.length (stP [] l j).2 = f at *
    generalize hla : (stP [] l j).2 = last at *
    generalize hTT : tnP [] l j = T at *
    have hh : ∀ v, hadP [] l v (j + 1) = hadP [] l v j + if T = v then 1 else 0 := fun v => by rw [← hTT]; rfl
    by_cases hw : last < (T : Int)
    · refine ⟨r, fun v hv => ?_⟩
      have hv1 := hr v hv
      rw [hla] at hv1
      rw [hh v, hs]
      rw [if_neg (by omega)] at hT
      by_cases e : T = v
      · subst e
        rw [if_pos rfl, if_pos (by omega)]
        omega
      · rw [if_neg e, Nat.add_zero, hv1]
        by_cases c1 : (v : Int) ≤ last
        · rw [if_pos c1, if_pos (by omega)]
        · rw [if_neg c1] at hv1 ⊢
          by_cases c2 : (v : Int) ≤ (T : Int)
          · rw [if_pos c2]
            have hfar : farP l.length f T = T - f := by unfold farP; rw [if_pos (by omega)]
            have := hdead v hv ⟨v - f, by rw [hfar]; omega, by rw [show f + (v - f) = v by omega, Nat.mod_eq_of_lt hv]⟩
            omega
          · rw [if_neg c2]
    · refine ⟨r + 1, fun v hv => ?_⟩
      have hv1 := hr v hv
      rw [hla] at hv1
      rw [hh v, hs]
      rw [if_pos (by omega)] at hT
      have hfar : farP l.length f T = T + l.length - f := by unfold farP; rw [if_neg (by omega)]
      by_cases e : T = v
      · subst e
        rw [if_pos rfl, if_pos (by omega)]
        omega
      · rw [if_neg e, Nat.add_zero, hv1]
        by_cases c1 : (v : Int) ≤ last
        · rw [if_pos c1] at hv1 ⊢
          by_cases c2 : (v : Int) ≤ (T : Int)
          · rw [if_pos c2]
            have := hdead v hv ⟨v + l.length - f, by rw [hfar]; omega, by rw [show f + (v + l.length - f) = v + l.length by omega, Nat.add_mod_right, Nat.mod_eq_of_lt hv]⟩
            omega
          · rw [if_neg c2]
        · rw [if_neg c1] at hv1 ⊢
          have := hdead v hv ⟨v - f, by rw [hfar]; omega, by rw [show f + (v - f) = v by omega, Nat.mod_eq_of_lt hv]⟩
          rw [if_neg (by omega)]
          omega
/-- none is more than one round behind -/
theorem round_near {l : List Int} (h0 : ∀ k, 0 ≤ l.getD k 0) {j v : Nat} (h : j < totP l) (hv : v < l.length) (hlv : (hadP [] l v (j + 1) : Int) < l.getD v 0) : (hadP [] l (tnP [] l j) (j + 1) : Int) ≤ hadP [] l v (j + 1) + 1 := by
  obtain ⟨r, hr⟩ := round_ok h0 (j + 1) h
  have h1 := hr v hv
  have h2 := hr (tnP [] l j) (tnP_ok [] l h).2.1
  rw [stP_succ] at h1 h2
  simp only at h1 h2
  rw [if_pos (Int.le_refl _)] at h2
  split at h1 <;> omega
end Go.Proofs.Ytffknldagconmaa
namespace Go.Proofs.Ytffknldagconmaa
set_option maxRecDepth 100000
set_option linter.unusedVariables false
set_option linter.unusedSimpArgs false
open Go.RowKit Go.Sort

theorem totP_le (m : Nat) : ∀ (l : List Int), (∀ k, l.getD k 0 ≤ (m : Int)) → totP l ≤ m * l.length := by
  intro l
  induction l with
  | nil => intro _; exact Nat.le_refl _
  | cons x l ih =>
    intro h
    have h0 := h 0
    have h1 := ih fun k => by have := h (k + 1); simpa using this
    simp only [List.getD_cons_zero] at h0
    unfold totP
    rw [List.length_cons, Nat.mul_succ]
    omega
theorem left_tot (raw : List Int) : totP (leftP raw) ≤ 70 := by
  have h1 := totP_le 7 (leftP raw) fun k => (leftP_bd raw k).2
  have h2 := leftP_len raw
  omega
theorem left_bd (raw : List Int) : ∀ k, 0 ≤ (leftP raw).getD k 0 ∧ (leftP raw).getD k 0 ≤ 1000000 := fun k => by have := leftP_bd raw k; omega
theorem zero_end {picks l : List Int} (h : ∀ k, 0 ≤ l.getD k 0 ∧ l.getD k 0 ≤ 1000000) (k : Nat) : (stP picks l (totP l)).1.getD k 0 = 0 := by
  have h1 := stP_end picks l
  have h2 := stP_bd picks l 1000000 h (totP l) (Nat.le_refl _) k
  by_cases h3 : 0 < (stP picks l (totP l)).1.getD k 0
  · have := live_many h3; omega
  · omega
theorem own_now {w : World} {B n c : Nat} {A : Option Addr} {l : List Int} (h : Own w B (.slice A n c) l) (hn : n = l.length) : Now w A l := by
  subst hn
  obtain ⟨A', c', e, _, hN⟩ := h.reads
  injection e with e1
  subst e1
  exact hN
set_option maxHeartbeats 16000000 in
theorem pickTurns_law (A : Option Addr) (picks : List Int) (c : Nat) (B : Option Addr) (raw : List Int) (d : Nat) (w : World) (hP : InL w A picks c) (hR : InL w B raw d) :
    Calls Try.prog 4 #[.slice A picks.length c, .slice B raw.length d] w fun e w' => e = .returned (.bool true) ∧ Below w.heap.size w w' := by
  have HP := Lib.hid hP
  have HR := Lib.hid hR
  clear hP hR
  go_enter Try.func4, Try.ntmps4
  go_wp2_with fail
  refine (awake11_any w).mono ?_
  rintro r w1 ⟨rfl, hb1⟩
  have HB1 := Lib.hid hb1
  clear hb1
  go_wp2_with fail
  refine (left11_any B raw d w1 (HR.out.now.below HB1.out) HR.out.len HR.out.fit).mono ?_
  rintro r w2 ⟨v2, rfl, ho2, hb2⟩
  obtain ⟨A2, c2, rfl, hc2, hN2⟩ := own_slice ho2
  have HB2 := Lib.hid (Qt.more HB1.out HB1.out.size hb2)
  have HN2 := Lib.hid hN2
  clear hb2 ho2 hN2 HB1 HR
  have hll := leftP_len raw
  have htt := left_tot raw
  have HM := Lib.hid (left_bd raw)
  generalize leftP raw = l at *
  have h3 := turns11_any A A2 picks l c c2 w2 (HP.out.below HB2.out) HN2.out (by omega) HM.out (by omega)
  go_wp2_with fail
  refine h3.mono ?_
  rintro r w3 ⟨v3, rfl, ho3, hb3⟩
  obtain ⟨A3, c3, rfl, hc3, hN3⟩ := own_slice ho3
  rw [turns_len] at hc3
  rw [turns_len]
  obtain ⟨vN, w4, hrun, hown, hgr⟩ := appW_any (out := []) (A := A2) c2 (Nat.le_refl _) (World.ownsRow_nil w3 w3.heap.size 3 1) (HN2.out.below hb3) (by simp; omega)
  rw [List.nil_append] at hown
  obtain ⟨AN, cN, rfl, hcN, _⟩ := own_slice hown
  have hb4 : Below w3.heap.size w3 w4 := (Below.refl _ _).grown hgr (Nat.le_refl _) (fun k e => by simp [Value.ownBlock] at e)
  have HB3 := Lib.hid (Qt.more HB2.out HB2.out.size hb3)
  have HN3 := Lib.hid hN3
  have HRun := Lib.hid hrun
  have HO := Lib.hid (And.intro hown hb4)
  clear h3 hb3 ho3 hN3 hrun hown hgr hb4 HB2 HN2
  go_wp2_with (at_builtin; refine Lib.wpList_append_run _ rfl (.const (.slice none 0 0)) (.tmp 19) 22 22 rfl _ _ rfl rfl _ _ HRun.out ?_)
  clear HRun
  go_loopw [9, 10] (fun la i wr => ∃ j : Nat, j ≤ totP l ∧ i = .int .i64 j ∧ la = .int .i64 (stP picks l j).2 ∧ Hid (Own wr w3.heap.size (.slice AN l.length cN) (stP picks l j).1 ∧ Below w3.heap.size w3 wr)) (fun _ i _ => totP l - (intOf i).toNat)
  case atStart => exact ⟨0, Nat.zero_le _, rfl, rfl, HO.out⟩
  case round =>
    obtain ⟨j, hj, rfl, rfl, HH⟩ := hrel
    obtain ⟨h1, h2⟩ := HH.out
    have hsl := (stP_ok picks l j hj).2
    have hla := stP_last picks hj
    have hfit := stP_i64 (picks := picks) HM.out hj
    have hInN : InL wr AN (stP picks l j).1 cN := ⟨own_now h1 hsl.symm, by omega, hfit⟩
    have hInP := (HP.out.below HB3.out).below h2
    have hnx := next11_any A AN picks (stP picks l j).1 c cN (j : Int) (stP picks l j).2 wr hInP hInN (by omega) ⟨by omega, by omega⟩ ⟨by omega, by omega⟩
    rw [hsl] at hnx
    by_cases hlt : j < totP l
    · obtain ⟨t1, t2, t3, t4⟩ := tnP_ok picks l hlt
      have hss := stP_succ picks l j
      have hgt := turns_get picks l hlt
      rw [t4] at hnx
      obtain ⟨T, hT⟩ : ∃ T, T = tnP picks l j := ⟨_, rfl⟩
      rw [← hT] at t2 t3 hss hgt hnx
      obtain ⟨⟨l2, last⟩, hs⟩ : ∃ s, s = stP picks l j := ⟨_, rfl⟩
      rw [← hs] at h1 hsl hla hfit hnx t3 hss ⊢
      simp only at h1 hsl hla hfit hnx t3 hss ⊢
      obtain ⟨b, off, rfl, hbB, hcell⟩ := Rd.at_ HN3.out (by rw [turns_len]; omega)
      have y1 := (h2.cell (p := ⟨b, off + j, none⟩) hbB).trans (hcell j (by rw [turns_len]; exact hlt))
      rw [hgt] at y1
      have hTl : T < l2.length := by omega
      have h1' := h1
      rw [← hsl] at h1'
      obtain ⟨g, rfl, hgq, hgl, hgf, hgc⟩ := own_row h1' (by omega)
      have y0 := hgc T hTl
      have yf := hgf T
      have hx := hfit T hTl
      obtain ⟨x, hxx⟩ : ∃ x, x = l2.getD T 0 := ⟨_, rfl⟩
      rw [← hxx] at y0 hss hx t3
      obtain ⟨x1, x2⟩ := hx
      have hput := own_put h1' rfl T (x - 1)
      rw [hsl] at hput
      have HFN : Hid (Own (wr.setCell ⟨g, T, none⟩ (.int .i64 (x - 1))) w3.heap.size (.slice (some ⟨g, 0, none⟩) l.length cN) (stP picks l (j + 1)).1 ∧ Below w3.heap.size w3 (wr.setCell ⟨g, T, none⟩ (.int .i64 (x - 1)))) :=
        ⟨by rw [hss]; exact hput, h2.setCell (p := ⟨g, T, none⟩) hgq _⟩
      have HS2 := Lib.hid hss
      have hTz : ¬ ((T : Int) < 0) := by omega
      have hTn : ¬ ((l.length : Int) ≤ (T : Int)) := by omega
      have hTlz : (T : Int) < (l.length : Int) := by omega
      have hjz : (j : Int) < (totP l : Int) := by omega
      have hx1 : ¬ x < 1 := by omega
      have hTT : ((T : Int) != (T : Int)) = false := by simp
      clear h1 h2 hla hfit t1 t2 t4 hss hT hs h1' hput hgf hgc hxx hsl HH hgq hgl hInN hInP hgt hcell
      go_wp2_with fail
      refine hnx.mono ?_
      rintro e w5 ⟨rfl, hw5⟩
      subst hw5
      clear hnx
      go_wp2_with fail
      go_roundw
      case measure => simp [intOf]; omega
      case rel => exact ⟨j + 1, by omega, by go_num, by rw [HS2.out], HFN.out⟩
    · obtain rfl : j = totP l := by omega
      rw [nextP_end] at hnx
      have hz := zero_end (picks := picks) HM.out
      generalize (stP picks l (totP l)).2 = last at *
      have hnz : ∀ k, (stP picks l (totP l)).1.getD k 0 = 0 := hz
      generalize (stP picks l (totP l)).1 = l2 at *
      have HNX := Lib.hid hnx
      have HZ := Lib.hid hnz
      have HSL := Lib.hid hsl
      have HBE := Lib.hid (HB3.out.trans (h2.mono HB3.out.size))
      have HON := Lib.hid (own_now h1 hsl.symm)
      have hjz : ¬ (totP l : Int) < (totP l : Int) := by omega
      clear h1 h2 hla hfit hsl hInN hInP hnx hz hnz HH
      go_wp2_with fail
      obtain ⟨wo, rfl⟩ : ∃ wo : World, wo = wr := ⟨_, rfl⟩
      go_loopw [12] (fun i wr => ∃ k : Nat, k ≤ l.length ∧ i = .int .i64 k ∧ wr = wo) (fun i _ => l.length - (intOf i).toNat)
      case atStart => exact ⟨0, Nat.zero_le _, rfl, rfl⟩
      case round =>
        obtain ⟨k, hk, rfl, hwr2⟩ := hrel
        subst hwr2
        by_cases hkl : k < l.length
        · have hkz : (k : Int) < (l.length : Int) := by omega
          obtain ⟨b, off, rfl, hbB, hcell⟩ := Rd.at_ HON.out (by have := HSL.out; omega)
          have y0 := hcell k (by have := HSL.out; omega)
          rw [HZ.out k] at y0
          clear hcell
          go_wp2_with fail
          go_roundw
          case measure => simp [intOf]; omega
          case rel => exact ⟨k + 1, by omega, by go_num, by first | trivial | rfl⟩
        · obtain rfl : k = l.length := by omega
          have hkz : ¬ (l.length : Int) < (l.length : Int) := by omega
          have hnx := HNX.out
          go_wp2_with fail
          refine hnx.mono ?_
          rintro e w5 ⟨rfl, hw5⟩
          subst hw5
          clear hnx
          go_wp2_with fail
          go_ret
          exact ⟨rfl, HBE.out⟩
end Go.Proofs.Ytffknldagconmaa
