/-
  Texts that the claims of this seat share, part 3.
-/
import Derived.RangeFuncNested
import Derived.RangeFuncBound
import Derived.RangeFuncCalls
import Derived.RangeFuncLeaves
import Derived.Shelf.Abstract
import Derived.Shelf.RegionOpen
import Derived.WalkKit
import Derived.OwnWalkIn
import Derived.TacticsInMore
import Derived.LoopNIn
import Derived.LoopIn
import Derived.Test.YtffknldagconmaaB00
import Derived.Test.YtffknldagconmaaB02
import Derived.Lib.Hide
import Derived.Test.YtffknldagconmaaRows
import Derived.WalkSpells
import Derived.WalkLawsBesides
import Derived.WalkArith
import Derived.IntWalk
import Derived.Lib.AppendZerosOnto
import Derived.Lib.QuietBelow
import Derived.Test.YtffknldagconmaaB01
import Derived.Laws.Rows
import Derived.Deep.RegionWith
import Derived.ProofKit
import Derived.OpenShut
import Derived.ChangeOld
import Derived.Deep.Slices
import Derived.Deep.Fields
import Derived.Deep.Strs
set_option linter.unusedVariables false
set_option linter.unusedSimpArgs false
namespace Go.Proofs.Ytffknldagconmaa
set_option maxRecDepth 100000
set_option linter.unusedVariables false
set_option linter.unusedSimpArgs false
open Go.RowKit Go.Sort Go.Shelf

theorem St11.put {q q2 : Nat} {A B : World} (h : St11 q q2 A B) {l : Nat} (o : Obj) (h1 : q ≤ l) (h2 : l < q2) : St11 q q2 A (B.putObj l o) :=
  h.trans ⟨rfl, rfl, rfl, by simp, fun k hk hc => World.putObj_heap_other (by omega)⟩
/-- what lies in blocks q to q2 lies as it lay -/
def Kept11 (q q2 : Nat) (X Y : World) : Prop := X.heap.size ≤ Y.heap.size ∧ ∀ k, q ≤ k → k < q2 → Y.heap[k]? = X.heap[k]?
theorem Kept11.trans {q q2 : Nat} {X Y Z : World} (h : Kept11 q q2 X Y) (k : Kept11 q q2 Y Z) : Kept11 q q2 X Z := ⟨Nat.le_trans h.1 k.1, fun j h1 h2 => (k.2 j h1 h2).trans (h.2 j h1 h2)⟩

theorem range_own {P : Program} {g : Operand} {ps : Array Tmp} {assign body : Code} {Q : Exit → Act → World → Prop} {a : Act} {w : World} {n : Nat} {gf : Nat} {lb : Array Value} (hg : a.eval g = .func (.func gf) #[] lb) (eg : ∀ args w, (callFunc gf args).run P w = .ok (.enter gf args) w)
    (t : Nat → Value) (N : Nat) (hps : ps.size = 1) (I : Nat → Nat → World → Prop)
    (hI : ∀ q q2 j X Y, I q2 j X → w.heap.size ≤ q → St11 q q2 X Y → I q2 j Y) (hI2 : ∀ q2 j X l o, I q2 j X → w.heap.size ≤ l → l < w.heap.size + 2 → I q2 j (X.putObj l o))
    (h0 : ∀ q2 X, Below w.heap.size w X → w.heap.size + 2 ≤ q2 → q2 ≤ X.heap.size → I q2 0 X)
    (hseq : ∀ (lp : Nat) (W : World) (J : Nat → Nat → World → Prop), Below w.heap.size w W → W.heap.size = w.heap.size + 2 →
      (∀ q2 j X Y, J q2 j X → St11 W.heap.size q2 X Y → J q2 j Y) → (∀ q2 X, Below W.heap.size W X → W.heap.size ≤ q2 → q2 ≤ X.heap.size → J q2 0 X) → (∀ q2 j X, J q2 j X → I q2 j X) →
      (∀ q2 j X, W.heap.size ≤ q2 → q2 ≤ X.heap.size → j < N → J q2 j X → YieldAt Fence.wide (n - 1 - 1) P lp #[t j] X fun e X' => e = .returned (.bool true) ∧ J q2 (j + 1) X' ∧ Kept11 W.heap.size q2 X X') →
      CallsIn Fence.wide (n - 1) P gf (#[.func (.yield lp) #[] #[]] ++ lb) W fun e W' => (∃ v, e = .returned v) ∧ ∃ q2, J q2 N W')
    (a₁ : Nat → Act)
    (hassign : ∀ (l j : Nat) (X : World) (K : Act → World → Prop), K (a₁ j) X →
      assign.wpIn (Fence.wide.inRound l) (n - 1 - 1) P (Exit.then K (fun _ _ _ => False)) { tmps := (ps.zip #[t j]).foldl (fun t (p, v) => t.setIfInBounds p v) a.tmps, defers := [] } X)
    (hbody : ∀ (l q2 j : Nat) (X : World), I q2 j X → w.heap.size + 2 ≤ q2 → q2 ≤ X.heap.size → j < N → body.wpIn (Fence.wide.inRound l) (n - 1 - 1) P (fun e _ X' => e = .normal ∧ I q2 (j + 1) X' ∧ Kept11 w.heap.size q2 X X') (a₁ j) X)
    (hdone : ∀ (q2 : Nat) (W : World), I q2 N W → W.heap[w.heap.size]? = some (.deferred (some [])) → Q .normal { a with defers := { target := .collected w.heap.size, args := #[] } :: a.defers } W) :
    (Code.rangeFunc g ps assign body).wpIn Fence.wide n P Q a w := by
  refine wpIn_rangeFunc ?_
  intro fn hfn
  obtain ⟨rec, hrec⟩ : ∃ rec : LoopState → Option Code → Loop, rec = fun st pe => { state := st, pending := pe, fn, tmps := a.tmps, params := ps, assign, body, defers := w.heap.size } := ⟨_, rfl⟩
  obtain ⟨W1, hW1⟩ : ∃ W1, (w.alloc (.deferred (some []))).alloc (.loop (rec .ready none)) = W1 := ⟨_, rfl⟩
  have hs1 : W1.heap.size = w.heap.size + 2 := by rw [← hW1]; simp
  have hL1 : W1.heap[w.heap.size + 1]? = some (.loop (rec .ready none)) := by
    rw [← hW1]
    have := World.alloc_heap_new (w.alloc (.deferred (some []))) (.loop (rec .ready none))
    rwa [World.size_alloc] at this
  have hK1 : W1.heap[w.heap.size]? = some (.deferred (some [])) := by
    rw [← hW1]
    exact (Below.heap_alloc _ _ _ (by simp)).trans (World.alloc_heap_new w _)
  have hb1 : Below w.heap.size w W1 := by
    rw [← hW1]
    exact ((Below.refl _ w).alloc (Nat.le_refl _) _).alloc (by simp) _
  refine ⟨w.heap.size + 1, [{ target := .collected w.heap.size, args := #[] }], W1, { target := .fn (.func gf) lb, args := #[.func (.yield (w.heap.size + 1)) #[] #[]] }, W1, gf,
    #[.func (.yield (w.heap.size + 1)) #[] #[]] ++ lb, W1, ?_, ?_, ?_, ?_, ?_, ?_⟩
  · rw [← hW1, hrec]; exact run_enterLoop_outer _ _ _ _ _
  · simp only [resolve, hg]
    simp [go_sem]
  · intro f' _; trivial
  · simp [invoke, go_sem, eg]
  · intro h; cases h
  refine (hseq (w.heap.size + 1) W1 (fun q2 j X => (I q2 j X ∧ w.heap.size + 2 ≤ q2) ∧ X.heap[w.heap.size + 1]? = some (.loop (rec .ready none)) ∧ X.heap[w.heap.size]? = some (.deferred (some []))) hb1 hs1 ?_ ?_ ?_ ?_).mono ?_
  · rintro q2 j X Y ⟨⟨hi, hq⟩, hl, hk⟩ hst
    have hX1 := lt_heap6' hl
    exact ⟨⟨hI _ _ _ _ _ hi (by omega) hst, hq⟩, (hst.same _ hX1 (.inl (by omega))).trans hl, (hst.same _ (by omega) (.inl (by omega))).trans hk⟩
  · intro q2 X hb hq hq2
    exact ⟨⟨h0 q2 X (hb1.trans (hb.mono hb1.size)) (by omega) hq2, by omega⟩, (hb.block _ (by omega)).trans hL1, (hb.block _ (by omega)).trans hK1⟩
  · intro q2 j X h; exact h.1.1
  · rintro q2 j X hq hq2 hj ⟨⟨hi, hqq⟩, hl, hk⟩
    have hlt : w.heap.size + 1 < X.heap.size := lt_heap6' hl
    have hy := run_yield (P := P) (args := #[t j]) hl (by rw [hrec]; exact hps.symm)
    rw [hrec] at hy
    refine ⟨fn, _, assign, body, hy, roundIn_of_wpIn hfn (hassign _ j X _ ?_)⟩
    refine ⟨_, run_beginRound hl (by rw [hrec]), ?_⟩
    have hl2 : (X.putObj (w.heap.size + 1) (.loop { rec .ready none with state := .busy })).heap[w.heap.size + 1]? = some (.loop { rec .ready none with state := .busy }) := World.putObj_heap_same hlt
    have hk2 : (X.putObj (w.heap.size + 1) (.loop { rec .ready none with state := .busy })).heap[w.heap.size]? = some (.deferred (some [])) := (World.putObj_heap_other (by omega)).trans hk
    have hsz2 : (X.putObj (w.heap.size + 1) (.loop { rec .ready none with state := .busy })).heap.size = X.heap.size := by simp
    refine wpIn_mono (hbody _ q2 j _ (hI2 _ _ _ _ _ hi (by omega) (by omega)) hqq (by simp; omega) hj) ?_
    rintro e a3 W3 ⟨rfl, hi3, hkp3⟩
    have hl3 := (hkp3.2 (w.heap.size + 1) (by omega) (by omega)).trans hl2
    have hk3 := (hkp3.2 w.heap.size (by omega) (by omega)).trans hk2
    have hend := run_endRound (P := P) none hl3
    rw [hrec] at hend
    refine ⟨_, _, hend, rfl, ⟨⟨hI2 _ _ _ _ _ hi3 (by omega) (by omega), hqq⟩, ?_, (World.putObj_heap_other (by omega)).trans hk3⟩, ?_, ?_⟩
    · rw [hrec]
      exact World.putObj_heap_same (lt_heap6' hl3)
    · have := hkp3.1
      simp at this ⊢
      omega
    · intro k h1 h2
      rw [World.putObj_heap_other (by omega), hkp3.2 k (by omega) h2, World.putObj_heap_other (by omega)]
  · rintro e W2 ⟨⟨v, rfl⟩, q2, ⟨hi, hq⟩, hl, hk⟩
    refine ⟨none, _, by have := run_endLoop (P := P) hl (by rw [hrec]; simp); rw [hrec] at this; exact this, hdone q2 _ (hI2 _ _ _ _ _ hi (by omega) (by omega)) ((World.putObj_heap_other (by omega)).trans hk)⟩
end Go.Proofs.Ytffknldagconmaa
namespace Go.Proofs.Ytffknldagconmaa
set_option maxRecDepth 100000
set_option linter.unusedVariables false
set_option linter.unusedSimpArgs false
open Go.RowKit Go.Sort Go.Shelf
attribute [local go_sem] Oper.semAt_some

theorem Crew.st {W W' : World} {q q2 C : Nat} {AS : Option Addr} {cS D : Nat} {l : List Int} (h : Crew W q q2 C AS cS D l) {q3 : Nat} (hk : Kept11 q q2 W W') : Crew W' q q2 C AS cS D l := h.keeps hk.2
set_option maxHeartbeats 16000000 in
theorem turns1_in (lp Lb Pb : Nat) (A B : Option Addr) (picks l : List Int) (c d : Nat) (W : World)
    (hLb : W.cell? ⟨Lb, 0, none⟩ = some (.slice B l.length d)) (hP : InL W A picks c) (hL : Now W B l) (hl : l.length ≤ 11) (hm : ∀ k, 0 ≤ l.getD k 0 ∧ l.getD k 0 ≤ 1000000) (htot : totP l ≤ 99999)
    (J : Nat → Nat → World → Prop) (hJ : ∀ q2 j X Y, J q2 j X → St11 W.heap.size q2 X Y → J q2 j Y) (hJ0 : ∀ q2 X, Below W.heap.size W X → W.heap.size ≤ q2 → q2 ≤ X.heap.size → J q2 0 X)
    (hJr : ∀ q2 j X, J q2 j X → X.cell? ⟨Pb, 0, none⟩ = some (.slice A picks.length c) ∧ Now X A picks)
    (hY : ∀ q2 j X, W.heap.size ≤ q2 → q2 ≤ X.heap.size → j < totP l → J q2 j X → YieldAt Fence.wide 4 Try.prog lp #[.int .i64 (tnP picks l j : Int)] X fun e X' => e = .returned (.bool true) ∧ J q2 (j + 1) X' ∧ Kept11 W.heap.size q2 X X') :
    CallsIn Fence.wide 5 Try.prog 20 #[.func (.yield lp) #[] #[], .pointer (some ⟨Lb, 0, none⟩), .pointer (some ⟨Pb, 0, none⟩)] W fun e W' => (∃ v, e = .returned v) ∧ ∃ q2, J q2 (totP l) W' := by
  have HY := Lib.hid hY
  have HJ := Lib.hid hJ
  have HJ0 := Lib.hid hJ0
  have HJR := Lib.hid hJr
  have HM := Lib.hid hm
  have HP := Lib.hid hP
  have hcrew := crewOf_any B l d W hL hl
  have hpl := hP.len
  clear hY hJ hJ0 hJr hm hL hP
  refine callsIn_of_wp Try.func20 rfl trivial ?_ rfl
  simp only [Try.ntmps20, List.size_toArray, List.length_cons, List.length_nil, Nat.reduceAdd, Nat.reduceSub, Array.replicate_succ, Array.replicate_zero, List.push_toArray, List.append_toArray, List.nil_append, List.cons_append]
  gi_wp2
  refine ⟨trivial, (callsIn_wide.2 hcrew).mono ?_⟩
  rintro e X1 ⟨AS, cS, D, rfl, hS, hD, hSD, hb1⟩
  clear hcrew
  have hrow := heap_alloc_new X1 (.cells #[.slice AS l.length cS, .slice (some ⟨D, 0, none⟩) (l.length + 1) (l.length + 1), .int .i64 (manyP l : Int)] 43)
  have hal := (Below.refl X1.heap.size X1).alloc (Nat.le_refl _) (.cells #[.slice AS l.length cS, .slice (some ⟨D, 0, none⟩) (l.length + 1) (l.length + 1), .int .i64 (manyP l : Int)] 43)
  have hS2 := own_next hS hal
  have hD2 := own_next hD hal
  have hSb := own_bounds hS
  have hDb := own_bounds hD _ rfl
  simp only at hDb
  have hsz : (X1.alloc (.cells #[.slice AS l.length cS, .slice (some ⟨D, 0, none⟩) (l.length + 1) (l.length + 1), .int .i64 (manyP l : Int)] 43)).heap.size = X1.heap.size + 1 := by simp
  have hb2 := Qt.more hb1 hb1.size hal
  have hsb1 := hb1.size
  have HC0 : Hid (Crew (X1.alloc (.cells #[.slice AS l.length cS, .slice (some ⟨D, 0, none⟩) (l.length + 1) (l.length + 1), .int .i64 (manyP l : Int)] 43)) W.heap.size (X1.heap.size + 1) X1.heap.size AS cS D l ∧ J (X1.heap.size + 1) 0 (X1.alloc (.cells #[.slice AS l.length cS, .slice (some ⟨D, 0, none⟩) (l.length + 1) (l.length + 1), .int .i64 (manyP l : Int)] 43)) ∧ X1.heap.size + 1 ≤ (X1.alloc (.cells #[.slice AS l.length cS, .slice (some ⟨D, 0, none⟩) (l.length + 1) (l.length + 1), .int .i64 (manyP l : Int)] 43)).heap.size) :=
    ⟨⟨hrow, hS2, hD2, ⟨hsb1, by omega⟩, ⟨by omega, by omega⟩, fun a ha => ⟨by have := hSb a ha; omega, by have := hSb a ha; omega, hSD a ha⟩⟩, HJ0.out _ _ hb2 (by omega) (by omega), by omega⟩
  clear hrow hal hS2 hD2 hSb hDb hS hD hSD hb2 hb1 hsz
  gi_wp2
  generalize X1.alloc (.cells #[.slice AS l.length cS, .slice (some ⟨D, 0, none⟩) (l.length + 1) (l.length + 1), .int .i64 (manyP l : Int)] 43) = X2 at *
  generalize X1.heap.size = C at *
  gi_loopw [5, 6] (fun lst st wr => ∃ j : Nat, j ≤ totP l ∧ st = .int .i64 j ∧ lst = .int .i64 (stP picks l j).2 ∧ Hid (Crew wr W.heap.size (C + 1) C AS cS D (stP picks l j).1 ∧ J (C + 1) j wr ∧ C + 1 ≤ wr.heap.size)) (fun _ st _ => totP l - (intOf st).toNat)
  case atStart => exact ⟨0, Nat.zero_le _, rfl, rfl, HC0.out⟩
  case round =>
    obtain ⟨j, hj, rfl, rfl, HH⟩ := hrel
    have hcr := HH.out.1
    have hJj := HH.out.2.1
    have c2 := hcr.c2
    obtain ⟨pb, hpn⟩ := HJR.out _ _ _ hJj
    have hsl := (stP_ok picks l j hj).2
    have hsb := stP_bd picks l 1000000 HM.out j hj
    have hlast : -1 ≤ (stP picks l j).2 ∧ (stP picks l j).2 < l.length := by
      cases j with
      | zero => exact ⟨by show (-1 : Int) ≤ -1; omega, by show (-1 : Int) < _; omega⟩
      | succ j =>
        have := (tnP_ok picks l (show j < totP l by omega)).2.1
        rw [stP_succ]
        exact ⟨by show (-1 : Int) ≤ (tnP picks l j : Int); omega, by show (tnP picks l j : Int) < _; omega⟩
    by_cases hlt : j < totP l
    · obtain ⟨t1, t2, t3, t4⟩ := tnP_ok picks l hlt
      have hdef : tnP picks l j = kthP (stP picks l j).1 (rankP picks j (manyP (stP picks l j).1) (uptoP (stP picks l j).1 (stP picks l j).2)) := rfl
      have hss := stP_succ picks l j
      have hY := fun X h => HY.out (C + 1) j X (by have := hcr.cb; omega) h hlt
      obtain ⟨T, hT⟩ : ∃ T, T = tnP picks l j := ⟨_, rfl⟩
      rw [← hT] at t2 t3 hdef hss hY
      obtain ⟨⟨l2, last⟩, hs⟩ : ∃ s, s = stP picks l j := ⟨_, rfl⟩
      rw [← hs] at hcr c2 hsl hsb hlast t1 t3 hdef hss ⊢
      simp only at hcr c2 hsl hsb hlast t1 t3 hdef hss ⊢
      have hml := many_le l2
      have hupb : uptoP l2 last ≤ 1000000 := by have := cntP_many l2 (last + 1).toNat; unfold uptoP; omega
      have hjb : (j : Int) < 1000000 := by omega
      have hup := fun W' (hb : Below wr.heap.size wr W') => upto_any W' _ _ C AS cS D l2 last (hcr.below hb) (by omega) hlast.1 (by omega)
      have hro := fun W' (hb : Below wr.heap.size wr W') => rankOf_any A picks c (j : Int) (manyP l2) (uptoP l2 last) W' (hpn.below hb) HP.out.len HP.out.fit (by omega) (by omega) hupb ⟨by omega, by omega⟩
      have hat := fun W' (hb : Below wr.heap.size wr W') => at_any W' _ _ C AS cS D l2 (rankP picks j (manyP l2) (uptoP l2 last)) (hcr.below hb) (by omega) (rankP_lt _ _ _ t1)
      rw [← hdef] at hat
      have HH2 := Lib.hid (And.intro hcr (And.intro hJj HH.out.2.2))
      have HT3 := Lib.hid (And.intro t3 (And.intro hsl hsb))
      have HSS := Lib.hid hss
      have HYY := Lib.hid hY
      generalize uptoP l2 last = u at *
      generalize hrk : rankP picks (j : Int) (manyP l2) u = rk at *
      have hmz : (0 : Int) < (manyP l2 : Int) := by omega
      generalize manyP l2 = m at *
      clear hcr hJj hpn hsl hsb hlast t1 t3 t4 hdef hss hY hs hT hml hupb hrk HH
      have HUP := Lib.hid hup
      have HRO := Lib.hid hro
      have HAT := Lib.hid hat
      clear hup hro hat
      clear hjb
      gi_wp2_with fail
      have hup := HUP.out
      have hro := HRO.out
      have hat := HAT.out
      have q0 := Qt.cell_in pb
      have q2 := Qt.cell_in c2
      clear HUP HRO HAT
      refine wpIn_wide.2 ?_
      refine Qt.below_all (by kernel_rfl) (by kernel_rfl) ?_
      iterate 9 (go_big_quiet_step (first
        | (go_at_call 23; exact Qt.at_same hup)
        | (go_at_call 17; exact Qt.at_same hro)
        | (go_at_call 22; exact Qt.at_call' hat)))
      refine wpQuiet_nil ?_
      intro w2 hb2
      obtain ⟨g1, g2, g3⟩ := HH2.out
      have hcr2 := g1.below hb2
      have hJ2 := HJ.out _ _ _ _ g2 (st_below hb2)
      have hsz2 := hb2.size
      obtain ⟨t3, hsl, hsb⟩ := HT3.out
      have htn := turn11_any w2 _ _ C AS cS D l2 T hcr2 (by omega) t3 (hsb T).2
      have H3 := Lib.hid (And.intro hJ2 (Nat.le_trans g3 hsz2))
      clear hup hro hat q0 q2 pb c2 hb2 g1 g2 g3 hcr2 hJ2 hsz2 t3 hsb hsl
      gi_wp2_with fail
      refine ⟨trivial, (callsIn_wide.2 htn).mono ?_⟩
      rintro e w3 ⟨⟨v3, rfl⟩, hcr3, hst3⟩
      have hJ3 := HJ.out _ _ _ _ H3.out.1 hst3
      have hsz3 := Nat.le_trans H3.out.2 hst3.size
      obtain ⟨fn, tmps, assign, body, hy, hR⟩ := HYY.out w3 hsz3 hJ3
      have HC3 := Lib.hid hcr3
      have HS3 := Lib.hid (And.intro hsz3 hsb1)
      clear htn hcr3 hst3 hJ3 hsz3 hsb1
      gi_wp2_with fail
      refine hR.mono ?_
      clear hR hy
      rintro e w4 ⟨rfl, hJ4, hk4⟩
      have HN : Hid (Crew w4 W.heap.size (C + 1) C AS cS D (stP picks l (j + 1)).1 ∧ J (C + 1) (j + 1) w4 ∧ C + 1 ≤ w4.heap.size) := ⟨by rw [HSS.out]; exact HC3.out.keeps hk4.2, hJ4, Nat.le_trans HS3.out.1 hk4.1⟩
      clear hJ4 hk4
      gi_wp2_with fail
      go_roundw
      case measure => simp [intOf]; omega
      case rel => exact ⟨j + 1, by omega, by go_num, by rw [HSS.out], HN.out⟩
    · obtain rfl : j = totP l := by omega
      have hend := stP_end picks l
      rw [hend] at c2
      have HF := Lib.hid hJj
      clear hcr hJj pb hpn hsl hsb hlast hend HH
      gi_wp2_with fail
      go_end0
      exact ⟨⟨_, rfl⟩, C + 1, HF.out⟩
end Go.Proofs.Ytffknldagconmaa
namespace Go.Proofs.Ytffknldagconmaa
set_option maxRecDepth 100000
set_option linter.unusedVariables false
set_option linter.unusedSimpArgs false
open Go.RowKit Go.Sort Go.Shelf
attribute [local go_sem] Oper.semAt_some

theorem append_run_in {F : Fence} {n : Nat} {P : Program} {w : World} {ops : Array Oper} {rest : List Oper} {o : Oper} {a : Act} {Q : Exit → Act → World → Prop}
    (hg : o.guard = none) (s x : Operand) (t : TypeId) (hop : o.op = Op.call { callee := Callee.builtin Builtin.append, args := #[s, x], argTypes := #[t, t] })
    (v u : Value) (hs : a.eval s = v) (hx : a.eval x = u) (v' : Value) (w' : World) (hrun : (Builtin.append_ #[t, t] o.type #[v, u]).run P w = .ok v' w') (h : wpListIn F n P ops Q rest (a.put o.dst v') w') : wpListIn F n P ops Q (o :: rest) a w := by
  refine wpListIn_plain hg fun K hK => ?_
  unfold Oper.wpIn
  refine ⟨?_, ?_⟩
  · simp [Oper.about, hop, resolve, Target.leads, Sem.run_pure]
  · rw [Oper.semAt_plain F _ _ (by rw [hop]; intro c hc; cases hc)]
    simp [execOp, hop, resolve, invoke, builtin, hs, hx, hrun, Result.andThen]
    exact hK _ _ h
theorem turns_any (A B : Option Addr) (n m c d : Nat) (w : World) :
    Calls Try.prog 19 #[.slice A n c, .slice B m d] w fun e w' => e = .returned (.func (.func 20) #[] #[.pointer (some ⟨w.heap.size + 1, 0, none⟩), .pointer (some ⟨w.heap.size, 0, none⟩)]) ∧ w' = (w.alloc (.cells #[.slice A n c] 22)).alloc (.cells #[.slice B m d] 22) := by
  go_enter Try.func19, Try.ntmps19
  go_wp2
  go_ret
  exact ⟨rfl, rfl⟩
/-- what is known between two turns: w at the call, w2 where the range begins -/
structure TurnsI (w w2 : World) (A : Option Addr) (picks l : List Int) (c q2 j : Nat) (X : World) : Prop where
  box : ∃ v, Boxed X w.heap.size 22 v ∧ Own X q2 v (turnsTo picks l j)
  pb : Boxed X (w.heap.size + 1) 22 (.slice A picks.length c)
  q : w2.heap.size + 2 ≤ q2
  bel : Below w.heap.size w X
theorem TurnsI.st {w w2 : World} {A : Option Addr} {picks l : List Int} {c q q2 j : Nat} {X Y : World} (hw : w2.heap.size = w.heap.size + 3) (h : TurnsI w w2 A picks l c q2 j X) (hq : w2.heap.size ≤ q) (hs : St11 q q2 X Y) : TurnsI w w2 A picks l c q2 j Y := by
  obtain ⟨v, hb, ho⟩ := h.box
  have h1 := hb.lt
  have h2 := h.pb.lt
  refine ⟨⟨v, (hs.same _ h1 (.inl (by omega))).trans hb, own_keeps ho fun g hg => ?_⟩, (hs.same _ h2 (.inl (by omega))).trans h.pb, h.q, h.bel.trans ⟨hs.os, hs.tape, hs.output, hs.size, fun k hk => hs.same k (by have := h.bel.size; omega) (.inl (by omega))⟩⟩
  have := World.ownsRow.lt ho g hg
  exact hs.same g this.2 (.inr this.1)
theorem TurnsI.put {w w2 : World} {A : Option Addr} {picks l : List Int} {c q2 j : Nat} {X : World} (hw : w2.heap.size = w.heap.size + 3) (h : TurnsI w w2 A picks l c q2 j X) {lb : Nat} (o : Obj) (h1 : w2.heap.size ≤ lb) (h2 : lb < w2.heap.size + 2) : TurnsI w w2 A picks l c q2 j (X.putObj lb o) := by
  obtain ⟨v, hb, ho⟩ := h.box
  have hq := h.q
  have hk : ∀ k, k ≠ lb → (X.putObj lb o).heap[k]? = X.heap[k]? := fun k hk => World.putObj_heap_other (by omega)
  refine ⟨⟨v, (hk _ (by omega)).trans hb, own_keeps ho fun g hg => hk g ?_⟩, (hk _ (by omega)).trans h.pb, h.q, h.bel.trans ⟨rfl, rfl, rfl, by simp, fun k hk2 => hk k (by omega)⟩⟩
  have := World.ownsRow.lt ho g hg
  omega
def TurnsR (picks l : List Int) (w : World) (e : Ending) (w' : World) : Prop := ∃ v, e = .returned v ∧ Own w' w.heap.size v (turnsP picks l) ∧ Below w.heap.size w w'
set_option maxHeartbeats 16000000 in
theorem turns11_any (A B : Option Addr) (picks l : List Int) (c d : Nat) (w : World) (hP : InL w A picks c) (hL : Now w B l) (hl : l.length ≤ 11) (hm : ∀ k, 0 ≤ l.getD k 0 ∧ l.getD k 0 ≤ 1000000) (htot : totP l ≤ 99999) :
    Calls Try.prog 15 #[.slice A picks.length c, .slice B l.length d] w (TurnsR picks l w) := by
  have HP := Lib.hid hP
  have HL := Lib.hid hL
  have HM := Lib.hid hm
  clear hP hL hm
  refine (callsIn_wide (n := 6)).1 ?_
  refine callsIn_of_wp_marks Try.func15 rfl trivial ?_ rfl
  simp only [Try.ntmps15, List.size_toArray, List.length_cons, List.length_nil, Nat.reduceAdd, Nat.reduceSub, Array.replicate_succ, Array.replicate_zero, List.push_toArray, List.append_toArray, List.nil_append, List.cons_append]
  gi_wp2
  refine ⟨trivial, (callsIn_wide.2 (turns_any A B _ _ c d _)).mono ?_⟩
  rintro e w' ⟨rfl, rfl⟩
  gi_wp2
  have hb1 := (Below.refl w.heap.size w).alloc (Nat.le_refl _) (.cells #[.slice none 0 0] 22)
  have hb2 := hb1.alloc (by simp) (.cells #[.slice A picks.length c] 22)
  have hb3 := hb2.alloc (by simp; omega) (.cells #[.slice B l.length d] 22)
  have x1 := Boxed.new w 22 (.slice none 0 0)
  have x2 := Boxed.new (w.alloc (.cells #[.slice none 0 0] 22)) 22 (.slice A picks.length c)
  have x3 := Boxed.new ((w.alloc (.cells #[.slice none 0 0] 22)).alloc (.cells #[.slice A picks.length c] 22)) 22 (.slice B l.length d)
  have y1 := (x1.alloc (.cells #[.slice A picks.length c] 22)).alloc (.cells #[.slice B l.length d] 22)
  have y2 := x2.alloc (.cells #[.slice B l.length d] 22)
  rw [World.size_alloc] at y2
  rw [World.size_alloc, World.size_alloc] at x3
  have hsz : (((w.alloc (.cells #[.slice none 0 0] 22)).alloc (.cells #[.slice A picks.length c] 22)).alloc (.cells #[.slice B l.length d] 22)).heap.size = w.heap.size + 3 := by simp
  clear x1 x2 hb1 hb2
  obtain ⟨w2, hw2⟩ : ∃ w2, ((w.alloc (.cells #[.slice none 0 0] 22)).alloc (.cells #[.slice A picks.length c] 22)).alloc (.cells #[.slice B l.length d] 22) = w2 := ⟨_, rfl⟩
  rw [hw2] at hb3 y1 y2 x3 hsz ⊢
  clear hw2
  have hIs : ∀ q q2 j X Y, TurnsI w w2 A picks l c q2 j X → w2.heap.size ≤ q → St11 q q2 X Y → TurnsI w w2 A picks l c q2 j Y := fun q q2 j X Y h1 h2 h3 => h1.st hsz h2 h3
  refine range_own (gf := 20) (lb := #[.pointer (some ⟨w.heap.size + 1 + 1, 0, none⟩), .pointer (some ⟨w.heap.size + 1, 0, none⟩)]) rfl (enters_of Try.func20 (by kernel_rfl) rfl)
    (fun j => .int .i64 (tnP picks l j : Int)) (totP l) rfl (TurnsI w w2 A picks l c) hIs (fun q2 j X lb o h1 h2 h3 => h1.put hsz o h2 h3)
    ?start ?seq (fun j => { tmps := #[.slice A picks.length c, .slice B l.length d, undef, undef, .slice none 0 0, .pointer (some ⟨w.heap.size, 0, none⟩), .int .i64 (tnP picks l j : Int), .slice A picks.length c, .slice B l.length d, .func (.func 20) #[] #[.pointer (some ⟨w.heap.size + 1 + 1, 0, none⟩), .pointer (some ⟨w.heap.size + 1, 0, none⟩)], .int .i64 (tnP picks l j : Int), undef, undef, undef, undef, undef, undef, undef, undef], defers := [] }) ?assign ?body ?done
  case start =>
    intro q2 X hb hq hq2
    refine ⟨⟨.slice none 0 0, (hb.block _ (by omega)).trans y1, World.ownsRow_nil _ _ _ _⟩, (hb.block _ (by omega)).trans y2, hq, hb3.trans (hb.mono (by omega))⟩
  case seq =>
    intro lp W J hbW hszW hJ hJ0 hJI hY
    have hb4 := hb3.trans (hbW.mono (by omega))
    refine turns1_in lp _ _ A B picks l c d W ((World.cell?_of_block (w := w2) (hbW.block _ (by show w.heap.size + 1 + 1 < _; omega))).trans x3.cell) (HP.out.below hb4) (HL.out.below hb4) hl HM.out htot J hJ (fun q2 X h1 h2 h3 => hJ0 q2 X h1 h2 h3) (fun q2 j X h => ?_) hY
    have hi := hJI _ _ _ h
    exact ⟨hi.pb.cell, HP.out.now.below hi.bel⟩
  case assign =>
    intro lp j X K hK
    gi_wp2
    exact hK
  case body =>
    rintro lp q2 j X ⟨⟨v, hbx, hown⟩, hpb, hq, hbel⟩ _ hq2 hj
    have hc := hbx.cell
    have hf := hbx.frozen
    have htl := turnsTo_len picks l j
    obtain ⟨v', X2, hrun, hown2, hb5⟩ := push_any (tnP picks l j : Int) hq2 hown (by omega)
    rw [← turnsTo_succ] at hown2
    obtain ⟨A3, c3, hv3, _, _⟩ := hown2.reads
    rw [turnsTo_len] at hv3
    have e1 := (hb5.cell (p := ⟨w.heap.size, 0, none⟩) (by show w.heap.size < q2; omega)).trans hc
    have e2 := (hb5.frozen (p := ⟨w.heap.size, 0, none⟩) (by show w.heap.size < q2; omega)).trans hf
    subst hv3
    have hne : ¬ (((j + 1 : Nat)) : Int) = 100000 := by omega
    have hneb : ((((j + 1 : Nat)) : Int) == 100000) = false := beq_eq_false_iff_ne.2 hne
    have HRun := Lib.hid hrun
    have HFN : Hid (TurnsI w w2 A picks l c q2 (j + 1) (X2.setCell ⟨w.heap.size, 0, none⟩ (.slice A3 (j + 1) c3)) ∧ Kept11 w2.heap.size q2 X (X2.setCell ⟨w.heap.size, 0, none⟩ (.slice A3 (j + 1) c3))) := by
      have hbx2 : Boxed X2 w.heap.size 22 v := (hb5.block _ (by omega)).trans hbx
      have hpb2 : Boxed X2 (w.heap.size + 1) 22 (.slice A picks.length c) := (hb5.block _ (by omega)).trans hpb
      refine ⟨⟨⟨_, hbx2.set _, own_keeps hown2 fun g hg => heap_other ?_⟩, hpb2.other (by omega) _, hq, (hbel.trans (hb5.mono (by omega))).setCell (p := ⟨w.heap.size, 0, none⟩) (Nat.le_refl _) _⟩, ?_, fun k h1 h2 => ?_⟩
      · have := (World.ownsRow.lt hown2 g hg).1; omega
      · have := hb5.size; simp; omega
      · rw [heap_other (by omega), hb5.block k h2]
    clear hbx hown hrun hown2 hb5 hbel hpb hf
    gi_wp2_with (gi_at_builtin; refine append_run_in rfl (.tmp 11) (.tmp 13) 22 rfl _ _ rfl rfl _ _ HRun.out ?_)
    exact ⟨HFN.out.1, by rw [← hsz]; exact HFN.out.2⟩
  case done =>
    intro q2 W3 hI hK
    obtain ⟨v, hbx, hown⟩ := hI.box
    have hc := hbx.cell
    have hq := hI.q
    have HFN : Hid (Own W3 w.heap.size v (turnsP picks l) ∧ Below w.heap.size w W3) := ⟨own_more hown (by omega), hI.bel⟩
    have HQ := Lib.hid hq
    have HSZ := Lib.hid hsz
    clear hbx hown hI hq hIs hsz
    gi_wp2
    refine ⟨by simp, .inl ⟨_, _, rfl, run_takeDeferred hK, ?_⟩⟩
    have hbd := belowK_b (n₀ := w.heap.size) (w := w2) (by have := HSZ.out; omega) W3 w2.heap.size (.deferred (some [])) (.deferred none) (Nat.le_refl _) hK rfl rfl
    exact ⟨_, results_tmp rfl _ _ _, ⟨v, rfl, ownsRow_putObj HFN.out.1 _ hK rfl, HFN.out.2.trans hbd⟩⟩
end Go.Proofs.Ytffknldagconmaa
namespace Go.Proofs.Ytffknldagconmaa
set_option maxRecDepth 100000
set_option linter.unusedVariables false
set_option linter.unusedSimpArgs false
open Go.RowKit Go.Sort

theorem stP_i64 {picks l : List Int} (hm : ∀ k, 0 ≤ l.getD k 0 ∧ l.getD k 0 ≤ 1000000) {j : Nat} (hj : j ≤ totP l) : ∀ k, k < (stP picks l j).1.length → I64 ((stP picks l j).1.getD k 0) := fun k _ => by
  have := stP_bd picks l 1000000 hm j hj k
  unfold I64
  omega
theorem stP_last (picks : List Int) {l : List Int} {j : Nat} (hj : j ≤ totP l) : -1 ≤ (stP picks l j).2 ∧ (stP picks l j).2 < l.length := by
  cases j with
  | zero => exact ⟨by show (-1 : Int) ≤ -1; omega, by show (-1 : Int) < _; omega⟩
  | succ j =>
    have := (tnP_ok picks l (show j < totP l by omega)).2.1
    rw [stP_succ]
    exact ⟨by show (-1 : Int) ≤ (tnP picks l j : Int); omega, by show (tnP picks l j : Int) < _; omega⟩
theorem nextP_end (picks l : List Int) : nextP picks (totP l) (stP picks l (totP l)).1 (stP picks l (totP l)).2 = -1 := by
  unfold nextP
  rw [if_pos (stP_end picks l)]
end Go.Proofs.Ytffknldagconmaa
namespace Go.Proofs.Ytffknldagconmaa
set_option maxRecDepth 100000
set_option linter.unusedVariables false
set_option linter.unusedSimpArgs false
open Go.RowKit Go.Sort

theorem now_lits (w : World) (l : List Int) : Now (w.alloc (.cells (l.map (Value.int .i64)).toArray 3)) (some ⟨w.heap.size, 0, none⟩) l := fun j hj => by
  refine ⟨w.heap.size, 0, rfl, by simp, ?_⟩
  rw [Lib.cell_of_heap (heap_alloc_new w _)]
  simp [List.getD_eq_getElem?_getD, List.getElem?_eq_getElem hj]
theorem small_i64x11 {l : List Int} (h : l.all (fun x => decide (-1000 ≤ x ∧ x ≤ 1000)) = true) : ∀ j, j < l.length → I64 (l.getD j 0) := fun j hj => by
  rw [List.getD_eq_getElem?_getD, List.getElem?_eq_getElem hj, Option.getD_some]
  have := List.all_eq_true.1 h _ (List.getElem_mem hj)
  simp only [decide_eq_true_eq] at this
  unfold I64
  omega
theorem inl_lits (w : World) (l : List Int) (c : Nat) (h : l.all (fun x => decide (-1000 ≤ x ∧ x ≤ 1000)) = true) (hl : l.length ≤ 1000) : InL (w.alloc (.cells (l.map (Value.int .i64)).toArray 3)) (some ⟨w.heap.size, 0, none⟩) l c := ⟨now_lits w l, by omega, small_i64x11 h⟩
theorem inl_nil (w : World) (c : Nat) : InL w none [] c := ⟨now_nil _ _, by simp, fun j hj => absurd hj (Nat.not_lt_zero j)⟩
theorem i64_small11 {x : Int} (h : decide (-1000 ≤ x ∧ x ≤ 1000) = true) : I64 x := by
  simp only [decide_eq_true_eq] at h
  unfold I64
  omega
set_option maxHeartbeats 8000000 in
theorem awake11_any (w : World) : Calls Try.prog 9 #[] w fun e w' => e = .returned (.bool true) ∧ Below w.heap.size w w' := by
  have hba := (Below.refl w.heap.size w).alloc (Nat.le_refl _) (.cells #[.int .i64 1, .int .i64 1] 3)
  have hbb := hba.alloc (by simp) (.cells #[.int .i64 2, .int .i64 2] 3)
  have i1 := (inl_lits w [1, 1] 2 (by decide) (by simp)).below ((Below.refl _ _).alloc (Nat.le_refl _) (.cells #[.int .i64 2, .int .i64 2] 3))
  have i2 := now_lits (w.alloc (.cells #[.int .i64 1, .int .i64 1] 3)) [2, 2]
  rw [World.size_alloc] at i2
  have h1 := turns11_any (some ⟨w.heap.size, 0, none⟩) (some ⟨w.heap.size + 1, 0, none⟩) [1, 1] [2, 2] 2 2 ((w.alloc (.cells #[.int .i64 1, .int .i64 1] 3)).alloc (.cells #[.int .i64 2, .int .i64 2] 3)) i1 i2 (by simp) (by intro k; match k with | 0 => decide | 1 => decide | k + 2 => (rw [getD_past _ (by simp)]; decide)) (by decide)
  have HB := Lib.hid hbb
  clear hba hbb i1 i2
  go_enter Try.func9, Try.ntmps9
  go_wp2_with fail
  refine h1.mono ?_
  rintro r w1 ⟨v, rfl, ho, hb1⟩
  rw [show turnsP [1, 1] [2, 2] = [1, 1, 0, 0] by decide +kernel] at ho
  obtain ⟨A1, c1, rfl, hc1, hN1⟩ := own_slice ho
  have HB1 := Lib.hid (Qt.more HB.out HB.out.size hb1)
  have HN1 := Lib.hid hN1
  clear h1 hb1 ho hN1 HB
  go_wp2_with fail
  have hw2 := (Below.refl w1.heap.size w1).alloc (Nat.le_refl _) (.cells #[.int .i64 1, .int .i64 1, .int .i64 0, .int .i64 0] 3)
  refine (ints_yes (HN1.out.below hw2) (now_lits w1 [1, 1, 0, 0]) rfl rfl (by simp) rfl).mono ?_
  rintro r w2 ⟨rfl, hb2⟩
  have HB2 := Lib.hid (Qt.more HB1.out HB1.out.size (Qt.more hw2 hw2.size hb2))
  clear hw2 hb2 HN1 HB1
  have h2 := next11_any none (some ⟨w2.heap.size, 0, none⟩) [] [0, 3, 0, 1] 0 4 0 1 (w2.alloc (.cells #[.int .i64 0, .int .i64 3, .int .i64 0, .int .i64 1] 3)) (inl_nil _ _) (inl_lits w2 [0, 3, 0, 1] 4 (by decide) (by simp)) (by simp) (i64_small11 (by decide)) (i64_small11 (by decide))
  rw [show nextP [] 0 [0, 3, 0, 1] 1 = 3 by decide +kernel] at h2
  have HB3 : Hid (Below w.heap.size w (w2.alloc (.cells #[.int .i64 0, .int .i64 3, .int .i64 0, .int .i64 1] 3))) := HB2.out.alloc HB2.out.size _
  clear HB2
  go_wp2_with fail
  refine h2.mono ?_
  rintro r w3 ⟨rfl, rfl⟩
  clear h2
  generalize w2.alloc (.cells #[.int .i64 0, .int .i64 3, .int .i64 0, .int .i64 1] 3) = w3 at *
  have h3 := next11_any none (some ⟨w3.heap.size, 0, none⟩) [] [0, 3, 0, 1] 0 4 0 3 (w3.alloc (.cells #[.int .i64 0, .int .i64 3, .int .i64 0, .int .i64 1] 3)) (inl_nil _ _) (inl_lits w3 [0, 3, 0, 1] 4 (by decide) (by simp)) (by simp) (i64_small11 (by decide)) (i64_small11 (by decide))
  rw [show nextP [] 0 [0, 3, 0, 1] 3 = 1 by decide +kernel] at h3
  have HB4 : Hid (Below w.heap.size w (w3.alloc (.cells #[.int .i64 0, .int .i64 3, .int .i64 0, .int .i64 1] 3))) := HB3.out.alloc HB3.out.size _
  clear HB3
  go_wp2_with fail
  refine h3.mono ?_
  rintro r w4 ⟨rfl, rfl⟩
  clear h3
  generalize w3.alloc (.cells #[.int .i64 0, .int .i64 3, .int .i64 0, .int .i64 1] 3) = w4 at *
  have hba := HB4.out.alloc HB4.out.size (.cells #[.int .i64 (-2)] 3)
  have hbb := hba.alloc (by have := HB4.out.size; simp; omega) (.cells #[.int .i64 1, .int .i64 0, .int .i64 1] 3)
  have i1 := (inl_lits w4 [-2] 1 (by decide) (by simp)).below ((Below.refl _ _).alloc (Nat.le_refl _) (.cells #[.int .i64 1, .int .i64 0, .int .i64 1] 3))
  have i2 := inl_lits (w4.alloc (.cells #[.int .i64 (-2)] 3)) [1, 0, 1] 3 (by decide) (by simp)
  rw [World.size_alloc] at i2
  have h4 := next11_any (some ⟨w4.heap.size, 0, none⟩) (some ⟨w4.heap.size + 1, 0, none⟩) [-2] [1, 0, 1] 1 3 0 0 ((w4.alloc (.cells #[.int .i64 (-2)] 3)).alloc (.cells #[.int .i64 1, .int .i64 0, .int .i64 1] 3)) i1 i2 (by simp) (i64_small11 (by decide)) (i64_small11 (by decide))
  rw [show nextP [-2] 0 [1, 0, 1] 0 = 2 by decide +kernel] at h4
  have HB5 := Lib.hid hbb
  clear hba hbb i1 i2 HB4
  go_wp2_with fail
  refine h4.mono ?_
  rintro r w5 ⟨rfl, rfl⟩
  clear h4
  generalize (w4.alloc (.cells #[.int .i64 (-2)] 3)).alloc (.cells #[.int .i64 1, .int .i64 0, .int .i64 1] 3) = w5 at *
  have h5 := next11_any none (some ⟨w5.heap.size, 0, none⟩) [] [0, -1] 0 2 0 0 (w5.alloc (.cells #[.int .i64 0, .int .i64 (-1)] 3)) (inl_nil _ _) (inl_lits w5 [0, -1] 2 (by decide) (by simp)) (by simp) (i64_small11 (by decide)) (i64_small11 (by decide))
  rw [show nextP [] 0 [0, -1] 0 = -1 by decide +kernel] at h5
  have HB6 : Hid (Below w.heap.size w (w5.alloc (.cells #[.int .i64 0, .int .i64 (-1)] 3))) := HB5.out.alloc HB5.out.size _
  clear HB5
  go_wp2_with fail
  refine h5.mono ?_
  rintro r w6 ⟨rfl, rfl⟩
  clear h5
  go_wp2_with fail
  go_ret
  exact ⟨rfl, HB6.out⟩
end Go.Proofs.Ytffknldagconmaa
namespace Go.Proofs.Ytffknldagconmaa
set_option linter.unusedVariables false
set_option linter.unusedSimpArgs false

/-- four kids; a node: its level, its kids, its cells -/
abbrev Kd := Int × Int × Int × Int
abbrev Nd := Int × Kd × Int
def kd (k : Kd) : Nat → Int
  | 0 => k.1
  | 1 => k.2.1
  | 2 => k.2.2.1
  | _ => k.2.2.2
def deadN : Nd := (0, (0, 0, 0, 0), 0)
def liveN : Nd := (0, (0, 0, 0, 0), 1)
def ndAt (l : List Nd) (i : Int) : Nd := l.getD i.toNat deadN
/-- the cells of the first kids together -/
def popTo (l : List Nd) (k : Kd) : Nat → Int
  | 0 => 0
  | i + 1 => min (popTo l k i + (ndAt l (kd k i)).2.2) 4611686018427387903
def kidB (l : List Nd) (n lev k : Int) : Bool := decide (0 ≤ k) && decide (k < n) && decide ((ndAt l k).1 = lev)
/-- the place of the node with these kids, from place i on, so many places -/
def atFrom (l : List Nd) (k : Kd) : Nat → Nat → Option Nat
  | _, 0 => none
  | i, f + 1 => if (l.getD i deadN).2.1 = k then some i else atFrom l k (i + 1) f
def at6 (l : List Nd) (k : Kd) : Option Nat := atFrom l k 2 (l.length - 2)
def kidsB (l : List Nd) (n lev : Int) (k : Kd) : Bool := kidB l n lev k.1 && kidB l n lev k.2.1 && kidB l n lev k.2.2.1 && kidB l n lev k.2.2.2
def fits6 (l : List Nd) (n : Nat) : Bool :=
  kidsB l n ((l.getD n deadN).1 - 1) (l.getD n deadN).2.1 && decide (1 ≤ (l.getD n deadN).1) && decide ((l.getD n deadN).1 ≤ 42) && decide ((l.getD n deadN).2.2 = popTo l (l.getD n deadN).2.1 4) && decide (at6 l (l.getD n deadN).2.1 = some n)
theorem atFrom_some {l : List Nd} {k : Kd} : ∀ {f i n : Nat}, atFrom l k i f = some n → i ≤ n ∧ n < i + f ∧ (l.getD n deadN).2.1 = k ∧ ∀ j, i ≤ j → j < n → (l.getD j deadN).2.1 ≠ k := by
  intro f
  induction f with
  | zero => intro i n h; cases h
  | succ f ih =>
    intro i n h
    unfold atFrom at h
    by_cases he : (l.getD i deadN).2.1 = k
    · rw [if_pos he] at h
      injection h with h
      subst h
      exact ⟨Nat.le_refl _, by omega, he, fun j h1 h2 => by omega⟩
    · rw [if_neg he] at h
      obtain ⟨h1, h2, h3, h4⟩ := ih h
      refine ⟨by omega, by omega, h3, fun j hj1 hj2 => ?_⟩
      rcases Nat.eq_or_lt_of_le hj1 with rfl | h5
      · exact he
      · exact h4 j h5 hj2
theorem atFrom_none {l : List Nd} {k : Kd} : ∀ {f i : Nat}, atFrom l k i f = none ↔ ∀ j, i ≤ j → j < i + f → (l.getD j deadN).2.1 ≠ k := by
  intro f
  induction f with
  | zero => intro i; exact ⟨fun _ j h1 h2 => by omega, fun _ => rfl⟩
  | succ f ih =>
    intro i
    unfold atFrom
    by_cases he : (l.getD i deadN).2.1 = k
    · rw [if_pos he]
      exact ⟨fun h => (by cases h), fun h => absurd he (h i (Nat.le_refl _) (by omega))⟩
    · rw [if_neg he, ih]
      constructor
      · intro h j h1 h2
        rcases Nat.eq_or_lt_of_le h1 with rfl | h5
        · exact he
        · exact h j h5 (by omega)
      · intro h j h1 h2
        exact h j (by omega) (by omega)
theorem at_some {l : List Nd} {k : Kd} {n : Nat} (h : at6 l k = some n) : 2 ≤ n ∧ n < l.length ∧ (l.getD n deadN).2.1 = k ∧ ∀ j, 2 ≤ j → j < n → (l.getD j deadN).2.1 ≠ k := by
  obtain ⟨h1, h2, h3, h4⟩ := atFrom_some h
  exact ⟨h1, by omega, h3, h4⟩
theorem at_none {l : List Nd} {k : Kd} : at6 l k = none ↔ ∀ j, 2 ≤ j → j < l.length → (l.getD j deadN).2.1 ≠ k := by
  unfold at6
  rw [atFrom_none]
  exact ⟨fun h j h1 h2 => h j h1 (by omega), fun h j h1 h2 => h j h1 (by omega)⟩
theorem at_is {l : List Nd} {k : Kd} {n : Nat} (h2 : 2 ≤ n) (hn : n < l.length) (hk : (l.getD n deadN).2.1 = k) (hf : ∀ j, 2 ≤ j → j < n → (l.getD j deadN).2.1 ≠ k) : at6 l k = some n := by
  cases h : at6 l k with
  | none => exact absurd hk (at_none.1 h n h2 hn)
  | some m =>
    obtain ⟨m1, m2, m3, m4⟩ := at_some h
    rcases Nat.lt_trichotomy m n with h5 | h5 | h5
    · exact absurd m3 (hf m m1 h5)
    · rw [h5]
    · exact absurd hk (m4 n h2 h5)

/-- what a store that is right is -/
structure Right6 (l : List Nd) (room : Int) : Prop where
  room2 : 2 ≤ room
  room100 : room ≤ 100000
  two : 2 ≤ l.length
  len : (l.length : Int) ≤ room
  dead : l.getD 0 deadN = deadN
  live : l.getD 1 deadN = liveN
  fits : ∀ n, 2 ≤ n → n < l.length → fits6 l n = true
theorem kidB_iff {l : List Nd} {n lev k : Int} : kidB l n lev k = true ↔ 0 ≤ k ∧ k < n ∧ (ndAt l k).1 = lev := by unfold kidB; simp [and_assoc]
theorem kidsB_iff {l : List Nd} {n lev : Int} {k : Kd} : kidsB l n lev k = true ↔ ∀ i, i < 4 → kidB l n lev (kd k i) = true := by
  unfold kidsB
  simp only [Bool.and_eq_true]
  constructor
  · rintro ⟨⟨⟨h0, h1⟩, h2⟩, h3⟩ i hi
    match i, hi with
    | 0, _ => exact h0
    | 1, _ => exact h1
    | 2, _ => exact h2
    | 3, _ => exact h3
  · intro h
    exact ⟨⟨⟨h 0 (by decide), h 1 (by decide)⟩, h 2 (by decide)⟩, h 3 (by decide)⟩
/-- what a node that fits is -/
structure Fits6 (l : List Nd) (n : Nat) : Prop where
  kid : ∀ i, i < 4 → 0 ≤ kd (l.getD n deadN).2.1 i ∧ kd (l.getD n deadN).2.1 i < n ∧ (ndAt l (kd (l.getD n deadN).2.1 i)).1 = (l.getD n deadN).1 - 1
  lo : 1 ≤ (l.getD n deadN).1
  hi : (l.getD n deadN).1 ≤ 42
  pop : (l.getD n deadN).2.2 = popTo l (l.getD n deadN).2.1 4
  first : at6 l (l.getD n deadN).2.1 = some n
theorem fits_iff {l : List Nd} {n : Nat} : fits6 l n = true ↔ Fits6 l n := by
  unfold fits6
  simp only [Bool.and_eq_true, decide_eq_true_eq, kidsB_iff, kidB_iff]
  exact ⟨fun ⟨⟨⟨⟨h1, h2⟩, h3⟩, h4⟩, h5⟩ => ⟨h1, h2, h3, h4, h5⟩, fun h => ⟨⟨⟨⟨h.kid, h.lo⟩, h.hi⟩, h.pop⟩, h.first⟩⟩

/-! ### levels and cells are within bounds -/
/-! ### a node more -/
end Go.Proofs.Ytffknldagconmaa
namespace Go.Proofs.Ytffknldagconmaa
set_option linter.unusedVariables false
set_option linter.unusedSimpArgs false

/-! ### rows -/
def row (s : Nat) (a : List UInt8) (y : Nat) : List UInt8 := (a.drop (y * s)).take s
def half (s : Nat) (a b : List UInt8) (n : Nat) : List UInt8 := (List.range n).flatMap fun y => row s a y ++ row s b y
/-! ### how many are alive -/
/-! ### what a node stands for -/
end Go.Proofs.Ytffknldagconmaa
namespace Go.Proofs.Ytffknldagconmaa
set_option linter.unusedVariables false
set_option linter.unusedSimpArgs false

/-- kids that may be put -/
structure Fit4 (l : List Nd) (k : Kd) : Prop where
  kid : ∀ i, i < 4 → 0 ≤ kd k i ∧ kd k i < l.length ∧ (ndAt l (kd k i)).1 = (ndAt l k.1).1
  low : (ndAt l k.1).1 + 1 ≤ 42
theorem Fit4.b {l : List Nd} {k : Kd} (h : Fit4 l k) : kidsB l l.length (ndAt l k.1).1 k = true := kidsB_iff.2 fun i hi => kidB_iff.2 (h.kid i hi)
/-- a store that has another one's nodes, and maybe more -/
structure Grows (l m : List Nd) : Prop where
  len : l.length ≤ m.length
  same : ∀ i, i < l.length → m.getD i deadN = l.getD i deadN
theorem Grows.refl (l : List Nd) : Grows l l := ⟨Nat.le_refl _, fun _ _ => rfl⟩
theorem Grows.trans {a b c : List Nd} (h : Grows a b) (k : Grows b c) : Grows a c := ⟨Nat.le_trans h.len k.len, fun i hi => (k.same i (Nat.lt_of_lt_of_le hi h.len)).trans (h.same i hi)⟩
theorem Grows.nd {l m : List Nd} (h : Grows l m) {i : Int} (h0 : 0 ≤ i) (h1 : i < l.length) : ndAt m i = ndAt l i := h.same _ (by omega)
/-- a store where a node stands has it at its place -/
theorem Grows.at_ {l m : List Nd} (h : Grows l m) {k : Kd} {n : Nat} (ha : at6 l k = some n) : at6 m k = some n := by
  obtain ⟨a1, a2, a3, a4⟩ := at_some ha
  exact at_is a1 (Nat.lt_of_lt_of_le a2 h.len) (by rw [h.same n a2]; exact a3) (fun j hj1 hj2 => by rw [h.same j (by omega)]; exact a4 j hj1 hj2)
/-- what was put -/
structure Put6 (l m : List Nd) (room : Int) (k : Kd) (n : Nat) : Prop where
  grows : Grows l m
  right : Right6 m room
  at_ : at6 m k = some n
  more : m.length ≤ l.length + 1
/-! ### a node's level is below its place -/
/-! ### the laws' raw stores -/
abbrev Raw5 := Int × Int × Int × Int × Int
end Go.Proofs.Ytffknldagconmaa
namespace Go.Proofs.Ytffknldagconmaa
set_option linter.unusedVariables false
set_option linter.unusedSimpArgs false

/-- the node that was put -/
theorem Put6.node {l m : List Nd} {room : Int} {k : Kd} {n : Nat} (h : Put6 l m room k n) (hf : Fit4 l k) : 2 ≤ n ∧ n < m.length ∧ (m.getD n deadN).2.1 = k ∧ (m.getD n deadN).1 = (ndAt l k.1).1 + 1 ∧ (m.getD n deadN).2.2 = popTo l k 4 := by
  obtain ⟨a1, a2, a3, _⟩ := at_some h.at_
  have hfn := fits_iff.1 (h.right.fits n a1 a2)
  have hk0 := hfn.kid 0 (by decide)
  rw [a3] at hk0
  have e0 : ndAt m k.1 = ndAt l k.1 := h.grows.nd (hf.kid 0 (by decide)).1 (hf.kid 0 (by decide)).2.1
  have ep : ∀ i, i ≤ 4 → popTo m k i = popTo l k i := by
    intro i
    induction i with
    | zero => intro _; rfl
    | succ i ih =>
      intro hi
      unfold popTo
      rw [ih (by omega), h.grows.nd (hf.kid i (by omega)).1 (hf.kid i (by omega)).2.1]
  refine ⟨a1, a2, a3, ?_, ?_⟩
  · have : (ndAt m k.1).1 = (m.getD n deadN).1 - 1 := hk0.2.2
    rw [e0] at this
    omega
  · rw [hfn.pop, a3, ep 4 (Nat.le_refl _)]

/-! ### nodes in which all is dead -/
end Go.Proofs.Ytffknldagconmaa
namespace Go.Proofs.Ytffknldagconmaa
set_option linter.unusedVariables false
set_option linter.unusedSimpArgs false

/-! ### where what is kept goes -/
def cnt (K : Nat → Bool) (n : Nat) : Nat := ((List.range n).filter K).length
section
variable {l : List Nd} {room : Int} {R : List Int} {K : Nat → Bool}
end
end Go.Proofs.Ytffknldagconmaa
namespace Go.Proofs.Ytffknldagconmaa
set_option linter.unusedVariables false
set_option linter.unusedSimpArgs false
open Go.RowKit Go.Sort

/-- a node lies here -/
def NdAt (w : World) (b o : Nat) (x : Nd) : Prop := w.cell? ⟨b, o, none⟩ = some (.int .i64 x.1) ∧ w.cell? ⟨b, o + 1, none⟩ = some (.int .i64 x.2.1.1) ∧ w.cell? ⟨b, o + 2, none⟩ = some (.int .i64 x.2.1.2.1) ∧ w.cell? ⟨b, o + 3, none⟩ = some (.int .i64 x.2.1.2.2.1) ∧ w.cell? ⟨b, o + 4, none⟩ = some (.int .i64 x.2.1.2.2.2) ∧ w.cell? ⟨b, o + 5, none⟩ = some (.int .i64 x.2.2)
/-- The slice at A of l.length nodes reads as l, below block B. -/
def RdN (w : World) (B : Nat) (A : Option Addr) (l : List Nd) : Prop :=
  ∀ j, j < l.length → ∃ b off, A = some ⟨b, off, none⟩ ∧ b < B ∧ NdAt w b (off + j * 6) (l.getD j deadN)
theorem NdAt.below {w w' : World} {b o B : Nat} {x : Nd} (h : NdAt w b o x) (hb : Below B w w') (hx : b < B) : NdAt w' b o x := by
  obtain ⟨h0, h1, h2, h3, h4, h5⟩ := h
  exact ⟨(hb.cell (p := ⟨b, o, none⟩) hx).trans h0, (hb.cell (p := ⟨b, o + 1, none⟩) hx).trans h1, (hb.cell (p := ⟨b, o + 2, none⟩) hx).trans h2, (hb.cell (p := ⟨b, o + 3, none⟩) hx).trans h3, (hb.cell (p := ⟨b, o + 4, none⟩) hx).trans h4, (hb.cell (p := ⟨b, o + 5, none⟩) hx).trans h5⟩
theorem RdN.below {w w' : World} {B B' : Nat} {A : Option Addr} {l : List Nd} (h : RdN w B A l) (hb : Below B' w w') (hB : B ≤ B') : RdN w' B A l := fun j hj => by
  obtain ⟨b, off, e, hlt, h0⟩ := h j hj
  exact ⟨b, off, e, hlt, h0.below hb (Nat.lt_of_lt_of_le hlt hB)⟩
theorem RdN.more {w : World} {B B' : Nat} {A : Option Addr} {l : List Nd} (h : RdN w B A l) (hB : B ≤ B') : RdN w B' A l := fun j hj => by
  obtain ⟨b, off, e, hlt, h0⟩ := h j hj
  exact ⟨b, off, e, by omega, h0⟩
theorem RdN.nil (w : World) (B : Nat) (A : Option Addr) : RdN w B A [] := fun j hj => absurd hj (Nat.not_lt_zero j)
theorem RdN.at_ {w : World} {B : Nat} {A : Option Addr} {l : List Nd} (h : RdN w B A l) (hn : 0 < l.length) :
    ∃ b off, A = some ⟨b, off, none⟩ ∧ b < B ∧ ∀ j, j < l.length → NdAt w b (off + j * 6) (l.getD j deadN) := by
  obtain ⟨b, off, e, hlt, _⟩ := h 0 hn
  refine ⟨b, off, e, hlt, fun j hj => ?_⟩
  obtain ⟨b', off', e', _, h0⟩ := h j hj
  rw [e] at e'
  injection e' with e'
  injection e' with e1 e2
  subst e1 e2
  exact h0
def NowN (w : World) (A : Option Addr) (l : List Nd) : Prop := RdN w w.heap.size A l
theorem NowN.below {w w' : World} {A : Option Addr} {l : List Nd} (h : NowN w A l) (hb : Below w.heap.size w w') : NowN w' A l := (RdN.below h hb (Nat.le_refl _)).more hb.size
/-- It reads as its list. -/
def ReadsN (w : World) (v : Value) (l : List Nd) : Prop := ∃ A c, v = .slice A l.length c ∧ l.length ≤ c ∧ NowN w A l
theorem ReadsN.below {w w' : World} {v : Value} {l : List Nd} (h : ReadsN w v l) (hb : Below w.heap.size w w') : ReadsN w' v l := by
  obtain ⟨A, c, e, hc, hR⟩ := h
  exact ⟨A, c, e, hc, hR.below hb⟩

end Go.Proofs.Ytffknldagconmaa
namespace Go.Proofs.Ytffknldagconmaa
set_option linter.unusedVariables false
set_option linter.unusedSimpArgs false
open Go.RowKit Go.Sort

def rd5 (r : Raw5) : Nat → Int
  | 0 => r.1
  | 1 => r.2.1
  | 2 => r.2.2.1
  | 3 => r.2.2.2.1
  | _ => r.2.2.2.2
def Fine5 (r : Raw5) : Prop := I64 r.1 ∧ I64 r.2.1 ∧ I64 r.2.2.1 ∧ I64 r.2.2.2.1 ∧ I64 r.2.2.2.2
theorem Fine5.at_ {r : Raw5} (h : Fine5 r) : ∀ i, I64 (rd5 r i) := by
  intro i
  match i with
  | 0 => exact h.1
  | 1 => exact h.2.1
  | 2 => exact h.2.2.1
  | 3 => exact h.2.2.2.1
  | n + 4 => exact h.2.2.2.2
section
variable {w wr w' : World} {A : Option Addr} {n c : Nat} {room : Int} {r : Raw5}
end
end Go.Proofs.Ytffknldagconmaa
namespace Go.Proofs.Ytffknldagconmaa
set_option linter.unusedVariables false
set_option linter.unusedSimpArgs false
open Go.RowKit Go.Sort

def dead5 : Raw5 := (0, 0, 0, 0, 0)
/-- five numbers lie here -/
def R5At (w : World) (b o : Nat) (r : Raw5) : Prop := w.cell? ⟨b, o, none⟩ = some (.int .i64 r.1) ∧ w.cell? ⟨b, o + 1, none⟩ = some (.int .i64 r.2.1) ∧ w.cell? ⟨b, o + 2, none⟩ = some (.int .i64 r.2.2.1) ∧ w.cell? ⟨b, o + 3, none⟩ = some (.int .i64 r.2.2.2.1) ∧ w.cell? ⟨b, o + 4, none⟩ = some (.int .i64 r.2.2.2.2)
theorem R5At.below {w w' : World} {b o B : Nat} {r : Raw5} (h : R5At w b o r) (hb : Below B w w') (hx : b < B) : R5At w' b o r := by
  obtain ⟨h0, h1, h2, h3, h4⟩ := h
  exact ⟨(hb.cell (p := ⟨b, o, none⟩) hx).trans h0, (hb.cell (p := ⟨b, o + 1, none⟩) hx).trans h1, (hb.cell (p := ⟨b, o + 2, none⟩) hx).trans h2, (hb.cell (p := ⟨b, o + 3, none⟩) hx).trans h3, (hb.cell (p := ⟨b, o + 4, none⟩) hx).trans h4⟩
/-- The slice at A reads as raw numbers, five by five. -/
def RdR (w : World) (B : Nat) (A : Option Addr) (l : List Raw5) : Prop :=
  ∀ j, j < l.length → ∃ b off, A = some ⟨b, off, none⟩ ∧ b < B ∧ R5At w b (off + j * 5) (l.getD j dead5)
theorem RdR.below {w w' : World} {B B' : Nat} {A : Option Addr} {l : List Raw5} (h : RdR w B A l) (hb : Below B' w w') (hB : B ≤ B') : RdR w' B A l := fun j hj => by
  obtain ⟨b, off, e, hlt, h0⟩ := h j hj
  exact ⟨b, off, e, hlt, h0.below hb (Nat.lt_of_lt_of_le hlt hB)⟩
end Go.Proofs.Ytffknldagconmaa
namespace Go.Proofs.Ytffknldagconmaa
set_option linter.unusedVariables false
open Go.ChangeShapes Go.WideShapes Go.ChangeAt Go.RowKit Go.Deep

theorem i64_wf6 {a : Int} (h : (Lit.int .i64 a).wf = true) : I64 a := by
  have : IntKind.i64.min ≤ a ∧ a ≤ IntKind.i64.max := by simpa [Lit.wf] using h
  simpa [I64, IntKind.min, IntKind.max, IntKind.signed, IntKind.bits] using this

section
variable {H : Type} {enc : TypeId × Value → H} {w : World} {base : Nat} {spare : Nat → Bool} {held : Bool} {P : Program}
theorem exists_list6 {α : Type} (d : α) {n : Nat} {Q : Nat → α → Prop} (h : ∀ i, i < n → ∃ p, Q i p) : ∃ l : List α, l.length = n ∧ ∀ i, i < n → Q i (l.getD i d) := by
  induction n with
  | zero => exact ⟨[], rfl, fun i hi => absurd hi (Nat.not_lt_zero i)⟩
  | succ n ih =>
    obtain ⟨l, hl, hq⟩ := ih fun i hi => h i (by omega)
    obtain ⟨p, hp⟩ := h n (by omega)
    refine ⟨l ++ [p], by simp [hl], fun i hi => ?_⟩
    by_cases hin : i < n
    · rw [List.getD_eq_getElem?_getD, List.getElem?_append_left (by omega), ← List.getD_eq_getElem?_getD]
      exact hq i hin
    · have : i = n := by omega
      subst this
      rw [List.getD_eq_getElem?_getD, List.getElem?_append_right (by omega), hl]
      simpa using hp
/-- a slice whose elements take some cells each -/
theorem els_in {α : Type} (dec : α → List Value) (d : α) (Q : α → Prop) (n : Nat) (hn0 : 0 < n) {t e : TypeId} {fuel : Nat} {a0 : Option Addr} {len0 cap0 : Nat} {x : DataW H × List MemPlace} (hdec : ∀ a, (dec a).length = n) (ht : P.underlying t = some (.slice e)) (hn : P.cellsOf e = n)
    (he : ∀ fuel cs (y : DataW H × List MemPlace), DataW.trod enc P w base spare held fuel e cs = some y → ∃ a, cs = dec a ∧ Q a)
    (h : DataW.trod enc P w base spare held fuel t [.slice a0 len0 cap0] = some x) :
    ∃ l : List α, l.length = len0 ∧ len0 ≤ cap0 ∧ cap0 ≤ maxLen ∧ (∀ j, j < l.length → ∃ b off, a0 = some ⟨b, off, none⟩ ∧ b < w.heap.size ∧ ∀ i, i < n → w.cell? ⟨b, off + j * n + i, none⟩ = (dec (l.getD j d))[i]?) ∧ ∀ j, j < l.length → Q (l.getD j d) := by
  rcases open_slice ht h with ⟨hcs, _⟩ | ⟨a, len, cap, m, k, D, Pl, hcs, hb, hl, hm, hmm, _, hi⟩
  · simp at hcs
    obtain ⟨rfl, rfl, rfl⟩ := hcs
    exact ⟨[], rfl, Nat.le_refl _, by simp [maxLen], fun j hj => absurd hj (Nat.not_lt_zero j), fun j hj => absurd hj (Nat.not_lt_zero j)⟩
  · simp at hcs
    obtain ⟨rfl, rfl, rfl⟩ := hcs
    have hlm : len0 ≤ m := by rw [hmm]; split <;> omega
    have hq : ∀ i, i < len0 → ∃ p : α, (∀ q, q < n → w.cell? ((a.add (i * n)).add q) = (dec p)[q]?) ∧ Q p := by
      intro i hi'
      obtain ⟨cs', hc, ht'⟩ := hi i (by omega)
      rw [hn] at hc
      obtain ⟨p, rfl, hp⟩ := he _ _ _ ht'
      obtain ⟨_, _, hat⟩ := World.cells?_some hc
      exact ⟨p, fun q hq => hat q (by omega), hp⟩
    obtain ⟨l, hll, hlq⟩ := exists_list6 d hq
    refine ⟨l, hll, hl, hm, fun j hj => ?_, fun j hj => (hlq j (by omega)).2⟩
    obtain ⟨b, off, spot⟩ := a
    have hc := (hlq j (by omega)).1
    have h0 := hc 0 hn0
    rw [List.getElem?_eq_getElem (by rw [hdec]; exact hn0)] at h0
    have h00 := (hlq 0 (by omega)).1 0 hn0
    rw [List.getElem?_eq_getElem (by rw [hdec]; exact hn0)] at h00
    have hspot : spot = none := by simpa [Addr.add] using World.cell?_spot h00
    subst hspot
    refine ⟨b, off, rfl, ?_, fun i hi => ?_⟩
    · rw [Addr.add_lit] at h0
      exact block_lt_of_cell h0
    · have := hc i hi
      rw [Addr.add_lit, Addr.add_lit] at this
      exact this
end
end Go.Proofs.Ytffknldagconmaa
namespace Go.Proofs.Ytffknldagconmaa
set_option maxRecDepth 100000
set_option linter.unusedVariables false
open Go.ChangeShapes Go.WideShapes Go.ChangeAt Go.RowKit Go.Deep
theorem own : ownKnob Try.prog.godebug = none := by kernel_rfl
theorem laidOut : laidOutB Try.prog = true := by kernel_rfl
section
variable {H : Type} {enc : TypeId × Value → H} {W : World} {base : Nat} {spare : Nat → Bool} {held : Bool} {P : Program}
end
end Go.Proofs.Ytffknldagconmaa
namespace Go.Proofs.Ytffknldagconmaa
set_option maxRecDepth 100000
set_option linter.unusedVariables false
open Go.ChangeShapes Go.WideShapes Go.ChangeAt Go.RowKit Go.Deep
theorem num_in {H : Type} {enc : TypeId × Value → H} {w : World} {base : Nat} {spare : Nat → Bool} {held : Bool} {P : Program} {t : TypeId} {fuel : Nat} {cs : List Value} {x : DataW H × List MemPlace} (he : P.underlying t = some (.int .i64))
    (h : DataW.trod enc P w base spare held fuel t cs = some x) : ∃ a : Int, cs = [.int .i64 a] ∧ I64 a := by
  obtain ⟨a, hu, _, wu⟩ := DataW.trod_int he h
  exact ⟨a, hu, i64_wf6 wu⟩
theorem nums6_in {H : Type} {enc : TypeId × Value → H} {w : World} {base : Nat} {spare : Nat → Bool} {held : Bool} {fuel : Nat} {a0 : Option Addr} {len0 cap0 : Nat} {x : DataW H × List MemPlace}
    (h : DataW.trod enc Try.prog w base spare held fuel 22 [.slice a0 len0 cap0] = some x) : ∃ l : List Int, l.length = len0 ∧ len0 ≤ cap0 ∧ cap0 ≤ maxLen ∧ Now w a0 l ∧ ∀ j, j < l.length → I64 (l.getD j 0) := by
  obtain ⟨l, h1, h2, h3, h4, h5⟩ := els_in (fun a : Int => [.int .i64 a]) 0 I64 1 (by decide) (fun _ => rfl) Try.underlying22 (by kernel_rfl) (fun _ _ _ hy => num_in Try.underlying3 hy) h
  refine ⟨l, h1, h2, h3, fun j hj => ?_, h5⟩
  obtain ⟨b, off, e, hb, hc⟩ := h4 j hj
  have h0 := hc 0 (by decide)
  rw [Nat.mul_one, Nat.add_zero] at h0
  exact ⟨b, off, e, hb, h0⟩
end Go.Proofs.Ytffknldagconmaa
