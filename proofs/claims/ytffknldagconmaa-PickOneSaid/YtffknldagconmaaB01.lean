/-
  Texts that the claims of this seat share, part 1.
-/
import Derived.Test.YtffknldagconmaaB00
set_option linter.unusedVariables false
set_option linter.unusedSimpArgs false
namespace Go.Proofs.Ytffknldagconmaa
set_option maxRecDepth 100000
set_option linter.unusedVariables false
set_option linter.unusedSimpArgs false
open Go.RowKit Go.Sort

/-- a list of numbers that came in -/
structure InL (w : World) (A : Option Addr) (l : List Int) (c : Nat) : Prop where
  now : Now w A l
  len : l.length ≤ 9223372036854775807
  fit : ∀ j, j < l.length → I64 (l.getD j 0)
theorem InL.below {w w' : World} {A : Option Addr} {l : List Int} {c : Nat} (h : InL w A l c) (hb : Below w.heap.size w w') : InL w' A l c := ⟨h.now.below hb, h.len, h.fit⟩
theorem upto_step (l : List Int) (last : Int) {k : Nat} (h : 0 < l.getD k 0) (hl : (k : Int) ≤ last) : cntP l (min (k + 1) (last + 1).toNat) = cntP l (min k (last + 1).toNat) + 1 := by
  rw [show min (k + 1) (last + 1).toNat = k + 1 by omega, show min k (last + 1).toNat = k by omega, live_cnt h]
theorem upto_same (l : List Int) (last : Int) {k : Nat} (h : ¬ 0 < l.getD k 0 ∨ last < (k : Int)) : cntP l (min (k + 1) (last + 1).toNat) = cntP l (min k (last + 1).toNat) := by
  by_cases hk : k + 1 ≤ (last + 1).toNat
  · rw [show min (k + 1) (last + 1).toNat = k + 1 by omega, show min k (last + 1).toNat = k by omega, cntP_succ]
    rcases h with h | h
    · rw [livI_no h, Nat.add_zero]
    · omega
  · rw [show min (k + 1) (last + 1).toNat = min k (last + 1).toNat by omega]
theorem upto_all (l : List Int) (last : Int) : cntP l (min l.length (last + 1).toNat) = uptoP l last := by
  unfold uptoP
  rcases Nat.le_total l.length (last + 1).toNat with h | h
  · rw [Nat.min_eq_left h, cntP_past l h]; rfl
  · rw [Nat.min_eq_right h]
set_option maxHeartbeats 8000000 in
theorem next11_any (A B : Option Addr) (picks l : List Int) (c d : Nat) (step last : Int) (w : World) (hP : InL w A picks c) (hL : InL w B l d) (hl : l.length ≤ 1000000) (hs : I64 step) (hla : I64 last) :
    Calls Try.prog 12 #[.slice A picks.length c, .int .i64 step, .slice B l.length d, .int .i64 last] w fun e w' => e = .returned (.int .i64 (nextP picks step l last)) ∧ w = w' := by
  generalize hr : nextP picks step l last = r
  have HR := Lib.hid hr
  have HP := Lib.hid hP
  have HL := Lib.hid hL
  have HS := Lib.hid hs
  obtain ⟨la1, la2⟩ := hla
  clear hr hP hL hs
  go_enter Try.func12, Try.ntmps12
  go_wp2
  go_loopw [9, 10, 17] (fun m u i wr => ∃ k : Nat, k ≤ l.length ∧ i = .int .i64 k ∧ m = .int .i64 (cntP l k : Int) ∧ u = .int .i64 (cntP l (min k (last + 1).toNat) : Int) ∧ wr = w) (fun _ _ i _ => l.length - (intOf i).toNat)
  case atStart => exact ⟨0, Nat.zero_le _, rfl, rfl, by rw [Nat.zero_min]; rfl, rfl⟩
  case round =>
    obtain ⟨k, hk, rfl, rfl, rfl, hwr⟩ := hrel
    subst hwr
    by_cases hlt : k < l.length
    · have hltz : (k : Int) < (l.length : Int) := by omega
      obtain ⟨b, off, rfl, hbB, hcell⟩ := Rd.at_ HL.out.now (by omega)
      have y0 := hcell k hlt
      have e1 := cntP_succ l k
      have e2 := @upto_step l last k
      have e3 := @upto_same l last k
      have hc1 := cntP_le l k
      have hc2 := cntP_le l (min k (last + 1).toNat)
      obtain ⟨x, hx⟩ : ∃ x, x = l.getD k 0 := ⟨_, rfl⟩
      rw [← hx] at y0 e1 e2 e3
      obtain ⟨m, hm⟩ : ∃ m, m = cntP l k := ⟨_, rfl⟩
      obtain ⟨u, hu⟩ : ∃ u, u = cntP l (min k (last + 1).toNat) := ⟨_, rfl⟩
      rw [← hm] at e1 hc1 ⊢
      rw [← hu] at e2 e3 hc2 ⊢
      have hmk : m ≤ 1000000 := by omega
      have huk : u ≤ 1000000 := by omega
      have HX := Lib.hid hx
      clear hcell hx hm hu hc1 hc2
      by_cases h0 : x < 1
      · rw [livI_no (by omega)] at e1
        have e4 := e3 (.inl (by omega))
        have HE := Lib.hid (And.intro e1 e4)
        clear e1 e2 e3 e4
        go_wp2
        go_roundw
        case measure => simp [intOf]; omega
        case rel => exact ⟨k + 1, by omega, by go_num, by rw [HE.out.1]; rfl, by rw [HE.out.2], by first | trivial | rfl⟩
      · rw [livI_yes (by omega)] at e1
        by_cases h1 : (k : Int) ≤ last
        · have e4 := e2 (by omega) h1
          have HE := Lib.hid (And.intro e1 e4)
          clear e1 e2 e3 e4
          go_wp2
          go_roundw
          case measure => simp [intOf]; omega
          case rel => exact ⟨k + 1, by omega, by go_num, by rw [HE.out.1]; go_num, by rw [HE.out.2]; go_num, by first | trivial | rfl⟩
        · have e4 := e3 (.inr (by omega))
          have HE := Lib.hid (And.intro e1 e4)
          clear e1 e2 e3 e4
          go_wp2
          go_roundw
          case measure => simp [intOf]; omega
          case rel => exact ⟨k + 1, by omega, by go_num, by rw [HE.out.1]; go_num, by rw [HE.out.2], by first | trivial | rfl⟩
    · obtain rfl : k = l.length := by omega
      have hltz : ¬ (l.length : Int) < (l.length : Int) := by omega
      rw [upto_all, show cntP l l.length = manyP l from rfl]
      have hm1 := many_le l
      have hu1 : uptoP l last ≤ 1000000 := by have := cntP_many l (last + 1).toNat; unfold uptoP; omega
      have hnx := @nextN_ok picks step l last
      have hdef : nextN picks step l last = kthP l (rankP picks step (manyP l) (uptoP l last)) := rfl
      have hro := fun W (h : InL W A picks c) (hm : 1 ≤ manyP l) => rankOf_any A picks c step (manyP l) (uptoP l last) W h.now h.len h.fit hm (by omega) hu1 HS.out
      have hrl := fun hm => rankP_lt picks step (many := manyP l) (uptoP l last) hm
      have hnp : nextP picks step l last = if manyP l = 0 then -1 else (nextN picks step l last : Int) := rfl
      rw [HR.out] at hnp
      obtain ⟨u, hu⟩ : ∃ u, u = uptoP l last := ⟨_, rfl⟩
      obtain ⟨rk, hrk⟩ : ∃ rk, rk = rankP picks step (manyP l) u := ⟨_, rfl⟩
      rw [← hu] at hu1 hro hrl hnx hdef ⊢
      rw [← hrk] at hro hrl hnx hdef
      obtain ⟨T, hT⟩ : ∃ T, T = nextN picks step l last := ⟨_, rfl⟩
      rw [← hT] at hnx hdef hnp
      have hkl := fun (p : Nat) (h : rk < manyP l) => kth_lt (l := l) (r := rk) (p := p) h
      rw [← hdef] at hkl
      by_cases hm0 : manyP l = 0
      · rw [if_pos hm0] at hnp
        subst hnp
        clear hnx hro hrl hkl
        rw [hm0]
        go_wp2
        go_ret
        exact ⟨rfl, rfl⟩
      · rw [if_neg hm0] at hnp
        have hmz : ¬ ((manyP l : Nat) : Int) = 0 := by omega
        have hmz2 : (((manyP l : Nat) : Int) == 0) = false := beq_eq_false_iff_ne.2 hmz
        obtain ⟨n1, n2, n3⟩ := hnx (by omega)
        have hro := hro wr HP.out (by omega)
        have hrl := hrl (by omega)
        have HK := Lib.hid (fun p => hkl p hrl)
        have HN := Lib.hid hnp
        have HN2 := Lib.hid (And.intro n2 n3)
        clear hkl hnp hm0 hmz hnx n2 n3 hdef hu hrk hT
        generalize hmm : manyP l = m at *
        have HM := Lib.hid hmm
        clear hmm
        go_wp2_with fail
        refine hro.mono ?_
        rintro e w' ⟨rfl, hw'⟩
        subst hw'
        clear hro hmz2
        obtain ⟨wo, rfl⟩ : ∃ wo : World, wo = wr := ⟨_, rfl⟩
        go_wp2
        go_loopw [13, 14] (fun q p wr => ∃ (k s : Nat), k ≤ T ∧ p = .int .i64 k ∧ q = .int .i64 (s : Int) ∧ Hid (s + cntP l k = rk) ∧ wr = wo) (fun _ p _ => l.length - (intOf p).toNat)
        case atStart => exact ⟨0, rk, Nat.zero_le _, rfl, rfl, (show Hid _ from Nat.add_zero _), rfl⟩
        case round =>
          obtain ⟨k, s, hkT, rfl, rfl, HC, hwr2⟩ := hrel
          subst hwr2
          have hlt : k < l.length := by omega
          have hltz : (k : Int) < (l.length : Int) := by omega
          obtain ⟨b, off, rfl, hbB, hcell⟩ := Rd.at_ HL.out.now (by omega)
          have y0 := hcell k hlt
          have e1 := cntP_succ l k
          have hki := @live_inj l k T
          have hks : k ≠ T → cntP l (k + 1) ≤ cntP l T := fun h => cntP_mono l (by omega)
          obtain ⟨n2, n3⟩ := HN2.out
          have hC := HC.out
          obtain ⟨x, hx⟩ : ∃ x, x = l.getD k 0 := ⟨_, rfl⟩
          rw [← hx] at y0 e1 hki
          have HX := Lib.hid hx
          clear hcell hx
          by_cases h0 : x < 1
          · rw [livI_no (by omega)] at e1
            have hne : k ≠ T := fun e => by have hx := HX.out; rw [e] at hx; omega
            have HE := Lib.hid (show s + cntP l (k + 1) = rk by omega)
            clear e1 hki hks n2 n3 hC
            go_wp2
            go_roundw
            case measure => simp [intOf]; omega
            case rel => exact ⟨k + 1, s, by omega, by go_num, rfl, (show Hid _ from HE.out), by first | trivial | rfl⟩
          · rw [livI_yes (by omega)] at e1
            by_cases h1 : s = 0
            · have hkT2 : k = T := hki (by omega) n2 (by omega)
              subst h1 hkT2
              have hN := HN.out
              clear e1 hki hks n2 n3 hC
              go_wp2
              go_ret
              exact ⟨by first | rfl | rw [hN], by first | trivial | rfl⟩
            · have hne : k ≠ T := fun e => by rw [e] at hC; omega
              have HE := Lib.hid (show (s - 1) + cntP l (k + 1) = rk by omega)
              have hsz : (0 : Int) < (s : Int) := by omega
              have hx2 : (0 : Int) < x := by omega
              have hsl : s ≤ 1000000 := by omega
              clear e1 hki hks n2 n3 hC
              go_wp2
              go_roundw
              case measure => simp [intOf]; omega
              case rel => exact ⟨k + 1, s - 1, by omega, by go_num, by rw [show ((s - 1 : Nat) : Int) = (s : Int) - 1 by omega], (show Hid _ from HE.out), by first | trivial | rfl⟩
end Go.Proofs.Ytffknldagconmaa
namespace Go.Proofs.Ytffknldagconmaa
set_option maxRecDepth 100000
set_option linter.unusedVariables false
set_option linter.unusedSimpArgs false
open Go.RowKit Go.Sort

/-! ### what lies in blocks q to q2 may change -/
structure St11 (q q2 : Nat) (A B : World) : Prop where
  os : B.os = A.os
  tape : B.tape = A.tape
  output : B.output = A.output
  size : A.heap.size ≤ B.heap.size
  same : ∀ k, k < A.heap.size → (k < q ∨ q2 ≤ k) → B.heap[k]? = A.heap[k]?
theorem St11.refl (q q2 : Nat) (A : World) : St11 q q2 A A := ⟨rfl, rfl, rfl, Nat.le_refl _, fun _ _ _ => rfl⟩
theorem St11.trans {q q2 : Nat} {A B C : World} (h : St11 q q2 A B) (k : St11 q q2 B C) : St11 q q2 A C :=
  ⟨k.os.trans h.os, k.tape.trans h.tape, k.output.trans h.output, Nat.le_trans h.size k.size, fun j hj hc => (k.same j (Nat.lt_of_lt_of_le hj h.size) hc).trans (h.same j hj hc)⟩
theorem St11.set {q q2 : Nat} {A B : World} (h : St11 q q2 A B) {b i : Nat} (v : Value) (h1 : q ≤ b) (h2 : b < q2) : St11 q q2 A (B.setCell ⟨b, i, none⟩ v) := by
  refine h.trans ⟨rfl, rfl, rfl, by simp, fun k hk hc => ?_⟩
  have hne : ¬ b = k := by omega
  simp [World.setCell, Array.getElem?_modify, hne]
theorem St11.below {q q2 : Nat} {A B : World} (h : St11 q q2 A B) (hq : q ≤ A.heap.size) : Below q A B := ⟨h.os, h.tape, h.output, h.size, fun k hk => h.same k (by omega) (.inl hk)⟩
theorem st_below {q q2 : Nat} {A B : World} (h : Below A.heap.size A B) : St11 q q2 A B := ⟨h.os, h.tape, h.output, h.size, fun k hk _ => h.block k hk⟩

/-- a list told place by place -/
def rowF (n : Nat) (f : Nat → Int) : List Int := (List.range n).map f
theorem rowF_len (n : Nat) (f : Nat → Int) : (rowF n f).length = n := by unfold rowF; simp
theorem rowF_get {n i : Nat} (f : Nat → Int) (h : i < n) : (rowF n f).getD i 0 = f i := by
  unfold rowF
  rw [List.getD_eq_getElem?_getD, List.getElem?_map, List.getElem?_range h]
  rfl
theorem rowF_congr {n : Nat} {f g : Nat → Int} (h : ∀ i, i < n → f i = g i) : rowF n f = rowF n g := by
  unfold rowF
  exact List.map_congr_left fun i hi => h i (List.mem_range.1 hi)
theorem rowF_set (n i : Nat) (f : Nat → Int) (x : Int) : (rowF n f).set i x = rowF n (fun k => if k = i then x else f k) := by
  refine List.ext_getElem? fun k => ?_
  rw [List.getElem?_set]
  unfold rowF
  by_cases hk : k < n
  · rw [List.getElem?_map, List.getElem?_map, List.getElem?_range hk]
    by_cases hik : i = k
    · subst hik
      simp [hk]
    · have : ¬ k = i := fun e => hik e.symm
      simp [hik, this]
  · rw [List.getElem?_eq_none (by simp; omega), List.getElem?_eq_none (by simp; omega)]
    split <;> simp; omega
/-! ### the tree of counts -/
theorem lowN_bd {n : Nat} (h : 1 ≤ n) : 1 ≤ lowN n ∧ lowN n ≤ n := by
  unfold lowN
  repeat' split
  all_goals omega
theorem low_pow {p z : Nat} (hz : z = 1 ∨ z = 2 ∨ z = 4 ∨ z = 8) (hp : p % (2 * z) = 0) : lowN (p + z) = z := by
  unfold lowN
  rcases hz with rfl | rfl | rfl | rfl
  all_goals repeat' split
  all_goals omega
/-- how many are left of those that a place of the tree tells of -/
def fenA (l : List Int) (n : Nat) : Int := (cntP l n : Int) - (cntP l (n - lowN n) : Int)
theorem fenA_bd (l : List Int) (n : Nat) : 0 ≤ fenA l n ∧ fenA l n ≤ n := by
  have h1 := cntP_mono l (show n - lowN n ≤ n by omega)
  have h2 := cntP_le l n
  unfold fenA
  omega
def fenL (l : List Int) : List Int := rowF (l.length + 1) (fenA l)
theorem fenL_len (l : List Int) : (fenL l).length = l.length + 1 := rowF_len _ _
theorem fenL_get (l : List Int) {n : Nat} (h : n ≤ l.length) : (fenL l).getD n 0 = fenA l n := rowF_get _ (by omega)
theorem path_fin : ∀ (k : Fin 11) (n : Fin 12), (n.1 - lowN n.1 ≤ k.1 ∧ k.1 < n.1) → (∀ m : Fin 12, n.1 < m.1 → m.1 < n.1 + lowN n.1 → ¬ (m.1 - lowN m.1 ≤ k.1 ∧ k.1 < m.1)) ∧ (n.1 + lowN n.1 < 12 → (n.1 + lowN n.1) - lowN (n.1 + lowN n.1) ≤ k.1) := by decide +kernel
theorem path_next {k n : Nat} (hk : k < 11) (hn : n < 12) (h : n - lowN n ≤ k ∧ k < n) : (∀ m, m < 12 → n < m → m < n + lowN n → ¬ (m - lowN m ≤ k ∧ k < m)) ∧ (n + lowN n < 12 → (n + lowN n) - lowN (n + lowN n) ≤ k) := by
  have := path_fin ⟨k, hk⟩ ⟨n, hn⟩ h
  exact ⟨fun m hm => this.1 ⟨m, hm⟩, this.2⟩

theorem own_keeps {w w' : World} {B : Nat} {v : Value} {l : List Int} (h : Own w B v l) (hk : ∀ g, v.ownBlock = some g → w'.heap[g]? = w.heap[g]?) : Own w' B v l := by
  refine ⟨h.1, ?_⟩
  rcases h.2 with h0 | ⟨g, cap, cur, hv, hb, hh, rest⟩
  · exact .inl h0
  · exact .inr ⟨g, cap, cur, hv, hb, (hk g (by rw [hv]; rfl)).trans hh, rest⟩
/-- a crew in its blocks -/
structure Crew (W : World) (q q2 C : Nat) (AS : Option Addr) (cS D : Nat) (l : List Int) : Prop where
  box : W.heap[C]? = some (.cells #[.slice AS l.length cS, .slice (some ⟨D, 0, none⟩) (l.length + 1) (l.length + 1), .int .i64 (manyP l : Int)] 43 (0, 0))
  steps : Own W q (.slice AS l.length cS) l
  counts : Own W q (.slice (some ⟨D, 0, none⟩) (l.length + 1) (l.length + 1)) (fenL l)
  cb : q ≤ C ∧ C < q2
  db : D < q2 ∧ D ≠ C
  sb : ∀ a, AS = some a → a.block < q2 ∧ a.block ≠ C ∧ a.block ≠ D
section
variable {W W' : World} {q q2 C : Nat} {AS : Option Addr} {cS D : Nat} {l : List Int}
theorem Crew.keeps (h : Crew W q q2 C AS cS D l) (hk : ∀ k, q ≤ k → k < q2 → W'.heap[k]? = W.heap[k]?) : Crew W' q q2 C AS cS D l := by
  refine ⟨(hk C h.cb.1 h.cb.2).trans h.box, own_keeps h.steps fun g hg => hk g (World.ownsRow.lt h.steps g hg).1 ?_, own_keeps h.counts fun g hg => hk g (World.ownsRow.lt h.counts g hg).1 ?_, h.cb, h.db, h.sb⟩
  · cases AS with
    | none => cases hg
    | some a => have := h.sb a rfl; simp [Value.ownBlock] at hg; omega
  · have := h.db; simp [Value.ownBlock] at hg; omega
theorem Crew.below (h : Crew W q q2 C AS cS D l) (hb : Below W.heap.size W W') : Crew W' q q2 C AS cS D l :=
  ⟨(hb.block C (lt_heap6' h.box)).trans h.box, own_next h.steps hb, own_next h.counts hb, h.cb, h.db, h.sb⟩
theorem Crew.c0 (h : Crew W q q2 C AS cS D l) : W.cell? ⟨C, 0, none⟩ = some (.slice AS l.length cS) := by rw [Lib.cell_of_heap h.box]; rfl
theorem Crew.c1 (h : Crew W q q2 C AS cS D l) : W.cell? ⟨C, 1, none⟩ = some (.slice (some ⟨D, 0, none⟩) (l.length + 1) (l.length + 1)) := by rw [Lib.cell_of_heap h.box]; rfl
theorem Crew.c2 (h : Crew W q q2 C AS cS D l) : W.cell? ⟨C, 2, none⟩ = some (.int .i64 (manyP l : Int)) := by rw [Lib.cell_of_heap h.box]; rfl
theorem Crew.cf (h : Crew W q q2 C AS cS D l) (i : Nat) : W.frozen? ⟨C, i, none⟩ = false := Lib.frozen_of_heap h.box i
theorem Crew.cnt (h : Crew W q q2 C AS cS D l) : ∀ n, n ≤ l.length → W.cell? ⟨D, n, none⟩ = some (.int .i64 (fenA l n)) := fun n hn => by
  have hc := h.counts
  rw [← fenL_len l] at hc
  obtain ⟨g, hg, _, _, _, hcell⟩ := own_row hc (by rw [fenL_len]; omega)
  have : g = D := by injection hg with e; injection e with e; exact e.symm
  subst this
  have := hcell n (by rw [fenL_len]; omega)
  rw [fenL_get l hn] at this
  exact this
end
theorem upto_any (W : World) (q q2 C : Nat) (AS : Option Addr) (cS D : Nat) (l : List Int) (last : Int) (h : Crew W q q2 C AS cS D l) (hl : l.length ≤ 11) (h1 : -1 ≤ last) (h2 : last < l.length) :
    Calls Try.prog 23 #[.pointer (some ⟨C, 0, none⟩), .int .i64 last] W fun e w' => e = .returned (.int .i64 (uptoP l last : Int)) ∧ W = w' := by
  obtain ⟨u, hu⟩ : ∃ u : Nat, last + 1 = u := ⟨(last + 1).toNat, by omega⟩
  have hup : uptoP l last = cntP l u := by unfold uptoP; rw [hu, Int.toNat_natCast]
  rw [hup]
  have hul : u ≤ l.length := by omega
  have hub := cntP_le l u
  obtain ⟨t, ht⟩ : ∃ t, t = cntP l u := ⟨_, rfl⟩
  rw [← ht] at hub ⊢
  have HT := Lib.hid ht
  have HC := Lib.hid h
  obtain rfl : last = (u : Int) - 1 := by omega
  have HU : (u : Int) - 1 + 1 = (u : Int) := by omega
  clear h hup ht hu
  go_enter Try.func23, Try.ntmps23
  go_wp2
  go_loopw [5, 6] (fun s n wr => ∃ (a b : Nat), b ≤ l.length ∧ a ≤ 11 ∧ s = .int .i64 (a : Int) ∧ n = .int .i64 (b : Int) ∧ Hid (a + cntP l b = t) ∧ wr = W) (fun _ n _ => (intOf n).toNat)
  case atStart => exact ⟨0, u, hul, by omega, rfl, by first | rfl | (rw [HU]), (show Hid _ from by show _ = _; rw [HT.out, Nat.zero_add]), rfl⟩
  case round =>
    obtain ⟨a, b, hb, ha, rfl, rfl, HA, hwr⟩ := hrel
    subst hwr
    by_cases hb0 : b = 0
    · subst hb0
      have hA := HA.out
      rw [show cntP l 0 = 0 from rfl, Nat.add_zero] at hA
      subst hA
      go_wp2
      go_ret
      exact ⟨rfl, by first | trivial | rfl⟩
    · have hbz : (0 : Int) < (b : Int) := by omega
      have y0 := HC.out.c1
      have y1 := HC.out.cnt b hb
      have hlo := lowest_any b wr (by omega) (by omega)
      obtain ⟨k1, k2⟩ := lowN_bd (n := b) (by omega)
      have hf : fenA l b = (cntP l b : Int) - (cntP l (b - lowN b) : Int) := rfl
      have hfb := fenA_bd l b
      have hcb := cntP_le l b
      have hmo := cntP_mono l (show b - lowN b ≤ b by omega)
      have hA := HA.out
      obtain ⟨z, hz⟩ : ∃ z, z = lowN b := ⟨_, rfl⟩
      rw [← hz] at hlo k1 k2 hf hmo
      obtain ⟨y, hy⟩ : ∃ y : Nat, fenA l b = y := ⟨(fenA l b).toNat, by omega⟩
      rw [hy] at y1 hf hfb
      have HE := Lib.hid (show (a + y) + cntP l (b - z) = t by omega)
      have hay : a + y ≤ 11 := by omega
      have hbl : (b : Int) < (l.length : Int) + 1 := by omega
      clear hz hf hfb hcb hmo hA hy
      go_wp2_with fail
      refine hlo.mono ?_
      rintro e w' ⟨rfl, hw'⟩
      subst hw'
      clear hlo
      go_wp2
      go_roundw
      case measure => simp [intOf]; omega
      case rel => exact ⟨a + y, b - z, by omega, hay, by go_num, by rw [show ((b - z : Nat) : Int) = (b : Int) - (z : Int) by omega], (show Hid _ from HE.out), by first | trivial | rfl⟩
/-- where the search is -/
structure AtP (l : List Int) (r T p z q : Nat) : Prop where
  zs : z = 0 ∨ z = 1 ∨ z = 2 ∨ z = 4 ∨ z = 8 ∨ z = 16
  sum : q + cntP l p = r
  le : p ≤ T
  fin : z = 0 → p = T
  lt : 0 < z → T < p + 2 * z ∧ p % (2 * z) = 0
theorem len_size {n : Nat} (h : n ≤ 11) : (2 ^ lenN n = 1 ∨ 2 ^ lenN n = 2 ∨ 2 ^ lenN n = 4 ∨ 2 ^ lenN n = 8 ∨ 2 ^ lenN n = 16) ∧ n < 2 * 2 ^ lenN n ∧ lenN n ≤ 4 := by
  have : n = 0 ∨ n = 1 ∨ n = 2 ∨ n = 3 ∨ n = 4 ∨ n = 5 ∨ n = 6 ∨ n = 7 ∨ n = 8 ∨ n = 9 ∨ n = 10 ∨ n = 11 := by omega
  rcases this with rfl | rfl | rfl | rfl | rfl | rfl | rfl | rfl | rfl | rfl | rfl | rfl
  all_goals decide
/-- on to the half -/
theorem AtP.half {l : List Int} {r T p z q p2 q2 : Nat} (h : AtP l r T p z q) (hz : 0 < z) (hs : q2 + cntP l p2 = r) (hle : p2 ≤ T) (hc : (p2 = p ∧ T < p + z) ∨ p2 = p + z) : AtP l r T p2 (z / 2) q2 := by
  obtain ⟨h1, h2⟩ := h.lt hz
  have h3 := h.zs
  refine ⟨by omega, hs, hle, fun h0 => by omega, fun h0 => ⟨by omega, ?_⟩⟩
  have h4 : z = 2 ∨ z = 4 ∨ z = 8 ∨ z = 16 := by omega
  rcases h4 with rfl | rfl | rfl | rfl <;> omega
set_option maxHeartbeats 4000000 in
theorem at_any (W : World) (q q2 C : Nat) (AS : Option Addr) (cS D : Nat) (l : List Int) (r : Nat) (h : Crew W q q2 C AS cS D l) (hl : l.length ≤ 11) (hr : r < manyP l) :
    Calls Try.prog 22 #[.pointer (some ⟨C, 0, none⟩), .int .i64 (r : Int)] W fun e w' => e = .returned (.int .i64 (kthP l r : Int)) ∧ Below W.heap.size W w' := by
  obtain ⟨k1, k2, k3⟩ := kth_ok hr
  have hkl := fun p => kth_lt (l := l) (p := p) hr
  obtain ⟨T, hT⟩ : ∃ T, T = kthP l r := ⟨_, rfl⟩
  rw [← hT] at k1 k2 k3 hkl ⊢
  have hrm := many_le l
  have HK := Lib.hid hkl
  have HC := Lib.hid h
  have hlen := fun W => len_any l.length W (by omega)
  obtain ⟨z1, z2, z3⟩ := len_size hl
  have c0 := h.c0
  have hr11 : r ≤ 11 := by omega
  have hsh : ((1 : Int) * 2 ^ lenN l.length : Int) = ((2 ^ lenN l.length : Nat) : Int) := by simp
  obtain ⟨e0, he0⟩ : ∃ e0, e0 = lenN l.length := ⟨_, rfl⟩
  rw [← he0] at hlen z1 z2 z3 hsh
  rw [Int.one_mul] at hsh
  obtain ⟨z0, hz0⟩ : ∃ z0 : Nat, z0 = 2 ^ e0 := ⟨_, rfl⟩
  rw [← hz0] at hsh z1 z2
  have HS : Hid (AtP l r T 0 z0 r) := ⟨by omega, rfl, Nat.zero_le _, fun h => by omega, fun _ => ⟨by omega, Nat.zero_mod _⟩⟩
  have HH := Lib.hid hsh
  clear h hkl hT k2 k3 he0 hr hsh hz0
  go_enter Try.func22, Try.ntmps22
  go_wp2_with fail
  refine (hlen _).mono ?_
  rintro e w' ⟨rfl, hw'⟩
  subst hw'
  clear hlen c0 z1 z2
  go_wp2_with fail
  rw [HH.out]
  go_loopw [1, 5, 6] (fun x y s wr => ∃ (p z f : Nat), x = .int .i64 (f : Int) ∧ y = .int .i64 (p : Int) ∧ s = .int .i64 (z : Int) ∧ Hid (AtP l r T p z f) ∧ Below W.heap.size W wr) (fun _ _ s _ => (intOf s).toNat)
  case atStart => exact ⟨0, z0, r, rfl, rfl, by rw [show wrap64 (z0 : Int) = z0 by have := HS.out.zs; unfold wrap64; omega], HS.out, Below.refl _ _⟩
  case round =>
    obtain ⟨p, z, f, rfl, rfl, rfl, HA, hb⟩ := hrel
    have hA := HA.out
    have hAz := hA.zs
    have hAs := hA.sum
    have hAl := hA.le
    by_cases hz : z = 0
    · have hpT := hA.fin hz
      subst hz
      clear hA hAz hAs hAl
      rw [hpT]
      go_wp2
      go_ret
      exact ⟨by first | rfl | (rw [hpT]; rfl), hb⟩
    · have hzz : (0 : Int) < (z : Int) := by omega
      obtain ⟨a1, a2⟩ := hA.lt (by omega)
      have hz16 : z ≤ 16 := by omega
      have hp11 : p ≤ 11 := by omega
      have hf11 : f ≤ 11 := by omega
      have HC2 := HC.out.below hb
      have y0 := HC2.c1
      have hh2 : (z : Int) / 2 = ((z / 2 : Nat) : Int) := by omega
      have HH2 := Lib.hid hh2
      clear hh2
      by_cases hn : p + z ≤ l.length
      · have hnz : ((p : Int) + (z : Int)) < (l.length : Int) + 1 := by omega
        have y1 := HC2.cnt (p + z) hn
        have hlow := low_pow (show z = 1 ∨ z = 2 ∨ z = 4 ∨ z = 8 by omega) a2
        have hfen : fenA l (p + z) = (cntP l (p + z) : Int) - (cntP l p : Int) := by
          unfold fenA
          rw [hlow, show p + z - z = p by omega]
        have hfb := fenA_bd l (p + z)
        obtain ⟨y, hy⟩ : ∃ y : Nat, fenA l (p + z) = y := ⟨(fenA l (p + z)).toNat, by omega⟩
        rw [hy] at y1 hfen hfb
        have hk := HK.out (p + z)
        by_cases hyf : y ≤ f
        · have HN := Lib.hid (hA.half (by omega) (p2 := p + z) (q2 := f - y) (by omega) (by omega) (.inr rfl))
          have hyz : (y : Int) ≤ (f : Int) := by omega
          clear hA hAz hAs hAl hlow hfen hfb hk hy a1 a2 HC2
          go_wp2_with fail
          have q0 := Qt.cell_in y0
          have q1 := Qt.cell_in y1
          have s1 : IntKind.i64.wrap ((f : Int) - (y : Int)) = (f : Int) - (y : Int) := by rw [IntKind.wrap_i64]; omega
          refine Qt.below_all (by kernel_rfl) (by kernel_rfl) ?_
          repeat (go_big_quiet_step (fail))
          refine wpQuiet_nil ?_
          intro w2 hb2
          have hb3 := Qt.more hb hb.size hb2
          clear q0 q1 y0 y1 s1
          go_wp2_with fail
          go_roundw
          case measure => simp [intOf]; omega
          case rel => exact ⟨p + z, z / 2, f - y, by rw [show ((f - y : Nat) : Int) = (f : Int) - (y : Int) by omega], by go_num, by rw [HH2.out], (show Hid _ from HN.out), hb3⟩
        · have HN := Lib.hid (hA.half (by omega) (p2 := p) (q2 := f) (by omega) (by omega) (.inl ⟨rfl, by omega⟩))
          have hyz : ¬ (y : Int) ≤ (f : Int) := by omega
          clear hA hAz hAs hAl hlow hfen hfb hk hy a1 a2 HC2
          go_wp2_with fail
          go_roundw
          case measure => simp [intOf]; omega
          case rel => exact ⟨p, z / 2, f, rfl, rfl, by rw [HH2.out], (show Hid _ from HN.out), hb⟩
      · have hnz : ¬ ((p : Int) + (z : Int)) < (l.length : Int) + 1 := by omega
        have HN := Lib.hid (hA.half (by omega) (p2 := p) (q2 := f) (by omega) (by omega) (.inl ⟨rfl, by omega⟩))
        clear hA hAz hAs hAl a1 a2 HC2
        go_wp2_with fail
        go_roundw
        case measure => simp [intOf]; omega
        case rel => exact ⟨p, z / 2, f, rfl, rfl, by rw [HH2.out], (show Hid _ from HN.out), hb⟩
end Go.Proofs.Ytffknldagconmaa
namespace Go.Proofs.Ytffknldagconmaa
set_option maxRecDepth 100000
set_option linter.unusedVariables false
set_option linter.unusedSimpArgs false
open Go.RowKit Go.Sort

/-- on the path of a place, ahead of n -/
def onP (k n m : Nat) : Bool := decide (m - lowN m ≤ k) && decide (k < m) && decide (m < n)
/-- the tree, its places on the path ahead of n one less -/
def fenTo (l : List Int) (k n : Nat) : List Int := rowF (l.length + 1) fun m => if onP k n m = true then fenA l m - 1 else fenA l m
theorem fenTo_len (l : List Int) (k n : Nat) : (fenTo l k n).length = l.length + 1 := rowF_len _ _
theorem fenTo_start (l : List Int) (k : Nat) : fenTo l k (k + 1) = fenL l := rowF_congr fun m hm => by
  have : onP k (k + 1) m = false := by
    unfold onP
    by_cases h : k < m
    · rw [decide_eq_false (p := m < k + 1) (by omega), Bool.and_false]
    · rw [decide_eq_false (p := k < m) h, Bool.and_false, Bool.false_and]
  rw [this]; rfl
theorem fenTo_get (l : List Int) {k n : Nat} (hn : n ≤ l.length) : (fenTo l k n).getD n 0 = fenA l n := by
  unfold fenTo
  rw [rowF_get _ (by omega)]
  have : onP k n n = false := by unfold onP; rw [decide_eq_false (p := n < n) (by omega), Bool.and_false]
  rw [this]; rfl
theorem fenTo_step (l : List Int) {k n : Nat} (hk : k < 11) (hl : l.length ≤ 11) (hn : n ≤ l.length) (h1 : n - lowN n ≤ k) (h2 : k < n) : (fenTo l k n).set n (fenA l n - 1) = fenTo l k (n + lowN n) := by
  unfold fenTo
  rw [rowF_set]
  refine rowF_congr fun m hm => ?_
  obtain ⟨p1, _⟩ := path_next hk (show n < 12 by omega) ⟨h1, h2⟩
  have hlo := lowN_bd (n := n) (by omega)
  have hp := p1 m (by omega)
  by_cases hmn : m = n
  · subst hmn
    rw [if_pos rfl]
    have : onP k (m + lowN m) m = true := by unfold onP; rw [decide_eq_true h1, decide_eq_true h2, decide_eq_true (by omega)]; rfl
    rw [this]; rfl
  · rw [if_neg hmn]
    have : onP k n m = onP k (n + lowN n) m := by
      unfold onP
      by_cases hlt : m < n
      · rw [decide_eq_true hlt, decide_eq_true (p := m < n + lowN n) (by omega)]
      · rw [decide_eq_false hlt, Bool.and_false]
        by_cases hlt2 : m < n + lowN n
        · have := hp (by omega) hlt2
          rw [← Bool.decide_and, decide_eq_false this, Bool.false_and]
        · rw [decide_eq_false hlt2, Bool.and_false]
    rw [this]
theorem fenTo_end (l : List Int) {k n : Nat} (hk : k < l.length) (h1 : l.getD k 0 = 1) (hn : l.length < n) : fenTo l k n = fenL (l.set k 0) := by
  unfold fenTo fenL
  rw [List.length_set]
  refine rowF_congr fun m hm => ?_
  have e1 := cntP_set l k 0 hk m
  have e2 := cntP_set l k 0 hk (m - lowN m)
  rw [h1, livI_yes (by decide), livI_no (by decide)] at e1 e2
  unfold fenA onP
  rw [decide_eq_true (p := m < n) (by omega), Bool.and_true, ← Bool.decide_and]
  by_cases hin : m - lowN m ≤ k ∧ k < m
  · rw [decide_eq_true hin, if_pos rfl]
    rw [if_pos hin.2, if_pos hin.2] at e1
    rw [if_neg (by omega), if_neg (by omega)] at e2
    omega
  · rw [decide_eq_false hin, if_neg (by decide)]
    by_cases hkm : k < m
    · rw [if_pos hkm, if_pos hkm] at e1
      rw [if_pos (by omega), if_pos (by omega)] at e2
      omega
    · rw [if_neg hkm, if_neg hkm] at e1
      rw [if_neg (by omega), if_neg (by omega)] at e2
      omega
theorem fenL_same (l : List Int) {k : Nat} (x : Int) (hk : k < l.length) (h1 : 0 < l.getD k 0) (h2 : 0 < x) : fenL (l.set k x) = fenL l ∧ manyP (l.set k x) = manyP l := by
  have hc : ∀ p, cntP (l.set k x) p = cntP l p := fun p => by
    have e := cntP_set l k x hk p
    rw [livI_yes h1, livI_yes h2] at e
    omega
  refine ⟨?_, ?_⟩
  · unfold fenL
    rw [List.length_set]
    refine rowF_congr fun m hm => ?_
    unfold fenA
    rw [hc, hc]
  · unfold manyP
    rw [List.length_set, hc]
theorem many_less (l : List Int) {k : Nat} (hk : k < l.length) (h1 : l.getD k 0 = 1) : manyP (l.set k 0) + 1 = manyP l := by
  have e := cntP_set l k 0 hk l.length
  rw [h1, livI_yes (by decide), livI_no (by decide), if_pos hk, if_pos hk] at e
  unfold manyP
  rw [List.length_set]
  omega
theorem heap_other {W : World} {b k i : Nat} {u : Value} (h : b ≠ k) : (W.setCell ⟨b, i, none⟩ u).heap[k]? = W.heap[k]? := by simp [World.setCell, Array.getElem?_modify, h]
theorem own_at {w : World} {B b n c : Nat} {l : List Int} (h : Own w B (.slice (some ⟨b, 0, none⟩) n c) l) (hn : n = l.length) (hl : 0 < l.length) : (∀ j, w.frozen? ⟨b, j, none⟩ = false) ∧ ∀ j, j < l.length → w.cell? ⟨b, j, none⟩ = some (.int .i64 (l.getD j 0)) := by
  subst hn
  obtain ⟨g, hg, _, _, hf, hc⟩ := own_row h hl
  have : g = b := by injection hg with e; injection e with e; exact e.symm
  subst this
  exact ⟨hf, hc⟩
theorem own_put {w : World} {B b n c : Nat} {l : List Int} (h : Own w B (.slice (some ⟨b, 0, none⟩) n c) l) (hn : n = l.length) (j : Nat) (x : Int) : Own (w.setCell ⟨b, j, none⟩ (.int .i64 x)) B (.slice (some ⟨b, 0, none⟩) n c) (l.set j x) := by
  subst hn
  exact (own_set h j x).1
/-- within a turn -/
structure Turning (W wr : World) (q q2 C S cS D : Nat) (l : List Int) (k n : Nat) : Prop where
  box : wr.heap[C]? = some (.cells #[.slice (some ⟨S, 0, none⟩) l.length cS, .slice (some ⟨D, 0, none⟩) (l.length + 1) (l.length + 1), .int .i64 ((manyP l : Int) - 1)] 43 (0, 0))
  steps : Own wr q (.slice (some ⟨S, 0, none⟩) l.length cS) (l.set k 0)
  counts : Own wr q (.slice (some ⟨D, 0, none⟩) (l.length + 1) (l.length + 1)) (fenTo l k n)
  st : St11 q q2 W wr
  path : (n ≤ l.length → n - lowN n ≤ k) ∧ k < n
/-- what a turn leaves -/
def TurnR (W : World) (q q2 C : Nat) (AS : Option Addr) (cS D : Nat) (l : List Int) (e : Ending) (w' : World) : Prop := (∃ v, e = .returned v) ∧ Crew w' q q2 C AS cS D l ∧ St11 q q2 W w'
set_option maxHeartbeats 8000000 in
theorem turn11_any (W : World) (q q2 C : Nat) (AS : Option Addr) (cS D : Nat) (l : List Int) (k : Nat) (h : Crew W q q2 C AS cS D l) (hl : l.length ≤ 11) (hk : 0 < l.getD k 0) (hk2 : l.getD k 0 ≤ 1000000) :
    Calls Try.prog 24 #[.pointer (some ⟨C, 0, none⟩), .int .i64 (k : Int)] W (TurnR W q q2 C AS cS D (l.set k (l.getD k 0 - 1))) := by
  have hkl := live_lt hk
  have hkz : (k : Int) < (l.length : Int) := by omega
  obtain ⟨S, rfl, hSq, hSl, hSf, hSc⟩ := own_row h.steps (by omega)
  have c0 := h.c0
  have c1 := h.c1
  have c2 := h.c2
  have cf2 := h.cf 2
  have y0 := hSc k hkl
  have yf := hSf k
  obtain ⟨hs1, hs2, hs3⟩ := h.sb _ rfl
  simp only at hs1 hs2 hs3
  obtain ⟨hd1, hd2⟩ := h.db
  obtain ⟨hcb1, hcb2⟩ := h.cb
  have hDq : q ≤ D := (World.ownsRow.lt h.counts D rfl).1
  have hsame := @fenL_same l k (l.getD k 0 - 1) hkl hk
  have hless := @many_less l k hkl
  have hend := fun n => @fenTo_end l k n hkl
  have hm0 := live_many hk
  have hml := many_le l
  have H1 : ∀ x, Own (W.setCell ⟨S, k, none⟩ (.int .i64 x)) q (.slice (some ⟨S, 0, none⟩) l.length cS) (l.set k x) := fun x => own_put h.steps rfl k x
  have H2 : ∀ x, Own (W.setCell ⟨S, k, none⟩ (.int .i64 x)) q (.slice (some ⟨D, 0, none⟩) (l.length + 1) (l.length + 1)) (fenL l) := fun x => own_keeps h.counts fun g hg => heap_other (by simp [Value.ownBlock] at hg; omega)
  have H3 : ∀ x, (W.setCell ⟨S, k, none⟩ (.int .i64 x)).heap[C]? = some (.cells #[.slice (some ⟨S, 0, none⟩) l.length cS, .slice (some ⟨D, 0, none⟩) (l.length + 1) (l.length + 1), .int .i64 (manyP l : Int)] 43 (0, 0)) := fun x => (heap_other (by omega)).trans h.box
  have H4 : ∀ x, St11 q q2 W (W.setCell ⟨S, k, none⟩ (.int .i64 x)) := fun x => (St11.refl _ _ _).set _ hSq hs1
  have hCS : ¬ S = C := hs2
  have hSD : ¬ S = D := hs3
  obtain ⟨x, hx⟩ : ∃ x, x = l.getD k 0 := ⟨_, rfl⟩
  rw [← hx] at hk hk2 y0 hsame hless hend ⊢
  have HX := Lib.hid hx
  have HC := Lib.hid h
  have HSM := Lib.hid hsame
  have HLS := Lib.hid hless
  have HED := Lib.hid hend
  have HW := Lib.hid (And.intro H1 (And.intro H2 (And.intro H3 H4)))
  have HM := Lib.hid (And.intro hm0 hml)
  clear h hSf hSc hx hsame hless hend H1 H2 H3 H4 hm0 hml
  by_cases hx1 : 1 < x
  · go_enter Try.func24, Try.ntmps24
    go_wp2_with fail
    obtain ⟨h1, h2, h3, h4⟩ := HW.out
    obtain ⟨e1, e2⟩ := HSM.out (by omega)
    refine bodyPost_ret (results_none rfl _ _ _) rfl ?_
    refine ⟨⟨_, rfl⟩, ⟨?_, ?_, ?_, ⟨hcb1, hcb2⟩, ⟨hd1, hd2⟩, fun a ha => by cases ha; exact ⟨hs1, hs2, hs3⟩⟩, h4 _⟩
    · rw [e2, List.length_set]; exact h3 _
    · rw [List.length_set]; exact h1 _
    · rw [e1, List.length_set]; exact h2 _
  · obtain rfl : x = 1 := by omega
    have hx1z : ¬ (1 : Int) < 1 := by decide
    clear hx1
    obtain ⟨m, hm⟩ : ∃ m, m = manyP l := ⟨_, rfl⟩
    have hmm : 1 ≤ m ∧ m ≤ 11 := by have := HM.out; omega
    rw [← hm] at c2
    have HT : Hid (Turning W ((W.setCell ⟨S, k, none⟩ (.int .i64 0)).setCell ⟨C, 2, none⟩ (.int .i64 ((m : Int) - 1))) q q2 C S cS D l k (k + 1)) := by
      obtain ⟨h1, h2, h3, h4⟩ := HW.out
      refine ⟨?_, own_keeps (h1 0) fun g hg => heap_other (by simp [Value.ownBlock] at hg; omega), ?_, (h4 0).set _ hcb1 hcb2, ⟨fun hn => by have := lowN_bd (n := k + 1) (by omega); omega, by omega⟩⟩
      · have := h3 0
        rw [← hm] at this ⊢
        simp [World.setCell, Array.getElem?_modify] at this ⊢
        rw [this]
        simp
      · rw [fenTo_start]
        exact own_keeps (h2 0) fun g hg => heap_other (by simp [Value.ownBlock] at hg; omega)
    have HMM := Lib.hid hm
    clear hm HW
    go_enter Try.func24, Try.ntmps24
    go_wp2_with fail
    clear c0 c1 c2 cf2 y0 yf
    generalize (W.setCell ⟨S, k, none⟩ (.int .i64 0)).setCell ⟨C, 2, none⟩ (.int .i64 ((m : Int) - 1)) = W1 at *
    go_loopw [4] (fun i wr => ∃ n : Nat, n ≤ 22 ∧ i = .int .i64 (n : Int) ∧ Hid (Turning W wr q q2 C S cS D l k n)) (fun i _ => 22 - (intOf i).toNat)
    case atStart => exact ⟨k + 1, by omega, by go_num, HT.out⟩
    case round =>
      obtain ⟨n, hn22, rfl, HR⟩ := hrel
      have hR := HR.out
      have y1 : wr.cell? ⟨C, 1, none⟩ = some (.slice (some ⟨D, 0, none⟩) (l.length + 1) (l.length + 1)) := by rw [Lib.cell_of_heap hR.box]; rfl
      by_cases hn : n ≤ l.length
      · have hnz : (n : Int) < (l.length : Int) + 1 := by omega
        obtain ⟨f1, f2⟩ := own_at hR.counts (fenTo_len _ _ _).symm (by rw [fenTo_len]; omega)
        have y2 := f2 n (by rw [fenTo_len]; omega)
        rw [fenTo_get l hn] at y2
        have yf := f1 n
        obtain ⟨p1, p2⟩ := hR.path
        have hfb := fenA_bd l n
        have hlb := lowN_bd (n := n) (by omega)
        have hput := own_put hR.counts (fenTo_len _ _ _).symm n (fenA l n - 1)
        rw [fenTo_step l (by omega) hl hn (p1 hn) p2] at hput
        have HN : Hid (Turning W (wr.setCell ⟨D, n, none⟩ (.int .i64 (fenA l n - 1))) q q2 C S cS D l k (n + lowN n)) :=
          ⟨(heap_other hd2).trans hR.box, own_keeps hR.steps fun g hg => heap_other (by simp [Value.ownBlock] at hg; omega), hput, hR.st.set _ hDq hd1, ⟨fun hle => (path_next (by omega) (by omega) ⟨p1 hn, p2⟩).2 (by omega), by omega⟩⟩
        have hlo := fun W => lowest_any n W (by omega) (by omega)
        obtain ⟨y, hy⟩ : ∃ y, y = fenA l n := ⟨_, rfl⟩
        rw [← hy] at y2 hfb HN
        obtain ⟨z, hz⟩ : ∃ z, z = lowN n := ⟨_, rfl⟩
        rw [← hz] at hlo hlb HN
        clear hR f1 f2 p1 p2 hput hy hz HR
        go_wp2_with fail
        refine (hlo _).mono ?_
        rintro e w' ⟨rfl, hw'⟩
        subst hw'
        clear hlo y1 y2 yf
        go_wp2_with fail
        go_roundw
        case measure => simp [intOf]; omega
        case rel => exact ⟨n + z, by omega, by go_num, HN.out⟩
      · have hnz : ¬ (n : Int) < (l.length : Int) + 1 := by omega
        have hend := HED.out n (by first | trivial | rfl) (by omega)
        have hless := HLS.out (by first | trivial | rfl)
        have HF : Hid (Crew wr q q2 C (some ⟨S, 0, none⟩) cS D (l.set k (1 - 1))) := by
          refine ⟨?_, ?_, ?_, ⟨hcb1, hcb2⟩, ⟨hd1, hd2⟩, fun a ha => by cases ha; exact ⟨hs1, hs2, hs3⟩⟩
          · rw [List.length_set, show (1 : Int) - 1 = 0 by decide, show ((manyP (l.set k 0) : Nat) : Int) = (manyP l : Int) - 1 by omega]; exact hR.box
          · rw [List.length_set]; exact hR.steps
          · rw [List.length_set, show (1 : Int) - 1 = 0 by decide, ← hend]; exact hR.counts
        have HST := Lib.hid hR.st
        clear hR hend hless HR
        go_wp2_with fail
        go_end0
        exact ⟨⟨_, rfl⟩, HF.out, HST.out⟩
end Go.Proofs.Ytffknldagconmaa
namespace Go.Proofs.Ytffknldagconmaa
set_option maxRecDepth 100000
set_option linter.unusedVariables false
set_option linter.unusedSimpArgs false
open Go.RowKit Go.Sort

theorem own_mono {w : World} {B B' : Nat} {v : Value} {l : List Int} (h : Own w B v l) (hb : B' ≤ B) : Own w B' v l := by
  refine ⟨h.1, ?_⟩
  rcases h.2 with h2 | ⟨g, cap, cur, h3, h4, h5⟩
  · exact .inl h2
  · exact .inr ⟨g, cap, cur, h3, by omega, h5⟩
/-- a copy of a slice of numbers, by append to nothing -/
theorem copy_run (A : Option Addr) (l : List Int) (c : Nat) (w : World) (hR : Now w A l) (hl : l.length ≤ 17592186044416) :
    ∃ v w', (Builtin.append_ #[22, 22] 22 #[.slice none 0 0, .slice A l.length c]).run Try.prog w = .ok v w' ∧ Own w' w.heap.size v l ∧ Below w.heap.size w w' := by
  obtain ⟨v', w', hr, h1, h2⟩ := appW_any (out := []) c (Nat.le_refl _) (World.ownsRow_nil w w.heap.size 3 1) hR (by simpa using hl)
  exact ⟨v', w', hr, h1, (Below.refl _ w).grown h2 (Nat.le_refl _) (fun k e => by simp [Value.ownBlock] at e)⟩
/-- what the document's Do answers: words of its own -/
def DoOwn (d : DoT) (w : World) (r : Ending) (w' : World) : Prop := ∃ A c, r = .returned (.tuple #[.slice A d.1.length c, .int .i64 d.2.1, .bool d.2.2.1, .int .i64 d.2.2.2]) ∧ Own w' w.heap.size (.slice A d.1.length c) d.1 ∧ Below w.heap.size w w'
theorem round_cases {x n : Int} (hn : I64 n) (hx : I64 x) :
    (0 < n ∧ wrap64 (x + n) < x ∧ mayW (x + n) = false) ∨ (¬ 0 < n ∧ n < 0 ∧ x < wrap64 (x + n) ∧ mayW (x + n) = false) ∨
      (wrap64 (x + n) = x + n ∧ (0 < n → ¬ wrap64 (x + n) < x) ∧ (n < 0 → ¬ x < wrap64 (x + n))) := by
  unfold I64 at hn hx
  have hs : wrap64 (x + n) = x + n ∨ (0 < n ∧ wrap64 (x + n) = x + n - 18446744073709551616 ∧ 9223372036854775807 < x + n) ∨ (n < 0 ∧ wrap64 (x + n) = x + n + 18446744073709551616 ∧ x + n < -9223372036854775808) := by
    unfold wrap64; omega
  rcases hs with hs | ⟨h1, h2, h⟩ | ⟨h1, h2, h⟩
  · exact .inr (.inr ⟨hs, by omega, by omega⟩)
  · exact .inl ⟨h1, by omega, by unfold mayW; rw [decide_eq_false (p := x + n ≤ 1152921504606846975) (by omega), Bool.and_false]⟩
  · exact .inr (.inl ⟨by omega, h1, by omega, by unfold mayW; rw [decide_eq_false (p := -1152921504606846975 ≤ x + n) (by omega), Bool.false_and]⟩)
end Go.Proofs.Ytffknldagconmaa
namespace Go.Proofs.Ytffknldagconmaa
set_option maxRecDepth 100000
set_option linter.unusedVariables false
set_option linter.unusedSimpArgs false
open Go.RowKit Go.Sort

/-- four numbers lie here -/
def A4At (w : World) (b o : Nat) (y : Ac) : Prop := w.cell? ⟨b, o, none⟩ = some (.int .i64 y.1) ∧ w.cell? ⟨b, o + 1, none⟩ = some (.int .i64 y.2.1) ∧ w.cell? ⟨b, o + 2, none⟩ = some (.int .i64 y.2.2.1) ∧ w.cell? ⟨b, o + 3, none⟩ = some (.int .i64 y.2.2.2)
theorem A4At.below {w w' : World} {b o B : Nat} {y : Ac} (h : A4At w b o y) (hb : Below B w w') (hx : b < B) : A4At w' b o y := by
  obtain ⟨h0, h1, h2, h3⟩ := h
  exact ⟨(hb.cell (p := ⟨b, o, none⟩) hx).trans h0, (hb.cell (p := ⟨b, o + 1, none⟩) hx).trans h1, (hb.cell (p := ⟨b, o + 2, none⟩) hx).trans h2, (hb.cell (p := ⟨b, o + 3, none⟩) hx).trans h3⟩
/-- The slice at A reads as four numbers each. -/
def RdA (w : World) (B : Nat) (A : Option Addr) (l : List Ac) : Prop :=
  ∀ j, j < l.length → ∃ b off, A = some ⟨b, off, none⟩ ∧ b < B ∧ A4At w b (off + j * 4) (l.getD j deadA)
theorem RdA.below {w w' : World} {B B' : Nat} {A : Option Addr} {l : List Ac} (h : RdA w B A l) (hb : Below B' w w') (hB : B ≤ B') : RdA w' B A l := fun j hj => by
  obtain ⟨b, off, e, hlt, h0⟩ := h j hj
  exact ⟨b, off, e, hlt, h0.below hb (Nat.lt_of_lt_of_le hlt hB)⟩
theorem RdA.more {w : World} {B B' : Nat} {A : Option Addr} {l : List Ac} (h : RdA w B A l) (hB : B ≤ B') : RdA w B' A l := fun j hj => by
  obtain ⟨b, off, e, hlt, h0⟩ := h j hj
  exact ⟨b, off, e, by omega, h0⟩
abbrev NowA (w : World) (A : Option Addr) (l : List Ac) : Prop := RdA w w.heap.size A l
theorem RdA.now {w w' : World} {A : Option Addr} {l : List Ac} (h : NowA w A l) (hb : Below w.heap.size w w') : NowA w' A l := (RdA.below h hb (Nat.le_refl _)).more hb.size
/-- what Play answers -/
abbrev PlT := List Int × List Int × Int
def PlAns (d : PlT) (w : World) (r : Ending) (w' : World) : Prop := ∃ A c A2 c2, r = .returned (.tuple #[.slice A d.1.length c, .slice A2 d.2.1.length c2, .int .i64 d.2.2]) ∧ d.1.length ≤ c ∧ Now w' A d.1 ∧ d.2.1.length ≤ c2 ∧ Now w' A2 d.2.1 ∧ Below w.heap.size w w'
theorem drop_get {l : List Ac} {k : Nat} (h : k < l.length) : l.drop k = l.getD k deadA :: l.drop (k + 1) := by
  rw [List.drop_eq_getElem_cons h, List.getD_eq_getElem?_getD, List.getElem?_eq_getElem h]; rfl
theorem playA_bad {m0 : List Int} {y : Ac} {r : List Ac} {m f : List Int} (h : (doA m y).2.2.2 ≠ 0) : playA m0 (y :: r) m f = (m0, [], (doA m y).2.2.2) := by rw [playA_cons, if_neg h]
theorem playA_ok {m0 : List Int} {y : Ac} {r : List Ac} {m f : List Int} (h : (doA m y).2.2.2 = 0) : playA m0 (y :: r) m f = playA m0 r (doA m y).1 (f ++ [(doA m y).2.1]) := by rw [playA_cons, if_pos h]

end Go.Proofs.Ytffknldagconmaa
namespace Go.Proofs.Ytffknldagconmaa
set_option maxRecDepth 100000
set_option linter.unusedVariables false
set_option linter.unusedSimpArgs false
open Go.RowKit Go.Sort

theorem makeW (n : Nat) (hn : n ≤ 17592186044416) (u : World) : ∃ u', (Instr.makeSlice 22 (.int .i64 (n : Int)) (.int .i64 (n : Int))).run Try.prog u = .ok (.slice (some ⟨u.heap.size, 0, none⟩) n n) u' ∧
    Own u' u.heap.size (.slice (some ⟨u.heap.size, 0, none⟩) n n) (List.replicate n 0) ∧ u.grownBy u' none := by
  obtain ⟨i0, hi, hz0, hz1, hz2⟩ := info_parts info_int
  obtain ⟨u', h1, h2, h3⟩ := run_make_full (P := Try.prog) u u.heap.size 22 3 i0 _ 1 Try.underlying22 hi hz0 hz1 .i64 .i64 n (by rw [hz2]; omega) (by unfold maxLen; omega) (Nat.le_refl _)
  refine ⟨u', h1, ?_, h3⟩
  have e : (madeCells (Value.int .i64 0).cells (n * 1)).toList = (List.replicate n (0 : Int)).map (Value.int .i64) := by
    rw [Nat.mul_one]
    show (madeCells #[Value.int .i64 0] n).toList = _
    rw [toList_madeCells_one, List.map_replicate]
  rw [e] at h2
  show World.ownsRow _ _ _ _ _ _ _
  rw [List.length_replicate]
  exact h2
theorem found_set {ff : List Int} {n k : Nat} (h : ff.length = k) (hk : k < n) (x : Int) : (ff ++ List.replicate (n - k) 0).set k x = (ff ++ [x]) ++ List.replicate (n - (k + 1)) 0 := by
  obtain ⟨j, rfl⟩ : ∃ j, n = k + 1 + j := ⟨n - k - 1, by omega⟩
  rw [show k + 1 + j - k = j + 1 by omega, show k + 1 + j - (k + 1) = j by omega, List.replicate_succ, List.set_append_right _ _ (by omega), h, Nat.sub_self, List.set_cons_zero, List.append_assoc]
  rfl
end Go.Proofs.Ytffknldagconmaa
namespace Go.Proofs.Ytffknldagconmaa.Qt
open Go Go.Sort Go.RowKit

section
variable {P : Program} {ops : Array Oper} {md : Region.Mode} {C : World → Prop}

/-- whatever stands behind n waits for something that stands at n or behind it -/
def depB (md : Region.Mode) (ops : Array Oper) (n : Nat) : Bool :=
  (List.range ops.size).all fun t => decide (t ≤ n) || (List.range t).any fun j => decide (n ≤ j) && Region.waitsFor md ops t j

theorem last_waits {n : Nat} {listed : Array Bool} (hs : Region.sinkB md ops n = true) (hn : n < ops.size) (inv : HeadInv md ops n listed) (d : Nat) :
    ∀ i, n - i ≤ d → i < n → listed.getD i true = false → n ∉ Region.ready md ops listed := by
  induction d with
  | zero => intro i hd hi; omega
  | succ d ih =>
    intro i hd hi hun hr
    obtain ⟨j, hj, hj2⟩ := List.any_eq_true.1 (List.all_eq_true.1 hs i (List.mem_range.2 hi))
    simp only [Bool.and_eq_true, decide_eq_true_eq] at hj2
    obtain ⟨oj, hoj, e, he, hb, hon⟩ := Region.waitsFor_spec hj2.2
    have hjn := List.mem_range.1 hj
    by_cases hl : listed.getD j false = true
    · have h2 := inv.closed j oj hoj hl e he hb
      rw [hon, getD_both hun] at h2
      cases h2
    · rcases Nat.lt_or_eq_of_le (Nat.le_of_lt_succ hjn) with hlt | heq
      · exact ih j (by omega) hlt (getD_in (by rw [inv.size]; omega) (by simpa using hl)) hr
      · subst heq
        obtain ⟨_, ot, hot, hall⟩ := mem_ready.1 hr
        obtain rfl : oj = ot := Option.some.inj (hoj.symm.trans hot)
        have h2 := hall e he hb
        rw [hon, getD_both hun] at h2
        cases h2

theorem rest_waits {n : Nat} {listed : Array Bool} (hs : Region.sinkB md ops n = true) (hd : depB md ops n = true) (hn : n < ops.size) (inv : HeadInv md ops n listed) {i : Nat} (hi : i < n) (hun : listed.getD i true = false) :
    ∀ t, n ≤ t → t ∉ Region.ready md ops listed := by
  intro t ht hr
  rcases Nat.lt_or_eq_of_le ht with hlt | heq
  · obtain ⟨_, ot, hot, hall⟩ := mem_ready.1 hr
    have hts : t < ops.size := (Array.getElem?_eq_some_iff.1 hot).1
    have h1 := List.all_eq_true.1 hd t (List.mem_range.2 hts)
    simp only [Bool.or_eq_true, decide_eq_true_eq] at h1
    rcases h1 with h1 | h1
    · omega
    · obtain ⟨j, hj, hj2⟩ := List.any_eq_true.1 h1
      simp only [Bool.and_eq_true, decide_eq_true_eq] at hj2
      obtain ⟨oj, hoj, e, he, hb, hon⟩ := Region.waitsFor_spec hj2.2
      obtain rfl : oj = ot := Option.some.inj (hoj.symm.trans hot)
      have h2 := hall e he hb
      have hjt := List.mem_range.1 hj
      rw [hon, getD_both (inv.tail j hj2.1 (by omega))] at h2
      cases h2
  · subst heq
    exact last_waits hs hn inv _ i (Nat.le_refl _) hi hun hr

theorem mid_first {n i : Nat} {oi : Oper} {v : Value} {L : Array Bool → Act → Prop} (hi : ops[i]? = some oi) (hsel : ∀ (j : Nat) (o : Oper) cs b, ops[j]? = some o → o.op ≠ .select cs b)
    (hs : Region.sinkB md ops n = true) (hc : depB md ops n = true) (hn : n < ops.size) (hin : i < n) (hdone : ∀ listed a, L listed a → ∀ j ∈ Region.ready md ops listed, n ≤ j) (f : Nat) :
    ∀ (listed : Array Bool) (a : Act), HeadInv md ops n listed →
      (∀ j oj, ops[j]? = some oj → j ≠ i → listed.getD j true = false → (∀ e ∈ oj.after, Region.binds md e = true → e.on ≠ i) → oi.apart ops oj = true) →
      i ∈ Region.ready md ops listed → YieldsIn P ops C oi v a →
      headAny P md ops C n L f (listed.setIfInBounds i true) (a.put oi.dst v) → headAny P md ops C n L (f + 1) listed a := by
  induction f with
  | zero =>
    intro listed a inv _ hr hy H
    refine ⟨fun h => (by rw [h] at hr; cases hr), fun j hj => ?_⟩
    have hjn : j < n := Nat.lt_of_not_le fun h => rest_waits hs hc hn inv hin (mem_ready.1 hr).1 j h hj
    refine ⟨hjn, ?_⟩
    by_cases hji : j = i
    · subst hji; exact hy.qOp hi H
    · exact absurd (hdone _ _ H j (ready_mono hj hji)) (by omega)
  | succ f ih =>
    intro listed a inv hfree hr hy H
    have hun := (mem_ready.1 hr).1
    refine ⟨fun h => (by rw [h] at hr; cases hr), fun j hj => ?_⟩
    have hjn : j < n := Nat.lt_of_not_le fun h => rest_waits hs hc hn inv hin hun j h hj
    refine ⟨hjn, ?_⟩
    by_cases hji : j = i
    · subst hji; exact hy.qOp hi H
    · obtain ⟨hjun, oj, hoj, hall⟩ := mem_ready.1 hj
      have hnot : ∀ e ∈ oj.after, Region.binds md e = true → e.on ≠ i := fun e he hb heq => by
        have h1 := hall e he hb
        rw [heq, getD_both hun] at h1
        cases h1
      have hq := qOp_put hoj (hfree j oj hoj hji hjun hnot) (fun cs b => hsel i oi cs b hi) (fun cs b => hsel j oj cs b hoj) hy (H.2 j (ready_mono hj hji)).2
      refine qOp_mono (fun a' h3 => ih (listed.setIfInBounds j true) a' (inv.set hj hjn) (fun k ok hk hki hku hno => hfree k ok hk hki ?_ hno) (ready_mono hr (Ne.symm hji)) h3.1 ?_) hq
      · by_cases hjk : j = k
        · subst hjk; exact hjun
        · rwa [getD_set_ne true hjk] at hku
      · rw [Array.setIfInBounds_comm _ _ hji]; exact h3.2

/-- behind the head: n alone may come, and behind it the rest ars it stands -/
def midEnd (md : Region.Mode) (ops : Array Oper) (n : Nat) (listed : Array Bool) : Bool :=
  decide (Region.ready md ops listed = [n]) && Region.lexFrom md ops (ops.size - (n + 1)) (n + 1) (listed.setIfInBounds n true)
def midHead (md : Region.Mode) (ops : Array Oper) (n : Nat) : Nat → Nat → Array Bool → Bool
  | 0, _, listed => midEnd md ops n listed
  | f + 1, k, listed => (Region.ready md ops listed).contains k && Region.free md ops listed k && midHead md ops n f (k + 1) (listed.setIfInBounds k true)
def midB (md : Region.Mode) (ops : Array Oper) (n : Nat) : Bool :=
  Region.noSelect ops && decide (n < ops.size) && Region.sinkB md ops n && depB md ops n && midHead md ops n n 0 (Array.replicate ops.size false)

theorem mid_lex {n : Nat} {Lq : Act → Prop} (hsel : Region.noSelect ops = true) (hs : Region.sinkB md ops n = true) (hc : depB md ops n = true) (hn : n < ops.size) (l : List Oper) :
    ∀ (k : Nat) (listed : Array Bool) (a : Act), (∀ j, j < l.length → l[j]? = ops[k + j]?) → k + l.length = n → HeadInv md ops n listed →
    midHead md ops n l.length k listed = true → wpQuiet P ops C Lq l a →
    headAny P md ops C n (fun listed' a' => midEnd md ops n listed' = true ∧ Lq a') l.length listed a := by
  induction l with
  | nil =>
    intro k listed a _ hk _ hB h
    exact ⟨by simpa [midHead] using hB, h⟩
  | cons o l ih =>
    intro k listed a hl hk inv hB h
    have h0 : ops[k]? = some o := by simpa using (hl 0 (by simp)).symm
    simp only [List.length_cons, midHead, Bool.and_eq_true] at hB
    have hkn : k < n := by simp only [List.length_cons] at hk; omega
    have hr' : k ∈ Region.ready md ops listed := by simpa using hB.1.1
    have hst : qOp P ops C k (wpQuiet P ops C Lq l) a := by unfold qOp; simp only [h0]; exact h
    obtain ⟨v, hy, hK⟩ := yieldsIn_of_qOp h0 hst
    refine mid_first h0 (Region.noSelect_spec hsel) hs hc hn hkn (fun listed' a' hL j hj => ?_) l.length listed a inv (Region.free_spec h0 hB.1.2) hr' hy
      (ih (k + 1) _ _ (fun j hj => by have := hl (j + 1) (by simp; omega); simpa [Nat.add_assoc, Nat.add_comm 1 j] using this) (by simp only [List.length_cons] at hk; omega) (inv.set hr' hkn) hB.2 hK)
    have h1 := hL.1
    simp only [midEnd, Bool.and_eq_true, decide_eq_true_eq] at h1
    rw [h1.1] at hj
    have : j = n := by simpa using hj
    omega

theorem wpOp_call {n : Nat} {o : Oper} {f : FuncId} {ars : Array Operand} {ts : Array TypeId} {Q : Exit → Act → World → Prop} {K : Act → World → Prop} {a : Act} {w : World} (ho : ops[n]? = some o) (hg : o.guard = none)
    {fn : Func} (hf : P.funcs[f]? = some fn) (hnm0 : (fn.name == "runtime.NumGoroutine") = false) (hbd0 : fn.body.isNone = false) (hop : o.op = .call { callee := .value (.func f), args := ars, argTypes := ts }) (h : Calls P f (ars.map a.eval) w fun e w' => ∃ v, e = .returned v ∧ K (a.put o.dst v) w') : wpOp P ops Q n K a w := by
  unfold wpOp
  simp only [ho]
  have hw : Region.wanted o (yielded ops a.tmps) = true := by simp [Region.wanted, hg]
  rw [if_pos hw]
  left
  unfold Oper.wp
  have hnm : ¬ fn.name = "runtime.NumGoroutine" := by simpa using hnm0
  have hbd : ¬ fn.body = none := fun e => by rw [e] at hbd0; cases hbd0
  have he : a.eval (.func f) = .func (.func f) #[] #[] := rfl
  simp [execOp, hop, resolve, invoke, Result.andThen, Oper.upon, he, Deferred.ofValue, callFunc, hf, hnm, hbd]
  refine h.mono ?_
  rintro e w' ⟨v, rfl, hk⟩
  exact hk

/-- One walk of the text: quiet, the call, quiet. -/
theorem region_call {id : Nat} {Q : Exit → Act → World → Prop} {a : Act} {w : World} {l : List Oper} (n : Nat) {o : Oper} {f : FuncId} {ars : Array Operand} {ts : Array TypeId} (hm : P.follows .mixedOrders = true) (hB : midB .any l.toArray n = true)
    (ho : l[n]? = some o) (hg : o.guard = none) {fn : Func} (hf : P.funcs[f]? = some fn) (hnm0 : (fn.name == "runtime.NumGoroutine") = false) (hbd0 : fn.body.isNone = false) (hop : o.op = .call { callee := .value (.func f), args := ars, argTypes := ts })
    (h : wpQuiet P l.toArray (fun w' => ∃ p : Regrown, w' = grow (redrawn w p.d) p.os) (fun a' => ∀ w', Below w.heap.size w w' → Calls P f (ars.map a'.eval) w' fun e w'' => ∃ v, e = .returned v ∧
      wpQuiet P l.toArray (fun w3 => ∃ p : Regrown, w3 = grow (redrawn w'' p.d) p.os) (fun a3 => ∀ w3, Below w''.heap.size w'' w3 → Q .normal a3 w3) (l.drop (n + 1)) (a'.put o.dst v)) (l.take n) a) : (Code.region id l.toArray true).wp P Q a w := by
  simp only [midB, Bool.and_eq_true, decide_eq_true_eq] at hB
  obtain ⟨⟨⟨⟨hsel, hn⟩, hs⟩, hc⟩, hlex⟩ := hB
  have hn' : n < l.length := by simpa using hn
  have htl : (l.take n).length = n := by simp; omega
  have hdl : (l.drop (n + 1)).length = l.toArray.size - (n + 1) := by simp
  have inv0 : HeadInv .any l.toArray n (Array.replicate l.toArray.size false) :=
    ⟨by simp, fun j oj _ hl => (by rw [getD_replicate_false] at hl; cases hl), fun t _ ht => getD_in (by simpa using ht) (getD_replicate_false _ _)⟩
  have ho' : l.toArray[n]? = some o := by simpa using ho
  have H := mid_lex (P := P) (C := fun w' => ∃ p : Regrown, w' = grow (redrawn w p.d) p.os) (md := .any) hsel hs hc hn (l.take n) 0 _ a (fun j hj => by rw [htl] at hj; simp [hj]) (by simpa using htl) inv0 (by rw [htl]; exact hlex) h
  refine wp_region_any hm ?_
  have e := any_of_head (Q := Q) (g := l.toArray.size - n) (fun listed a' w' hw' hL => by
    obtain ⟨h1, h2⟩ := hL
    simp only [midEnd, Bool.and_eq_true, decide_eq_true_eq] at h1
    obtain ⟨p, hp⟩ := hw'
    rw [show l.toArray.size - n = (l.toArray.size - (n + 1)) + 1 by omega]
    refine ⟨fun h0 => (by rw [h1.1] at h0; cases h0), fun i hi => ?_⟩
    rw [h1.1] at hi
    obtain rfl : i = n := by simpa using hi
    refine wpOp_call ho' hg hf hnm0 hbd0 hop ((h2 w' (hp ▸ below_regrown w p.d p.os)).mono fun e w'' ⟨v, he, hq⟩ => ⟨v, he, ?_⟩)
    refine wpAny_of_quiet (C := fun w3 => ∃ p : Regrown, w3 = grow (redrawn w'' p.d) p.os) (Q := fun a3 => ∀ w3, Below w''.heap.size w'' w3 → Q .normal a3 w3) (fun a3 w3 ⟨p3, hp3⟩ h3 => h3 w3 (hp3 ▸ below_regrown w'' p3.d p3.os)) _ _ _ _ ⟨⟨w''.drawn, #[]⟩, by rw [grow_empty]; rfl⟩ ?_
    have := wpAnyQ_lex (P := P) (C := fun w3 => ∃ p : Regrown, w3 = grow (redrawn w'' p.d) p.os) (md := .any) hsel (l.drop (i + 1)) (i + 1) (listed.setIfInBounds i true) (a'.put o.dst v) (fun j => by simp [List.getElem?_drop]) (by rw [hdl]; exact h1.2) hq
    rwa [hdl] at this) _ _ _ w.drew ⟨⟨w.drawn + 1, #[]⟩, by rw [grow_empty]; rfl⟩ H
  rw [htl, show n + (l.toArray.size - n) = l.toArray.size by omega] at e
  exact e
end
end Go.Proofs.Ytffknldagconmaa.Qt
namespace Go.Proofs.Ytffknldagconmaa.Qt
open Go Go.Sort Go.RowKit

/-- It ends as it should, nothing else. -/
def Qn (K : Act → World → Prop) : Exit → Act → World → Prop := fun x a w => x = .normal ∧ K a w

section
variable {P : Program} {ops : Array Oper} {md : Region.Mode} {C : World → Prop}

def PureV (P : Program) (ops : Array Oper) (o : Oper) (v : Value) (a : Act) : Prop :=
  Region.wanted o (yielded ops a.tmps) = true ∧ ∀ w, (execOp a.eval o).run P w = .ok (.value v) w

theorem no_letsOut {K : Act → World → Prop} (h : LetsOut (Qn K)) : False := by
  obtain ⟨a, w, h1, _⟩ := h
  cases h1

theorem upon_qn {o : Oper} {a : Act} {K K' : Act → World → Prop} {Kf : Act → World → Prop} {Q' : Exit → Act → World → Prop} (h : ∀ a w, K a w → K' a w) (r : Result Next) (hh : o.upon P a K (Qn Kf) r) : o.upon P a K' Q' r := by
  cases r with
  | ok n w' =>
    cases n <;> simp only [Oper.upon] at hh ⊢ <;>
      first
        | exact h _ _ hh
        | exact Calls.mono hh (fun e w'' he => by cases e <;> first | exact h _ _ he | exact absurd he.1 (by simp) | exact (no_letsOut he).elim)
        | exact Rows.mono hh (fun _ _ he => h _ _ he)
  | halt x w' => cases x <;> simp only [Oper.upon] at hh ⊢ <;> first | exact hh | exact absurd hh.1 (by simp)

theorem wpOp_qn {i : Nat} {a : Act} {w : World} {K K' : Act → World → Prop} {Kf : Act → World → Prop} {Q' : Exit → Act → World → Prop} (h : ∀ a w, K a w → K' a w) (hh : wpOp P ops (Qn Kf) i K a w) : wpOp P ops Q' i K' a w := by
  unfold wpOp at *
  split
  · exact h _ _ (by simpa [*] using hh)
  · rename_i o ho
    simp only [ho] at hh
    split
    · rename_i hw
      simp only [hw, if_true] at hh
      rcases hh with hh | hh
      · left; unfold Oper.wp at *; exact upon_qn h _ hh
      · exact (no_letsOut hh.2).elim
    · rename_i hw; simp only [hw] at hh; exact h _ _ hh

theorem any_qn {Kf : Act → World → Prop} {Q : Exit → Act → World → Prop} (hQ : ∀ a w, Kf a w → Q .normal a w) (f : Nat) : ∀ listed a w, wpAny P md ops (Qn Kf) f listed a w → wpAny P md ops Q f listed a w := by
  induction f with
  | zero => intro listed a w h; exact ⟨h.1, hQ _ _ h.2.2⟩
  | succ f ih => intro listed a w h; exact ⟨fun h0 => hQ _ _ (h.1 h0).2, fun i hi => wpOp_qn (fun a' w' h' => ih _ a' w' h') (h.2 i hi)⟩

theorem upon_put {o : Oper} {a : Act} {d : Option Nat} {v : Value} {K : Act → World → Prop} {Kf : Act → World → Prop} {R : Act → Prop} (hc : ∀ (a : Act) u, (a.put d v).put o.dst u = (a.put o.dst u).put d v)
    (hk : ∀ a u, R a → R (a.put o.dst u)) (hd : ∀ (a : Act) ds, R a → R { a with defers := ds }) (ha : R a) (r : Result Next) (hh : o.upon P (a.put d v) K (Qn Kf) r) :
    o.upon P a (fun a' w' => R a' ∧ K (a'.put d v) w') (Qn Kf) r := by
  cases r with
  | ok n w' =>
    cases n <;> simp only [Oper.upon] at hh ⊢ <;>
      first
        | (rw [hc] at hh; exact ⟨hk _ _ ha, hh⟩)
        | exact Calls.mono hh (fun e w'' he => by cases e <;> first | (simp only [hc] at he; exact ⟨hk _ _ ha, he⟩) | exact absurd he.1 (by simp) | exact (no_letsOut he).elim)
        | exact Rows.mono hh (fun _ _ he => by rw [hc] at he; exact ⟨hk _ _ ha, he⟩)
        | (rename_i dd
           have e : ({ a.put d v with defers := dd :: (a.put d v).defers } : Act) = ({ a with defers := dd :: a.defers } : Act).put d v := by cases d <;> rfl
           rw [e, hc] at hh
           exact ⟨hk _ _ (hd _ _ ha), hh⟩)
  | halt x w' => cases x <;> simp only [Oper.upon] at hh ⊢ <;> first | exact hh | exact absurd hh.1 (by simp)

theorem wpOp_put {j : Nat} {oi oj : Oper} {v : Value} (hj : ops[j]? = some oj) (hap : oi.apart ops oj = true) (hsi : ∀ cs b, oi.op ≠ .select cs b) (hsj : ∀ cs b, oj.op ≠ .select cs b) {K : Act → World → Prop} {Kf : Act → World → Prop} {a : Act} {w : World}
    (hp : PureV P ops oi v a) (h : wpOp P ops (Qn Kf) j K (a.put oi.dst v) w) : wpOp P ops (Qn Kf) j (fun a' w' => PureV P ops oi v a' ∧ K (a'.put oi.dst v) w') a w := by
  obtain ⟨h1, h2, h3⟩ := Oper.apart_spec hap
  have keep : ∀ (a : Act) u, PureV P ops oi v a → PureV P ops oi v (a.put oj.dst u) := fun a u hp => by
    unfold PureV at *
    rw [execOp_put oi hsi a oj.dst u h3, wanted_put oi a oj.dst u h3]
    exact hp
  unfold wpOp at *
  simp only [hj] at *
  rw [wanted_put oj a oi.dst v h1] at h
  split
  · rename_i hw
    simp only [hw, if_true] at h
    rcases h with h | h
    · left
      unfold Oper.wp at *
      rw [execOp_put oj hsj a oi.dst v h1] at h
      exact upon_put (R := PureV P ops oi v) (fun a u => Act.put_comm a v u h2) keep (fun _ _ h => h) hp _ h
    · exact (no_letsOut h.2).elim
  · rename_i hw
    simp only [hw] at h
    exact ⟨keep _ _ hp, by rw [← Act.put_comm a v undef h2]; exact h⟩

theorem PureV.op {i : Nat} {oi : Oper} {v : Value} {a : Act} (hi : ops[i]? = some oi) (hp : PureV P ops oi v a) {K : Act → World → Prop} {Q : Exit → Act → World → Prop} {w : World} (h : K (a.put oi.dst v) w) : wpOp P ops Q i K a w := by
  unfold wpOp
  simp only [hi, hp.1, if_true]
  left
  unfold Oper.wp
  rw [hp.2 w]
  exact h

/-- It may come first. -/
theorem any_first {Kf : Act → World → Prop} {i : Nat} {oi : Oper} {v : Value} (hi : ops[i]? = some oi) (hsel : ∀ (j : Nat) (o : Oper) cs b, ops[j]? = some o → o.op ≠ .select cs b) (f : Nat) :
    ∀ (listed : Array Bool) (a : Act) (w : World),
      (∀ j oj, ops[j]? = some oj → j ≠ i → listed.getD j true = false → (∀ e ∈ oj.after, Region.binds md e = true → e.on ≠ i) → oi.apart ops oj = true) →
      i ∈ Region.ready md ops listed → PureV P ops oi v a →
      wpAny P md ops (Qn Kf) f (listed.setIfInBounds i true) (a.put oi.dst v) w → wpAny P md ops (Qn Kf) (f + 1) listed a w := by
  induction f with
  | zero =>
    intro listed a w _ hr hp H
    refine ⟨fun h => (by rw [h] at hr; cases hr), fun j hj => ?_⟩
    by_cases hji : j = i
    · subst hji; exact hp.op hi H
    · have := ready_mono hj hji
      rw [H.1] at this
      cases this
  | succ f ih =>
    intro listed a w hfree hr hp H
    refine ⟨fun h => (by rw [h] at hr; cases hr), fun j hj => ?_⟩
    by_cases hji : j = i
    · subst hji; exact hp.op hi H
    · obtain ⟨hjun, oj, hoj, hall⟩ := mem_ready.1 hj
      have hun := (mem_ready.1 hr).1
      have hnot : ∀ e ∈ oj.after, Region.binds md e = true → e.on ≠ i := fun e he hb heq => by
        have h1 := hall e he hb
        rw [heq, getD_both hun] at h1
        cases h1
      refine wpOp_mono (fun a' w' h3 => ih (listed.setIfInBounds j true) a' w' (fun k ok hk hki hku hno => hfree k ok hk hki ?_ hno) (ready_mono hr (Ne.symm hji)) h3.1 ?_)
        (wpOp_put hoj (hfree j oj hoj hji hjun hnot) (fun cs b => hsel i oi cs b hi) (fun cs b => hsel j oj cs b hoj) hp (H.2 j (ready_mono hj hji)))
      · by_cases hjk : j = k
        · subst hjk; exact hjun
        · rwa [getD_set_ne true hjk] at hku
      · rw [Array.setIfInBounds_comm _ _ hji]; exact h3.2

/-! ### operations that only move come first, then the rest in the one order that is left -/

/-- The rest of the region in one order alone, by the numbers of its operations. -/
def oneOrder (md : Region.Mode) (ops : Array Oper) : List Nat → Array Bool → Bool
  | [], listed => (Region.ready md ops listed).isEmpty
  | k :: ks, listed => decide (Region.ready md ops listed = [k]) && oneOrder md ops ks (listed.setIfInBounds k true)
def firstB (md : Region.Mode) (ops : Array Oper) (rs : List Nat) : List Nat → Array Bool → Bool
  | [], listed => oneOrder md ops rs listed
  | k :: ks, listed => (Region.ready md ops listed).contains k && Region.free md ops listed k && firstB md ops rs ks (listed.setIfInBounds k true)

def pureSteps (P : Program) (ops : Array Oper) (L : Act → Prop) : List Nat → Act → Prop
  | [], a => L a
  | k :: ks, a => ∃ (o : Oper) (d : Option Tmp) (v : Value), ops[k]? = some o ∧ o.dst = d ∧ PureV P ops o v a ∧ pureSteps P ops L ks (a.put d v)

theorem any_oneOrder {Kf : Act → World → Prop} (rs : List Nat) : ∀ (l : List Oper) (listed : Array Bool) (a : Act) (w : World), rs.map (fun k => ops[k]?) = l.map some → oneOrder md ops rs listed = true → wpList P ops (Qn Kf) l a w → wpAny P md ops (Qn Kf) rs.length listed a w := by
  induction rs with
  | nil =>
    intro l listed a w hl hB h
    obtain rfl : l = [] := by simpa using hl.symm
    exact ⟨by simpa [oneOrder] using hB, h⟩
  | cons k rs ih =>
    intro l listed a w hl hB h
    cases l with
    | nil => simp at hl
    | cons o l =>
      simp only [List.map_cons, List.cons.injEq] at hl
      simp only [oneOrder, Bool.and_eq_true, decide_eq_true_eq] at hB
      refine ⟨fun h1 => (by rw [hB.1] at h1; cases h1), fun i hi => ?_⟩
      rw [hB.1] at hi
      obtain rfl : i = k := by simpa using hi
      have hw : wpOp P ops (Qn Kf) i (wpList P ops (Qn Kf) l) a w := by unfold wpOp; simp only [hl.1]; exact h
      exact wpOp_mono (fun a' w' h' => ih l _ a' w' hl.2 hB.2 h') hw

theorem any_pure {Kf : Act → World → Prop} (hsel : Region.noSelect ops = true) (rs : List Nat) (l : List Oper) (hl : rs.map (fun k => ops[k]?) = l.map some) (w : World) (ks : List Nat) :
    ∀ (listed : Array Bool) (a : Act), firstB md ops rs ks listed = true → pureSteps P ops (fun a' => wpList P ops (Qn Kf) l a' w) ks a → wpAny P md ops (Qn Kf) (ks.length + rs.length) listed a w := by
  induction ks with
  | nil =>
    intro listed a hB h
    rw [List.length_nil, Nat.zero_add]
    exact any_oneOrder rs l listed a w hl hB h
  | cons k ks ih =>
    intro listed a hB h
    obtain ⟨o, d, v, ho, hd, hp, hrest⟩ := h
    subst hd
    simp only [firstB, Bool.and_eq_true] at hB
    rw [List.length_cons, show ks.length + 1 + rs.length = (ks.length + rs.length) + 1 by omega]
    exact any_first ho (Region.noSelect_spec hsel) _ listed a w (Region.free_spec ho hB.1.2) (by simpa using hB.1.1) hp (ih _ _ hB.2 hrest)

theorem region_pure {id : Nat} {Q : Exit → Act → World → Prop} {a : Act} {w : World} {l : List Oper} (ks rs : List Nat) (lr : List Oper) (hm : P.follows .mixedOrders = true) (hsel : Region.noSelect l.toArray = true)
    (hB : firstB .any l.toArray rs ks (Array.replicate l.toArray.size false) = true) (hlen : ks.length + rs.length = l.length) (hl : rs.map (fun k => l[k]?) = lr.map some)
    (h : pureSteps P l.toArray (fun a' => wpList P l.toArray (Qn fun a w => Q .normal a w) lr a' w.drew) ks a) : (Code.region id l.toArray true).wp P Q a w := by
  refine wp_region_any hm ?_
  have := any_pure (P := P) (md := .any) (Kf := fun a w => Q .normal a w) hsel rs lr (by simpa using hl) w.drew ks _ a hB h
  rw [hlen] at this
  have e := any_qn (fun a w h => h) _ _ _ _ this
  simpa using e

theorem map_filterMap {α : Type} (f : Nat → Option α) (rs : List Nat) (h : rs.all (fun k => (f k).isSome) = true) : rs.map f = (rs.filterMap f).map some := by
  induction rs with
  | nil => rfl
  | cons k rs ih =>
    simp only [List.all_cons, Bool.and_eq_true] at h
    obtain ⟨v, hv⟩ := Option.isSome_iff_exists.1 h.1
    simp [hv, ih h.2]

theorem region_pure_at {id : Nat} {Q : Exit → Act → World → Prop} {a : Act} {w : World} {l : List Oper} (ks rs : List Nat) (hm : P.follows .mixedOrders = true) (hsel : Region.noSelect l.toArray = true)
    (hB : firstB .any l.toArray rs ks (Array.replicate l.toArray.size false) = true) (hlen : ks.length + rs.length = l.length) (hl : rs.all (fun k => (l[k]?).isSome) = true)
    (h : pureSteps P l.toArray (fun a' => wpList P l.toArray (Qn fun a w => Q .normal a w) (rs.filterMap fun k => l[k]?) a' w.drew) ks a) : (Code.region id l.toArray true).wp P Q a w :=
  region_pure ks rs _ hm hsel hB hlen (map_filterMap _ rs hl) h

theorem region_pure4 {P : Program} {id : Nat} {Q : Exit → Act → World → Prop} {a : Act} {w : World} {l : List Oper} (ks : List Nat) (r0 r1 r2 r3 : Nat) {o0 o1 o2 o3 : Oper} (hm : P.follows .mixedOrders = true) (hsel : Region.noSelect l.toArray = true)
    (hB : firstB .any l.toArray [r0, r1, r2, r3] ks (Array.replicate l.toArray.size false) = true) (hlen : ks.length + 4 = l.length) (h0 : l[r0]? = some o0) (h1 : l[r1]? = some o1) (h2 : l[r2]? = some o2) (h3 : l[r3]? = some o3)
    (h : pureSteps P l.toArray (fun a' => wpList P l.toArray (Qn fun a w => Q .normal a w) [o0, o1, o2, o3] a' w.drew) ks a) : (Code.region id l.toArray true).wp P Q a w :=
  region_pure ks [r0, r1, r2, r3] [o0, o1, o2, o3] hm hsel hB hlen (by simp [h0, h1, h2, h3]) h

/-! ### Operation 0 first, then quiet ones in whatever order, then the rest in one order -/
def sinkFrom (md : Region.Mode) (ops : Array Oper) (s n : Nat) : Bool :=
  (List.range n).all fun i => decide (i < s) || (List.range (n + 1)).any fun j => decide (i < j) && Region.waitsFor md ops j i

theorem last_waits' {s n : Nat} {listed : Array Bool} (hs : sinkFrom md ops s n = true) (hn : n < ops.size) (inv : HeadInv md ops n listed) (d : Nat) :
    ∀ i, n - i ≤ d → s ≤ i → i < n → listed.getD i true = false → n ∉ Region.ready md ops listed := by
  induction d with
  | zero => intro i hd _ hi; omega
  | succ d ih =>
    intro i hd hsi hi hun hr
    have h0 := List.all_eq_true.1 hs i (List.mem_range.2 hi)
    simp only [Bool.or_eq_true, decide_eq_true_eq] at h0
    rcases h0 with h0 | h0
    · omega
    obtain ⟨j, hj, hj2⟩ := List.any_eq_true.1 h0
    simp only [Bool.and_eq_true, decide_eq_true_eq] at hj2
    obtain ⟨oj, hoj, e, he, hb, hon⟩ := Region.waitsFor_spec hj2.2
    have hjn := List.mem_range.1 hj
    by_cases hl : listed.getD j false = true
    · have h2 := inv.closed j oj hoj hl e he hb
      rw [hon, getD_both hun] at h2
      cases h2
    · rcases Nat.lt_or_eq_of_le (Nat.le_of_lt_succ hjn) with hlt | heq
      · exact ih j (by omega) (by omega) hlt (getD_in (by rw [inv.size]; omega) (by simpa using hl)) hr
      · subst heq
        obtain ⟨_, ot, hot, hall⟩ := mem_ready.1 hr
        obtain rfl : oj = ot := Option.some.inj (hoj.symm.trans hot)
        have h2 := hall e he hb
        rw [hon, getD_both hun] at h2
        cases h2

theorem rest_waits' {s n : Nat} {listed : Array Bool} (hs : sinkFrom md ops s n = true) (hd : depB md ops n = true) (hn : n < ops.size) (inv : HeadInv md ops n listed) {i : Nat} (hsi : s ≤ i) (hi : i < n) (hun : listed.getD i true = false) :
    ∀ t, n ≤ t → t ∉ Region.ready md ops listed := by
  intro t ht hr
  rcases Nat.lt_or_eq_of_le ht with hlt | heq
  · obtain ⟨_, ot, hot, hall⟩ := mem_ready.1 hr
    have hts : t < ops.size := (Array.getElem?_eq_some_iff.1 hot).1
    have h1 := List.all_eq_true.1 hd t (List.mem_range.2 hts)
    simp only [Bool.or_eq_true, decide_eq_true_eq] at h1
    rcases h1 with h1 | h1
    · omega
    · obtain ⟨j, hj, hj2⟩ := List.any_eq_true.1 h1
      simp only [Bool.and_eq_true, decide_eq_true_eq] at hj2
      obtain ⟨oj, hoj, e, he, hb, hon⟩ := Region.waitsFor_spec hj2.2
      obtain rfl : oj = ot := Option.some.inj (hoj.symm.trans hot)
      have h2 := hall e he hb
      have hjt := List.mem_range.1 hj
      rw [hon, getD_both (inv.tail j hj2.1 (by omega))] at h2
      cases h2
  · subst heq
    exact last_waits' hs hn inv _ i (Nat.le_refl _) hsi hi hun hr

theorem late_first {s n i : Nat} {oi : Oper} {v : Value} {L : Array Bool → Act → Prop} (hi : ops[i]? = some oi) (hsel : ∀ (j : Nat) (o : Oper) cs b, ops[j]? = some o → o.op ≠ .select cs b)
    (hs : sinkFrom md ops s n = true) (hc : depB md ops n = true) (hn : n < ops.size) (hsi : s ≤ i) (hin : i < n) (hdone : ∀ listed a, L listed a → ∀ j ∈ Region.ready md ops listed, n ≤ j) (f : Nat) :
    ∀ (listed : Array Bool) (a : Act), HeadInv md ops n listed →
      (∀ j oj, ops[j]? = some oj → j ≠ i → listed.getD j true = false → (∀ e ∈ oj.after, Region.binds md e = true → e.on ≠ i) → oi.apart ops oj = true) →
      i ∈ Region.ready md ops listed → YieldsIn P ops C oi v a →
      headAny P md ops C n L f (listed.setIfInBounds i true) (a.put oi.dst v) → headAny P md ops C n L (f + 1) listed a := by
  induction f with
  | zero =>
    intro listed a inv _ hr hy H
    refine ⟨fun h => (by rw [h] at hr; cases hr), fun j hj => ?_⟩
    have hjn : j < n := Nat.lt_of_not_le fun h => rest_waits' hs hc hn inv hsi hin (mem_ready.1 hr).1 j h hj
    refine ⟨hjn, ?_⟩
    by_cases hji : j = i
    · subst hji; exact hy.qOp hi H
    · exact absurd (hdone _ _ H j (ready_mono hj hji)) (by omega)
  | succ f ih =>
    intro listed a inv hfree hr hy H
    have hun := (mem_ready.1 hr).1
    refine ⟨fun h => (by rw [h] at hr; cases hr), fun j hj => ?_⟩
    have hjn : j < n := Nat.lt_of_not_le fun h => rest_waits' hs hc hn inv hsi hin hun j h hj
    refine ⟨hjn, ?_⟩
    by_cases hji : j = i
    · subst hji; exact hy.qOp hi H
    · obtain ⟨hjun, oj, hoj, hall⟩ := mem_ready.1 hj
      have hnot : ∀ e ∈ oj.after, Region.binds md e = true → e.on ≠ i := fun e he hb heq => by
        have h1 := hall e he hb
        rw [heq, getD_both hun] at h1
        cases h1
      have hq := qOp_put hoj (hfree j oj hoj hji hjun hnot) (fun cs b => hsel i oi cs b hi) (fun cs b => hsel j oj cs b hoj) hy (H.2 j (ready_mono hj hji)).2
      refine qOp_mono (fun a' h3 => ih (listed.setIfInBounds j true) a' (inv.set hj hjn) (fun k ok hk hki hku hno => hfree k ok hk hki ?_ hno) (ready_mono hr (Ne.symm hji)) h3.1 ?_) hq
      · by_cases hjk : j = k
        · subst hjk; exact hjun
        · rwa [getD_set_ne true hjk] at hku
      · rw [Array.setIfInBounds_comm _ _ hji]; exact h3.2

theorem late_lex {s n g : Nat} {Lq : Act → Prop} (hsel : Region.noSelect ops = true) (hs : sinkFrom md ops s n = true) (hc : depB md ops n = true) (hn : n < ops.size) (l : List Oper) :
    ∀ (k : Nat) (listed : Array Bool) (a : Act), s ≤ k → (∀ j, j < l.length → l[j]? = ops[k + j]?) → k + l.length = n → HeadInv md ops n listed →
    Region.lexHead md ops g l.length k listed = true → wpQuiet P ops C Lq l a →
    headAny P md ops C n (fun listed' a' => Region.seqB md ops g n listed' = true ∧ Lq a') l.length listed a := by
  induction l with
  | nil =>
    intro k listed a _ _ hk _ hB h
    obtain rfl : k = n := by simpa using hk
    exact ⟨by simpa [Region.lexHead] using hB, h⟩
  | cons o l ih =>
    intro k listed a hsk hl hk inv hB h
    have h0 : ops[k]? = some o := by simpa using (hl 0 (by simp)).symm
    simp only [List.length_cons, Region.lexHead, Bool.and_eq_true] at hB
    have hkn : k < n := by simp only [List.length_cons] at hk; omega
    have hr' : k ∈ Region.ready md ops listed := by simpa using hB.1.1
    have hst : qOp P ops C k (wpQuiet P ops C Lq l) a := by unfold qOp; simp only [h0]; exact h
    obtain ⟨v, hy, hK⟩ := yieldsIn_of_qOp h0 hst
    exact late_first h0 (Region.noSelect_spec hsel) hs hc hn hsk hkn (fun listed' a' hL => seqB_ready hL.1) l.length listed a inv (Region.free_spec h0 hB.1.2) hr' hy
      (ih (k + 1) _ _ (by omega) (fun j hj => by have := hl (j + 1) (by simp; omega); simpa [Nat.add_assoc, Nat.add_comm 1 j] using this) (by simp only [List.length_cons] at hk; omega) (inv.set hr' hkn) hB.2 hK)

def lateB (md : Region.Mode) (ops : Array Oper) (n : Nat) : Bool :=
  Region.noSelect ops && decide (n < ops.size) && sinkFrom md ops 1 n && depB md ops n && (Region.ready md ops (Array.replicate ops.size false)).contains 0 && Region.free md ops (Array.replicate ops.size false) 0 &&
    Region.lexHead md ops (ops.size - n) (n - 1) 1 ((Array.replicate ops.size false).setIfInBounds 0 true)

theorem region_late {id : Nat} {Q : Exit → Act → World → Prop} {a : Act} {w : World} {l : List Oper} {o : Oper} {v : Value} (n : Nat) (hn0 : 0 < n) (hm : P.follows .mixedOrders = true) (hB : lateB .any l.toArray n = true) (ho : l[0]? = some o) (hp : PureV P l.toArray o v a)
    (h : wpQuiet P l.toArray (fun w' => ∃ p : Regrown, w' = grow (redrawn w p.d) p.os) (fun a' => ∀ w', Below w.heap.size w w' → wpList P l.toArray (Qn fun a w => Q .normal a w) (l.drop n) a' w') ((l.take n).drop 1) (a.put o.dst v)) : (Code.region id l.toArray true).wp P Q a w := by
  simp only [lateB, Bool.and_eq_true, decide_eq_true_eq] at hB
  obtain ⟨⟨⟨⟨⟨⟨hsel, hn⟩, hs⟩, hc⟩, hr0⟩, hf0⟩, hlex⟩ := hB
  have hn' : n < l.length := by simpa using hn
  have htl : ((l.take n).drop 1).length = n - 1 := by simp; omega
  have hdl : (l.drop n).length = l.toArray.size - n := by simp
  have ho' : l.toArray[0]? = some o := by simpa using ho
  have hr0' : 0 ∈ Region.ready .any l.toArray (Array.replicate l.toArray.size false) := by simpa using hr0
  have inv0 : HeadInv .any l.toArray n (Array.replicate l.toArray.size false) :=
    ⟨by simp, fun j oj _ hl => (by rw [getD_replicate_false] at hl; cases hl), fun t _ ht => getD_in (by simpa using ht) (getD_replicate_false _ _)⟩
  have inv1 := inv0.set hr0' hn0
  have H := late_lex (P := P) (C := fun w' => ∃ p : Regrown, w' = grow (redrawn w p.d) p.os) (md := .any) (g := l.toArray.size - n) hsel hs hc hn ((l.take n).drop 1) 1 _ (a.put o.dst v) (Nat.le_refl _)
    (fun j hj => by rw [htl] at hj; rw [List.getElem?_drop, List.getElem?_take, if_pos (by omega)]; simp) (by rw [htl]; omega) inv1 (by rw [htl]; exact hlex) h
  refine wp_region_any hm ?_
  have e := any_of_head (Q := Qn fun a w => Q .normal a w) (g := l.toArray.size - n) (fun listed a' w' hw' hL => by
    obtain ⟨p, hp'⟩ := hw'
    have := wpAny_of_seq (md := .any) (Q' := Qn fun a w => Q .normal a w) (l.drop n) n listed a' w' (fun j => by simp [List.getElem?_drop]) (by rw [hdl]; exact hL.1) (hL.2 w' (hp' ▸ below_regrown w p.d p.os))
    rwa [hdl] at this) _ _ _ w.drew ⟨⟨w.drawn + 1, #[]⟩, by rw [grow_empty]; rfl⟩ H
  have e2 := any_first (P := P) (md := .any) (Kf := fun a w => Q .normal a w) ho' (Region.noSelect_spec hsel) _ _ a w.drew (Region.free_spec ho' hf0) hr0' hp e
  rw [htl, show n - 1 + (l.toArray.size - n) + 1 = l.toArray.size by omega] at e2
  exact any_qn (fun a w h => h) _ _ _ _ e2
end
end Go.Proofs.Ytffknldagconmaa.Qt
namespace Go.Proofs.Ytffknldagconmaa.Qt
open Go Go.Sort Go.RowKit

section
variable {P : Program} {ops : Array Oper} {md : Region.Mode}

/-- (true, k): operation k only moves a value; (false, k): operation k is the only one that may come. -/
def scriptB (md : Region.Mode) (ops : Array Oper) : List (Bool × Nat) → Array Bool → Bool
  | [], listed => (Region.ready md ops listed).isEmpty
  | (true, k) :: s, listed => (Region.ready md ops listed).contains k && Region.free md ops listed k && scriptB md ops s (listed.setIfInBounds k true)
  | (false, k) :: s, listed => decide (Region.ready md ops listed = [k]) && scriptB md ops s (listed.setIfInBounds k true)
def scriptW (P : Program) (ops : Array Oper) (Kf : Act → World → Prop) : List (Bool × Nat) → Act → World → Prop
  | [], a, w => Kf a w
  | (true, k) :: s, a, w => ∃ (o : Oper) (d : Option Tmp) (v : Value), ops[k]? = some o ∧ o.dst = d ∧ PureV P ops o v a ∧ scriptW P ops Kf s (a.put d v) w
  | (false, k) :: s, a, w => ∃ o : Oper, ops[k]? = some o ∧ wpList P ops (Qn (scriptW P ops Kf s)) [o] a w

theorem any_script {Kf : Act → World → Prop} (hsel : Region.noSelect ops = true) (s : List (Bool × Nat)) :
    ∀ (listed : Array Bool) (a : Act) (w : World), scriptB md ops s listed = true → scriptW P ops Kf s a w → wpAny P md ops (Qn Kf) s.length listed a w := by
  induction s with
  | nil =>
    intro listed a w hB h
    exact ⟨by simpa [scriptB] using hB, rfl, h⟩
  | cons x s ih =>
    intro listed a w hB h
    obtain ⟨b, k⟩ := x
    cases b with
    | true =>
      obtain ⟨o, d, v, ho, hd, hp, hrest⟩ := h
      subst hd
      simp only [scriptB, Bool.and_eq_true] at hB
      exact any_first ho (Region.noSelect_spec hsel) _ listed a w (Region.free_spec ho hB.1.2) (by simpa using hB.1.1) hp (ih _ _ _ hB.2 hrest)
    | false =>
      obtain ⟨o, ho, h⟩ := h
      simp only [scriptB, Bool.and_eq_true, decide_eq_true_eq] at hB
      refine ⟨fun h1 => (by rw [hB.1] at h1; cases h1), fun i hi => ?_⟩
      rw [hB.1] at hi
      obtain rfl : i = k := by simpa using hi
      have hw : wpOp P ops (Qn (scriptW P ops Kf s)) i (wpList P ops (Qn (scriptW P ops Kf s)) []) a w := by unfold wpOp; simp only [ho]; exact h
      exact wpOp_qn (fun a' w' h' => ih _ a' w' hB.2 h'.2) hw

theorem region_script {id : Nat} {Q : Exit → Act → World → Prop} {a : Act} {w : World} {l : List Oper} (s : List (Bool × Nat)) (hm : P.follows .mixedOrders = true) (hsel : Region.noSelect l.toArray = true)
    (hB : scriptB .any l.toArray s (Array.replicate l.toArray.size false) = true) (hlen : s.length = l.length)
    (h : scriptW P l.toArray (fun a w => Q .normal a w) s a w.drew) : (Code.region id l.toArray true).wp P Q a w := by
  refine wp_region_any hm ?_
  have := any_script (P := P) (md := .any) (Kf := fun a w => Q .normal a w) hsel s _ a w.drew hB h
  rw [hlen] at this
  have e := any_qn (fun a w h => h) _ _ _ _ this
  simpa using e
end
end Go.Proofs.Ytffknldagconmaa.Qt
namespace Go.Proofs.Ytffknldagconmaa.Qt
open Go Go.Sort Go.RowKit

inductive Scr where
  | done : Scr
  | pure : Nat → Scr → Scr
  | only : Nat → Scr → Scr
  | two : Nat → Nat → Scr → Scr → Scr
  | three : Nat → Nat → Nat → Scr → Scr → Scr → Scr

def Scr.len : Scr → Nat
  | .done => 0
  | .pure _ s => s.len + 1
  | .only _ s => s.len + 1
  | .two _ _ s _ => s.len + 1
  | .three _ _ _ s _ _ => s.len + 1

section
variable {P : Program} {ops : Array Oper} {md : Region.Mode}

def treeB (md : Region.Mode) (ops : Array Oper) : Scr → Array Bool → Bool
  | .done, listed => (Region.ready md ops listed).isEmpty
  | .pure k s, listed => (Region.ready md ops listed).contains k && Region.free md ops listed k && treeB md ops s (listed.setIfInBounds k true)
  | .only k s, listed => decide (Region.ready md ops listed = [k]) && treeB md ops s (listed.setIfInBounds k true)
  | .two j k s t, listed => decide (Region.ready md ops listed = [j, k]) && decide (s.len = t.len) && treeB md ops s (listed.setIfInBounds j true) && treeB md ops t (listed.setIfInBounds k true)
  | .three i j k r s t, listed => decide (Region.ready md ops listed = [i, j, k]) && decide (r.len = s.len) && decide (r.len = t.len) && treeB md ops r (listed.setIfInBounds i true) && treeB md ops s (listed.setIfInBounds j true) && treeB md ops t (listed.setIfInBounds k true)
def treeW (P : Program) (ops : Array Oper) (Kf : Act → World → Prop) : Scr → Act → World → Prop
  | .done, a, w => Kf a w
  | .pure k s, a, w => ∃ (o : Oper) (d : Option Tmp) (v : Value), ops[k]? = some o ∧ o.dst = d ∧ PureV P ops o v a ∧ treeW P ops Kf s (a.put d v) w
  | .only k s, a, w => ∃ o : Oper, ops[k]? = some o ∧ wpList P ops (Qn (treeW P ops Kf s)) [o] a w
  | .two j k s t, a, w => (∃ o : Oper, ops[j]? = some o ∧ wpList P ops (Qn (treeW P ops Kf s)) [o] a w) ∧ ∃ o : Oper, ops[k]? = some o ∧ wpList P ops (Qn (treeW P ops Kf t)) [o] a w
  | .three i j k r s t, a, w => (∃ o : Oper, ops[i]? = some o ∧ wpList P ops (Qn (treeW P ops Kf r)) [o] a w) ∧ (∃ o : Oper, ops[j]? = some o ∧ wpList P ops (Qn (treeW P ops Kf s)) [o] a w) ∧ ∃ o : Oper, ops[k]? = some o ∧ wpList P ops (Qn (treeW P ops Kf t)) [o] a w

theorem any_tree {Kf : Act → World → Prop} (hsel : Region.noSelect ops = true) (s : Scr) :
    ∀ (listed : Array Bool) (a : Act) (w : World), treeB md ops s listed = true → treeW P ops Kf s a w → wpAny P md ops (Qn Kf) s.len listed a w := by
  induction s with
  | done =>
    intro listed a w hB h
    exact ⟨by simpa [treeB] using hB, rfl, h⟩
  | pure k s ih =>
    intro listed a w hB h
    obtain ⟨o, d, v, ho, hd, hp, hrest⟩ := h
    subst hd
    simp only [treeB, Bool.and_eq_true] at hB
    exact any_first ho (Region.noSelect_spec hsel) _ listed a w (Region.free_spec ho hB.1.2) (by simpa using hB.1.1) hp (ih _ _ _ hB.2 hrest)
  | only k s ih =>
    intro listed a w hB h
    obtain ⟨o, ho, h⟩ := h
    simp only [treeB, Bool.and_eq_true, decide_eq_true_eq] at hB
    refine ⟨fun h1 => (by rw [hB.1] at h1; cases h1), fun i hi => ?_⟩
    rw [hB.1] at hi
    obtain rfl : i = k := by simpa using hi
    have hw : wpOp P ops (Qn (treeW P ops Kf s)) i (wpList P ops (Qn (treeW P ops Kf s)) []) a w := by unfold wpOp; simp only [ho]; exact h
    exact wpOp_qn (fun a' w' h' => ih _ a' w' hB.2 h'.2) hw
  | two j k s t ihs iht =>
    intro listed a w hB h
    obtain ⟨⟨o, ho, h1⟩, ⟨o', ho', h2⟩⟩ := h
    simp only [treeB, Bool.and_eq_true, decide_eq_true_eq] at hB
    obtain ⟨⟨⟨hr, hl⟩, hs⟩, ht⟩ := hB
    refine ⟨fun h1 => (by rw [hr] at h1; cases h1), fun i hi => ?_⟩
    rw [hr] at hi
    simp only [List.mem_cons, List.not_mem_nil, or_false] at hi
    rcases hi with rfl | rfl
    · have hw : wpOp P ops (Qn (treeW P ops Kf s)) i (wpList P ops (Qn (treeW P ops Kf s)) []) a w := by unfold wpOp; simp only [ho]; exact h1
      exact wpOp_qn (fun a' w' h' => ihs _ a' w' hs h'.2) hw
    · have hw : wpOp P ops (Qn (treeW P ops Kf t)) i (wpList P ops (Qn (treeW P ops Kf t)) []) a w := by unfold wpOp; simp only [ho']; exact h2
      refine wpOp_qn (fun a' w' h' => ?_) hw
      have := iht _ a' w' ht h'.2
      rwa [← hl] at this
  | three p j k r s t ihr ihs iht =>
    intro listed a w hB h
    obtain ⟨⟨o0, ho0, h0⟩, ⟨o, ho, h1⟩, ⟨o', ho', h2⟩⟩ := h
    simp only [treeB, Bool.and_eq_true, decide_eq_true_eq] at hB
    obtain ⟨⟨⟨⟨⟨hr, hl⟩, hl2⟩, h3⟩, hs⟩, ht⟩ := hB
    refine ⟨fun h1 => (by rw [hr] at h1; cases h1), fun i hi => ?_⟩
    rw [hr] at hi
    simp only [List.mem_cons, List.not_mem_nil, or_false] at hi
    rcases hi with rfl | rfl | rfl
    · have hw : wpOp P ops (Qn (treeW P ops Kf r)) i (wpList P ops (Qn (treeW P ops Kf r)) []) a w := by unfold wpOp; simp only [ho0]; exact h0
      exact wpOp_qn (fun a' w' h' => ihr _ a' w' h3 h'.2) hw
    · have hw : wpOp P ops (Qn (treeW P ops Kf s)) i (wpList P ops (Qn (treeW P ops Kf s)) []) a w := by unfold wpOp; simp only [ho]; exact h1
      refine wpOp_qn (fun a' w' h' => ?_) hw
      have := ihs _ a' w' hs h'.2
      rwa [← hl] at this
    · have hw : wpOp P ops (Qn (treeW P ops Kf t)) i (wpList P ops (Qn (treeW P ops Kf t)) []) a w := by unfold wpOp; simp only [ho']; exact h2
      refine wpOp_qn (fun a' w' h' => ?_) hw
      have := iht _ a' w' ht h'.2
      rwa [← hl2] at this

theorem region_tree {id : Nat} {Q : Exit → Act → World → Prop} {a : Act} {w : World} {l : List Oper} (s : Scr) (hm : P.follows .mixedOrders = true) (hsel : Region.noSelect l.toArray = true)
    (hB : treeB .any l.toArray s (Array.replicate l.toArray.size false) = true) (hlen : s.len = l.length)
    (h : treeW P l.toArray (fun a w => Q .normal a w) s a w.drew) : (Code.region id l.toArray true).wp P Q a w := by
  refine wp_region_any hm ?_
  have := any_tree (P := P) (md := .any) (Kf := fun a w => Q .normal a w) hsel s _ a w.drew hB h
  rw [hlen] at this
  have e := any_qn (fun a w h => h) _ _ _ _ this
  simpa using e
end
end Go.Proofs.Ytffknldagconmaa.Qt
