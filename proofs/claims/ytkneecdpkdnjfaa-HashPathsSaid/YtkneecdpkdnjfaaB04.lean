/-
  Texts that the claims of this seat share, part 4.
-/
import Derived.Test.YtkneecdpkdnjfaaB03
set_option linter.unusedVariables false
set_option linter.unusedSimpArgs false
namespace Go.Proofs.Ytkneecdpkdnjfaa
set_option maxRecDepth 100000
set_option linter.unusedVariables false
set_option linter.unusedSimpArgs false
open Go.RowKit Go.Sort

/-- a list of numbers that came in -/
structure InL (w : World) (A : Option Addr) (l : List Int) (c : Nat) : Prop where
  now : Now w A l
  len : l.length ≤ 9223372036854775807
  fit : ∀ j, j < l.length → I64 (l.getD j 0)
theorem InL.below {w w' : World} {A : Option Addr} {l : List Int} {c : Nat} (h : InL w A l c) (hb : Below w.heap.size w w') : InL w' A l c := ⟨h.now.below hb, h.len, h.fit⟩
theorem upto_step (l : List Int) (last : Int) {k : Nat} (h : 0 < l.getD k 0) (hl : (k : Int) ≤ last) : cntP l (min (k + 1) (last + 1).toNat) = cntP l (min k (last + 1).toNat) + 1 := by
  rw [show min (k + 1) (last + 1).toNat = k + 1 by omega, show min k (last + 1).toNat = k by omega, live_cnt h]
theorem upto_same (l : List Int) (last : Int) {k : Nat} (h : ¬ 0 < l.getD k 0 ∨ last < (k : Int)) : cntP l (min (k + 1) (last + 1).toNat) = cntP l (min k (last + 1).toNat) := by
  by_cases hk : k + 1 ≤ (last + 1).toNat
  · rw [show min (k + 1) (last + 1).toNat = k + 1 by omega, show min k (last + 1).toNat = k by omega, cntP_succ]
    rcases h with h | h
    · rw [livI_no h, Nat.add_zero]
    · omega
  · rw [show min (k + 1) (last + 1).toNat = min k (last + 1).toNat by omega]
theorem upto_all (l : List Int) (last : Int) : cntP l (min l.length (last + 1).toNat) = uptoP l last := by
  unfold uptoP
  rcases Nat.le_total l.length (last + 1).toNat with h | h
  · rw [Nat.min_eq_left h, cntP_past l h]; rfl
  · rw [Nat.min_eq_right h]
end Go.Proofs.Ytkneecdpkdnjfaa
namespace Go.Proofs.Ytkneecdpkdnjfaa
set_option maxRecDepth 100000
set_option linter.unusedVariables false
set_option linter.unusedSimpArgs false
open Go.RowKit Go.Sort

/-! ### what lies in blocks q to q2 may change -/
structure St11 (q q2 : Nat) (A B : World) : Prop where
  os : B.os = A.os
  tape : B.tape = A.tape
  output : B.output = A.output
  size : A.heap.size ≤ B.heap.size
  same : ∀ k, k < A.heap.size → (k < q ∨ q2 ≤ k) → B.heap[k]? = A.heap[k]?
theorem St11.refl (q q2 : Nat) (A : World) : St11 q q2 A A := ⟨rfl, rfl, rfl, Nat.le_refl _, fun _ _ _ => rfl⟩
theorem St11.trans {q q2 : Nat} {A B C : World} (h : St11 q q2 A B) (k : St11 q q2 B C) : St11 q q2 A C :=
  ⟨k.os.trans h.os, k.tape.trans h.tape, k.output.trans h.output, Nat.le_trans h.size k.size, fun j hj hc => (k.same j (Nat.lt_of_lt_of_le hj h.size) hc).trans (h.same j hj hc)⟩
theorem St11.set {q q2 : Nat} {A B : World} (h : St11 q q2 A B) {b i : Nat} (v : Value) (h1 : q ≤ b) (h2 : b < q2) : St11 q q2 A (B.setCell ⟨b, i, none⟩ v) := by
  refine h.trans ⟨rfl, rfl, rfl, by simp, fun k hk hc => ?_⟩
  have hne : ¬ b = k := by omega
  simp [World.setCell, Array.getElem?_modify, hne]
theorem St11.below {q q2 : Nat} {A B : World} (h : St11 q q2 A B) (hq : q ≤ A.heap.size) : Below q A B := ⟨h.os, h.tape, h.output, h.size, fun k hk => h.same k (by omega) (.inl hk)⟩
theorem st_below {q q2 : Nat} {A B : World} (h : Below A.heap.size A B) : St11 q q2 A B := ⟨h.os, h.tape, h.output, h.size, fun k hk _ => h.block k hk⟩

/-- a list told place by place -/
def rowF (n : Nat) (f : Nat → Int) : List Int := (List.range n).map f
theorem rowF_len (n : Nat) (f : Nat → Int) : (rowF n f).length = n := by unfold rowF; simp
theorem rowF_get {n i : Nat} (f : Nat → Int) (h : i < n) : (rowF n f).getD i 0 = f i := by
  unfold rowF
  rw [List.getD_eq_getElem?_getD, List.getElem?_map, List.getElem?_range h]
  rfl
theorem rowF_congr {n : Nat} {f g : Nat → Int} (h : ∀ i, i < n → f i = g i) : rowF n f = rowF n g := by
  unfold rowF
  exact List.map_congr_left fun i hi => h i (List.mem_range.1 hi)
theorem rowF_set (n i : Nat) (f : Nat → Int) (x : Int) : (rowF n f).set i x = rowF n (fun k => if k = i then x else f k) := by
  refine List.ext_getElem? fun k => ?_
  rw [List.getElem?_set]
  unfold rowF
  by_cases hk : k < n
  · rw [List.getElem?_map, List.getElem?_map, List.getElem?_range hk]
    by_cases hik : i = k
    · subst hik
      simp [hk]
    · have : ¬ k = i := fun e => hik e.symm
      simp [hik, this]
  · rw [List.getElem?_eq_none (by simp; omega), List.getElem?_eq_none (by simp; omega)]
    split <;> simp; omega
/-! ### the tree of counts -/
theorem lowN_bd {n : Nat} (h : 1 ≤ n) : 1 ≤ lowN n ∧ lowN n ≤ n := by
  unfold lowN
  repeat' split
  all_goals omega
theorem low_pow {p z : Nat} (hz : z = 1 ∨ z = 2 ∨ z = 4 ∨ z = 8) (hp : p % (2 * z) = 0) : lowN (p + z) = z := by
  unfold lowN
  rcases hz with rfl | rfl | rfl | rfl
  all_goals repeat' split
  all_goals omega
/-- how many are left of those that a place of the tree tells of -/
def fenA (l : List Int) (n : Nat) : Int := (cntP l n : Int) - (cntP l (n - lowN n) : Int)
theorem fenA_bd (l : List Int) (n : Nat) : 0 ≤ fenA l n ∧ fenA l n ≤ n := by
  have h1 := cntP_mono l (show n - lowN n ≤ n by omega)
  have h2 := cntP_le l n
  unfold fenA
  omega
def fenL (l : List Int) : List Int := rowF (l.length + 1) (fenA l)
theorem fenL_len (l : List Int) : (fenL l).length = l.length + 1 := rowF_len _ _
theorem fenL_get (l : List Int) {n : Nat} (h : n ≤ l.length) : (fenL l).getD n 0 = fenA l n := rowF_get _ (by omega)
theorem path_fin : ∀ (k : Fin 11) (n : Fin 12), (n.1 - lowN n.1 ≤ k.1 ∧ k.1 < n.1) → (∀ m : Fin 12, n.1 < m.1 → m.1 < n.1 + lowN n.1 → ¬ (m.1 - lowN m.1 ≤ k.1 ∧ k.1 < m.1)) ∧ (n.1 + lowN n.1 < 12 → (n.1 + lowN n.1) - lowN (n.1 + lowN n.1) ≤ k.1) := by decide +kernel
theorem path_next {k n : Nat} (hk : k < 11) (hn : n < 12) (h : n - lowN n ≤ k ∧ k < n) : (∀ m, m < 12 → n < m → m < n + lowN n → ¬ (m - lowN m ≤ k ∧ k < m)) ∧ (n + lowN n < 12 → (n + lowN n) - lowN (n + lowN n) ≤ k) := by
  have := path_fin ⟨k, hk⟩ ⟨n, hn⟩ h
  exact ⟨fun m hm => this.1 ⟨m, hm⟩, this.2⟩

theorem own_keeps {w w' : World} {B : Nat} {v : Value} {l : List Int} (h : Own w B v l) (hk : ∀ g, v.ownBlock = some g → w'.heap[g]? = w.heap[g]?) : Own w' B v l := by
  refine ⟨h.1, ?_⟩
  rcases h.2 with h0 | ⟨g, cap, cur, hv, hb, hh, rest⟩
  · exact .inl h0
  · exact .inr ⟨g, cap, cur, hv, hb, (hk g (by rw [hv]; rfl)).trans hh, rest⟩
section
variable {W W' : World} {q q2 C : Nat} {AS : Option Addr} {cS D : Nat} {l : List Int}
end
/-- where the search is -/
structure AtP (l : List Int) (r T p z q : Nat) : Prop where
  zs : z = 0 ∨ z = 1 ∨ z = 2 ∨ z = 4 ∨ z = 8 ∨ z = 16
  sum : q + cntP l p = r
  le : p ≤ T
  fin : z = 0 → p = T
  lt : 0 < z → T < p + 2 * z ∧ p % (2 * z) = 0
theorem len_size {n : Nat} (h : n ≤ 11) : (2 ^ lenN n = 1 ∨ 2 ^ lenN n = 2 ∨ 2 ^ lenN n = 4 ∨ 2 ^ lenN n = 8 ∨ 2 ^ lenN n = 16) ∧ n < 2 * 2 ^ lenN n ∧ lenN n ≤ 4 := by
  have : n = 0 ∨ n = 1 ∨ n = 2 ∨ n = 3 ∨ n = 4 ∨ n = 5 ∨ n = 6 ∨ n = 7 ∨ n = 8 ∨ n = 9 ∨ n = 10 ∨ n = 11 := by omega
  rcases this with rfl | rfl | rfl | rfl | rfl | rfl | rfl | rfl | rfl | rfl | rfl | rfl
  all_goals decide
/-- on to the half -/
theorem AtP.half {l : List Int} {r T p z q p2 q2 : Nat} (h : AtP l r T p z q) (hz : 0 < z) (hs : q2 + cntP l p2 = r) (hle : p2 ≤ T) (hc : (p2 = p ∧ T < p + z) ∨ p2 = p + z) : AtP l r T p2 (z / 2) q2 := by
  obtain ⟨h1, h2⟩ := h.lt hz
  have h3 := h.zs
  refine ⟨by omega, hs, hle, fun h0 => by omega, fun h0 => ⟨by omega, ?_⟩⟩
  have h4 : z = 2 ∨ z = 4 ∨ z = 8 ∨ z = 16 := by omega
  rcases h4 with rfl | rfl | rfl | rfl <;> omega
end Go.Proofs.Ytkneecdpkdnjfaa
namespace Go.Proofs.Ytkneecdpkdnjfaa
set_option maxRecDepth 100000
set_option linter.unusedVariables false
set_option linter.unusedSimpArgs false
open Go.RowKit Go.Sort

/-- on the path of a place, ahead of n -/
def onP (k n m : Nat) : Bool := decide (m - lowN m ≤ k) && decide (k < m) && decide (m < n)
/-- the tree, its places on the path ahead of n one less -/
def fenTo (l : List Int) (k n : Nat) : List Int := rowF (l.length + 1) fun m => if onP k n m = true then fenA l m - 1 else fenA l m
theorem fenTo_len (l : List Int) (k n : Nat) : (fenTo l k n).length = l.length + 1 := rowF_len _ _
theorem fenTo_start (l : List Int) (k : Nat) : fenTo l k (k + 1) = fenL l := rowF_congr fun m hm => by
  have : onP k (k + 1) m = false := by
    unfold onP
    by_cases h : k < m
    · rw [decide_eq_false (p := m < k + 1) (by omega), Bool.and_false]
    · rw [decide_eq_false (p := k < m) h, Bool.and_false, Bool.false_and]
  rw [this]; rfl
theorem fenTo_get (l : List Int) {k n : Nat} (hn : n ≤ l.length) : (fenTo l k n).getD n 0 = fenA l n := by
  unfold fenTo
  rw [rowF_get _ (by omega)]
  have : onP k n n = false := by unfold onP; rw [decide_eq_false (p := n < n) (by omega), Bool.and_false]
  rw [this]; rfl
theorem fenTo_step (l : List Int) {k n : Nat} (hk : k < 11) (hl : l.length ≤ 11) (hn : n ≤ l.length) (h1 : n - lowN n ≤ k) (h2 : k < n) : (fenTo l k n).set n (fenA l n - 1) = fenTo l k (n + lowN n) := by
  unfold fenTo
  rw [rowF_set]
  refine rowF_congr fun m hm => ?_
  obtain ⟨p1, _⟩ := path_next hk (show n < 12 by omega) ⟨h1, h2⟩
  have hlo := lowN_bd (n := n) (by omega)
  have hp := p1 m (by omega)
  by_cases hmn : m = n
  · subst hmn
    rw [if_pos rfl]
    have : onP k (m + lowN m) m = true := by unfold onP; rw [decide_eq_true h1, decide_eq_true h2, decide_eq_true (by omega)]; rfl
    rw [this]; rfl
  · rw [if_neg hmn]
    have : onP k n m = onP k (n + lowN n) m := by
      unfold onP
      by_cases hlt : m < n
      · rw [decide_eq_true hlt, decide_eq_true (p := m < n + lowN n) (by omega)]
      · rw [decide_eq_false hlt, Bool.and_false]
        by_cases hlt2 : m < n + lowN n
        · have := hp (by omega) hlt2
          rw [← Bool.decide_and, decide_eq_false this, Bool.false_and]
        · rw [decide_eq_false hlt2, Bool.and_false]
    rw [this]
theorem fenTo_end (l : List Int) {k n : Nat} (hk : k < l.length) (h1 : l.getD k 0 = 1) (hn : l.length < n) : fenTo l k n = fenL (l.set k 0) := by
  unfold fenTo fenL
  rw [List.length_set]
  refine rowF_congr fun m hm => ?_
  have e1 := cntP_set l k 0 hk m
  have e2 := cntP_set l k 0 hk (m - lowN m)
  rw [h1, livI_yes (by decide), livI_no (by decide)] at e1 e2
  unfold fenA onP
  rw [decide_eq_true (p := m < n) (by omega), Bool.and_true, ← Bool.decide_and]
  by_cases hin : m - lowN m ≤ k ∧ k < m
  · rw [decide_eq_true hin, if_pos rfl]
    rw [if_pos hin.2, if_pos hin.2] at e1
    rw [if_neg (by omega), if_neg (by omega)] at e2
    omega
  · rw [decide_eq_false hin, if_neg (by decide)]
    by_cases hkm : k < m
    · rw [if_pos hkm, if_pos hkm] at e1
      rw [if_pos (by omega), if_pos (by omega)] at e2
      omega
    · rw [if_neg hkm, if_neg hkm] at e1
      rw [if_neg (by omega), if_neg (by omega)] at e2
      omega
theorem fenL_same (l : List Int) {k : Nat} (x : Int) (hk : k < l.length) (h1 : 0 < l.getD k 0) (h2 : 0 < x) : fenL (l.set k x) = fenL l ∧ manyP (l.set k x) = manyP l := by
  have hc : ∀ p, cntP (l.set k x) p = cntP l p := fun p => by
    have e := cntP_set l k x hk p
    rw [livI_yes h1, livI_yes h2] at e
    omega
  refine ⟨?_, ?_⟩
  · unfold fenL
    rw [List.length_set]
    refine rowF_congr fun m hm => ?_
    unfold fenA
    rw [hc, hc]
  · unfold manyP
    rw [List.length_set, hc]
theorem many_less (l : List Int) {k : Nat} (hk : k < l.length) (h1 : l.getD k 0 = 1) : manyP (l.set k 0) + 1 = manyP l := by
  have e := cntP_set l k 0 hk l.length
  rw [h1, livI_yes (by decide), livI_no (by decide), if_pos hk, if_pos hk] at e
  unfold manyP
  rw [List.length_set]
  omega
theorem heap_other {W : World} {b k i : Nat} {u : Value} (h : b ≠ k) : (W.setCell ⟨b, i, none⟩ u).heap[k]? = W.heap[k]? := by simp [World.setCell, Array.getElem?_modify, h]
theorem own_at {w : World} {B b n c : Nat} {l : List Int} (h : Own w B (.slice (some ⟨b, 0, none⟩) n c) l) (hn : n = l.length) (hl : 0 < l.length) : (∀ j, w.frozen? ⟨b, j, none⟩ = false) ∧ ∀ j, j < l.length → w.cell? ⟨b, j, none⟩ = some (.int .i64 (l.getD j 0)) := by
  subst hn
  obtain ⟨g, hg, _, _, hf, hc⟩ := own_row h hl
  have : g = b := by injection hg with e; injection e with e; exact e.symm
  subst this
  exact ⟨hf, hc⟩
theorem own_put {w : World} {B b n c : Nat} {l : List Int} (h : Own w B (.slice (some ⟨b, 0, none⟩) n c) l) (hn : n = l.length) (j : Nat) (x : Int) : Own (w.setCell ⟨b, j, none⟩ (.int .i64 x)) B (.slice (some ⟨b, 0, none⟩) n c) (l.set j x) := by
  subst hn
  exact (own_set h j x).1
end Go.Proofs.Ytkneecdpkdnjfaa
