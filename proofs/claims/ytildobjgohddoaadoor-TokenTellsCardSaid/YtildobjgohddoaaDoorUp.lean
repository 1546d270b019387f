/-
  What was read, told again, is read again: plain maths.
-/
import Derived.Test.YtildobjgohddoaaDoorUo
namespace Go.Proofs.YtildobjgohddoaaDoor
open Go.Lib

/-- What is known of a text that is refused. -/
structure Refused (X : List UInt8) (L : List Itm) (e : Int) (p : Nat) : Prop where
  none : L = []
  place : p ≤ X.length
  open_ : e = 31 → p = X.length
/-- What is known of a text that is read. -/
structure Taken (X : List UInt8) (L : List Itm) (p : Nat) : Prop where
  good : ∀ x ∈ L, goodI x = true
  small : (textL L).length ≤ 19999
  many : L.length ≤ 20000
  before : ∀ j, j < L.length → (L.getD j noI).2.2 < p
  rises : ∀ j, j + 1 < L.length → (L.getD j noI).2.2 < (L.getD (j + 1) noI).2.2
  again : lexA (textL L ++ [33]) = (placedL L [] L.length, 0, (textL L).length)
  opened : lexA (textL L) = ([], 31, (textL L).length)

theorem item_pos {x : Itm} (h : goodI x = true) : 1 ≤ (itemL x).length := by
  unfold itemL
  rw [if_pos h]
  simp
theorem text_pos {L : List Itm} (h : ∀ x ∈ L, goodI x = true) : L.length ≤ (textL L).length := by
  induction L with
  | nil => simp
  | cons x L ih =>
    have h1 := item_pos (h x List.mem_cons_self)
    have h2 := ih fun y hy => h y (List.mem_cons_of_mem _ hy)
    unfold textL at h2 ⊢
    rw [List.flatMap_cons, List.length_append, List.length_cons]
    omega
theorem lexA_bad {X : List UInt8} {L : List Itm} {e : Int} {p : Nat} (h : lexA X = (L, e, p)) (he : e ≠ 0) : Refused X L e p := by
  unfold lexA at h
  split at h
  · simp only [Prod.mk.injEq] at h
    obtain ⟨rfl, rfl, rfl⟩ := h
    exact ⟨rfl, Nat.zero_le _, fun h => absurd h (by decide)⟩
  · have hs := (lexL_shape X 0 []).2
    rw [h] at hs
    obtain ⟨h1, _, h3, h4⟩ := hs he
    simp only at h1 h3 h4
    exact ⟨h1, by omega, fun h => by have := h4 h; omega⟩
theorem lexA_good {X : List UInt8} {L : List Itm} {p : Nat} (h : lexA X = (L, 0, p)) : Taken X L p := by
  unfold lexA at h
  split at h
  · simp at h
  · rename_i hx
    have hs := (lexL_shape X 0 []).1
    rw [h] at hs
    obtain ⟨m, h1, h2, h3, h4, h5, h6⟩ := hs rfl
    simp only [List.nil_append] at h1 h4 h5 h6
    subst h1
    have hsm : (textL L).length ≤ 19999 := by omega
    have hmn := text_pos h2
    have hat : ∀ j, (hj : j < L.length) → L.getD j noI = L[j] := fun j hj => by rw [List.getD_eq_getElem?_getD, List.getElem?_eq_getElem hj]; rfl
    refine ⟨h2, hsm, by omega, fun j hj => ?_, fun j hj => ?_, ?_, lexA_open h2 (by omega)⟩
    · rw [hat j hj]; exact (h4 _ (List.getElem_mem hj)).2
    · rw [hat j (by omega), hat (j + 1) hj]
      exact List.pairwise_iff_getElem.1 h3 j (j + 1) (by omega) hj (by omega)
    · have := lexA_spaced2 L [] h2 [] (by rw [spaced_text]; simp; omega)
      rw [spaced_text] at this
      exact this
theorem placed_same (L : List Itm) {j : Nat} (hj : j < L.length) : ∃ (t : UInt8) (n a b : Nat), (L.map up).getD j noE = (t, (n : Int), (a : Int)) ∧ ((placedL L [] L.length).map up).getD j noE = (t, (n : Int), (b : Int)) ∧ a = (L.getD j noI).2.2 := by
  refine ⟨(L.getD j noI).1, (L.getD j noI).2.1, (L.getD j noI).2.2, (textL (L.take j)).length, ?_, ?_, rfl⟩
  · rw [List.getD_eq_getElem?_getD, List.getElem?_map, List.getElem?_eq_getElem hj, List.getD_eq_getElem?_getD, List.getElem?_eq_getElem hj]
    rfl
  · rw [placedL_at L hj, placed_nil L (by omega)]
    rfl

end Go.Proofs.YtildobjgohddoaaDoor
