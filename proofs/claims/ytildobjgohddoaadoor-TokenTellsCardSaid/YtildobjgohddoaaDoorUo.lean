/-
  Two lists of items, one behind the other: plain maths.
-/
import Derived.Test.YtildobjgohddoaaDoorUm
namespace Go.Proofs.YtildobjgohddoaaDoor
open Go.Lib

theorem gap_nil (k : Nat) : gapL [] k = [] := by unfold gapL; rw [if_neg (by simp)]
theorem placed_nil (I : List Itm) {j : Nat} (hj : j ≤ I.length) : placed I [] j = ((I.getD j noI).1, (I.getD j noI).2.1, (textL (I.take j)).length) := by
  unfold placed
  rw [gap_nil, List.append_nil, spaced_nil I j hj]
theorem placedL_at (I : List Itm) {n j : Nat} (hj : j < n) : ((placedL I [] n).map up).getD j noE = up (placed I [] j) := by
  unfold placedL
  rw [List.getD_eq_getElem?_getD, List.getElem?_map, List.getElem?_map, List.getElem?_range hj]
  rfl
theorem getD_right {a b : List Itm} (j : Nat) : (a ++ b).getD (a.length + j) noI = b.getD j noI := by
  rw [List.getD_eq_getElem?_getD, List.getD_eq_getElem?_getD, List.getElem?_append_right (by omega)]
  congr 2
  omega

/-- what the two texts come to -/
structure Both (a b : List Itm) (S T : List UInt8) (P R : List Itm) : Prop where
  one : textE (a.map up) = S
  two : textE (b.map up) = T
  all : textE (a.map up ++ b.map up) = S ++ T
  slen : S.length ≤ 560
  tlen : T.length ≤ 560
  pcnt : (P.map up).length = a.length + b.length
  rcnt : (R.map up).length = b.length
  lex : lexA (S ++ T ++ [33]) = (P, 0, S.length + T.length)
  lexR : lexA (T ++ [33]) = (R, 0, T.length)
  item : ∀ j, j < b.length → ∃ (t : UInt8) (n q : Nat), (R.map up).getD j noE = (t, (n : Int), (q : Int)) ∧ (P.map up).getD (a.length + j) noE = (t, (n : Int), (q : Int) + (S.length : Int)) ∧ q ≤ 1000
theorem both_of {a b : List Itm} (ha : ∀ x ∈ a, goodI x = true) (hb : ∀ x ∈ b, goodI x = true) (hla : a.length ≤ 40) (hlb : b.length ≤ 40) :
    Both a b (textL a) (textL b) (placedL (a ++ b) [] (a ++ b).length) (placedL b [] b.length) := by
  have e1 : textE (a.map up) = textL a := textE_up a
  have e2 : textE (b.map up) = textL b := textE_up b
  have l1 := textE_len (a.map up)
  have l2 := textE_len (b.map up)
  rw [e1, List.length_map] at l1
  rw [e2, List.length_map] at l2
  have hab : ∀ x ∈ a ++ b, goodI x = true := fun x hx => by
    rcases List.mem_append.1 hx with h | h
    · exact ha x h
    · exact hb x h
  have et : textL (a ++ b) = textL a ++ textL b := textL_append a b
  refine ⟨e1, e2, by rw [textE_append, e1, e2], by omega, by omega, by rw [List.length_map, placedL_len, List.length_append], by rw [List.length_map, placedL_len], ?_, ?_, fun j hj => ?_⟩
  · have := lexA_spaced2 (a ++ b) [] hab [] (by rw [spaced_text, et, List.length_append]; simp; omega)
    have hlen2 : (textL a ++ textL b).length = (textL a).length + (textL b).length := List.length_append
    rw [spaced_text, et, hlen2] at this
    exact this
  · have := lexA_spaced2 b [] hb [] (by rw [spaced_text]; simp; omega)
    rw [spaced_text] at this
    exact this
  · have hq : (textL (b.take j)).length ≤ 1000 := by
      have := textE_take_len (l := b.map up) j (by rw [List.length_map]; omega)
      rw [← List.map_take, textE_up] at this
      omega
    refine ⟨(b.getD j noI).1, (b.getD j noI).2.1, (textL (b.take j)).length, ?_, ?_, hq⟩
    · rw [placedL_at b hj, placed_nil b (by omega)]
      rfl
    · rw [placedL_at (a ++ b) (by rw [List.length_append]; omega), placed_nil (a ++ b) (by rw [List.length_append]; omega), getD_right, List.take_append, List.take_of_length_le (by omega), textL_append, List.length_append, show a.length + j - a.length = j by omega]
      unfold up
      simp only [Prod.mk.injEq, true_and]
      omega

end Go.Proofs.YtildobjgohddoaaDoor
