/-
  Plain maths of layer 5: other heads ahead of a set's items.
-/
import Derived.Test.YtacpncmdgkljdaaDoorZo
namespace Go.Proofs.YtacpncmdgkljdaaDoor
set_option linter.unusedVariables false
set_option linter.unusedSimpArgs false
open Go.RowKit Go.Sort
open Cel (loX hiX rightB)

/-- a line that the law makes of a text -/
def hline (b : ByteArray) : List UInt8 := (b.data.toList.take 20).filter fun c => c != 10
theorem hline_no (b : ByteArray) : ∀ c ∈ hline b, c ≠ 10 := by
  intro c hc
  unfold hline at hc
  have := (List.mem_filter.1 hc).2
  simpa using this
theorem hline_len (b : ByteArray) : (hline b).length ≤ 20 := by
  unfold hline
  refine Nat.le_trans (List.length_filter_le _ _) ?_
  rw [List.length_take]
  omega
def hashTo (ls : List ByteArray) (k : Nat) : List UInt8 := hashText ((ls.take k).map hline)
theorem hashTo_zero (ls : List ByteArray) : hashTo ls 0 = [] := rfl
theorem hashTo_succ {ls : List ByteArray} {k : Nat} (hk : k < ls.length) : hashTo ls (k + 1) = hashTo ls k ++ (35 :: hline (ls.getD k default) ++ [10]) := by
  unfold hashTo hashText
  rw [List.take_succ_eq_append_getElem hk, List.map_append, List.flatMap_append, List.getD_eq_getElem?_getD, List.getElem?_eq_getElem hk]
  simp
theorem hashTo_len (ls : List ByteArray) (k : Nat) : (hashTo ls k).length ≤ 22 * k := by
  induction k with
  | zero => exact Nat.le_refl _
  | succ k ih =>
    by_cases hk : k < ls.length
    · rw [hashTo_succ hk]
      have := hline_len (ls.getD k default)
      simp only [List.length_append, List.length_cons, List.length_nil]
      omega
    · have : hashTo ls (k + 1) = hashTo ls k := by unfold hashTo; rw [List.take_of_length_le (by omega), List.take_of_length_le (by omega)]
      rw [this]
      omega
theorem filter_take_succ (l : List UInt8) {j : Nat} (hj : j < l.length) : (l.take (j + 1)).filter (fun c => c != 10) = (l.take j).filter (fun c => c != 10) ++ (if l[j] = 10 then [] else [l[j]]) := by
  rw [List.take_succ_eq_append_getElem hj, List.filter_append]
  congr 1
  by_cases h : l[j] = 10
  · rw [if_pos h, h]; rfl
  · rw [if_neg h, List.filter_cons, if_pos (by simpa using h)]; rfl

theorem head_parse {l : List (Int × Int)} (hown : Own5 l) (ls : List ByteArray) (k : Nat) (hk : k ≤ 3) (x y : Nat) (hx : x ≤ 4611686018427387903) (hy : y ≤ 4611686018427387903) (u : List UInt8) (hu : u = [] ∨ u = pR) :
    parseP (hashTo ls k ++ headText x y u ++ (printL l).drop (headL l).length) = (cornerL l, 0, 0) ∧
    parseP (hashTo ls k ++ headText x y u ++ [122] ++ (printL l).drop (headL l).length) = ([], 32, (hashTo ls k).length) := by
  obtain ⟨q1, q2, q3, q4, q5, q6, q7, q8⟩ := right_home hown.right
  have hT := told_all (homeL l) q4 (home_in hown.right hown.small) (by rw [home_len]; exact ((Cel.rightB_iff l).1 hown.right).1)
  have e0 : (printL l).drop (headL l).length = 10 :: (bodyL l ++ [33, 10]) := by rw [print_parts, List.drop_left]
  have hno : ∀ a ∈ (ls.take k).map hline, ∀ c ∈ a, c ≠ 10 := by
    intro a ha
    obtain ⟨b, _, rfl⟩ := List.mem_map.1 ha
    exact hline_no b
  have h1 := hashTo_len ls k
  have h2 : (headText x y u).length ≤ 63 := by
    have := headText_len x y hx hy u
    rcases hu with rfl | rfl <;> exact Nat.le_trans this (by decide)
  have h3 := print_size l
  have h4 := hown.short
  have hlen : (10 :: (bodyL l ++ [33, 10])).length ≤ 2600 := by
    simp only [List.length_append, List.length_cons, List.length_nil]
    omega
  rw [e0]
  constructor
  · have h := parse_items _ hno x y hx hy u hu (tellsL l) (told_good _ q4 (home_in hown.right hown.small) (by rw [home_len]; exact ((Cel.rightB_iff l).1 hown.right).1)) hT.fine [10] (by
      show (hashTo ls k ++ (headText x y u ++ 10 :: (bodyL l ++ [33, 10]))).length ≤ 20000
      rw [List.length_append, List.length_append]
      omega)
    rw [show (goS st0 (tellsL l)).out = cornerL l by rw [← home_up hown.right]; exact congrArg St.out hT.state] at h
    rw [List.append_assoc]
    exact h
  · have h := parse_z _ hno x y hx u hu (bodyL l ++ [33, 10]) (by
      show (hashTo ls k ++ (headText x y (u ++ [122]) ++ 10 :: (bodyL l ++ [33, 10]))).length ≤ 20000
      have : (headText x y (u ++ [122])).length = (headText x y u).length + 1 := by unfold headText; simp only [List.length_append, List.length_cons, List.length_nil]; omega
      rw [List.length_append, List.length_append]
      omega)
    have e : hashTo ls k ++ headText x y u ++ [122] ++ 10 :: (bodyL l ++ [33, 10]) = hashTo ls k ++ (headText x y (u ++ [122]) ++ 10 :: (bodyL l ++ [33, 10])) := by unfold headText; simp
    rw [e]
    exact h
end Go.Proofs.YtacpncmdgkljdaaDoor
