/-
  What items are told as, with blanks between: plain maths.
-/
import Derived.Test.YtildobjgohddoaaDoorUh
namespace Go.Proofs.YtildobjgohddoaaDoor
open Go.Lib

def gapN (n : Nat) : List UInt8 := ([[], [32], [10], [9, 13, 32]] : List (List UInt8)).getD n []
def gapL (bl : List Int) (k : Nat) : List UInt8 := if k < bl.length then gapN (pickI (bl.getD k 0) 4).toNat else []
def noI : Itm := (0, 0, 0)
def spaced (I : List Itm) (bl : List Int) : Nat → List UInt8
  | 0 => []
  | k + 1 => spaced I bl k ++ gapL bl k ++ itemL (I.getD k noI)
def placed (I : List Itm) (bl : List Int) (j : Nat) : Itm := ((I.getD j noI).1, (I.getD j noI).2.1, (spaced I bl j ++ gapL bl j).length)
def placedL (I : List Itm) (bl : List Int) (k : Nat) : List Itm := (List.range k).map (placed I bl)
theorem placedL_succ (I : List Itm) (bl : List Int) (k : Nat) : placedL I bl (k + 1) = placedL I bl k ++ [placed I bl k] := by
  unfold placedL
  rw [List.range_succ, List.map_append]
  rfl
theorem placedL_len (I : List Itm) (bl : List Int) (k : Nat) : (placedL I bl k).length = k := by simp [placedL]
theorem gapN_blank {n : Nat} : ∀ c ∈ gapN n, blankB c = true := by
  intro c hc
  match n with
  | 0 => cases hc
  | 1 => simp [gapN] at hc; subst hc; rfl
  | 2 => simp [gapN] at hc; subst hc; rfl
  | 3 => simp [gapN] at hc; rcases hc with rfl | rfl | rfl <;> rfl
  | n + 4 => simp [gapN] at hc
theorem gapN_len (n : Nat) : (gapN n).length ≤ 3 := by
  match n with
  | 0 => simp [gapN]
  | 1 => simp [gapN]
  | 2 => simp [gapN]
  | 3 => simp [gapN]
  | n + 4 => simp [gapN]
theorem gapL_blank (bl : List Int) (k : Nat) : ∀ c ∈ gapL bl k, blankB c = true := by
  unfold gapL
  split
  · exact gapN_blank
  · intro c hc; cases hc
theorem gapL_len (bl : List Int) (k : Nat) : (gapL bl k).length ≤ 3 := by
  unfold gapL
  split
  · exact gapN_len _
  · simp
theorem itemL_len (x : Itm) : (itemL x).length ≤ 14 := by rw [← itemE_up]; exact itemE_len _
theorem spaced_len (I : List Itm) (bl : List Int) (k : Nat) : (spaced I bl k).length ≤ 17 * k := by
  induction k with
  | zero => simp [spaced]
  | succ k ih =>
    have h1 := gapL_len bl k
    have h2 := itemL_len (I.getD k noI)
    simp only [spaced, List.length_append]
    omega
theorem lex_gap (g : List UInt8) (h : ∀ c ∈ g, blankB c = true) (q : List UInt8) (p : Nat) (acc : List Itm) : lexL (g ++ q) p acc = lexL q (p + g.length) acc := by
  induction g generalizing p with
  | nil => rfl
  | cons c g ih =>
    rw [List.cons_append, lex_blank (h c List.mem_cons_self), ih (fun d hd => h d (List.mem_cons_of_mem _ hd)), List.length_cons]
    congr 1
    omega
theorem lex_spaced (I : List Itm) (bl : List Int) (hI : ∀ x ∈ I, goodI x = true) (k : Nat) (hk : k ≤ I.length) (q : List UInt8) : lexL (spaced I bl k ++ q) 0 [] = lexL q (spaced I bl k).length (placedL I bl k) := by
  induction k generalizing q with
  | zero => simp [spaced, placedL]
  | succ k ih =>
    have hx : goodI (I.getD k noI) = true := by
      rw [List.getD_eq_getElem?_getD, List.getElem?_eq_getElem (by omega)]
      exact hI _ (List.getElem_mem _)
    simp only [spaced]
    rw [List.append_assoc, List.append_assoc, ih (by omega), lex_gap _ (gapL_blank bl k), lex_item hx, placedL_succ]
    simp only [List.length_append, placed]
theorem lexA_spaced (I : List Itm) (bl : List Int) (hI : ∀ x ∈ I, goodI x = true) (hn : I.length ≤ 40) (q : List UInt8) (hq : q.length ≤ 10) : lexA (spaced I bl I.length ++ 33 :: q) = (placedL I bl I.length, 0, (spaced I bl I.length).length) := by
  have h1 := spaced_len I bl I.length
  rw [lexA_short (by simp only [List.length_append, List.length_cons]; omega), lex_spaced I bl hI _ (Nat.le_refl _), lex_end]

theorem lexA_spaced2 (I : List Itm) (bl : List Int) (hI : ∀ x ∈ I, goodI x = true) (q : List UInt8) (hq : (spaced I bl I.length).length + q.length ≤ 19999) : lexA (spaced I bl I.length ++ 33 :: q) = (placedL I bl I.length, 0, (spaced I bl I.length).length) := by
  rw [lexA_short (by simp only [List.length_append, List.length_cons]; omega), lex_spaced I bl hI _ (Nat.le_refl _), lex_end]
theorem spaced_nil (I : List Itm) (k : Nat) (hk : k ≤ I.length) : spaced I [] k = textL (I.take k) := by
  induction k with
  | zero => simp [spaced, textL]
  | succ k ih =>
    have e : gapL [] k = [] := by unfold gapL; rw [if_neg (by simp)]
    rw [spaced, e, List.append_nil, ih (by omega), List.take_succ_eq_append_getElem (by omega), textL_append, List.getD_eq_getElem?_getD, List.getElem?_eq_getElem (by omega), Option.getD_some]
    simp [textL]
theorem spaced_text (I : List Itm) : spaced I [] I.length = textL I := by rw [spaced_nil I _ (Nat.le_refl _), List.take_of_length_le (Nat.le_refl _)]

/-- The items in memory, of which the first k have their places. -/
def midL (I : List Itm) (bl : List Int) (k : Nat) : List Itm := placedL I bl k ++ I.drop k
theorem midL_zero (I : List Itm) (bl : List Int) : midL I bl 0 = I := by simp [midL, placedL]
theorem midL_all (I : List Itm) (bl : List Int) : midL I bl I.length = placedL I bl I.length := by simp [midL]
theorem midL_len (I : List Itm) (bl : List Int) {k : Nat} (hk : k ≤ I.length) : (midL I bl k).length = I.length := by simp [midL, placedL_len]; omega
theorem midL_at (I : List Itm) (bl : List Int) {k : Nat} (hk : k < I.length) : ((midL I bl k).map up).getD k noE = up (I.getD k noI) := by
  rw [List.getD_eq_getElem?_getD, List.getElem?_map]
  unfold midL
  rw [List.getElem?_append_right (by rw [placedL_len]; exact Nat.le_refl _), placedL_len, Nat.sub_self, List.getElem?_drop, Nat.add_zero, List.getElem?_eq_getElem hk, List.getD_eq_getElem?_getD, List.getElem?_eq_getElem hk]
  rfl
theorem midL_set (I : List Itm) (bl : List Int) {k : Nat} (hk : k < I.length) : ((midL I bl k).map up).set k ((I.getD k noI).1, ((I.getD k noI).2.1 : Int), ((spaced I bl k ++ gapL bl k).length : Int)) = (midL I bl (k + 1)).map up := by
  have e : I.drop k = I.getD k noI :: I.drop (k + 1) := by
    rw [List.getD_eq_getElem?_getD, List.getElem?_eq_getElem hk]
    exact List.drop_eq_getElem_cons hk
  unfold midL
  rw [e, placedL_succ, List.map_append, List.map_append, List.map_append, List.append_assoc, List.set_append_right _ _ (by rw [List.length_map, placedL_len]; exact Nat.le_refl _), List.length_map, placedL_len, Nat.sub_self]
  rfl

end Go.Proofs.YtildobjgohddoaaDoor
