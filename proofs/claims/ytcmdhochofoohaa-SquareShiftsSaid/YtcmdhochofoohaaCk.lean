/-
  With: a set with a cell, or without it (here: refused, or without).
-/
import Derived.Test.YtcmdhochofoohaaCj
namespace Go.Proofs.Ytcmdhochofoohaa.Cel
open Go.RowKit Go.Sort

theorem stands_found {l : List (Int × Int)} {t : Int × Int} {i : Nat} (hs : Rises l) (hi : i < l.length) (he : l.getD i (0, 0) = t) : l.take i ++ l.drop (i + 1) = outL t l := by
  have hsplit : l = l.take i ++ t :: l.drop (i + 1) := by
    conv => lhs; rw [← List.take_append_drop i l, drop_cons hi, he]
  have hp : Rises (l.take i ++ t :: l.drop (i + 1)) := by rw [← hsplit]; exact hs
  have hp2 := List.pairwise_append.1 hp
  conv => rhs; rw [outL, hsplit]
  rw [List.filter_append, List.filter_cons_of_neg (by simp)]
  congr 1
  · rw [List.filter_eq_self.2]
    intro y hy
    have := hp2.2.2 y hy t (List.mem_cons_self ..)
    simpa using lessB_ne this
  · rw [List.filter_eq_self.2]
    intro y hy
    have := (List.pairwise_cons.1 hp2.2.1).1 y hy
    simpa using (lessB_ne this).symm
theorem stands_not {l : List (Int × Int)} {t : Int × Int} {i : Nat} (hs : Rises l) (h : Stands l t i) (hn : ¬ (i < l.length ∧ l.getD i (0, 0) = t)) : t ∉ l := by
  intro ht
  obtain ⟨j, hj, he⟩ := List.getElem_of_mem ht
  have he' : l.getD j (0, 0) = t := by rw [List.getD_eq_getElem?_getD, List.getElem?_eq_getElem hj]; exact he
  by_cases hji : j < i
  · have := h.low j hji
    rw [he', lessB_irrefl] at this
    cases this
  · by_cases hij : j = i
    · subst hij; exact hn ⟨hj, he'⟩
    · have h1 := rises_get hs (i := i) (j := j) (by omega) hj
      rw [he'] at h1
      rw [h.high i (Nat.le_refl _) (by omega)] at h1
      cases h1
theorem outL_not {l : List (Int × Int)} {t : Int × Int} (h : t ∉ l) : outL t l = l := by
  rw [outL, List.filter_eq_self.2]
  intro y hy
  have : y ≠ t := fun e => h (e ▸ hy)
  simpa using this

theorem right_yes {A : Option Addr} {l : List (Int × Int)} {c : Nat} {w : World} (hR : Rd w w.heap.size A l) (hl : l.length ≤ 1000000) (hc : l.length ≤ c) (h : rightB l = true) :
    Calls Try.prog 81 #[.slice A l.length c] w fun e w' => e = .returned (.bool true) ∧ Below w.heap.size w w' := by
  have := right_any A l c w hR hl hc; rw [h] at this; exact this
theorem right_no {A : Option Addr} {l : List (Int × Int)} {c : Nat} {w : World} (hR : Rd w w.heap.size A l) (hl : l.length ≤ 1000000) (hc : l.length ≤ c) (h : rightB l = false) :
    Calls Try.prog 81 #[.slice A l.length c] w fun e w' => e = .returned (.bool false) ∧ Below w.heap.size w w' := by
  have := right_any A l c w hR hl hc; rw [h] at this; exact this

end Go.Proofs.Ytcmdhochofoohaa.Cel
