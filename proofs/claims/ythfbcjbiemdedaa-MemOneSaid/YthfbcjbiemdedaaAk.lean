/-
  MemOne: an access changes at most the word at its place; what it finds is what was there.
-/
import Derived.Test.YthfbcjbiemdedaaB03
namespace Go.Proofs.Ythfbcjbiemdedaa
set_option maxRecDepth 100000
set_option linter.unusedVariables false
set_option linter.unusedSimpArgs false
open Go.RowKit Go.Sort

def picks4 (raw : List Int) (k : Nat) : List Int := (raw.take k).map fun x => pickI x 4
theorem picks4_len {raw : List Int} {k : Nat} (h : k ≤ raw.length) : (picks4 raw k).length = k := by unfold picks4; simp; omega
theorem picks4_succ {raw : List Int} {k : Nat} (h : k < raw.length) : picks4 raw (k + 1) = picks4 raw k ++ [pickI (raw.getD k 0) 4] := by
  unfold picks4
  rw [List.take_add_one, List.map_append, List.getD_eq_getElem?_getD, List.getElem?_eq_getElem h]
  rfl
theorem picks4_small (raw : List Int) (k : Nat) : SmallW 3 (picks4 raw k ++ [0]) := fun x hx => by
  rcases List.mem_append.1 hx with h | h
  · unfold picks4 at h
    obtain ⟨y, _, rfl⟩ := List.mem_map.1 h
    have := pickI_bd y 4 (by decide)
    show -3 ≤ pickI y 4 ∧ pickI y 4 ≤ 3
    omega
  · simp at h; omega
theorem set_getD {m : List Int} {i : Nat} (h : i < m.length) (v : Int) : (m.set i v).getD i 0 = v := by
  rw [List.getD_eq_getElem?_getD, List.getElem?_set_self h]; rfl
/-- what an access makes of the word, case by case -/
theorem one_cases {y : Ac} (h1 : 1 ≤ y.1) (h4 : y.1 ≤ 4) (x : Int) :
    (y.1 = 1 ∧ dnA y x = true ∧ nwA y x = x) ∨ (y.1 = 2 ∧ dnA y x = true ∧ nwA y x = y.2.2.2) ∨ (y.1 = 3 ∧ x = y.2.2.1 ∧ dnA y x = true ∧ nwA y x = y.2.2.2) ∨ (y.1 = 3 ∧ x ≠ y.2.2.1 ∧ dnA y x = false ∧ nwA y x = x) ∨ (y.1 = 4 ∧ dnA y x = true ∧ nwA y x = x + y.2.2.2) := by
  unfold dnA nwA toA
  have hk : y.1 = 1 ∨ y.1 = 2 ∨ y.1 = 3 ∨ y.1 = 4 := by omega
  rcases hk with h | h | h | h
  · left; rw [h]; simp
  · right; left; rw [h]; simp
  · by_cases hx : x = y.2.2.1
    · right; right; left; rw [h]; simp [hx]
    · right; right; right; left; rw [h]; simp [hx]
  · right; right; right; right; rw [h]; simp
end Go.Proofs.Ythfbcjbiemdedaa
