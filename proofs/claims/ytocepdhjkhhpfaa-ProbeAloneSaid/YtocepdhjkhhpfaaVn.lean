/-
  Slices of accesses that a call makes; the laws' own pick, and Accesses.
-/
import Derived.Test.YtocepdhjkhhpfaaB06
import Derived.Deep.RegionWith
import Derived.Test.YtocepdhjkhhpfaaB00
namespace Go.Proofs.Ytocepdhjkhhpfaa
set_option maxRecDepth 100000
set_option linter.unusedVariables false
set_option linter.unusedSimpArgs false
open Go.RowKit Go.Sort

/-- the four cells of an access -/
def cellsA (y : Ac) : List Value := [.int .i64 y.1, .int .i64 y.2.1, .int .i64 y.2.2.1, .int .i64 y.2.2.2]
def flA (l : List Ac) : List Value := l.flatMap cellsA
theorem flA_append (l m : List Ac) : flA (l ++ m) = flA l ++ flA m := by unfold flA; simp
theorem length_flA (l : List Ac) : (flA l).length = l.length * 4 := by
  induction l with
  | nil => rfl
  | cons x l ih => simp only [flA, cellsA, List.flatMap_cons, List.length_append, List.length_cons, List.length_nil] at ih ⊢; omega
theorem flA_get (l : List Ac) (j : Nat) (h : j < l.length) : (flA l)[j * 4]? = some (.int .i64 (l.getD j deadA).1) ∧ (flA l)[j * 4 + 1]? = some (.int .i64 (l.getD j deadA).2.1) ∧ (flA l)[j * 4 + 2]? = some (.int .i64 (l.getD j deadA).2.2.1) ∧ (flA l)[j * 4 + 3]? = some (.int .i64 (l.getD j deadA).2.2.2) := by
  induction l generalizing j with
  | nil => exact absurd h (Nat.not_lt_zero j)
  | cons x l ih =>
    cases j with
    | zero => simp [flA, cellsA]
    | succ j =>
      have := ih j (by simpa using h)
      have e1 : (j + 1) * 4 = j * 4 + 1 + 1 + 1 + 1 := by omega
      have e2 : flA (x :: l) = .int .i64 x.1 :: .int .i64 x.2.1 :: .int .i64 x.2.2.1 :: .int .i64 x.2.2.2 :: flA l := rfl
      rw [e1, e2]
      simpa using this
theorem flA_cell1 (m : List Ac) : ∀ u ∈ flA m, u.oneCell' = true := by
  intro u hu
  obtain ⟨x, _, hx⟩ := List.mem_flatMap.1 hu
  simp only [cellsA, List.mem_cons, List.not_mem_nil, or_false] at hx
  rcases hx with rfl | rfl | rfl | rfl <;> rfl
abbrev OwnA (w : World) (B : Nat) (v : Value) (l : List Ac) : Prop := w.ownsRow B 102 4 v l.length (flA l)
theorem OwnA.slice {w : World} {B : Nat} {v : Value} {l : List Ac} (h : OwnA w B v l) : ∃ A c, v = .slice A l.length c ∧ l.length ≤ c ∧ NowA w A l := by
  rcases h.2 with ⟨rfl, h0⟩ | ⟨g, cap, cur, rfl, hb, hh, hn, hcap, hsz, htake⟩
  · have : l = [] := by simpa using h0
    subst this
    exact ⟨none, 0, rfl, Nat.le_refl _, fun j hj => absurd hj (Nat.not_lt_zero j)⟩
  · refine ⟨some ⟨g, 0, none⟩, cap, rfl, hn, fun j hj => ?_⟩
    obtain ⟨f0, f1, f2, f3⟩ := flA_get l j hj
    refine ⟨g, 0, rfl, (World.ownsRow.lt h g rfl).2, ?_⟩
    rw [Nat.zero_add]
    exact ⟨(World.ownsRow.cellAt h (j * 4) (by omega)).trans f0, (World.ownsRow.cellAt h (j * 4 + 1) (by omega)).trans f1, (World.ownsRow.cellAt h (j * 4 + 2) (by omega)).trans f2, (World.ownsRow.cellAt h (j * 4 + 3) (by omega)).trans f3⟩
theorem OwnA.next {w w' : World} {B : Nat} {v : Value} {l : List Ac} (h : OwnA w B v l) (hb : Below w.heap.size w w') : OwnA w' B v l :=
  World.ownsRow.kept h (row := none) ⟨hb.os, hb.tape, hb.output, hb.size, fun k hk _ => hb.block k hk⟩ (by cases v.ownBlock <;> simp)
end Go.Proofs.Ytocepdhjkhhpfaa
