/-
  The law NodePops.
-/
import Derived.Test.YtcmdhochofoohaaRq
namespace Go.Proofs.Ytcmdhochofoohaa
set_option maxRecDepth 100000
set_option linter.unusedVariables false
set_option linter.unusedSimpArgs false
open Go.RowKit Go.Sort

theorem kd_nat {l : List Nd} {k : Kd} (h : Fit4 l k) {i : Nat} (hi : i < 4) : ∃ n : Nat, kd k i = (n : Int) ∧ n < l.length := by
  obtain ⟨h1, h2, _⟩ := h.kid i hi
  exact ⟨(kd k i).toNat, by omega, by omega⟩
/-- so many of the four are another's -/
def mixT (k t : Kd) (n : Nat) : Kd := (if 0 < n then t.1 else k.1, if 1 < n then t.2.1 else k.2.1, if 2 < n then t.2.2.1 else k.2.2.1, if 3 < n then t.2.2.2 else k.2.2.2)
theorem turn_kd {p : Nat} (hp : p < 4) {j : Nat} (hj : j < 4) (k : Kd) : kd (turnK k p) j = kd k ((j + p) % 4) := by
  match p, hp, j, hj with
  | 0, _, 0, _ => rfl
  | 0, _, 1, _ => rfl
  | 0, _, 2, _ => rfl
  | 0, _, 3, _ => rfl
  | 1, _, 0, _ => rfl
  | 1, _, 1, _ => rfl
  | 1, _, 2, _ => rfl
  | 1, _, 3, _ => rfl
  | 2, _, 0, _ => rfl
  | 2, _, 1, _ => rfl
  | 2, _, 2, _ => rfl
  | 2, _, 3, _ => rfl
  | 3, _, 0, _ => rfl
  | 3, _, 1, _ => rfl
  | 3, _, 2, _ => rfl
  | 3, _, 3, _ => rfl
theorem KdB.c_ {w : World} {b : Nat} {k : Kd} (h : KdB w b k) {j : Nat} (hj : j < 4) : w.cell? ⟨b, j, none⟩ = some (.int .i64 (kd k j)) := by
  match j, hj with
  | 0, _ => exact h.c0
  | 1, _ => exact h.c1
  | 2, _ => exact h.c2
  | 3, _ => exact h.c3
theorem mix_set {w : World} {g : Nat} {k t : Kd} {j : Nat} (hj : j < 4) (h : KdB w g (mixT k t j)) : KdB (w.setCell ⟨g, j, none⟩ (.int .i64 (kd t j))) g (mixT k t (j + 1)) := by
  have h := h.row
  refine ⟨?_⟩
  match j, hj with
  | 0, _ => simp [World.setCell, Array.getElem?_modify, h, mixT, kd]
  | 1, _ => simp [World.setCell, Array.getElem?_modify, h, mixT, kd]
  | 2, _ => simp [World.setCell, Array.getElem?_modify, h, mixT, kd]
  | 3, _ => simp [World.setCell, Array.getElem?_modify, h, mixT, kd]
theorem mix_0 (k t : Kd) : mixT k t 0 = k := rfl
theorem mix_4 (k t : Kd) : mixT k t 4 = t := rfl
end Go.Proofs.Ytcmdhochofoohaa
