/-
  CountBack: Parse undoes Text, and Sum Bits: the law returns true whatever number comes in.
  Conditions: none.
-/
import Derived.Test.YtohnhcjpdohddaaNh
namespace Go.Proofs.Ytohnhcjpdohddaa
open Go.RowKit Go.Sort

theorem now_three (w : World) (T : Nat) (x y z : Int) : Now (w.alloc (.cells #[.int .i64 x, .int .i64 y, .int .i64 z] T)) (some ⟨w.heap.size, 0, none⟩) [x, y, z] := fun j hj => by
  have hj2 : j < 3 := hj
  refine ⟨w.heap.size, 0, rfl, by simp, ?_⟩
  match j, hj2 with
  | 0, _ => simp
  | 1, _ => simp
  | 2, _ => simp
theorem txt_data {u : Nat} (h : u ≤ 4611686018427387903) : (txt (u : Int)).data.toList = Lib.decDigits u := by
  unfold txt
  rw [txtL_nat h]
theorem txt_small_size (n : Int) : (txt n).size ≤ maxLen := by
  have := txtL_len n
  have h : (txt n).size ≤ 19 := by
    show (txtL n).toArray.size ≤ 19
    simpa using this
  unfold maxLen
  omega
theorem parse_txt {u : Nat} (h : u ≤ 4611686018427387903) : parseL (txt (u : Int)).data.toList = ((u : Int), 0) := by rw [txt_data h, parse_dec h]
theorem rises_at {l : List Int} (h : l.Pairwise (· < ·)) {j : Nat} (hj : j + 1 < l.length) : l.getD j 0 < l.getD (j + 1) 0 := by
  rw [List.getD_eq_getElem?_getD, List.getD_eq_getElem?_getD, List.getElem?_eq_getElem hj, List.getElem?_eq_getElem (show j < l.length by omega)]
  exact List.pairwise_iff_getElem.1 h j (j + 1) (by omega) hj (by omega)
theorem getD_mem {l : List Int} {j : Nat} (hj : j < l.length) : l.getD j 0 ∈ l := by
  rw [List.getD_eq_getElem?_getD, List.getElem?_eq_getElem hj]
  exact List.getElem_mem _

end Go.Proofs.Ytohnhcjpdohddaa
