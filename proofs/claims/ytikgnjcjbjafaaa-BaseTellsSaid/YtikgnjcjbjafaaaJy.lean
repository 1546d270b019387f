/-
  The document's answers of layer 8: Middle.
-/
import Derived.Test.YtikgnjcjbjafaaaJx
import Derived.Test.YtikgnjcjbjafaaaB08
namespace Go.Proofs.Ytikgnjcjbjafaaa
set_option maxRecDepth 100000
set_option linter.unusedVariables false
set_option linter.unusedSimpArgs false
open Go.RowKit Go.Sort

/-- the kids of a square among sixteen, as a list -/
theorem sq_get (l : List Nd) (n : Nat) {y x : Nat} (hy : y < 3) (hx : x < 3) : ((sxTo l n 16).getD (4 * y + x) 0, (sxTo l n 16).getD (4 * y + x + 1) 0, (sxTo l n 16).getD (4 * y + x + 4) 0, (sxTo l n 16).getD (4 * y + x + 5) 0) = sqK l n y x := by
  unfold sqK
  rw [sxTo_get l n (by omega), sxTo_get l n (by omega), sxTo_get l n (by omega), sxTo_get l n (by omega)]
  rw [show (4 * y + x) / 4 = y by omega, show (4 * y + x) % 4 = x by omega, show (4 * y + x + 1) / 4 = y by omega, show (4 * y + x + 1) % 4 = x + 1 by omega, show (4 * y + x + 4) / 4 = y + 1 by omega, show (4 * y + x + 4) % 4 = x by omega, show (4 * y + x + 5) / 4 = y + 1 by omega, show (4 * y + x + 5) % 4 = x + 1 by omega]
theorem refSq_any {l : List Nd} {n : Nat} {A : Option Addr} {c y x : Nat} {w : World} (hR : Now w A (sxTo l n 16)) (hy : y < 3) (hx : x < 3) :
    Calls Try.prog 104 #[.slice A (sxTo l n 16).length c, .int .i64 (y : Nat), .int .i64 (x : Nat)] w fun r w' => r = .returned (.agg #[.int .i64 (sqK l n y x).1, .int .i64 (sqK l n y x).2.1, .int .i64 (sqK l n y x).2.2.1, .int .i64 (sqK l n y x).2.2.2]) ∧ Below w.heap.size w w' := by
  have h := refSquare8_any A (sxTo l n 16) c y x w hR (sxTo_len _ _ _) hy hx
  rw [← sq_get l n hy hx]
  exact h
/-- what the calls of layer 8 of the document know: the store's box, and what was there -/
def Cl8 (w : World) (A : Option Addr) (n c : Nat) (room : Int) (W : World) : Prop := W.heap[w.heap.size]? = some (.cells #[.slice A n c, .int .i64 room] 27 (0, 0)) ∧ Below w.heap.size w W
section
variable {w W W' : World} {A : Option Addr} {n c : Nat} {room : Int}
theorem Cl8.s0 (h : Cl8 w A n c room W) : W.cell? ⟨w.heap.size, 0, none⟩ = some (.slice A n c) := by rw [Lib.cell_of_heap h.1]; rfl
theorem Cl8.s1 (h : Cl8 w A n c room W) : W.cell? ⟨w.heap.size, 1, none⟩ = some (.int .i64 room) := by rw [Lib.cell_of_heap h.1]; rfl
theorem Cl8.below (h : Cl8 w A n c room W) (hb : Below W.heap.size W W') : Cl8 w A n c room W' := ⟨(hb.block _ (lt_heap6 h.1)).trans h.1, Qt.more h.2 h.2.size hb⟩
theorem E7At.cl8 {l : List Nd} (h : E7At w W A l c room) : Cl8 w A l.length c room W := ⟨h.st.row, h.bel⟩
theorem Cl8.set (h : Cl8 w A n c room W) (j : Nat) (u : Value) : Cl8 w A n c room (W.setCell ⟨w.heap.size + 1, j, none⟩ u) := ⟨by rw [Below.heap_setCell _ _ _ _ (by show w.heap.size ≠ w.heap.size + 1; omega)]; exact h.1, h.2.setCell (by show w.heap.size ≤ w.heap.size + 1; omega) _⟩
end
set_option maxHeartbeats 16000000 in
theorem refMiddle_any {room : Int} {l : List Nd} (hr : Right6 l room) (A : Option Addr) (c : Nat) {e n : Nat} (w : World) (hn : Is l (e + 2) n) (hR : RdN w w.heap.size A l) (hc : l.length ≤ c) :
    Calls Try.prog 66 #[storeV A l.length c room, .int .i64 (n : Nat)] w (PutR (put6 l room (sqK l n 1 1)) room w) := by
  have HE := Lib.hid (e7_0 hR hc room)
  have h16 := fun W (hW : RdN W W.heap.size A l) => refSixteen_any hr A c room W hn hW
  have hput := fun W (hW : RdN W W.heap.size A l) => refPut7 (A := A) (c := c) (sqK l n 1 1) hW hr hc
  generalize put6 l room (sqK l n 1 1) = z at *
  unfold storeV at h16 ⊢
  clear hR hr
  go_enter Try.func66, Try.ntmps66
  go_wp2_with fail
  generalize (w.alloc (.cells #[.slice A l.length c, .int .i64 room] 27)).alloc (.cells #[.slice none 0 0, .int .i64 0] 27) = wx at *
  have hD0 := HE.out.below (below_drew wx)
  refine region_calm_to (Cl8 w A l.length c room) (fun (a0 a9 : Act) (w9 : World) => ∃ (A8 : Option Addr) (c8 : Nat) (A2 : Option Addr) (c2 : Nat), a9 = (((((((((((a0.put (some 7) (.agg #[.slice A l.length c, .int .i64 room])).put (some 8) (.agg #[.slice A l.length c, .int .i64 room])).put (some 9) (.int .i64 (n : Int))).put (some 10) (.slice A8 (sxTo l n 16).length c8)).put (some 11) (.agg #[.int .i64 (sqK l n 1 1).1, .int .i64 (sqK l n 1 1).2.1, .int .i64 (sqK l n 1 1).2.2.1, .int .i64 (sqK l n 1 1).2.2.2])).put (some 12) (.tuple #[.agg #[.slice A2 z.1.length c2, .int .i64 room], .int .i64 z.2.1, .int .i64 z.2.2])).put (some 13) (.agg #[.slice A2 z.1.length c2, .int .i64 room])).put (some 14) (.int .i64 z.2.1)).put (some 15) (.int .i64 z.2.2)).put (some 5) (.int .i64 z.2.1)).put (some 6) (.int .i64 z.2.2)) ∧ (z.1.length ≤ c2 ∧ Hid (w9.heap[w.heap.size + 1]? = some (.cells #[.slice A2 z.1.length c2, .int .i64 room] 27 (0, 0)) ∧ Below w.heap.size w w9 ∧ NowN w9 A2 z.1))) (.calm 0 (.calm 1 (.calm 2 (.only 3 (.only 4 (.only 5 (.calm 6 (.calm 7 (.calm 8 (.only 9 (.calm 10 (.calm 11 .done)))))))))))) (by kernel_rfl) (by kernel_rfl) (by kernel_rfl) (by rfl) hD0.cl8 ?_ ?_
  · skip
    refine ⟨_, _, (.agg #[.slice A l.length c, .int .i64 room]), rfl, rfl, ⟨rfl, fun W hW => by have s0 := hW.s0; have s1 := hW.s1; simp only [execOp]; go_simp; done⟩, ?_⟩
    simp only [Act.put, List.getElem_toArray, List.getElem_cons_zero, List.getElem_cons_succ, List.setIfInBounds_toArray, List.set_cons_succ, List.set_cons_zero]
    refine ⟨_, _, (.agg #[.slice A l.length c, .int .i64 room]), rfl, rfl, ⟨rfl, fun W hW => by have s0 := hW.s0; have s1 := hW.s1; simp only [execOp]; go_simp; done⟩, ?_⟩
    simp only [Act.put, List.getElem_toArray, List.getElem_cons_zero, List.getElem_cons_succ, List.setIfInBounds_toArray, List.set_cons_succ, List.set_cons_zero]
    refine ⟨_, _, (.int .i64 (n : Int)), rfl, rfl, ⟨rfl, fun W hW => by first | exact ⟨rfl, rfl⟩ | (simp only [Act.eval, execOp]; go_simp; try exact ⟨rfl, rfl⟩)⟩, ?_⟩
    simp only [Act.put, List.getElem_toArray, List.getElem_cons_zero, List.getElem_cons_succ, List.setIfInBounds_toArray, List.set_cons_succ, List.set_cons_zero]
    refine ⟨_, rfl, ?_⟩
    go_wp2_with fail
    refine (h16 _ hD0.st.rd).mono ?_
    rintro r w3 ⟨A8, c8, rfl, hc8, hR8, hb3⟩
    have hD3 := hD0.below hb3
    have hC := hD3.cl8
    go_wp2_with fail
    refine ⟨rfl, hC, ?_⟩
    refine ⟨_, rfl, ?_⟩
    go_wp2_with fail
    refine (refSq_any (y := 1) (x := 1) hR8 (by decide) (by decide)).mono ?_
    rintro r w4 ⟨rfl, hb4⟩
    have hD4 := hD3.below hb4
    have hC := hD4.cl8
    go_wp2_with fail
    refine ⟨rfl, hC, ?_⟩
    refine ⟨_, rfl, ?_⟩
    go_wp2_with fail
    refine (hput _ hD4.st.rd).mono ?_
    rintro r w5 ⟨v, rfl, ⟨A2, c2, rfl, hc2, hN5⟩, hb5⟩
    have hD5 := hD4.below hb5
    have hC := hD5.cl8
    have r0 := hD5.r0
    have r1 := hD5.r1
    have fr0 := hD5.free 0
    have fr1 := hD5.free 1
    have HT := Lib.hid (hD5.told hN5 (.slice A2 z.1.length c2) (.int .i64 room))
    have hCs := (hC.set 0 (.slice A2 z.1.length c2)).set 1 (.int .i64 room)
    go_wp2_with fail
    refine ⟨rfl, hC, ?_⟩
    refine ⟨_, _, (.agg #[.slice A2 z.1.length c2, .int .i64 room]), rfl, rfl, ⟨rfl, fun W hW => by first | exact ⟨rfl, rfl⟩ | (simp only [Act.eval, execOp]; go_simp; try exact ⟨rfl, rfl⟩)⟩, ?_⟩
    simp only [Act.put, List.getElem_toArray, List.getElem_cons_zero, List.getElem_cons_succ, List.setIfInBounds_toArray, List.set_cons_succ, List.set_cons_zero]
    refine ⟨_, _, (.int .i64 z.2.1), rfl, rfl, ⟨rfl, fun W hW => by first | exact ⟨rfl, rfl⟩ | (simp only [Act.eval, execOp]; go_simp; try exact ⟨rfl, rfl⟩)⟩, ?_⟩
    simp only [Act.put, List.getElem_toArray, List.getElem_cons_zero, List.getElem_cons_succ, List.setIfInBounds_toArray, List.set_cons_succ, List.set_cons_zero]
    refine ⟨_, _, (.int .i64 z.2.2), rfl, rfl, ⟨rfl, fun W hW => by first | exact ⟨rfl, rfl⟩ | (simp only [Act.eval, execOp]; go_simp; try exact ⟨rfl, rfl⟩)⟩, ?_⟩
    simp only [Act.put, List.getElem_toArray, List.getElem_cons_zero, List.getElem_cons_succ, List.setIfInBounds_toArray, List.set_cons_succ, List.set_cons_zero]
    refine ⟨_, rfl, ?_⟩
    go_wp2_with fail
    refine ⟨rfl, hCs, ?_⟩
    refine ⟨_, _, (.int .i64 z.2.1), rfl, rfl, ⟨rfl, fun W hW => by first | exact ⟨rfl, rfl⟩ | (simp only [Act.eval, execOp]; go_simp; try exact ⟨rfl, rfl⟩)⟩, ?_⟩
    simp only [Act.put, List.getElem_toArray, List.getElem_cons_zero, List.getElem_cons_succ, List.setIfInBounds_toArray, List.set_cons_succ, List.set_cons_zero]
    refine ⟨_, _, (.int .i64 z.2.2), rfl, rfl, ⟨rfl, fun W hW => by first | exact ⟨rfl, rfl⟩ | (simp only [Act.eval, execOp]; go_simp; try exact ⟨rfl, rfl⟩)⟩, ?_⟩
    simp only [Act.put, List.getElem_toArray, List.getElem_cons_zero, List.getElem_cons_succ, List.setIfInBounds_toArray, List.set_cons_succ, List.set_cons_zero]
    refine ⟨A8, c8, A2, c2, ?_, hc2, HT⟩
    first | rfl | simp only [Act.put, List.getElem_toArray, List.getElem_cons_zero, List.getElem_cons_succ, List.setIfInBounds_toArray, List.set_cons_succ, List.set_cons_zero]
  rintro a9 w9 ⟨A8, c8, A2, c2, rfl, hc2, HT⟩
  simp only [Act.put, List.setIfInBounds_toArray, List.set_cons_succ, List.set_cons_zero]
  go_wp2_with fail
  refine bodyPost_ret (results_cell3 rfl _ _ _ _ _ _ _ rfl HT.out.1 Try.underlying27 rfl (by kernel_rfl)) rfl ?_
  exact ⟨_, rfl, ⟨A2, c2, rfl, hc2, HT.out.2.2⟩, HT.out.2.1⟩
end Go.Proofs.Ytikgnjcjbjafaaa
