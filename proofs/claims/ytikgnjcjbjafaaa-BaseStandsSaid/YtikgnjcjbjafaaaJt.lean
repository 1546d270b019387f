/-
  The law's crop of layer 8: the cells of a set that are in a square about a place.
-/
import Derived.Test.YtikgnjcjbjafaaaJs
import Derived.Test.YtikgnjcjbjafaaaB08
import Derived.Test.YtikgnjcjbjafaaaB19
namespace Go.Proofs.Ytikgnjcjbjafaaa
set_option maxRecDepth 100000
set_option linter.unusedVariables false
set_option linter.unusedSimpArgs false
open Go.RowKit Go.Sort

/-- so many of a set's cells seen -/
def crTo (S : List (Int × Int)) (dx dy : Int) (e i : Nat) : List (Int × Int) := Cel.setL (cropL (S.take i) dx dy e)
section
variable {S : List (Int × Int)} {dx dy : Int} {e i : Nat}
theorem crop_snoc (h : i < S.length) : cropL (S.take (i + 1)) dx dy e = cropL (S.take i) dx dy e ++ (if insideB e ((S.getD i (0, 0)).1 - dx, (S.getD i (0, 0)).2 - dy) = true then [((S.getD i (0, 0)).1 - dx, (S.getD i (0, 0)).2 - dy)] else []) := by
  unfold cropL
  rw [Cel.take_snoc h, List.map_append, List.filter_append]
  congr 1
  simp only [List.map_cons, List.map_nil, List.filter_cons, List.filter_nil]
theorem crTo_in (h : i < S.length) (hin : insideB e ((S.getD i (0, 0)).1 - dx, (S.getD i (0, 0)).2 - dy) = true) : crTo S dx dy e (i + 1) = Cel.putL ((S.getD i (0, 0)).1 - dx, (S.getD i (0, 0)).2 - dy) (crTo S dx dy e i) := by
  unfold crTo
  rw [crop_snoc h, if_pos hin, Cel.setL_snoc]
theorem crTo_out (h : i < S.length) (hin : insideB e ((S.getD i (0, 0)).1 - dx, (S.getD i (0, 0)).2 - dy) = false) : crTo S dx dy e (i + 1) = crTo S dx dy e i := by
  unfold crTo
  rw [crop_snoc h, hin, if_neg (by decide), List.append_nil]
theorem crTo_len : (crTo S dx dy e i).length ≤ i := Nat.le_trans (Cel.length_setL _) (Nat.le_trans (len_crop _ _ _ _) (by rw [List.length_take]; omega))
end
set_option maxHeartbeats 16000000 in
theorem crop_set (A : Option Addr) (S : List (Int × Int)) (c : Nat) (dx dy : Int) (e : Nat) (w : World) (hR : RdC w w.heap.size A S) (hl : S.length ≤ 900000) (hc : S.length ≤ c) (he : e ≤ 40)
    (hb : ∀ s ∈ S, -1152921504606846976 ≤ s.1 ∧ s.1 ≤ 1152921504606846976 ∧ -1152921504606846976 ≤ s.2 ∧ s.2 ≤ 1152921504606846976) (hd : -1152921504606846976 ≤ dx ∧ dx ≤ 1152921504606846976 ∧ -1152921504606846976 ≤ dy ∧ dy ≤ 1152921504606846976) :
    Calls Try.prog 37 #[.slice A S.length c, .int .i64 dx, .int .i64 dy, .int .i64 (2 ^ e)] w (FlR (Cel.setL (cropL S dx dy e)) w) := by
  obtain ⟨hp1, hp2⟩ := pow_bd7 (e := e) (by omega)
  have hneg : IntKind.i64.wrap (-(2 ^ e)) = -(2 ^ e) := by rw [IntKind.wrap_i64]; generalize (2 : Int) ^ e = q at *; omega
  have hall : crTo S dx dy e S.length = Cel.setL (cropL S dx dy e) := by unfold crTo; rw [List.take_length]
  obtain ⟨L, hL⟩ : ∃ L, L = Cel.setL (cropL S dx dy e) := ⟨_, rfl⟩
  rw [← hL] at hall ⊢
  have HALL := Lib.hid hall
  have HB := Lib.hid hb
  have HR := Lib.hid hR
  have HP := Lib.hid (show (1 : Int) ≤ 2 ^ e ∧ (2 : Int) ^ e ≤ 1152921504606846976 from ⟨hp1, hp2⟩)
  clear hall hL hb hR
  go_enter Try.func37, Try.ntmps37
  go_wp2_with fail
  go_loopw [9, 10] (fun v i wr => ∃ (j : Nat) (A1 : Option Addr) (c1 : Nat), j ≤ S.length ∧ i = .int .i64 j ∧ v = .slice A1 (crTo S dx dy e j).length c1 ∧ (crTo S dx dy e j).length ≤ c1 ∧ Hid (RdC wr wr.heap.size A1 (crTo S dx dy e j) ∧ Below w.heap.size w wr)) (fun _ i _ => S.length - (intOf i).toNat)
  case atStart => exact ⟨0, none, 0, Nat.zero_le _, rfl, rfl, Nat.le_refl _, Cel.Rd.nil _ _ _, Below.refl _ _⟩
  case round =>
    obtain ⟨j, A1, c1, hj, rfl, rfl, hc1, HH⟩ := hrel
    have hsl := crTo_len (S := S) (dx := dx) (dy := dy) (e := e) (i := j)
    by_cases hlt : j < S.length
    · have hltz : (j : Int) < (S.length : Int) := by omega
      obtain ⟨q3, o3, hA3, hq3, hcell⟩ := Cel.Rd.at_ HR.out (by omega)
      obtain ⟨k0, k1⟩ := hcell j hlt
      have k0 := Qt.keep HH.out.2 k0
      have k1 := Qt.keep HH.out.2 k1
      have hbd := HB.out _ (Cel.getD_mem hlt)
      have hin := crTo_in (dx := dx) (dy := dy) (e := e) hlt
      have hou := crTo_out (dx := dx) (dy := dy) (e := e) hlt
      generalize S.getD j (0, 0) = xy at *
      obtain ⟨x, y⟩ := xy
      simp only at k0 k1 hbd hin hou
      obtain ⟨P, hPP⟩ : ∃ P, P = crTo S dx dy e j := ⟨_, rfl⟩
      rw [← hPP] at hin hou hsl hc1 HH ⊢
      subst hA3
      have hwx : IntKind.i64.wrap (x - dx) = x - dx := by rw [IntKind.wrap_i64]; omega
      have hwy : IntKind.i64.wrap (y - dy) = y - dy := by rw [IntKind.wrap_i64]; omega
      have hk0 := fun W (hW : Below wr.heap.size wr W) => Qt.keep hW k0
      have hk1 := fun W (hW : Below wr.heap.size wr W) => Qt.keep hW k1
      have HIN := Lib.hid hin
      have HOU := Lib.hid hou
      clear hcell k0 k1 hq3 hin hou hPP hbd
      go_wp2_with fail
      refine region_calm_to (fun W => Below wr.heap.size wr W) (fun (a0 a9 : Act) (w9 : World) => ∃ (b9 : Nat), a9 = ((((((((((((((((a0.put (some 18) (.slice (some ⟨q3, o3, none⟩) S.length c)).put (some 19) (.int .i64 (j : Int))).put (some 20) (.pointer (some ⟨q3, o3 + j * 2, none⟩))).put (some 21) (.pointer (some ⟨q3, o3 + j * 2, none⟩))).put (some 22) (.int .i64 x)).put (some 23) (.int .i64 dx)).put (some 24) (.int .i64 (x - dx))).put (some 25) (.slice (some ⟨q3, o3, none⟩) S.length c)).put (some 26) (.int .i64 (j : Int))).put (some 27) (.pointer (some ⟨q3, o3 + j * 2, none⟩))).put (some 28) (.pointer (some ⟨q3, o3 + j * 2 + 1, none⟩))).put (some 29) (.int .i64 y)).put (some 30) (.int .i64 dy)).put (some 31) (.int .i64 (y - dy))).put (some 32) (.agg #[.int .i64 (x - dx), .int .i64 (y - dy)])).put (some 11) (.pointer (some ⟨b9, 0, none⟩))) ∧ w9.heap[b9]? = some (.cells #[.int .i64 (x - dx), .int .i64 (y - dy)] 32 (0, 0)) ∧ Below wr.heap.size wr w9) (.calm 0 (.calm 1 (.calm 2 (.calm 3 (.calm 4 (.calm 5 (.calm 6 (.calm 7 (.calm 8 (.calm 9 (.calm 10 (.calm 11 (.calm 12 (.calm 13 (.calm 14 (.only 15 (.only 16 .done))))))))))))))))) (by kernel_rfl) (by kernel_rfl) (by kernel_rfl) (by rfl) (below_drew _) ?_ ?_
      · skip
        refine ⟨_, _, (.slice (some ⟨q3, o3, none⟩) S.length c), rfl, rfl, ⟨rfl, fun W hW => by first | exact ⟨rfl, rfl⟩ | (simp only [Act.eval, execOp]; go_simp; try exact ⟨rfl, rfl⟩)⟩, ?_⟩
        simp only [Act.put, List.getElem_toArray, List.getElem_cons_zero, List.getElem_cons_succ, List.setIfInBounds_toArray, List.set_cons_succ, List.set_cons_zero]
        refine ⟨_, _, (.int .i64 (j : Int)), rfl, rfl, ⟨rfl, fun W hW => by first | exact ⟨rfl, rfl⟩ | (simp only [Act.eval, execOp]; go_simp; try exact ⟨rfl, rfl⟩)⟩, ?_⟩
        simp only [Act.put, List.getElem_toArray, List.getElem_cons_zero, List.getElem_cons_succ, List.setIfInBounds_toArray, List.set_cons_succ, List.set_cons_zero]
        refine ⟨_, _, (.pointer (some ⟨q3, o3 + j * 2, none⟩)), rfl, rfl, ⟨rfl, fun W hW => by first | exact ⟨rfl, rfl⟩ | (simp only [Act.eval, execOp]; go_simp; try exact ⟨rfl, rfl⟩)⟩, ?_⟩
        simp only [Act.put, List.getElem_toArray, List.getElem_cons_zero, List.getElem_cons_succ, List.setIfInBounds_toArray, List.set_cons_succ, List.set_cons_zero]
        refine ⟨_, _, (.pointer (some ⟨q3, o3 + j * 2, none⟩)), rfl, rfl, ⟨rfl, fun W hW => by first | exact ⟨rfl, rfl⟩ | (simp only [Act.eval, execOp]; go_simp; try exact ⟨rfl, rfl⟩)⟩, ?_⟩
        simp only [Act.put, List.getElem_toArray, List.getElem_cons_zero, List.getElem_cons_succ, List.setIfInBounds_toArray, List.set_cons_succ, List.set_cons_zero]
        refine ⟨_, _, (.int .i64 x), rfl, rfl, ⟨rfl, fun W hW => by have s0 := hk0 W hW; simp only [execOp]; go_simp; done⟩, ?_⟩
        simp only [Act.put, List.getElem_toArray, List.getElem_cons_zero, List.getElem_cons_succ, List.setIfInBounds_toArray, List.set_cons_succ, List.set_cons_zero]
        refine ⟨_, _, (.int .i64 dx), rfl, rfl, ⟨rfl, fun W hW => by first | exact ⟨rfl, rfl⟩ | (simp only [Act.eval, execOp]; go_simp; try exact ⟨rfl, rfl⟩)⟩, ?_⟩
        simp only [Act.put, List.getElem_toArray, List.getElem_cons_zero, List.getElem_cons_succ, List.setIfInBounds_toArray, List.set_cons_succ, List.set_cons_zero]
        refine ⟨_, _, (.int .i64 (x - dx)), rfl, rfl, ⟨rfl, fun W hW => by first | exact ⟨rfl, rfl⟩ | (simp only [Act.eval, execOp]; go_simp; try exact ⟨rfl, rfl⟩)⟩, ?_⟩
        simp only [Act.put, List.getElem_toArray, List.getElem_cons_zero, List.getElem_cons_succ, List.setIfInBounds_toArray, List.set_cons_succ, List.set_cons_zero]
        refine ⟨_, _, (.slice (some ⟨q3, o3, none⟩) S.length c), rfl, rfl, ⟨rfl, fun W hW => by first | exact ⟨rfl, rfl⟩ | (simp only [Act.eval, execOp]; go_simp; try exact ⟨rfl, rfl⟩)⟩, ?_⟩
        simp only [Act.put, List.getElem_toArray, List.getElem_cons_zero, List.getElem_cons_succ, List.setIfInBounds_toArray, List.set_cons_succ, List.set_cons_zero]
        refine ⟨_, _, (.int .i64 (j : Int)), rfl, rfl, ⟨rfl, fun W hW => by first | exact ⟨rfl, rfl⟩ | (simp only [Act.eval, execOp]; go_simp; try exact ⟨rfl, rfl⟩)⟩, ?_⟩
        simp only [Act.put, List.getElem_toArray, List.getElem_cons_zero, List.getElem_cons_succ, List.setIfInBounds_toArray, List.set_cons_succ, List.set_cons_zero]
        refine ⟨_, _, (.pointer (some ⟨q3, o3 + j * 2, none⟩)), rfl, rfl, ⟨rfl, fun W hW => by first | exact ⟨rfl, rfl⟩ | (simp only [Act.eval, execOp]; go_simp; try exact ⟨rfl, rfl⟩)⟩, ?_⟩
        simp only [Act.put, List.getElem_toArray, List.getElem_cons_zero, List.getElem_cons_succ, List.setIfInBounds_toArray, List.set_cons_succ, List.set_cons_zero]
        refine ⟨_, _, (.pointer (some ⟨q3, o3 + j * 2 + 1, none⟩)), rfl, rfl, ⟨rfl, fun W hW => by first | exact ⟨rfl, rfl⟩ | (simp only [Act.eval, execOp]; go_simp; try exact ⟨rfl, rfl⟩)⟩, ?_⟩
        simp only [Act.put, List.getElem_toArray, List.getElem_cons_zero, List.getElem_cons_succ, List.setIfInBounds_toArray, List.set_cons_succ, List.set_cons_zero]
        refine ⟨_, _, (.int .i64 y), rfl, rfl, ⟨rfl, fun W hW => by have s1 := hk1 W hW; simp only [execOp]; go_simp; done⟩, ?_⟩
        simp only [Act.put, List.getElem_toArray, List.getElem_cons_zero, List.getElem_cons_succ, List.setIfInBounds_toArray, List.set_cons_succ, List.set_cons_zero]
        refine ⟨_, _, (.int .i64 dy), rfl, rfl, ⟨rfl, fun W hW => by first | exact ⟨rfl, rfl⟩ | (simp only [Act.eval, execOp]; go_simp; try exact ⟨rfl, rfl⟩)⟩, ?_⟩
        simp only [Act.put, List.getElem_toArray, List.getElem_cons_zero, List.getElem_cons_succ, List.setIfInBounds_toArray, List.set_cons_succ, List.set_cons_zero]
        refine ⟨_, _, (.int .i64 (y - dy)), rfl, rfl, ⟨rfl, fun W hW => by first | exact ⟨rfl, rfl⟩ | (simp only [Act.eval, execOp]; go_simp; try exact ⟨rfl, rfl⟩)⟩, ?_⟩
        simp only [Act.put, List.getElem_toArray, List.getElem_cons_zero, List.getElem_cons_succ, List.setIfInBounds_toArray, List.set_cons_succ, List.set_cons_zero]
        refine ⟨_, _, (.agg #[.int .i64 (x - dx), .int .i64 (y - dy)]), rfl, rfl, ⟨rfl, fun W hW => by first | exact ⟨rfl, rfl⟩ | (simp only [Act.eval, execOp]; go_simp; try exact ⟨rfl, rfl⟩)⟩, ?_⟩
        simp only [Act.put, List.getElem_toArray, List.getElem_cons_zero, List.getElem_cons_succ, List.setIfInBounds_toArray, List.set_cons_succ, List.set_cons_zero]
        refine ⟨_, rfl, ?_⟩
        have hBa1 := ((below_drew wr)).alloc (Nat.le_refl _) (.cells #[.int .i64 0, .int .i64 0] 32)
        have hra1 : (wr.drew.alloc (.cells #[.int .i64 0, .int .i64 0] 32 (0, 0))).heap[wr.heap.size]? = _ := heap_alloc_new wr.drew (.cells #[.int .i64 0, .int .i64 0] 32 (0, 0))
        go_wp2_with fail
        refine ⟨rfl, hBa1, ?_⟩
        have hB9 := ((below_drew wr)).alloc (Nat.le_refl _) (.cells #[.int .i64 (x - dx), .int .i64 (y - dy)] 32)
        have hS9 := heap_alloc_new wr.drew (.cells #[.int .i64 (x - dx), .int .i64 (y - dy)] 32 (0, 0))
        refine ⟨_, rfl, ?_⟩
        go_wp2_with fail
        refine ⟨rfl, hB9, ?_⟩
        show ∃ (b9 : Nat), _
        refine ⟨wr.heap.size, ?_, hS9, hB9⟩
        first | rfl | simp only [Act.put, List.getElem_toArray, List.getElem_cons_zero, List.getElem_cons_succ, List.setIfInBounds_toArray, List.set_cons_succ, List.set_cons_zero]
      rintro a9 w9 ⟨b9, rfl, hS9, hb9⟩
      simp only [Act.put, List.setIfInBounds_toArray, List.set_cons_succ, List.set_cons_zero]
      have HWB := Lib.hid (Qt.more HH.out.2 HH.out.2.size hb9)
      have HR1 := Lib.hid ((Cel.Rd.below HH.out.1 hb9 (Nat.le_refl _)).more hb9.size)
      have d0 : w9.cell? ⟨b9, 0, none⟩ = some (.int .i64 (x - dx)) := by rw [Lib.cell_of_heap hS9]; rfl
      have d1 : w9.cell? ⟨b9, 1, none⟩ = some (.int .i64 (y - dy)) := by rw [Lib.cell_of_heap hS9]; rfl
      clear hk0 hk1 hwx hwy hS9 hb9 HH
      generalize x - dx = u at *
      generalize y - dy = v at *
      have hcase : (¬ -(2 ^ e) ≤ u ∧ insideB e (u, v) = false) ∨ (-(2 ^ e) ≤ u ∧ ¬ u < 2 ^ e ∧ insideB e (u, v) = false) ∨ (-(2 ^ e) ≤ u ∧ u < 2 ^ e ∧ ¬ -(2 ^ e) ≤ v ∧ insideB e (u, v) = false) ∨ (-(2 ^ e) ≤ u ∧ u < 2 ^ e ∧ -(2 ^ e) ≤ v ∧ ¬ v < 2 ^ e ∧ insideB e (u, v) = false) ∨ (-(2 ^ e) ≤ u ∧ u < 2 ^ e ∧ -(2 ^ e) ≤ v ∧ v < 2 ^ e ∧ insideB e (u, v) = true) := by
        unfold insideB
        simp only [decide_eq_false_iff_not, decide_eq_true_eq]
        generalize (2 : Int) ^ e = p at *
        omega
      rcases hcase with ⟨a1, a5⟩ | ⟨a1, a2, a5⟩ | ⟨a1, a2, a3, a5⟩ | ⟨a1, a2, a3, a4, a5⟩ | ⟨a1, a2, a3, a4, a5⟩
      iterate 4
        · have hst := HOU.out a5
          have HST := Lib.hid hst
          clear a5 hst HIN HOU
          go_wp2_with fail
          go_roundw
          case measure => simp [intOf]; omega
          case rel => exact ⟨j + 1, A1, c1, by omega, by go_num, by rw [HST.out], by rw [HST.out]; exact hc1, by rw [HST.out]; exact HR1.out, HWB.out⟩
      · have hst := HIN.out a5
        have HST := Lib.hid hst
        have hc := Cel.put_any A1 P c1 (u, v) w9 HR1.out (by omega) hc1
        clear a5 hst HIN HOU
        go_wp2_with fail
        refine hc.mono ?_
        rintro r w8 ⟨v9, rfl, hown, hb8⟩
        obtain ⟨A9, c9, rfl, hc9, hR9⟩ := Cel.Own.rd hown
        have HR9 := Lib.hid hR9
        have HWC := Lib.hid (Qt.more HWB.out HWB.out.size hb8)
        clear hc hown hR9 hb8 d0 d1 a1 a2 a3 a4 HWB HR1
        go_wp2_with fail
        go_roundw
        case measure => simp [intOf]; omega
        case rel => exact ⟨j + 1, A9, c9, by omega, by go_num, by rw [HST.out], by rw [HST.out]; exact hc9, by rw [HST.out]; exact HR9.out, HWC.out⟩
    · obtain rfl : j = S.length := by omega
      have hltz : ¬ (S.length : Int) < (S.length : Int) := by omega
      have hR1 := HH.out.1
      rw [HALL.out] at hR1 hc1 ⊢
      have HR1 := Lib.hid hR1
      have HBL := Lib.hid HH.out.2
      clear HH hR1 hsl
      go_wp2_with fail
      go_ret
      exact ⟨A1, c1, rfl, hc1, HR1.out, HBL.out⟩
theorem setL_crop {S : List (Int × Int)} (hS : Cel.Rises S) (dx dy : Int) (e : Nat) : Cel.setL (cropL S dx dy e) = cropL S dx dy e := Cel.rises_ext (Cel.rises_setL _) (rises_crop hS _ _ _) fun y => Cel.mem_setL _ y
theorem crop_any (A : Option Addr) (S : List (Int × Int)) (c : Nat) (dx dy : Int) (e : Nat) (w : World) (hR : RdC w w.heap.size A S) (hl : S.length ≤ 900000) (hc : S.length ≤ c) (he : e ≤ 40) (hS : Cel.Rises S)
    (hb : ∀ s ∈ S, -1152921504606846976 ≤ s.1 ∧ s.1 ≤ 1152921504606846976 ∧ -1152921504606846976 ≤ s.2 ∧ s.2 ≤ 1152921504606846976) (hd : -1152921504606846976 ≤ dx ∧ dx ≤ 1152921504606846976 ∧ -1152921504606846976 ≤ dy ∧ dy ≤ 1152921504606846976) :
    Calls Try.prog 37 #[.slice A S.length c, .int .i64 dx, .int .i64 dy, .int .i64 (2 ^ e)] w (FlR (cropL S dx dy e) w) := by
  have h := crop_set A S c dx dy e w hR hl hc he hb hd
  rwa [setL_crop hS] at h
end Go.Proofs.Ytikgnjcjbjafaaa
