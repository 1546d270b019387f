/-
  The law BaseTurned.
-/
import Derived.Test.YtikgnjcjbjafaaaJr
import Derived.Test.YtikgnjcjbjafaaaKf
namespace Go.Proofs.Ytikgnjcjbjafaaa
set_option maxRecDepth 100000
set_option linter.unusedVariables false
set_option linter.unusedSimpArgs false
open Go.RowKit Go.Sort

set_option maxHeartbeats 16000000 in
theorem baseTurned_law (B : Option Addr) (rs : List (Int × Int)) (d : Nat) (w : World)
    (hB : RdC w w.heap.size B rs) (hBl : rs.length ≤ 9223372036854775807) (hBc : rs.length ≤ d) (hBw : ∀ p ∈ rs, Cel.I64 p.1 ∧ Cel.I64 p.2) :
    Calls Try.prog 12 #[.slice B rs.length d] w fun e w' => e = .returned (.bool true) ∧ Below w.heap.size w w' := by
  have HB := Lib.hid hB
  have HCW := Lib.hid hBw
  clear hB hBw
  go_enter Try.func12, Try.ntmps12
  go_wp2_with fail
  refine (awake8_any w).mono ?_
  rintro r v2 ⟨rfl, hb1⟩
  have HB2 := Lib.hid hb1
  have HCS := Lib.hid ((Cel.Rd.below HB.out hb1 (Nat.le_refl _)).more hb1.size)
  clear HB hb1
  go_wp2_with fail
  go_loopw [4, 5, 6] (fun v v' u wr => ∃ (i : Nat) (A1 : Option Addr) (c1 : Nat) (A2 : Option Addr) (c2 : Nat), i ≤ 16 ∧ i ≤ rs.length ∧ u = .int .i64 i ∧ v = .slice A1 (smTo rs i).length c1 ∧ v' = .slice A2 (tuTo rs i).length c2 ∧ (smTo rs i).length ≤ c1 ∧ (tuTo rs i).length ≤ c2 ∧ Hid (RdC wr wr.heap.size A1 (smTo rs i) ∧ RdC wr wr.heap.size A2 (tuTo rs i) ∧ Below v2.heap.size v2 wr)) (fun _ _ u _ => 16 - (intOf u).toNat)
  case atStart => exact ⟨0, none, 0, none, 0, Nat.zero_le _, Nat.zero_le _, rfl, rfl, rfl, Nat.le_refl _, Nat.le_refl _, Cel.Rd.nil _ _ _, Cel.Rd.nil _ _ _, Below.refl _ _⟩
  case round =>
    obtain ⟨i, A1, c1, A2, c2, hi, his, rfl, rfl, rfl, hc1, hc2, HH⟩ := hrel
    have hsl := smTo_len rs i
    have htl := tuTo_len rs i
    by_cases hgo : i < rs.length ∧ i < 16
    · obtain ⟨hlt, h16⟩ := hgo
      have hltz : (i : Int) < (rs.length : Int) := by omega
      have h16z : (i : Int) < 16 := by omega
      have hst := smTo_succ hlt
      have htt := tuTo_succ hlt
      obtain ⟨S, hSS⟩ : ∃ S, S = smTo rs i := ⟨_, rfl⟩
      obtain ⟨T, hTT⟩ : ∃ T, T = tuTo rs i := ⟨_, rfl⟩
      rw [← hSS] at hst hsl hc1 HH ⊢
      rw [← hTT] at htt htl hc2 HH ⊢
      obtain ⟨hx1, hx2⟩ := HCW.out _ (getD_mem8 hlt)
      obtain ⟨q3, o3, hA3, hq3, hcell⟩ := Cel.Rd.at_ (Cel.Rd.below HCS.out HH.out.2.2 (Nat.le_refl _)) (by omega)
      obtain ⟨k0, k1⟩ := hcell i hlt
      have hp1 := fun W => (pick8_any (rs.getD i (0, 0)).1 4 W hx1.1 hx1.2 (by decide) (by decide)).mono (fun e w' h => (⟨h.1, h.2 ▸ Below.refl _ _⟩ : e = .returned (.int .i64 (pickI (rs.getD i (0, 0)).1 4)) ∧ Below W.heap.size W w'))
      have hp2 := fun W => (pick8_any (rs.getD i (0, 0)).2 4 W hx2.1 hx2.2 (by decide) (by decide)).mono (fun e w' h => (⟨h.1, h.2 ▸ Below.refl _ _⟩ : e = .returned (.int .i64 (pickI (rs.getD i (0, 0)).2 4)) ∧ Below W.heap.size W w'))
      have hq1 := pickI_bd (rs.getD i (0, 0)).1 4 (by decide)
      have hq2 := pickI_bd (rs.getD i (0, 0)).2 4 (by decide)
      unfold smC at hst htt
      generalize rs.getD i (0, 0) = xy at *
      obtain ⟨x, y⟩ := xy
      simp only at hp1 hp2 hq1 hq2 hst htt k0 k1
      generalize pickI x 4 = qx at *
      generalize pickI y 4 = qy at *
      unfold halfT at htt
      simp only at htt
      subst hA3
      have hwx : IntKind.i64.wrap (qx - 2) = qx - 2 := by rw [IntKind.wrap_i64]; omega
      have hwy : IntKind.i64.wrap (qy - 2) = qy - 2 := by rw [IntKind.wrap_i64]; omega
      have hk0 := fun W (hW : Below wr.heap.size wr W) => Qt.keep hW k0
      have hk1 := fun W (hW : Below wr.heap.size wr W) => Qt.keep hW k1
      have HW := Lib.hid HH.out
      have HST := Lib.hid hst
      have HTT := Lib.hid htt
      clear hcell k0 k1 hq3 hx1 hx2 hst htt HH hSS hTT
      go_wp2_with fail
      refine region_calm_to (fun W => Below wr.heap.size wr W) (fun (a0 a9 : Act) (w9 : World) => ∃ (b9 : Nat), a9 = ((((((((((((((((a0.put (some 33) (.slice (some ⟨q3, o3, none⟩) rs.length d)).put (some 34) (.int .i64 (i : Int))).put (some 35) (.pointer (some ⟨q3, o3 + i * 2, none⟩))).put (some 36) (.pointer (some ⟨q3, o3 + i * 2, none⟩))).put (some 37) (.int .i64 x)).put (some 40) (.slice (some ⟨q3, o3, none⟩) rs.length d)).put (some 41) (.int .i64 (i : Int))).put (some 42) (.pointer (some ⟨q3, o3 + i * 2, none⟩))).put (some 43) (.pointer (some ⟨q3, o3 + i * 2 + 1, none⟩))).put (some 44) (.int .i64 y)).put (some 38) (.int .i64 qx)).put (some 39) (.int .i64 (qx - 2))).put (some 45) (.int .i64 qy)).put (some 46) (.int .i64 (qy - 2))).put (some 47) (.agg #[.int .i64 (qx - 2), .int .i64 (qy - 2)])).put (some 7) (.pointer (some ⟨b9, 0, none⟩))) ∧ w9.heap[b9]? = some (.cells #[.int .i64 (qx - 2), .int .i64 (qy - 2)] 32 (0, 0)) ∧ Below wr.heap.size wr w9) (.calm 0 (.calm 1 (.calm 2 (.calm 3 (.calm 4 (.calm 7 (.calm 8 (.calm 9 (.calm 10 (.calm 11 (.two 5 15 (.calm 6 (.two 12 15 (.calm 13 (.calm 14 (.only 15 (.only 16 .done)))) (.only 12 (.calm 13 (.calm 14 (.only 16 .done)))))) (.only 5 (.calm 6 (.only 12 (.calm 13 (.calm 14 (.only 16 .done))))))))))))))))) (by kernel_rfl) (by kernel_rfl) (by kernel_rfl) (by rfl) (below_drew _) ?_ ?_
      · skip
        refine ⟨_, _, (.slice (some ⟨q3, o3, none⟩) rs.length d), rfl, rfl, ⟨rfl, fun W hW => by first | exact ⟨rfl, rfl⟩ | (simp only [Act.eval, execOp]; go_simp; try exact ⟨rfl, rfl⟩)⟩, ?_⟩
        simp only [Act.put, List.getElem_toArray, List.getElem_cons_zero, List.getElem_cons_succ, List.setIfInBounds_toArray, List.set_cons_succ, List.set_cons_zero]
        refine ⟨_, _, (.int .i64 (i : Int)), rfl, rfl, ⟨rfl, fun W hW => by first | exact ⟨rfl, rfl⟩ | (simp only [Act.eval, execOp]; go_simp; try exact ⟨rfl, rfl⟩)⟩, ?_⟩
        simp only [Act.put, List.getElem_toArray, List.getElem_cons_zero, List.getElem_cons_succ, List.setIfInBounds_toArray, List.set_cons_succ, List.set_cons_zero]
        refine ⟨_, _, (.pointer (some ⟨q3, o3 + i * 2, none⟩)), rfl, rfl, ⟨rfl, fun W hW => by first | exact ⟨rfl, rfl⟩ | (simp only [Act.eval, execOp]; go_simp; try exact ⟨rfl, rfl⟩)⟩, ?_⟩
        simp only [Act.put, List.getElem_toArray, List.getElem_cons_zero, List.getElem_cons_succ, List.setIfInBounds_toArray, List.set_cons_succ, List.set_cons_zero]
        refine ⟨_, _, (.pointer (some ⟨q3, o3 + i * 2, none⟩)), rfl, rfl, ⟨rfl, fun W hW => by first | exact ⟨rfl, rfl⟩ | (simp only [Act.eval, execOp]; go_simp; try exact ⟨rfl, rfl⟩)⟩, ?_⟩
        simp only [Act.put, List.getElem_toArray, List.getElem_cons_zero, List.getElem_cons_succ, List.setIfInBounds_toArray, List.set_cons_succ, List.set_cons_zero]
        refine ⟨_, _, (.int .i64 x), rfl, rfl, ⟨rfl, fun W hW => by have s0 := hk0 W hW; simp only [execOp]; go_simp; done⟩, ?_⟩
        simp only [Act.put, List.getElem_toArray, List.getElem_cons_zero, List.getElem_cons_succ, List.setIfInBounds_toArray, List.set_cons_succ, List.set_cons_zero]
        refine ⟨_, _, (.slice (some ⟨q3, o3, none⟩) rs.length d), rfl, rfl, ⟨rfl, fun W hW => by first | exact ⟨rfl, rfl⟩ | (simp only [Act.eval, execOp]; go_simp; try exact ⟨rfl, rfl⟩)⟩, ?_⟩
        simp only [Act.put, List.getElem_toArray, List.getElem_cons_zero, List.getElem_cons_succ, List.setIfInBounds_toArray, List.set_cons_succ, List.set_cons_zero]
        refine ⟨_, _, (.int .i64 (i : Int)), rfl, rfl, ⟨rfl, fun W hW => by first | exact ⟨rfl, rfl⟩ | (simp only [Act.eval, execOp]; go_simp; try exact ⟨rfl, rfl⟩)⟩, ?_⟩
        simp only [Act.put, List.getElem_toArray, List.getElem_cons_zero, List.getElem_cons_succ, List.setIfInBounds_toArray, List.set_cons_succ, List.set_cons_zero]
        refine ⟨_, _, (.pointer (some ⟨q3, o3 + i * 2, none⟩)), rfl, rfl, ⟨rfl, fun W hW => by first | exact ⟨rfl, rfl⟩ | (simp only [Act.eval, execOp]; go_simp; try exact ⟨rfl, rfl⟩)⟩, ?_⟩
        simp only [Act.put, List.getElem_toArray, List.getElem_cons_zero, List.getElem_cons_succ, List.setIfInBounds_toArray, List.set_cons_succ, List.set_cons_zero]
        refine ⟨_, _, (.pointer (some ⟨q3, o3 + i * 2 + 1, none⟩)), rfl, rfl, ⟨rfl, fun W hW => by first | exact ⟨rfl, rfl⟩ | (simp only [Act.eval, execOp]; go_simp; try exact ⟨rfl, rfl⟩)⟩, ?_⟩
        simp only [Act.put, List.getElem_toArray, List.getElem_cons_zero, List.getElem_cons_succ, List.setIfInBounds_toArray, List.set_cons_succ, List.set_cons_zero]
        refine ⟨_, _, (.int .i64 y), rfl, rfl, ⟨rfl, fun W hW => by have s1 := hk1 W hW; simp only [execOp]; go_simp; done⟩, ?_⟩
        simp only [Act.put, List.getElem_toArray, List.getElem_cons_zero, List.getElem_cons_succ, List.setIfInBounds_toArray, List.set_cons_succ, List.set_cons_zero]
        constructor
        · skip
          refine ⟨_, rfl, ?_⟩
          go_wp2_with fail
          refine (hp1 _).mono ?_
          intro e w7 h
          obtain ⟨rfl, hb⟩ := h
          have hBc1 := Qt.more (below_drew wr) (Nat.le_refl _) hb
          have hb_0_1 := hb
          go_wp2_with fail
          refine ⟨rfl, hBc1, ?_⟩
          refine ⟨_, _, (.int .i64 (qx - 2)), rfl, rfl, ⟨rfl, fun W hW => by first | exact ⟨rfl, rfl⟩ | (simp only [Act.eval, execOp]; go_simp; try exact ⟨rfl, rfl⟩)⟩, ?_⟩
          simp only [Act.put, List.getElem_toArray, List.getElem_cons_zero, List.getElem_cons_succ, List.setIfInBounds_toArray, List.set_cons_succ, List.set_cons_zero]
          constructor
          · skip
            refine ⟨_, rfl, ?_⟩
            go_wp2_with fail
            refine (hp2 _).mono ?_
            intro e w8 h
            obtain ⟨rfl, hb⟩ := h
            have hBc2 := Qt.more hBc1 (hBc1).size hb
            have hb_1_2 := hb
            go_wp2_with fail
            refine ⟨rfl, hBc2, ?_⟩
            refine ⟨_, _, (.int .i64 (qy - 2)), rfl, rfl, ⟨rfl, fun W hW => by first | exact ⟨rfl, rfl⟩ | (simp only [Act.eval, execOp]; go_simp; try exact ⟨rfl, rfl⟩)⟩, ?_⟩
            simp only [Act.put, List.getElem_toArray, List.getElem_cons_zero, List.getElem_cons_succ, List.setIfInBounds_toArray, List.set_cons_succ, List.set_cons_zero]
            refine ⟨_, _, (.agg #[.int .i64 (qx - 2), .int .i64 (qy - 2)]), rfl, rfl, ⟨rfl, fun W hW => by first | exact ⟨rfl, rfl⟩ | (simp only [Act.eval, execOp]; go_simp; try exact ⟨rfl, rfl⟩)⟩, ?_⟩
            simp only [Act.put, List.getElem_toArray, List.getElem_cons_zero, List.getElem_cons_succ, List.setIfInBounds_toArray, List.set_cons_succ, List.set_cons_zero]
            refine ⟨_, rfl, ?_⟩
            have hBa3 := (hBc2).alloc (hBc2).size (.cells #[.int .i64 0, .int .i64 0] 32)
            have hra3 : (w8.alloc (.cells #[.int .i64 0, .int .i64 0] 32 (0, 0))).heap[w8.heap.size]? = _ := heap_alloc_new w8 (.cells #[.int .i64 0, .int .i64 0] 32 (0, 0))
            go_wp2_with fail
            refine ⟨rfl, hBa3, ?_⟩
            have hle_w8 : wr.heap.size ≤ w8.heap.size := (hBc2).size
            have hB9 := (hBc2).alloc (hBc2).size (.cells #[.int .i64 (qx - 2), .int .i64 (qy - 2)] 32)
            have hS9 := heap_alloc_new w8 (.cells #[.int .i64 (qx - 2), .int .i64 (qy - 2)] 32 (0, 0))
            refine ⟨_, rfl, ?_⟩
            go_wp2_with fail
            refine ⟨rfl, hB9, ?_⟩
            show ∃ (b9 : Nat), _
            refine ⟨w8.heap.size, ?_, hS9, hB9⟩
            first | rfl | simp only [Act.put, List.getElem_toArray, List.getElem_cons_zero, List.getElem_cons_succ, List.setIfInBounds_toArray, List.set_cons_succ, List.set_cons_zero]
          · skip
            refine ⟨_, rfl, ?_⟩
            have hBa2 := (hBc1).alloc (hBc1).size (.cells #[.int .i64 0, .int .i64 0] 32)
            have hra2 : (w7.alloc (.cells #[.int .i64 0, .int .i64 0] 32 (0, 0))).heap[w7.heap.size]? = _ := heap_alloc_new w7 (.cells #[.int .i64 0, .int .i64 0] 32 (0, 0))
            go_wp2_with fail
            refine ⟨rfl, hBa2, ?_⟩
            have hle_w7 : wr.heap.size ≤ w7.heap.size := (hBc1).size
            refine ⟨_, rfl, ?_⟩
            go_wp2_with fail
            refine (hp2 _).mono ?_
            intro e w8 h
            obtain ⟨rfl, hb⟩ := h
            have hBc4 := Qt.more hBa2 (hBa2).size hb
            have hrw4 := (hb.block _ (lt_heap6 hra2)).trans hra2
            have hb_1_4 := hb
            have f0 : w8.frozen? ⟨w7.heap.size, 0, none⟩ = false := Lib.frozen_of_heap hrw4 0
            have f1 : w8.frozen? ⟨w7.heap.size, 1, none⟩ = false := Lib.frozen_of_heap hrw4 1
            have g0 : w8.cell? ⟨w7.heap.size, 0, none⟩ = some (.int .i64 0) := by rw [Lib.cell_of_heap hrw4]; rfl
            have g1 : w8.cell? ⟨w7.heap.size, 1, none⟩ = some (.int .i64 0) := by rw [Lib.cell_of_heap hrw4]; rfl
            go_wp2_with fail
            refine ⟨rfl, hBc4, ?_⟩
            refine ⟨_, _, (.int .i64 (qy - 2)), rfl, rfl, ⟨rfl, fun W hW => by first | exact ⟨rfl, rfl⟩ | (simp only [Act.eval, execOp]; go_simp; try exact ⟨rfl, rfl⟩)⟩, ?_⟩
            simp only [Act.put, List.getElem_toArray, List.getElem_cons_zero, List.getElem_cons_succ, List.setIfInBounds_toArray, List.set_cons_succ, List.set_cons_zero]
            refine ⟨_, _, (.agg #[.int .i64 (qx - 2), .int .i64 (qy - 2)]), rfl, rfl, ⟨rfl, fun W hW => by first | exact ⟨rfl, rfl⟩ | (simp only [Act.eval, execOp]; go_simp; try exact ⟨rfl, rfl⟩)⟩, ?_⟩
            simp only [Act.put, List.getElem_toArray, List.getElem_cons_zero, List.getElem_cons_succ, List.setIfInBounds_toArray, List.set_cons_succ, List.set_cons_zero]
            have hB9 := ((hBc4.setCell (p := ⟨w7.heap.size, 0, none⟩) (hle_w7) (.int .i64 (qx - 2))).setCell (p := ⟨w7.heap.size, 1, none⟩) (hle_w7) (.int .i64 (qy - 2)))
            have hS9 : ((w8.setCell ⟨w7.heap.size, 0, none⟩ (.int .i64 (qx - 2))).setCell ⟨w7.heap.size, 1, none⟩ (.int .i64 (qy - 2))).heap[w7.heap.size]? = some (.cells #[.int .i64 (qx - 2), .int .i64 (qy - 2)] 32 (0, 0)) := by have hh := hrw4; simp [World.setCell, Array.getElem?_modify, hh]
            refine ⟨_, rfl, ?_⟩
            go_wp2_with fail
            refine ⟨rfl, hB9, ?_⟩
            show ∃ (b9 : Nat), _
            refine ⟨w7.heap.size, ?_, hS9, hB9⟩
            first | rfl | simp only [Act.put, List.getElem_toArray, List.getElem_cons_zero, List.getElem_cons_succ, List.setIfInBounds_toArray, List.set_cons_succ, List.set_cons_zero]
        · skip
          refine ⟨_, rfl, ?_⟩
          have hBa1 := ((below_drew wr)).alloc (Nat.le_refl _) (.cells #[.int .i64 0, .int .i64 0] 32)
          have hra1 : (wr.drew.alloc (.cells #[.int .i64 0, .int .i64 0] 32 (0, 0))).heap[wr.heap.size]? = _ := heap_alloc_new wr.drew (.cells #[.int .i64 0, .int .i64 0] 32 (0, 0))
          go_wp2_with fail
          refine ⟨rfl, hBa1, ?_⟩
          refine ⟨_, rfl, ?_⟩
          go_wp2_with fail
          refine (hp1 _).mono ?_
          intro e w7 h
          obtain ⟨rfl, hb⟩ := h
          have hBc6 := Qt.more hBa1 (hBa1).size hb
          have hrw6 := (hb.block _ (lt_heap6 hra1)).trans hra1
          have hb_0_6 := hb
          go_wp2_with fail
          refine ⟨rfl, hBc6, ?_⟩
          refine ⟨_, _, (.int .i64 (qx - 2)), rfl, rfl, ⟨rfl, fun W hW => by first | exact ⟨rfl, rfl⟩ | (simp only [Act.eval, execOp]; go_simp; try exact ⟨rfl, rfl⟩)⟩, ?_⟩
          simp only [Act.put, List.getElem_toArray, List.getElem_cons_zero, List.getElem_cons_succ, List.setIfInBounds_toArray, List.set_cons_succ, List.set_cons_zero]
          refine ⟨_, rfl, ?_⟩
          go_wp2_with fail
          refine (hp2 _).mono ?_
          intro e w8 h
          obtain ⟨rfl, hb⟩ := h
          have hBc7 := Qt.more hBc6 (hBc6).size hb
          have hrw7 := (hb.block _ (lt_heap6 hrw6)).trans hrw6
          have hb_1_7 := hb
          have f0 : w8.frozen? ⟨wr.heap.size, 0, none⟩ = false := Lib.frozen_of_heap hrw7 0
          have f1 : w8.frozen? ⟨wr.heap.size, 1, none⟩ = false := Lib.frozen_of_heap hrw7 1
          have g0 : w8.cell? ⟨wr.heap.size, 0, none⟩ = some (.int .i64 0) := by rw [Lib.cell_of_heap hrw7]; rfl
          have g1 : w8.cell? ⟨wr.heap.size, 1, none⟩ = some (.int .i64 0) := by rw [Lib.cell_of_heap hrw7]; rfl
          go_wp2_with fail
          refine ⟨rfl, hBc7, ?_⟩
          refine ⟨_, _, (.int .i64 (qy - 2)), rfl, rfl, ⟨rfl, fun W hW => by first | exact ⟨rfl, rfl⟩ | (simp only [Act.eval, execOp]; go_simp; try exact ⟨rfl, rfl⟩)⟩, ?_⟩
          simp only [Act.put, List.getElem_toArray, List.getElem_cons_zero, List.getElem_cons_succ, List.setIfInBounds_toArray, List.set_cons_succ, List.set_cons_zero]
          refine ⟨_, _, (.agg #[.int .i64 (qx - 2), .int .i64 (qy - 2)]), rfl, rfl, ⟨rfl, fun W hW => by first | exact ⟨rfl, rfl⟩ | (simp only [Act.eval, execOp]; go_simp; try exact ⟨rfl, rfl⟩)⟩, ?_⟩
          simp only [Act.put, List.getElem_toArray, List.getElem_cons_zero, List.getElem_cons_succ, List.setIfInBounds_toArray, List.set_cons_succ, List.set_cons_zero]
          have hB9 := ((hBc7.setCell (p := ⟨wr.heap.size, 0, none⟩) (Nat.le_refl _) (.int .i64 (qx - 2))).setCell (p := ⟨wr.heap.size, 1, none⟩) (Nat.le_refl _) (.int .i64 (qy - 2)))
          have hS9 : ((w8.setCell ⟨wr.heap.size, 0, none⟩ (.int .i64 (qx - 2))).setCell ⟨wr.heap.size, 1, none⟩ (.int .i64 (qy - 2))).heap[wr.heap.size]? = some (.cells #[.int .i64 (qx - 2), .int .i64 (qy - 2)] 32 (0, 0)) := by have hh := hrw7; simp [World.setCell, Array.getElem?_modify, hh]
          refine ⟨_, rfl, ?_⟩
          go_wp2_with fail
          refine ⟨rfl, hB9, ?_⟩
          show ∃ (b9 : Nat), _
          refine ⟨wr.heap.size, ?_, hS9, hB9⟩
          first | rfl | simp only [Act.put, List.getElem_toArray, List.getElem_cons_zero, List.getElem_cons_succ, List.setIfInBounds_toArray, List.set_cons_succ, List.set_cons_zero]
      rintro a9 w9 ⟨b9, rfl, hS9, hb9⟩
      simp only [Act.put, List.setIfInBounds_toArray, List.set_cons_succ, List.set_cons_zero]
      have HWB := Lib.hid (Qt.more HW.out.2.2 HW.out.2.2.size hb9)
      have HR1 := Lib.hid ((Cel.Rd.below HW.out.1 hb9 (Nat.le_refl _)).more hb9.size)
      have HR2 := Lib.hid ((Cel.Rd.below HW.out.2.1 hb9 (Nat.le_refl _)).more hb9.size)
      have HD9 := Lib.hid hS9
      have d0 : w9.cell? ⟨b9, 0, none⟩ = some (.int .i64 (qx - 2)) := by rw [Lib.cell_of_heap hS9]; rfl
      have d1 : w9.cell? ⟨b9, 1, none⟩ = some (.int .i64 (qy - 2)) := by rw [Lib.cell_of_heap hS9]; rfl
      have hc := Cel.put_any A1 S c1 (qx - 2, qy - 2) w9 HR1.out (by omega) hc1
      clear hp1 hp2 hk0 hk1 hwx hwy hb9 hS9 HW
      go_wp2_with fail
      refine hc.mono ?_
      rintro r w10 ⟨v10, rfl, hown, hb10⟩
      obtain ⟨A10, c10, rfl, hc10, hR10⟩ := Cel.Own.rd hown
      have HX10 := Lib.hid hR10
      have HR3 := Lib.hid ((Cel.Rd.below HR2.out hb10 (Nat.le_refl _)).more hb10.size)
      have HWC := Lib.hid (Qt.more HWB.out HWB.out.size hb10)
      have hD10 := (hb10.block _ (lt_heap6 HD9.out)).trans HD9.out
      clear d0 d1 hc hown hR10 HR1 HR2 HWB HD9
      have d0 : w10.cell? ⟨b9, 0, none⟩ = some (.int .i64 (qx - 2)) := by rw [Lib.cell_of_heap hD10]; rfl
      have d1 : w10.cell? ⟨b9, 1, none⟩ = some (.int .i64 (qy - 2)) := by rw [Lib.cell_of_heap hD10]; rfl
      have hwx : IntKind.i64.wrap (-1 - (qx - 2)) = -1 - (qx - 2) := by rw [IntKind.wrap_i64]; omega
      have hwy : IntKind.i64.wrap (-1 - (qy - 2)) = -1 - (qy - 2) := by rw [IntKind.wrap_i64]; omega
      have hc := Cel.put_any A2 T c2 (-1 - (qx - 2), -1 - (qy - 2)) w10 HR3.out (by omega) hc2
      clear hD10 hb10
      go_wp2_with fail
      refine hc.mono ?_
      rintro r w11 ⟨v11, rfl, hown, hb11⟩
      obtain ⟨A11, c11, rfl, hc11, hR11⟩ := Cel.Own.rd hown
      have HY11 := Lib.hid hR11
      have HX11 := Lib.hid ((Cel.Rd.below HX10.out hb11 (Nat.le_refl _)).more hb11.size)
      have HWD := Lib.hid (Qt.more HWC.out HWC.out.size hb11)
      clear d0 d1 hwx hwy hc hown hR11 HR3 HX10 HWC hb11
      go_wp2_with fail
      go_roundw
      case measure => simp [intOf]; omega
      case rel => exact ⟨i + 1, A10, c10, A11, c11, by omega, by omega, by go_num, by rw [HST.out], by rw [HTT.out], by rw [HST.out]; exact hc10, by rw [HTT.out]; exact hc11, by rw [HST.out]; exact HX11.out, by rw [HTT.out]; exact HY11.out, HWD.out⟩
    · have hexit : ((i : Int) < (rs.length : Int) → ¬ (i : Int) < 16) := by omega
      have hS1 := smTo_right (rs := rs) hi
      have hS2 := smTo_in (rs := rs) (i := i)
      have hT1 := tuTo_right (rs := rs) hi
      have hT2 := tuTo_in (rs := rs) (i := i)
      obtain ⟨s, t, a, b, n, k, x, y, ⟨K1, K2, K3, K4⟩, ⟨L1, L2, L3, L4⟩, hk⟩ := turned_known hS1 hS2 (by omega) hT1 hT2 (by omega) (tuTo_sm rs i)
      obtain ⟨t1, t2, t3, t4⟩ := hk.turned
      simp only at t1 t2 t3 t4
      subst t1 t2 t3 t4
      have HK := Lib.hid hk
      have hS3 : (smTo rs i).length ≤ 16 := by omega
      have hT3 : (tuTo rs i).length ≤ 16 := by omega
      clear hS1 hS2 hT1 hT2 hk hsl htl HCW HCS
      generalize smTo rs i = S at *
      generalize tuTo rs i = T at *
      by_cases hz : (i : Int) < (rs.length : Int)
      · have h16z : ¬ (i : Int) < 16 := hexit hz
        clear hexit
        have HX := Lib.hid HH.out.1
        have HY := Lib.hid HH.out.2.1
        have HBw := Lib.hid (Qt.more HB2.out HB2.out.size HH.out.2.2)
        have hn := refNew6_any 100 wr
        rw [show newL 100 = new6 from rfl, show newRoom 100 = 100 from rfl] at hn
        clear HH HB2
        go_wp2_with fail
        refine hn.mono ?_
        intro e w1 h1
        obtain ⟨A3, c3, rfl, hcap3, N3, hb3⟩ := storeR_box7 h1
        have hX1 := (Cel.Rd.below HX.out hb3 (Nat.le_refl _)).more hb3.size
        have HY1 := Lib.hid ((Cel.Rd.below HY.out hb3 (Nat.le_refl _)).more hb3.size)
        have HB3 := Lib.hid (Qt.more HBw.out HBw.out.size hb3)
        have hc := refMake7_any A3 new6 c3 100 A1 S c1 2 w1 N3 (by decide) hcap3 (by decide) hX1 (by omega) hc1
        rw [HK.out.make] at hc
        unfold storeV at hc
        clear h1 hn hX1 hb3 HX HY HBw
        go_wp2_with fail
        refine hc.mono ?_
        intro r w4 h
        obtain ⟨A4, c4, rfl, hcap4, N4, hb4⟩ := putR_box h
        have hal := (Below.refl w4.heap.size w4).alloc (Nat.le_refl _) (.cells #[.slice A4 s.length c4, .int .i64 100] 27)
        have hb' := Qt.more (B := w1.heap.size) hb4 hb4.size hal
        have HS4 := Lib.hid (stB_new N4 hcap4 100)
        have HY4 := Lib.hid ((Cel.Rd.below HY1.out hb' (Nat.le_refl _)).more hb'.size)
        have HB4 := Lib.hid (Qt.more HB3.out HB3.out.size hb')
        clear h hc hb4 hb' N4 hal HY1 HB3 N3
        have s0 := HS4.out.s0
        have s1 := HS4.out.s1
        go_wp2_with fail
        generalize (w4.alloc (.cells #[.slice A4 s.length c4, .int .i64 100] 27)) = v4 at *
        generalize w4.heap.size = b4 at *
        have hc := refMake7_any A4 s c4 100 A2 T c2 2 v4 HS4.out.rd HK.out.few1 hcap4 (lev_bd HK.out.rs) HY4.out (by omega) hc2
        rw [HK.out.make2] at hc
        unfold storeV at hc
        clear s0 s1
        refine hc.mono ?_
        intro r w5 h
        obtain ⟨A5, c5, rfl, hcap5, N5, hb5⟩ := putR_box h
        have hal := (Below.refl w5.heap.size w5).alloc (Nat.le_refl _) (.cells #[.slice A5 t.length c5, .int .i64 100] 27)
        have hb' := Qt.more (B := v4.heap.size) hb5 hb5.size hal
        have HT5 := Lib.hid (stB_new N5 hcap5 100)
        have HB5 := Lib.hid (Qt.more HB4.out HB4.out.size hb')
        clear h hc hb5 hb' N5 hal HY4 HB4 HS4
        have s0 := HT5.out.s0
        have s1 := HT5.out.s1
        go_wp2_with fail
        generalize (w5.alloc (.cells #[.slice A5 t.length c5, .int .i64 100] 27)) = v5 at *
        generalize w5.heap.size = b5 at *
        have hc := step8_any A5 t c5 100 n v5 HT5.out.rd HK.out.few2 hcap5
        rw [HK.out.step] at hc
        unfold storeV at hc
        clear s0 s1
        refine hc.mono ?_
        intro r w6 h
        obtain ⟨A6, c6, rfl, hcap6, N6, hb6⟩ := putR_box h
        have hal := (Below.refl w6.heap.size w6).alloc (Nat.le_refl _) (.cells #[.slice A6 a.length c6, .int .i64 100] 27)
        have hb' := Qt.more (B := v5.heap.size) hb6 hb6.size hal
        have HA6 := Lib.hid (stB_new N6 hcap6 100)
        have HB6 := Lib.hid (Qt.more HB5.out HB5.out.size hb')
        clear h hc hb6 hb' N6 hal HB5 HT5
        have s0 := HA6.out.s0
        have s1 := HA6.out.s1
        go_wp2_with fail
        generalize (w6.alloc (.cells #[.slice A6 a.length c6, .int .i64 100] 27)) = v6 at *
        generalize w6.heap.size = b6 at *
        have hc := step8_any A6 a c6 100 k v6 HA6.out.rd HK.out.few3 hcap6
        rw [HK.out.step2] at hc
        unfold storeV at hc
        clear s0 s1
        refine hc.mono ?_
        intro r w7 h
        obtain ⟨A7, c7, rfl, hcap7, N7, hb7⟩ := putR_box h
        simp only at hcap7 N7
        have hal := (Below.refl w7.heap.size w7).alloc (Nat.le_refl _) (.cells #[.slice A7 b.length c7, .int .i64 100] 27)
        have hb' := Qt.more (B := v6.heap.size) hb7 hb7.size hal
        have HV7 := Lib.hid (stB_new N7 hcap7 100)
        have HB7 := Lib.hid (Qt.more HB6.out HB6.out.size hb')
        clear h hc hb7 hb' N7 hal HB6 HA6
        obtain ⟨qb, ob, hA7, hqb, _⟩ := HV7.out.nd (by show 0 < b.length; have := HK.out.ltx; omega)
        subst hA7
        have hb1 := (Below.refl (w7.alloc (.cells #[.slice (some ⟨qb, ob, none⟩) b.length c7, .int .i64 100] 27)).heap.size (w7.alloc (.cells #[.slice (some ⟨qb, ob, none⟩) b.length c7, .int .i64 100] 27))).alloc (Nat.le_refl _) (.cells #[.int .i64 K1, .int .i64 K2, .int .i64 K3, .int .i64 K4] 52)
        have hb2 := hb1.alloc hb1.size (.cells #[.int .i64 K4, .int .i64 K3, .int .i64 K2, .int .i64 K1] 52)
        have hs1 : (w7.alloc (.cells #[.slice (some ⟨qb, ob, none⟩) b.length c7, .int .i64 100] 27)).heap.size = w7.heap.size + 1 := by simp
        have hs2 : ((w7.alloc (.cells #[.slice (some ⟨qb, ob, none⟩) b.length c7, .int .i64 100] 27)).alloc (.cells #[.int .i64 K1, .int .i64 K2, .int .i64 K3, .int .i64 K4] 52)).heap.size = w7.heap.size + 1 + 1 := by simp
        have HV8 := Lib.hid (HV7.out.below hb1)
        have HBf := Lib.hid (Qt.more HB7.out HB7.out.size hb2)
        have hp : K4B (((w7.alloc (.cells #[.slice (some ⟨qb, ob, none⟩) b.length c7, .int .i64 100] 27)).alloc (.cells #[.int .i64 K1, .int .i64 K2, .int .i64 K3, .int .i64 K4] 52)).alloc (.cells #[.int .i64 K4, .int .i64 K3, .int .i64 K2, .int .i64 K1] 52)) (w7.heap.size + 1) K1 K2 K3 K4 := heap_old (heap_new hs1)
        have hq : K4B (((w7.alloc (.cells #[.slice (some ⟨qb, ob, none⟩) b.length c7, .int .i64 100] 27)).alloc (.cells #[.int .i64 K1, .int .i64 K2, .int .i64 K3, .int .i64 K4] 52)).alloc (.cells #[.int .i64 K4, .int .i64 K3, .int .i64 K2, .int .i64 K1] 52)) (w7.heap.size + 1 + 1) K4 K3 K2 K1 := heap_new hs2
        have p0 := hp.s0
        have p1 := hp.s1
        have p2 := hp.s2
        have p3 := hp.s3
        have q0 := hq.s0
        have q1 := hq.s1
        have q2 := hq.s2
        have q3 := hq.s3
        have s0 := HV7.out.s0
        have s1 := HV8.out.s0
        obtain ⟨x1, x2, x3, x4⟩ := (HV7.out.node HK.out.ltx).kids HK.out.kx
        obtain ⟨y1, y2, y3, y4⟩ := (HV8.out.node HK.out.lty).kids HK.out.ky
        simp only at x1 x2 x3 x4 y1 y2 y3 y4
        have hxz : (x : Int) < (b.length : Int) := by have := HK.out.ltx; omega
        have hyz : (y : Int) < (b.length : Int) := by have := HK.out.lty; omega
        clear hb1 hb2 hs1 hs2 hp hq HB7 HV7 HV8 HK
        go_wp2_with fail
        go_ret
        exact ⟨rfl, HBf.out⟩
      · clear hexit
        have HX := Lib.hid HH.out.1
        have HY := Lib.hid HH.out.2.1
        have HBw := Lib.hid (Qt.more HB2.out HB2.out.size HH.out.2.2)
        have hn := refNew6_any 100 wr
        rw [show newL 100 = new6 from rfl, show newRoom 100 = 100 from rfl] at hn
        clear HH HB2
        go_wp2_with fail
        refine hn.mono ?_
        intro e w1 h1
        obtain ⟨A3, c3, rfl, hcap3, N3, hb3⟩ := storeR_box7 h1
        have hX1 := (Cel.Rd.below HX.out hb3 (Nat.le_refl _)).more hb3.size
        have HY1 := Lib.hid ((Cel.Rd.below HY.out hb3 (Nat.le_refl _)).more hb3.size)
        have HB3 := Lib.hid (Qt.more HBw.out HBw.out.size hb3)
        have hc := refMake7_any A3 new6 c3 100 A1 S c1 2 w1 N3 (by decide) hcap3 (by decide) hX1 (by omega) hc1
        rw [HK.out.make] at hc
        unfold storeV at hc
        clear h1 hn hX1 hb3 HX HY HBw
        go_wp2_with fail
        refine hc.mono ?_
        intro r w4 h
        obtain ⟨A4, c4, rfl, hcap4, N4, hb4⟩ := putR_box h
        have hal := (Below.refl w4.heap.size w4).alloc (Nat.le_refl _) (.cells #[.slice A4 s.length c4, .int .i64 100] 27)
        have hb' := Qt.more (B := w1.heap.size) hb4 hb4.size hal
        have HS4 := Lib.hid (stB_new N4 hcap4 100)
        have HY4 := Lib.hid ((Cel.Rd.below HY1.out hb' (Nat.le_refl _)).more hb'.size)
        have HB4 := Lib.hid (Qt.more HB3.out HB3.out.size hb')
        clear h hc hb4 hb' N4 hal HY1 HB3 N3
        have s0 := HS4.out.s0
        have s1 := HS4.out.s1
        go_wp2_with fail
        generalize (w4.alloc (.cells #[.slice A4 s.length c4, .int .i64 100] 27)) = v4 at *
        generalize w4.heap.size = b4 at *
        have hc := refMake7_any A4 s c4 100 A2 T c2 2 v4 HS4.out.rd HK.out.few1 hcap4 (lev_bd HK.out.rs) HY4.out (by omega) hc2
        rw [HK.out.make2] at hc
        unfold storeV at hc
        clear s0 s1
        refine hc.mono ?_
        intro r w5 h
        obtain ⟨A5, c5, rfl, hcap5, N5, hb5⟩ := putR_box h
        have hal := (Below.refl w5.heap.size w5).alloc (Nat.le_refl _) (.cells #[.slice A5 t.length c5, .int .i64 100] 27)
        have hb' := Qt.more (B := v4.heap.size) hb5 hb5.size hal
        have HT5 := Lib.hid (stB_new N5 hcap5 100)
        have HB5 := Lib.hid (Qt.more HB4.out HB4.out.size hb')
        clear h hc hb5 hb' N5 hal HY4 HB4 HS4
        have s0 := HT5.out.s0
        have s1 := HT5.out.s1
        go_wp2_with fail
        generalize (w5.alloc (.cells #[.slice A5 t.length c5, .int .i64 100] 27)) = v5 at *
        generalize w5.heap.size = b5 at *
        have hc := step8_any A5 t c5 100 n v5 HT5.out.rd HK.out.few2 hcap5
        rw [HK.out.step] at hc
        unfold storeV at hc
        clear s0 s1
        refine hc.mono ?_
        intro r w6 h
        obtain ⟨A6, c6, rfl, hcap6, N6, hb6⟩ := putR_box h
        have hal := (Below.refl w6.heap.size w6).alloc (Nat.le_refl _) (.cells #[.slice A6 a.length c6, .int .i64 100] 27)
        have hb' := Qt.more (B := v5.heap.size) hb6 hb6.size hal
        have HA6 := Lib.hid (stB_new N6 hcap6 100)
        have HB6 := Lib.hid (Qt.more HB5.out HB5.out.size hb')
        clear h hc hb6 hb' N6 hal HB5 HT5
        have s0 := HA6.out.s0
        have s1 := HA6.out.s1
        go_wp2_with fail
        generalize (w6.alloc (.cells #[.slice A6 a.length c6, .int .i64 100] 27)) = v6 at *
        generalize w6.heap.size = b6 at *
        have hc := step8_any A6 a c6 100 k v6 HA6.out.rd HK.out.few3 hcap6
        rw [HK.out.step2] at hc
        unfold storeV at hc
        clear s0 s1
        refine hc.mono ?_
        intro r w7 h
        obtain ⟨A7, c7, rfl, hcap7, N7, hb7⟩ := putR_box h
        simp only at hcap7 N7
        have hal := (Below.refl w7.heap.size w7).alloc (Nat.le_refl _) (.cells #[.slice A7 b.length c7, .int .i64 100] 27)
        have hb' := Qt.more (B := v6.heap.size) hb7 hb7.size hal
        have HV7 := Lib.hid (stB_new N7 hcap7 100)
        have HB7 := Lib.hid (Qt.more HB6.out HB6.out.size hb')
        clear h hc hb7 hb' N7 hal HB6 HA6
        obtain ⟨qb, ob, hA7, hqb, _⟩ := HV7.out.nd (by show 0 < b.length; have := HK.out.ltx; omega)
        subst hA7
        have hb1 := (Below.refl (w7.alloc (.cells #[.slice (some ⟨qb, ob, none⟩) b.length c7, .int .i64 100] 27)).heap.size (w7.alloc (.cells #[.slice (some ⟨qb, ob, none⟩) b.length c7, .int .i64 100] 27))).alloc (Nat.le_refl _) (.cells #[.int .i64 K1, .int .i64 K2, .int .i64 K3, .int .i64 K4] 52)
        have hb2 := hb1.alloc hb1.size (.cells #[.int .i64 K4, .int .i64 K3, .int .i64 K2, .int .i64 K1] 52)
        have hs1 : (w7.alloc (.cells #[.slice (some ⟨qb, ob, none⟩) b.length c7, .int .i64 100] 27)).heap.size = w7.heap.size + 1 := by simp
        have hs2 : ((w7.alloc (.cells #[.slice (some ⟨qb, ob, none⟩) b.length c7, .int .i64 100] 27)).alloc (.cells #[.int .i64 K1, .int .i64 K2, .int .i64 K3, .int .i64 K4] 52)).heap.size = w7.heap.size + 1 + 1 := by simp
        have HV8 := Lib.hid (HV7.out.below hb1)
        have HBf := Lib.hid (Qt.more HB7.out HB7.out.size hb2)
        have hp : K4B (((w7.alloc (.cells #[.slice (some ⟨qb, ob, none⟩) b.length c7, .int .i64 100] 27)).alloc (.cells #[.int .i64 K1, .int .i64 K2, .int .i64 K3, .int .i64 K4] 52)).alloc (.cells #[.int .i64 K4, .int .i64 K3, .int .i64 K2, .int .i64 K1] 52)) (w7.heap.size + 1) K1 K2 K3 K4 := heap_old (heap_new hs1)
        have hq : K4B (((w7.alloc (.cells #[.slice (some ⟨qb, ob, none⟩) b.length c7, .int .i64 100] 27)).alloc (.cells #[.int .i64 K1, .int .i64 K2, .int .i64 K3, .int .i64 K4] 52)).alloc (.cells #[.int .i64 K4, .int .i64 K3, .int .i64 K2, .int .i64 K1] 52)) (w7.heap.size + 1 + 1) K4 K3 K2 K1 := heap_new hs2
        have p0 := hp.s0
        have p1 := hp.s1
        have p2 := hp.s2
        have p3 := hp.s3
        have q0 := hq.s0
        have q1 := hq.s1
        have q2 := hq.s2
        have q3 := hq.s3
        have s0 := HV7.out.s0
        have s1 := HV8.out.s0
        obtain ⟨x1, x2, x3, x4⟩ := (HV7.out.node HK.out.ltx).kids HK.out.kx
        obtain ⟨y1, y2, y3, y4⟩ := (HV8.out.node HK.out.lty).kids HK.out.ky
        simp only at x1 x2 x3 x4 y1 y2 y3 y4
        have hxz : (x : Int) < (b.length : Int) := by have := HK.out.ltx; omega
        have hyz : (y : Int) < (b.length : Int) := by have := HK.out.lty; omega
        clear hb1 hb2 hs1 hs2 hp hq HB7 HV7 HV8 HK
        go_wp2_with fail
        go_ret
        exact ⟨rfl, HBf.out⟩
end Go.Proofs.Ytikgnjcjbjafaaa
