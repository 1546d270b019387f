/-
  Texts that the claims of this seat share, part 16.
-/
import Derived.Test.YtgjibpgfcbdpgaaB15
import Derived.Test.YtgjibpgfcbdpgaaB14
set_option linter.unusedVariables false
set_option linter.unusedSimpArgs false
namespace Go.Proofs.Ytgjibpgfcbdpgaa
set_option maxRecDepth 100000
set_option linter.unusedVariables false
set_option linter.unusedSimpArgs false
open Go.RowKit Go.Sort

set_option maxHeartbeats 4000000 in
theorem anew1_any (n0 g b mb mx jb lb e jn : Nat) (room n : Int) (z : Zn) (W : World) (hm : ML W mx g mb) (hj : W.cell? ⟨jb, 0, none⟩ = some (.int .i64 (jn : Int))) (hl : W.cell? ⟨lb, 0, none⟩ = some (.int .i64 ((e : Int) + 3))) (he : e ≤ 40) (hjn : jn ≤ 42)
    (hcall : Calls Try.prog 42 #[makerL g mb, .int .i64 n, .int .i64 ((min jn e : Nat) : Int)] W (LpR z n0 g b mb room W)) :
    Calls Try.prog 84 #[.int .i64 n, .pointer (some ⟨mx, 0, none⟩), .pointer (some ⟨jb, 0, none⟩), .pointer (some ⟨lb, 0, none⟩)] W (LpR z n0 g b mb room W) := by
  have m0 := hm.c0
  have m1 := hm.c1
  obtain ⟨lv, hlv⟩ : ∃ lv : Int, lv = (e : Int) + 3 := ⟨_, rfl⟩
  rw [← hlv] at hl
  have hw1 : IntKind.i64.wrap (lv - 1) = lv - 1 := by rw [IntKind.wrap_i64]; omega
  have hw2 : IntKind.i64.wrap (lv - 1 - 2) = (e : Int) := by rw [IntKind.wrap_i64]; omega
  have hmin : ((min jn e : Nat) : Int) = min (jn : Int) (e : Int) := by omega
  rw [hmin] at hcall
  obtain ⟨zl, zn, ze⟩ := z
  clear hm hmin hlv he hjn
  go_enter Try.func84, Try.ntmps84
  go_wp2_with fail
  refine hcall.mono ?_
  rintro r w2 ⟨rfl, hl2, hb2⟩
  have HL := Lib.hid hl2
  have HB := Lib.hid hb2
  clear hl2 hb2 hcall m0 m1 hj hl hw1 hw2
  go_wp2_with fail
  go_ret2
  exact ⟨rfl, HL.out, HB.out⟩
/-! the second closure -/
set_option maxHeartbeats 8000000 in
theorem anew2_any (n0 g b mb mx qb : Nat) (room : Int) (l : List Nd) (q : Nat → Int) (i : Nat) (hi : i < 4) (w : World) (hin : LIn n0 w g b mb l room) (hm : ML w mx g mb) (hq : N9 w qb q) :
    Calls Try.prog 86 #[.int .i64 (cornP i), .pointer (some ⟨mx, 0, none⟩), .pointer (some ⟨qb, 0, none⟩)] w (LpR (put6 l room (overK q (cornP i))) n0 g b mb room w) := by
  have HI := Lib.hid hin
  have HM := Lib.hid hm
  have HQ := Lib.hid hq
  clear hin hm hq
  rcases (by omega : i = 0 ∨ i = 1 ∨ i = 2 ∨ i = 3) with rfl | rfl | rfl | rfl
  · obtain ⟨⟨m, p, ee⟩, hz⟩ : ∃ z, z = put6 l room (q 0, q 1, q 3, q 4) := ⟨_, rfl⟩
    have hov : overK q (cornP 0) = (q 0, q 1, q 3, q 4) := rfl
    rw [hov, ← hz]
    have hgr := put_grows7 HI.out.right (q 0, q 1, q 3, q 4)
    have hrr := put_right HI.out.right (q 0, q 1, q 3, q 4)
    have hin := fun W hW => intern_anyK n0 g b l room (q 0, q 1, q 3, q 4) W hW HI.out.right
    rw [← hz] at hgr hrr hin
    unfold kidsV at hin
    have HIN := Lib.hid hin
    have HG := Lib.hid (And.intro hgr hrr)
    clear hin hgr hrr hz hov
    have hc : cornP 0 = 0 := rfl
    rw [hc]
    clear hc
    go_enter Try.func86, Try.ntmps86
    go_wp2_with fail
    have hC0 : BelK n0 b w w.drew := .of (below_drew w) HI.out.ix.hB
    have hIx0 := HI.out.ix.below (below_drew w)
    refine region_calm_to (fun W => BelK n0 b w W) (fun (a0 a9 : Act) (w9 : World) => a9 = ((((((((((((((((((((((((a0.put (some 6) (.pointer (some ⟨mx, 0, none⟩))).put (some 7) (.pointer (some ⟨mx, 0, none⟩))).put (some 8) (.pointer (some ⟨g, 0, none⟩))).put (some 9) (.int .i64 0)).put (some 10) (.pointer (some ⟨qb, 0, none⟩))).put (some 11) (.int .i64 (q 0))).put (some 12) (.int .i64 0)).put (some 13) (.int .i64 1)).put (some 14) (.pointer (some ⟨qb, 1, none⟩))).put (some 15) (.int .i64 (q 1))).put (some 16) (.int .i64 0)).put (some 17) (.int .i64 3)).put (some 18) (.pointer (some ⟨qb, 3, none⟩))).put (some 19) (.int .i64 (q 3))).put (some 20) (.int .i64 0)).put (some 21) (.int .i64 4)).put (some 22) (.pointer (some ⟨qb, 4, none⟩))).put (some 23) (.int .i64 (q 4))).put (some 24) (.agg #[.int .i64 (q 0), .int .i64 (q 1), .int .i64 (q 3), .int .i64 (q 4)])).put (some 25) (.tuple #[.int .i64 p, .int .i64 ee])).put (some 26) (.int .i64 p)).put (some 27) (.int .i64 ee)).put (some 4) (.int .i64 p)).put (some 5) (.int .i64 ee)) ∧ Ix n0 w9 g b m room ∧ BelK n0 b w w9) (.calm 0 (.calm 1 (.calm 2 (.calm 3 (.calm 4 (.calm 5 (.calm 6 (.calm 7 (.calm 8 (.calm 9 (.calm 10 (.calm 11 (.calm 12 (.calm 13 (.calm 14 (.calm 15 (.calm 16 (.calm 17 (.calm 18 (.only 19 (.calm 20 (.calm 21 (.calm 22 (.calm 23 .done)))))))))))))))))))))))) (by kernel_rfl) (by kernel_rfl) (by kernel_rfl) (by rfl) hC0 ?_ ?_
    · skip
      refine ⟨_, _, (.pointer (some ⟨mx, 0, none⟩)), rfl, rfl, ⟨rfl, fun W hW => by first | exact ⟨rfl, rfl⟩ | (simp only [Act.eval, execOp]; go_simp; try exact ⟨rfl, rfl⟩)⟩, ?_⟩
      simp only [Act.put, List.getElem_toArray, List.getElem_cons_zero, List.getElem_cons_succ, List.setIfInBounds_toArray, List.set_cons_succ, List.set_cons_zero]
      refine ⟨_, _, (.pointer (some ⟨mx, 0, none⟩)), rfl, rfl, ⟨rfl, fun W hW => by first | exact ⟨rfl, rfl⟩ | (simp only [Act.eval, execOp]; go_simp; try exact ⟨rfl, rfl⟩)⟩, ?_⟩
      simp only [Act.put, List.getElem_toArray, List.getElem_cons_zero, List.getElem_cons_succ, List.setIfInBounds_toArray, List.set_cons_succ, List.set_cons_zero]
      refine ⟨_, _, (.pointer (some ⟨g, 0, none⟩)), rfl, rfl, ⟨rfl, fun W hW => by have q0 := (HM.out.kp hW.kp).c0; simp only [execOp]; go_simp; done⟩, ?_⟩
      simp only [Act.put, List.getElem_toArray, List.getElem_cons_zero, List.getElem_cons_succ, List.setIfInBounds_toArray, List.set_cons_succ, List.set_cons_zero]
      refine ⟨_, _, (.int .i64 0), rfl, rfl, ⟨rfl, fun W hW => by first | exact ⟨rfl, rfl⟩ | (simp only [Act.eval, execOp]; go_simp; try exact ⟨rfl, rfl⟩)⟩, ?_⟩
      simp only [Act.put, List.getElem_toArray, List.getElem_cons_zero, List.getElem_cons_succ, List.setIfInBounds_toArray, List.set_cons_succ, List.set_cons_zero]
      refine ⟨_, _, (.pointer (some ⟨qb, 0, none⟩)), rfl, rfl, ⟨rfl, fun W hW => by first | exact ⟨rfl, rfl⟩ | (simp only [Act.eval, execOp]; go_simp; try exact ⟨rfl, rfl⟩)⟩, ?_⟩
      simp only [Act.put, List.getElem_toArray, List.getElem_cons_zero, List.getElem_cons_succ, List.setIfInBounds_toArray, List.set_cons_succ, List.set_cons_zero]
      refine ⟨_, _, (.int .i64 (q 0)), rfl, rfl, ⟨rfl, fun W hW => by have q0 := (HQ.out.kp hW.kp).c (p := 0) (by decide); simp only [execOp]; go_simp; done⟩, ?_⟩
      simp only [Act.put, List.getElem_toArray, List.getElem_cons_zero, List.getElem_cons_succ, List.setIfInBounds_toArray, List.set_cons_succ, List.set_cons_zero]
      refine ⟨_, _, (.int .i64 0), rfl, rfl, ⟨rfl, fun W hW => by first | exact ⟨rfl, rfl⟩ | (simp only [Act.eval, execOp]; go_simp; try exact ⟨rfl, rfl⟩)⟩, ?_⟩
      simp only [Act.put, List.getElem_toArray, List.getElem_cons_zero, List.getElem_cons_succ, List.setIfInBounds_toArray, List.set_cons_succ, List.set_cons_zero]
      refine ⟨_, _, (.int .i64 1), rfl, rfl, ⟨rfl, fun W hW => by first | exact ⟨rfl, rfl⟩ | (simp only [Act.eval, execOp]; go_simp; try exact ⟨rfl, rfl⟩)⟩, ?_⟩
      simp only [Act.put, List.getElem_toArray, List.getElem_cons_zero, List.getElem_cons_succ, List.setIfInBounds_toArray, List.set_cons_succ, List.set_cons_zero]
      refine ⟨_, _, (.pointer (some ⟨qb, 1, none⟩)), rfl, rfl, ⟨rfl, fun W hW => by first | exact ⟨rfl, rfl⟩ | (simp only [Act.eval, execOp]; go_simp; try exact ⟨rfl, rfl⟩)⟩, ?_⟩
      simp only [Act.put, List.getElem_toArray, List.getElem_cons_zero, List.getElem_cons_succ, List.setIfInBounds_toArray, List.set_cons_succ, List.set_cons_zero]
      refine ⟨_, _, (.int .i64 (q 1)), rfl, rfl, ⟨rfl, fun W hW => by have q0 := (HQ.out.kp hW.kp).c (p := 1) (by decide); simp only [execOp]; go_simp; done⟩, ?_⟩
      simp only [Act.put, List.getElem_toArray, List.getElem_cons_zero, List.getElem_cons_succ, List.setIfInBounds_toArray, List.set_cons_succ, List.set_cons_zero]
      refine ⟨_, _, (.int .i64 0), rfl, rfl, ⟨rfl, fun W hW => by first | exact ⟨rfl, rfl⟩ | (simp only [Act.eval, execOp]; go_simp; try exact ⟨rfl, rfl⟩)⟩, ?_⟩
      simp only [Act.put, List.getElem_toArray, List.getElem_cons_zero, List.getElem_cons_succ, List.setIfInBounds_toArray, List.set_cons_succ, List.set_cons_zero]
      refine ⟨_, _, (.int .i64 3), rfl, rfl, ⟨rfl, fun W hW => by first | exact ⟨rfl, rfl⟩ | (simp only [Act.eval, execOp]; go_simp; try exact ⟨rfl, rfl⟩)⟩, ?_⟩
      simp only [Act.put, List.getElem_toArray, List.getElem_cons_zero, List.getElem_cons_succ, List.setIfInBounds_toArray, List.set_cons_succ, List.set_cons_zero]
      refine ⟨_, _, (.pointer (some ⟨qb, 3, none⟩)), rfl, rfl, ⟨rfl, fun W hW => by first | exact ⟨rfl, rfl⟩ | (simp only [Act.eval, execOp]; go_simp; try exact ⟨rfl, rfl⟩)⟩, ?_⟩
      simp only [Act.put, List.getElem_toArray, List.getElem_cons_zero, List.getElem_cons_succ, List.setIfInBounds_toArray, List.set_cons_succ, List.set_cons_zero]
      refine ⟨_, _, (.int .i64 (q 3)), rfl, rfl, ⟨rfl, fun W hW => by have q0 := (HQ.out.kp hW.kp).c (p := 3) (by decide); simp only [execOp]; go_simp; done⟩, ?_⟩
      simp only [Act.put, List.getElem_toArray, List.getElem_cons_zero, List.getElem_cons_succ, List.setIfInBounds_toArray, List.set_cons_succ, List.set_cons_zero]
      refine ⟨_, _, (.int .i64 0), rfl, rfl, ⟨rfl, fun W hW => by first | exact ⟨rfl, rfl⟩ | (simp only [Act.eval, execOp]; go_simp; try exact ⟨rfl, rfl⟩)⟩, ?_⟩
      simp only [Act.put, List.getElem_toArray, List.getElem_cons_zero, List.getElem_cons_succ, List.setIfInBounds_toArray, List.set_cons_succ, List.set_cons_zero]
      refine ⟨_, _, (.int .i64 4), rfl, rfl, ⟨rfl, fun W hW => by first | exact ⟨rfl, rfl⟩ | (simp only [Act.eval, execOp]; go_simp; try exact ⟨rfl, rfl⟩)⟩, ?_⟩
      simp only [Act.put, List.getElem_toArray, List.getElem_cons_zero, List.getElem_cons_succ, List.setIfInBounds_toArray, List.set_cons_succ, List.set_cons_zero]
      refine ⟨_, _, (.pointer (some ⟨qb, 4, none⟩)), rfl, rfl, ⟨rfl, fun W hW => by first | exact ⟨rfl, rfl⟩ | (simp only [Act.eval, execOp]; go_simp; try exact ⟨rfl, rfl⟩)⟩, ?_⟩
      simp only [Act.put, List.getElem_toArray, List.getElem_cons_zero, List.getElem_cons_succ, List.setIfInBounds_toArray, List.set_cons_succ, List.set_cons_zero]
      refine ⟨_, _, (.int .i64 (q 4)), rfl, rfl, ⟨rfl, fun W hW => by have q0 := (HQ.out.kp hW.kp).c (p := 4) (by decide); simp only [execOp]; go_simp; done⟩, ?_⟩
      simp only [Act.put, List.getElem_toArray, List.getElem_cons_zero, List.getElem_cons_succ, List.setIfInBounds_toArray, List.set_cons_succ, List.set_cons_zero]
      refine ⟨_, _, (.agg #[.int .i64 (q 0), .int .i64 (q 1), .int .i64 (q 3), .int .i64 (q 4)]), rfl, rfl, ⟨rfl, fun W hW => by first | exact ⟨rfl, rfl⟩ | (simp only [Act.eval, execOp]; go_simp; try exact ⟨rfl, rfl⟩)⟩, ?_⟩
      simp only [Act.put, List.getElem_toArray, List.getElem_cons_zero, List.getElem_cons_succ, List.setIfInBounds_toArray, List.set_cons_succ, List.set_cons_zero]
      refine ⟨_, rfl, ?_⟩
      go_wp2_with fail
      refine (HIN.out w.drew hIx0).mono ?_
      rintro r w9 ⟨rfl, hi9, hb9⟩
      have hC := hC0.trans hb9
      go_wp2_with fail
      refine ⟨rfl, hC, ?_⟩
      refine ⟨_, _, (.int .i64 p), rfl, rfl, ⟨rfl, fun W hW => by first | exact ⟨rfl, rfl⟩ | (simp only [Act.eval, execOp]; go_simp; try exact ⟨rfl, rfl⟩)⟩, ?_⟩
      simp only [Act.put, List.getElem_toArray, List.getElem_cons_zero, List.getElem_cons_succ, List.setIfInBounds_toArray, List.set_cons_succ, List.set_cons_zero]
      refine ⟨_, _, (.int .i64 ee), rfl, rfl, ⟨rfl, fun W hW => by first | exact ⟨rfl, rfl⟩ | (simp only [Act.eval, execOp]; go_simp; try exact ⟨rfl, rfl⟩)⟩, ?_⟩
      simp only [Act.put, List.getElem_toArray, List.getElem_cons_zero, List.getElem_cons_succ, List.setIfInBounds_toArray, List.set_cons_succ, List.set_cons_zero]
      refine ⟨_, _, (.int .i64 p), rfl, rfl, ⟨rfl, fun W hW => by first | exact ⟨rfl, rfl⟩ | (simp only [Act.eval, execOp]; go_simp; try exact ⟨rfl, rfl⟩)⟩, ?_⟩
      simp only [Act.put, List.getElem_toArray, List.getElem_cons_zero, List.getElem_cons_succ, List.setIfInBounds_toArray, List.set_cons_succ, List.set_cons_zero]
      refine ⟨_, _, (.int .i64 ee), rfl, rfl, ⟨rfl, fun W hW => by first | exact ⟨rfl, rfl⟩ | (simp only [Act.eval, execOp]; go_simp; try exact ⟨rfl, rfl⟩)⟩, ?_⟩
      simp only [Act.put, List.getElem_toArray, List.getElem_cons_zero, List.getElem_cons_succ, List.setIfInBounds_toArray, List.set_cons_succ, List.set_cons_zero]
      refine ⟨?_, hi9, hC⟩
      first | rfl | simp only [Act.put, List.getElem_toArray, List.getElem_cons_zero, List.getElem_cons_succ, List.setIfInBounds_toArray, List.set_cons_succ, List.set_cons_zero]
    rintro a9 w9 ⟨rfl, hi9, hb9⟩
    simp only [Act.put, List.setIfInBounds_toArray, List.set_cons_succ, List.set_cons_zero]
    have HL := Lib.hid (HI.out.base hb9 hi9 HG.out.2 HG.out.1)
    have HB := Lib.hid hb9.l
    clear hi9 hb9 hC0 hIx0
    go_wp2_with fail
    go_ret2
    exact ⟨rfl, fun _ => HL.out, HB.out⟩
  · obtain ⟨⟨m, p, ee⟩, hz⟩ : ∃ z, z = put6 l room (q 1, q 2, q 4, q 5) := ⟨_, rfl⟩
    have hov : overK q (cornP 1) = (q 1, q 2, q 4, q 5) := rfl
    rw [hov, ← hz]
    have hgr := put_grows7 HI.out.right (q 1, q 2, q 4, q 5)
    have hrr := put_right HI.out.right (q 1, q 2, q 4, q 5)
    have hin := fun W hW => intern_anyK n0 g b l room (q 1, q 2, q 4, q 5) W hW HI.out.right
    rw [← hz] at hgr hrr hin
    unfold kidsV at hin
    have HIN := Lib.hid hin
    have HG := Lib.hid (And.intro hgr hrr)
    clear hin hgr hrr hz hov
    have hc : cornP 1 = 1 := rfl
    rw [hc]
    clear hc
    go_enter Try.func86, Try.ntmps86
    go_wp2_with fail
    have hC0 : BelK n0 b w w.drew := .of (below_drew w) HI.out.ix.hB
    have hIx0 := HI.out.ix.below (below_drew w)
    refine region_calm_to (fun W => BelK n0 b w W) (fun (a0 a9 : Act) (w9 : World) => a9 = ((((((((((((((((((((((((a0.put (some 6) (.pointer (some ⟨mx, 0, none⟩))).put (some 7) (.pointer (some ⟨mx, 0, none⟩))).put (some 8) (.pointer (some ⟨g, 0, none⟩))).put (some 9) (.int .i64 1)).put (some 10) (.pointer (some ⟨qb, 1, none⟩))).put (some 11) (.int .i64 (q 1))).put (some 12) (.int .i64 1)).put (some 13) (.int .i64 2)).put (some 14) (.pointer (some ⟨qb, 2, none⟩))).put (some 15) (.int .i64 (q 2))).put (some 16) (.int .i64 1)).put (some 17) (.int .i64 4)).put (some 18) (.pointer (some ⟨qb, 4, none⟩))).put (some 19) (.int .i64 (q 4))).put (some 20) (.int .i64 1)).put (some 21) (.int .i64 5)).put (some 22) (.pointer (some ⟨qb, 5, none⟩))).put (some 23) (.int .i64 (q 5))).put (some 24) (.agg #[.int .i64 (q 1), .int .i64 (q 2), .int .i64 (q 4), .int .i64 (q 5)])).put (some 25) (.tuple #[.int .i64 p, .int .i64 ee])).put (some 26) (.int .i64 p)).put (some 27) (.int .i64 ee)).put (some 4) (.int .i64 p)).put (some 5) (.int .i64 ee)) ∧ Ix n0 w9 g b m room ∧ BelK n0 b w w9) (.calm 0 (.calm 1 (.calm 2 (.calm 3 (.calm 4 (.calm 5 (.calm 6 (.calm 7 (.calm 8 (.calm 9 (.calm 10 (.calm 11 (.calm 12 (.calm 13 (.calm 14 (.calm 15 (.calm 16 (.calm 17 (.calm 18 (.only 19 (.calm 20 (.calm 21 (.calm 22 (.calm 23 .done)))))))))))))))))))))))) (by kernel_rfl) (by kernel_rfl) (by kernel_rfl) (by rfl) hC0 ?_ ?_
    · skip
      refine ⟨_, _, (.pointer (some ⟨mx, 0, none⟩)), rfl, rfl, ⟨rfl, fun W hW => by first | exact ⟨rfl, rfl⟩ | (simp only [Act.eval, execOp]; go_simp; try exact ⟨rfl, rfl⟩)⟩, ?_⟩
      simp only [Act.put, List.getElem_toArray, List.getElem_cons_zero, List.getElem_cons_succ, List.setIfInBounds_toArray, List.set_cons_succ, List.set_cons_zero]
      refine ⟨_, _, (.pointer (some ⟨mx, 0, none⟩)), rfl, rfl, ⟨rfl, fun W hW => by first | exact ⟨rfl, rfl⟩ | (simp only [Act.eval, execOp]; go_simp; try exact ⟨rfl, rfl⟩)⟩, ?_⟩
      simp only [Act.put, List.getElem_toArray, List.getElem_cons_zero, List.getElem_cons_succ, List.setIfInBounds_toArray, List.set_cons_succ, List.set_cons_zero]
      refine ⟨_, _, (.pointer (some ⟨g, 0, none⟩)), rfl, rfl, ⟨rfl, fun W hW => by have q0 := (HM.out.kp hW.kp).c0; simp only [execOp]; go_simp; done⟩, ?_⟩
      simp only [Act.put, List.getElem_toArray, List.getElem_cons_zero, List.getElem_cons_succ, List.setIfInBounds_toArray, List.set_cons_succ, List.set_cons_zero]
      refine ⟨_, _, (.int .i64 1), rfl, rfl, ⟨rfl, fun W hW => by first | exact ⟨rfl, rfl⟩ | (simp only [Act.eval, execOp]; go_simp; try exact ⟨rfl, rfl⟩)⟩, ?_⟩
      simp only [Act.put, List.getElem_toArray, List.getElem_cons_zero, List.getElem_cons_succ, List.setIfInBounds_toArray, List.set_cons_succ, List.set_cons_zero]
      refine ⟨_, _, (.pointer (some ⟨qb, 1, none⟩)), rfl, rfl, ⟨rfl, fun W hW => by first | exact ⟨rfl, rfl⟩ | (simp only [Act.eval, execOp]; go_simp; try exact ⟨rfl, rfl⟩)⟩, ?_⟩
      simp only [Act.put, List.getElem_toArray, List.getElem_cons_zero, List.getElem_cons_succ, List.setIfInBounds_toArray, List.set_cons_succ, List.set_cons_zero]
      refine ⟨_, _, (.int .i64 (q 1)), rfl, rfl, ⟨rfl, fun W hW => by have q0 := (HQ.out.kp hW.kp).c (p := 1) (by decide); simp only [execOp]; go_simp; done⟩, ?_⟩
      simp only [Act.put, List.getElem_toArray, List.getElem_cons_zero, List.getElem_cons_succ, List.setIfInBounds_toArray, List.set_cons_succ, List.set_cons_zero]
      refine ⟨_, _, (.int .i64 1), rfl, rfl, ⟨rfl, fun W hW => by first | exact ⟨rfl, rfl⟩ | (simp only [Act.eval, execOp]; go_simp; try exact ⟨rfl, rfl⟩)⟩, ?_⟩
      simp only [Act.put, List.getElem_toArray, List.getElem_cons_zero, List.getElem_cons_succ, List.setIfInBounds_toArray, List.set_cons_succ, List.set_cons_zero]
      refine ⟨_, _, (.int .i64 2), rfl, rfl, ⟨rfl, fun W hW => by first | exact ⟨rfl, rfl⟩ | (simp only [Act.eval, execOp]; go_simp; try exact ⟨rfl, rfl⟩)⟩, ?_⟩
      simp only [Act.put, List.getElem_toArray, List.getElem_cons_zero, List.getElem_cons_succ, List.setIfInBounds_toArray, List.set_cons_succ, List.set_cons_zero]
      refine ⟨_, _, (.pointer (some ⟨qb, 2, none⟩)), rfl, rfl, ⟨rfl, fun W hW => by first | exact ⟨rfl, rfl⟩ | (simp only [Act.eval, execOp]; go_simp; try exact ⟨rfl, rfl⟩)⟩, ?_⟩
      simp only [Act.put, List.getElem_toArray, List.getElem_cons_zero, List.getElem_cons_succ, List.setIfInBounds_toArray, List.set_cons_succ, List.set_cons_zero]
      refine ⟨_, _, (.int .i64 (q 2)), rfl, rfl, ⟨rfl, fun W hW => by have q0 := (HQ.out.kp hW.kp).c (p := 2) (by decide); simp only [execOp]; go_simp; done⟩, ?_⟩
      simp only [Act.put, List.getElem_toArray, List.getElem_cons_zero, List.getElem_cons_succ, List.setIfInBounds_toArray, List.set_cons_succ, List.set_cons_zero]
      refine ⟨_, _, (.int .i64 1), rfl, rfl, ⟨rfl, fun W hW => by first | exact ⟨rfl, rfl⟩ | (simp only [Act.eval, execOp]; go_simp; try exact ⟨rfl, rfl⟩)⟩, ?_⟩
      simp only [Act.put, List.getElem_toArray, List.getElem_cons_zero, List.getElem_cons_succ, List.setIfInBounds_toArray, List.set_cons_succ, List.set_cons_zero]
      refine ⟨_, _, (.int .i64 4), rfl, rfl, ⟨rfl, fun W hW => by first | exact ⟨rfl, rfl⟩ | (simp only [Act.eval, execOp]; go_simp; try exact ⟨rfl, rfl⟩)⟩, ?_⟩
      simp only [Act.put, List.getElem_toArray, List.getElem_cons_zero, List.getElem_cons_succ, List.setIfInBounds_toArray, List.set_cons_succ, List.set_cons_zero]
      refine ⟨_, _, (.pointer (some ⟨qb, 4, none⟩)), rfl, rfl, ⟨rfl, fun W hW => by first | exact ⟨rfl, rfl⟩ | (simp only [Act.eval, execOp]; go_simp; try exact ⟨rfl, rfl⟩)⟩, ?_⟩
      simp only [Act.put, List.getElem_toArray, List.getElem_cons_zero, List.getElem_cons_succ, List.setIfInBounds_toArray, List.set_cons_succ, List.set_cons_zero]
      refine ⟨_, _, (.int .i64 (q 4)), rfl, rfl, ⟨rfl, fun W hW => by have q0 := (HQ.out.kp hW.kp).c (p := 4) (by decide); simp only [execOp]; go_simp; done⟩, ?_⟩
      simp only [Act.put, List.getElem_toArray, List.getElem_cons_zero, List.getElem_cons_succ, List.setIfInBounds_toArray, List.set_cons_succ, List.set_cons_zero]
      refine ⟨_, _, (.int .i64 1), rfl, rfl, ⟨rfl, fun W hW => by first | exact ⟨rfl, rfl⟩ | (simp only [Act.eval, execOp]; go_simp; try exact ⟨rfl, rfl⟩)⟩, ?_⟩
      simp only [Act.put, List.getElem_toArray, List.getElem_cons_zero, List.getElem_cons_succ, List.setIfInBounds_toArray, List.set_cons_succ, List.set_cons_zero]
      refine ⟨_, _, (.int .i64 5), rfl, rfl, ⟨rfl, fun W hW => by first | exact ⟨rfl, rfl⟩ | (simp only [Act.eval, execOp]; go_simp; try exact ⟨rfl, rfl⟩)⟩, ?_⟩
      simp only [Act.put, List.getElem_toArray, List.getElem_cons_zero, List.getElem_cons_succ, List.setIfInBounds_toArray, List.set_cons_succ, List.set_cons_zero]
      refine ⟨_, _, (.pointer (some ⟨qb, 5, none⟩)), rfl, rfl, ⟨rfl, fun W hW => by first | exact ⟨rfl, rfl⟩ | (simp only [Act.eval, execOp]; go_simp; try exact ⟨rfl, rfl⟩)⟩, ?_⟩
      simp only [Act.put, List.getElem_toArray, List.getElem_cons_zero, List.getElem_cons_succ, List.setIfInBounds_toArray, List.set_cons_succ, List.set_cons_zero]
      refine ⟨_, _, (.int .i64 (q 5)), rfl, rfl, ⟨rfl, fun W hW => by have q0 := (HQ.out.kp hW.kp).c (p := 5) (by decide); simp only [execOp]; go_simp; done⟩, ?_⟩
      simp only [Act.put, List.getElem_toArray, List.getElem_cons_zero, List.getElem_cons_succ, List.setIfInBounds_toArray, List.set_cons_succ, List.set_cons_zero]
      refine ⟨_, _, (.agg #[.int .i64 (q 1), .int .i64 (q 2), .int .i64 (q 4), .int .i64 (q 5)]), rfl, rfl, ⟨rfl, fun W hW => by first | exact ⟨rfl, rfl⟩ | (simp only [Act.eval, execOp]; go_simp; try exact ⟨rfl, rfl⟩)⟩, ?_⟩
      simp only [Act.put, List.getElem_toArray, List.getElem_cons_zero, List.getElem_cons_succ, List.setIfInBounds_toArray, List.set_cons_succ, List.set_cons_zero]
      refine ⟨_, rfl, ?_⟩
      go_wp2_with fail
      refine (HIN.out w.drew hIx0).mono ?_
      rintro r w9 ⟨rfl, hi9, hb9⟩
      have hC := hC0.trans hb9
      go_wp2_with fail
      refine ⟨rfl, hC, ?_⟩
      refine ⟨_, _, (.int .i64 p), rfl, rfl, ⟨rfl, fun W hW => by first | exact ⟨rfl, rfl⟩ | (simp only [Act.eval, execOp]; go_simp; try exact ⟨rfl, rfl⟩)⟩, ?_⟩
      simp only [Act.put, List.getElem_toArray, List.getElem_cons_zero, List.getElem_cons_succ, List.setIfInBounds_toArray, List.set_cons_succ, List.set_cons_zero]
      refine ⟨_, _, (.int .i64 ee), rfl, rfl, ⟨rfl, fun W hW => by first | exact ⟨rfl, rfl⟩ | (simp only [Act.eval, execOp]; go_simp; try exact ⟨rfl, rfl⟩)⟩, ?_⟩
      simp only [Act.put, List.getElem_toArray, List.getElem_cons_zero, List.getElem_cons_succ, List.setIfInBounds_toArray, List.set_cons_succ, List.set_cons_zero]
      refine ⟨_, _, (.int .i64 p), rfl, rfl, ⟨rfl, fun W hW => by first | exact ⟨rfl, rfl⟩ | (simp only [Act.eval, execOp]; go_simp; try exact ⟨rfl, rfl⟩)⟩, ?_⟩
      simp only [Act.put, List.getElem_toArray, List.getElem_cons_zero, List.getElem_cons_succ, List.setIfInBounds_toArray, List.set_cons_succ, List.set_cons_zero]
      refine ⟨_, _, (.int .i64 ee), rfl, rfl, ⟨rfl, fun W hW => by first | exact ⟨rfl, rfl⟩ | (simp only [Act.eval, execOp]; go_simp; try exact ⟨rfl, rfl⟩)⟩, ?_⟩
      simp only [Act.put, List.getElem_toArray, List.getElem_cons_zero, List.getElem_cons_succ, List.setIfInBounds_toArray, List.set_cons_succ, List.set_cons_zero]
      refine ⟨?_, hi9, hC⟩
      first | rfl | simp only [Act.put, List.getElem_toArray, List.getElem_cons_zero, List.getElem_cons_succ, List.setIfInBounds_toArray, List.set_cons_succ, List.set_cons_zero]
    rintro a9 w9 ⟨rfl, hi9, hb9⟩
    simp only [Act.put, List.setIfInBounds_toArray, List.set_cons_succ, List.set_cons_zero]
    have HL := Lib.hid (HI.out.base hb9 hi9 HG.out.2 HG.out.1)
    have HB := Lib.hid hb9.l
    clear hi9 hb9 hC0 hIx0
    go_wp2_with fail
    go_ret2
    exact ⟨rfl, fun _ => HL.out, HB.out⟩
  · obtain ⟨⟨m, p, ee⟩, hz⟩ : ∃ z, z = put6 l room (q 3, q 4, q 6, q 7) := ⟨_, rfl⟩
    have hov : overK q (cornP 2) = (q 3, q 4, q 6, q 7) := rfl
    rw [hov, ← hz]
    have hgr := put_grows7 HI.out.right (q 3, q 4, q 6, q 7)
    have hrr := put_right HI.out.right (q 3, q 4, q 6, q 7)
    have hin := fun W hW => intern_anyK n0 g b l room (q 3, q 4, q 6, q 7) W hW HI.out.right
    rw [← hz] at hgr hrr hin
    unfold kidsV at hin
    have HIN := Lib.hid hin
    have HG := Lib.hid (And.intro hgr hrr)
    clear hin hgr hrr hz hov
    have hc : cornP 2 = 3 := rfl
    rw [hc]
    clear hc
    go_enter Try.func86, Try.ntmps86
    go_wp2_with fail
    have hC0 : BelK n0 b w w.drew := .of (below_drew w) HI.out.ix.hB
    have hIx0 := HI.out.ix.below (below_drew w)
    refine region_calm_to (fun W => BelK n0 b w W) (fun (a0 a9 : Act) (w9 : World) => a9 = ((((((((((((((((((((((((a0.put (some 6) (.pointer (some ⟨mx, 0, none⟩))).put (some 7) (.pointer (some ⟨mx, 0, none⟩))).put (some 8) (.pointer (some ⟨g, 0, none⟩))).put (some 9) (.int .i64 3)).put (some 10) (.pointer (some ⟨qb, 3, none⟩))).put (some 11) (.int .i64 (q 3))).put (some 12) (.int .i64 3)).put (some 13) (.int .i64 4)).put (some 14) (.pointer (some ⟨qb, 4, none⟩))).put (some 15) (.int .i64 (q 4))).put (some 16) (.int .i64 3)).put (some 17) (.int .i64 6)).put (some 18) (.pointer (some ⟨qb, 6, none⟩))).put (some 19) (.int .i64 (q 6))).put (some 20) (.int .i64 3)).put (some 21) (.int .i64 7)).put (some 22) (.pointer (some ⟨qb, 7, none⟩))).put (some 23) (.int .i64 (q 7))).put (some 24) (.agg #[.int .i64 (q 3), .int .i64 (q 4), .int .i64 (q 6), .int .i64 (q 7)])).put (some 25) (.tuple #[.int .i64 p, .int .i64 ee])).put (some 26) (.int .i64 p)).put (some 27) (.int .i64 ee)).put (some 4) (.int .i64 p)).put (some 5) (.int .i64 ee)) ∧ Ix n0 w9 g b m room ∧ BelK n0 b w w9) (.calm 0 (.calm 1 (.calm 2 (.calm 3 (.calm 4 (.calm 5 (.calm 6 (.calm 7 (.calm 8 (.calm 9 (.calm 10 (.calm 11 (.calm 12 (.calm 13 (.calm 14 (.calm 15 (.calm 16 (.calm 17 (.calm 18 (.only 19 (.calm 20 (.calm 21 (.calm 22 (.calm 23 .done)))))))))))))))))))))))) (by kernel_rfl) (by kernel_rfl) (by kernel_rfl) (by rfl) hC0 ?_ ?_
    · skip
      refine ⟨_, _, (.pointer (some ⟨mx, 0, none⟩)), rfl, rfl, ⟨rfl, fun W hW => by first | exact ⟨rfl, rfl⟩ | (simp only [Act.eval, execOp]; go_simp; try exact ⟨rfl, rfl⟩)⟩, ?_⟩
      simp only [Act.put, List.getElem_toArray, List.getElem_cons_zero, List.getElem_cons_succ, List.setIfInBounds_toArray, List.set_cons_succ, List.set_cons_zero]
      refine ⟨_, _, (.pointer (some ⟨mx, 0, none⟩)), rfl, rfl, ⟨rfl, fun W hW => by first | exact ⟨rfl, rfl⟩ | (simp only [Act.eval, execOp]; go_simp; try exact ⟨rfl, rfl⟩)⟩, ?_⟩
      simp only [Act.put, List.getElem_toArray, List.getElem_cons_zero, List.getElem_cons_succ, List.setIfInBounds_toArray, List.set_cons_succ, List.set_cons_zero]
      refine ⟨_, _, (.pointer (some ⟨g, 0, none⟩)), rfl, rfl, ⟨rfl, fun W hW => by have q0 := (HM.out.kp hW.kp).c0; simp only [execOp]; go_simp; done⟩, ?_⟩
      simp only [Act.put, List.getElem_toArray, List.getElem_cons_zero, List.getElem_cons_succ, List.setIfInBounds_toArray, List.set_cons_succ, List.set_cons_zero]
      refine ⟨_, _, (.int .i64 3), rfl, rfl, ⟨rfl, fun W hW => by first | exact ⟨rfl, rfl⟩ | (simp only [Act.eval, execOp]; go_simp; try exact ⟨rfl, rfl⟩)⟩, ?_⟩
      simp only [Act.put, List.getElem_toArray, List.getElem_cons_zero, List.getElem_cons_succ, List.setIfInBounds_toArray, List.set_cons_succ, List.set_cons_zero]
      refine ⟨_, _, (.pointer (some ⟨qb, 3, none⟩)), rfl, rfl, ⟨rfl, fun W hW => by first | exact ⟨rfl, rfl⟩ | (simp only [Act.eval, execOp]; go_simp; try exact ⟨rfl, rfl⟩)⟩, ?_⟩
      simp only [Act.put, List.getElem_toArray, List.getElem_cons_zero, List.getElem_cons_succ, List.setIfInBounds_toArray, List.set_cons_succ, List.set_cons_zero]
      refine ⟨_, _, (.int .i64 (q 3)), rfl, rfl, ⟨rfl, fun W hW => by have q0 := (HQ.out.kp hW.kp).c (p := 3) (by decide); simp only [execOp]; go_simp; done⟩, ?_⟩
      simp only [Act.put, List.getElem_toArray, List.getElem_cons_zero, List.getElem_cons_succ, List.setIfInBounds_toArray, List.set_cons_succ, List.set_cons_zero]
      refine ⟨_, _, (.int .i64 3), rfl, rfl, ⟨rfl, fun W hW => by first | exact ⟨rfl, rfl⟩ | (simp only [Act.eval, execOp]; go_simp; try exact ⟨rfl, rfl⟩)⟩, ?_⟩
      simp only [Act.put, List.getElem_toArray, List.getElem_cons_zero, List.getElem_cons_succ, List.setIfInBounds_toArray, List.set_cons_succ, List.set_cons_zero]
      refine ⟨_, _, (.int .i64 4), rfl, rfl, ⟨rfl, fun W hW => by first | exact ⟨rfl, rfl⟩ | (simp only [Act.eval, execOp]; go_simp; try exact ⟨rfl, rfl⟩)⟩, ?_⟩
      simp only [Act.put, List.getElem_toArray, List.getElem_cons_zero, List.getElem_cons_succ, List.setIfInBounds_toArray, List.set_cons_succ, List.set_cons_zero]
      refine ⟨_, _, (.pointer (some ⟨qb, 4, none⟩)), rfl, rfl, ⟨rfl, fun W hW => by first | exact ⟨rfl, rfl⟩ | (simp only [Act.eval, execOp]; go_simp; try exact ⟨rfl, rfl⟩)⟩, ?_⟩
      simp only [Act.put, List.getElem_toArray, List.getElem_cons_zero, List.getElem_cons_succ, List.setIfInBounds_toArray, List.set_cons_succ, List.set_cons_zero]
      refine ⟨_, _, (.int .i64 (q 4)), rfl, rfl, ⟨rfl, fun W hW => by have q0 := (HQ.out.kp hW.kp).c (p := 4) (by decide); simp only [execOp]; go_simp; done⟩, ?_⟩
      simp only [Act.put, List.getElem_toArray, List.getElem_cons_zero, List.getElem_cons_succ, List.setIfInBounds_toArray, List.set_cons_succ, List.set_cons_zero]
      refine ⟨_, _, (.int .i64 3), rfl, rfl, ⟨rfl, fun W hW => by first | exact ⟨rfl, rfl⟩ | (simp only [Act.eval, execOp]; go_simp; try exact ⟨rfl, rfl⟩)⟩, ?_⟩
      simp only [Act.put, List.getElem_toArray, List.getElem_cons_zero, List.getElem_cons_succ, List.setIfInBounds_toArray, List.set_cons_succ, List.set_cons_zero]
      refine ⟨_, _, (.int .i64 6), rfl, rfl, ⟨rfl, fun W hW => by first | exact ⟨rfl, rfl⟩ | (simp only [Act.eval, execOp]; go_simp; try exact ⟨rfl, rfl⟩)⟩, ?_⟩
      simp only [Act.put, List.getElem_toArray, List.getElem_cons_zero, List.getElem_cons_succ, List.setIfInBounds_toArray, List.set_cons_succ, List.set_cons_zero]
      refine ⟨_, _, (.pointer (some ⟨qb, 6, none⟩)), rfl, rfl, ⟨rfl, fun W hW => by first | exact ⟨rfl, rfl⟩ | (simp only [Act.eval, execOp]; go_simp; try exact ⟨rfl, rfl⟩)⟩, ?_⟩
      simp only [Act.put, List.getElem_toArray, List.getElem_cons_zero, List.getElem_cons_succ, List.setIfInBounds_toArray, List.set_cons_succ, List.set_cons_zero]
      refine ⟨_, _, (.int .i64 (q 6)), rfl, rfl, ⟨rfl, fun W hW => by have q0 := (HQ.out.kp hW.kp).c (p := 6) (by decide); simp only [execOp]; go_simp; done⟩, ?_⟩
      simp only [Act.put, List.getElem_toArray, List.getElem_cons_zero, List.getElem_cons_succ, List.setIfInBounds_toArray, List.set_cons_succ, List.set_cons_zero]
      refine ⟨_, _, (.int .i64 3), rfl, rfl, ⟨rfl, fun W hW => by first | exact ⟨rfl, rfl⟩ | (simp only [Act.eval, execOp]; go_simp; try exact ⟨rfl, rfl⟩)⟩, ?_⟩
      simp only [Act.put, List.getElem_toArray, List.getElem_cons_zero, List.getElem_cons_succ, List.setIfInBounds_toArray, List.set_cons_succ, List.set_cons_zero]
      refine ⟨_, _, (.int .i64 7), rfl, rfl, ⟨rfl, fun W hW => by first | exact ⟨rfl, rfl⟩ | (simp only [Act.eval, execOp]; go_simp; try exact ⟨rfl, rfl⟩)⟩, ?_⟩
      simp only [Act.put, List.getElem_toArray, List.getElem_cons_zero, List.getElem_cons_succ, List.setIfInBounds_toArray, List.set_cons_succ, List.set_cons_zero]
      refine ⟨_, _, (.pointer (some ⟨qb, 7, none⟩)), rfl, rfl, ⟨rfl, fun W hW => by first | exact ⟨rfl, rfl⟩ | (simp only [Act.eval, execOp]; go_simp; try exact ⟨rfl, rfl⟩)⟩, ?_⟩
      simp only [Act.put, List.getElem_toArray, List.getElem_cons_zero, List.getElem_cons_succ, List.setIfInBounds_toArray, List.set_cons_succ, List.set_cons_zero]
      refine ⟨_, _, (.int .i64 (q 7)), rfl, rfl, ⟨rfl, fun W hW => by have q0 := (HQ.out.kp hW.kp).c (p := 7) (by decide); simp only [execOp]; go_simp; done⟩, ?_⟩
      simp only [Act.put, List.getElem_toArray, List.getElem_cons_zero, List.getElem_cons_succ, List.setIfInBounds_toArray, List.set_cons_succ, List.set_cons_zero]
      refine ⟨_, _, (.agg #[.int .i64 (q 3), .int .i64 (q 4), .int .i64 (q 6), .int .i64 (q 7)]), rfl, rfl, ⟨rfl, fun W hW => by first | exact ⟨rfl, rfl⟩ | (simp only [Act.eval, execOp]; go_simp; try exact ⟨rfl, rfl⟩)⟩, ?_⟩
      simp only [Act.put, List.getElem_toArray, List.getElem_cons_zero, List.getElem_cons_succ, List.setIfInBounds_toArray, List.set_cons_succ, List.set_cons_zero]
      refine ⟨_, rfl, ?_⟩
      go_wp2_with fail
      refine (HIN.out w.drew hIx0).mono ?_
      rintro r w9 ⟨rfl, hi9, hb9⟩
      have hC := hC0.trans hb9
      go_wp2_with fail
      refine ⟨rfl, hC, ?_⟩
      refine ⟨_, _, (.int .i64 p), rfl, rfl, ⟨rfl, fun W hW => by first | exact ⟨rfl, rfl⟩ | (simp only [Act.eval, execOp]; go_simp; try exact ⟨rfl, rfl⟩)⟩, ?_⟩
      simp only [Act.put, List.getElem_toArray, List.getElem_cons_zero, List.getElem_cons_succ, List.setIfInBounds_toArray, List.set_cons_succ, List.set_cons_zero]
      refine ⟨_, _, (.int .i64 ee), rfl, rfl, ⟨rfl, fun W hW => by first | exact ⟨rfl, rfl⟩ | (simp only [Act.eval, execOp]; go_simp; try exact ⟨rfl, rfl⟩)⟩, ?_⟩
      simp only [Act.put, List.getElem_toArray, List.getElem_cons_zero, List.getElem_cons_succ, List.setIfInBounds_toArray, List.set_cons_succ, List.set_cons_zero]
      refine ⟨_, _, (.int .i64 p), rfl, rfl, ⟨rfl, fun W hW => by first | exact ⟨rfl, rfl⟩ | (simp only [Act.eval, execOp]; go_simp; try exact ⟨rfl, rfl⟩)⟩, ?_⟩
      simp only [Act.put, List.getElem_toArray, List.getElem_cons_zero, List.getElem_cons_succ, List.setIfInBounds_toArray, List.set_cons_succ, List.set_cons_zero]
      refine ⟨_, _, (.int .i64 ee), rfl, rfl, ⟨rfl, fun W hW => by first | exact ⟨rfl, rfl⟩ | (simp only [Act.eval, execOp]; go_simp; try exact ⟨rfl, rfl⟩)⟩, ?_⟩
      simp only [Act.put, List.getElem_toArray, List.getElem_cons_zero, List.getElem_cons_succ, List.setIfInBounds_toArray, List.set_cons_succ, List.set_cons_zero]
      refine ⟨?_, hi9, hC⟩
      first | rfl | simp only [Act.put, List.getElem_toArray, List.getElem_cons_zero, List.getElem_cons_succ, List.setIfInBounds_toArray, List.set_cons_succ, List.set_cons_zero]
    rintro a9 w9 ⟨rfl, hi9, hb9⟩
    simp only [Act.put, List.setIfInBounds_toArray, List.set_cons_succ, List.set_cons_zero]
    have HL := Lib.hid (HI.out.base hb9 hi9 HG.out.2 HG.out.1)
    have HB := Lib.hid hb9.l
    clear hi9 hb9 hC0 hIx0
    go_wp2_with fail
    go_ret2
    exact ⟨rfl, fun _ => HL.out, HB.out⟩
  · obtain ⟨⟨m, p, ee⟩, hz⟩ : ∃ z, z = put6 l room (q 4, q 5, q 7, q 8) := ⟨_, rfl⟩
    have hov : overK q (cornP 3) = (q 4, q 5, q 7, q 8) := rfl
    rw [hov, ← hz]
    have hgr := put_grows7 HI.out.right (q 4, q 5, q 7, q 8)
    have hrr := put_right HI.out.right (q 4, q 5, q 7, q 8)
    have hin := fun W hW => intern_anyK n0 g b l room (q 4, q 5, q 7, q 8) W hW HI.out.right
    rw [← hz] at hgr hrr hin
    unfold kidsV at hin
    have HIN := Lib.hid hin
    have HG := Lib.hid (And.intro hgr hrr)
    clear hin hgr hrr hz hov
    have hc : cornP 3 = 4 := rfl
    rw [hc]
    clear hc
    go_enter Try.func86, Try.ntmps86
    go_wp2_with fail
    have hC0 : BelK n0 b w w.drew := .of (below_drew w) HI.out.ix.hB
    have hIx0 := HI.out.ix.below (below_drew w)
    refine region_calm_to (fun W => BelK n0 b w W) (fun (a0 a9 : Act) (w9 : World) => a9 = ((((((((((((((((((((((((a0.put (some 6) (.pointer (some ⟨mx, 0, none⟩))).put (some 7) (.pointer (some ⟨mx, 0, none⟩))).put (some 8) (.pointer (some ⟨g, 0, none⟩))).put (some 9) (.int .i64 4)).put (some 10) (.pointer (some ⟨qb, 4, none⟩))).put (some 11) (.int .i64 (q 4))).put (some 12) (.int .i64 4)).put (some 13) (.int .i64 5)).put (some 14) (.pointer (some ⟨qb, 5, none⟩))).put (some 15) (.int .i64 (q 5))).put (some 16) (.int .i64 4)).put (some 17) (.int .i64 7)).put (some 18) (.pointer (some ⟨qb, 7, none⟩))).put (some 19) (.int .i64 (q 7))).put (some 20) (.int .i64 4)).put (some 21) (.int .i64 8)).put (some 22) (.pointer (some ⟨qb, 8, none⟩))).put (some 23) (.int .i64 (q 8))).put (some 24) (.agg #[.int .i64 (q 4), .int .i64 (q 5), .int .i64 (q 7), .int .i64 (q 8)])).put (some 25) (.tuple #[.int .i64 p, .int .i64 ee])).put (some 26) (.int .i64 p)).put (some 27) (.int .i64 ee)).put (some 4) (.int .i64 p)).put (some 5) (.int .i64 ee)) ∧ Ix n0 w9 g b m room ∧ BelK n0 b w w9) (.calm 0 (.calm 1 (.calm 2 (.calm 3 (.calm 4 (.calm 5 (.calm 6 (.calm 7 (.calm 8 (.calm 9 (.calm 10 (.calm 11 (.calm 12 (.calm 13 (.calm 14 (.calm 15 (.calm 16 (.calm 17 (.calm 18 (.only 19 (.calm 20 (.calm 21 (.calm 22 (.calm 23 .done)))))))))))))))))))))))) (by kernel_rfl) (by kernel_rfl) (by kernel_rfl) (by rfl) hC0 ?_ ?_
    · skip
      refine ⟨_, _, (.pointer (some ⟨mx, 0, none⟩)), rfl, rfl, ⟨rfl, fun W hW => by first | exact ⟨rfl, rfl⟩ | (simp only [Act.eval, execOp]; go_simp; try exact ⟨rfl, rfl⟩)⟩, ?_⟩
      simp only [Act.put, List.getElem_toArray, List.getElem_cons_zero, List.getElem_cons_succ, List.setIfInBounds_toArray, List.set_cons_succ, List.set_cons_zero]
      refine ⟨_, _, (.pointer (some ⟨mx, 0, none⟩)), rfl, rfl, ⟨rfl, fun W hW => by first | exact ⟨rfl, rfl⟩ | (simp only [Act.eval, execOp]; go_simp; try exact ⟨rfl, rfl⟩)⟩, ?_⟩
      simp only [Act.put, List.getElem_toArray, List.getElem_cons_zero, List.getElem_cons_succ, List.setIfInBounds_toArray, List.set_cons_succ, List.set_cons_zero]
      refine ⟨_, _, (.pointer (some ⟨g, 0, none⟩)), rfl, rfl, ⟨rfl, fun W hW => by have q0 := (HM.out.kp hW.kp).c0; simp only [execOp]; go_simp; done⟩, ?_⟩
      simp only [Act.put, List.getElem_toArray, List.getElem_cons_zero, List.getElem_cons_succ, List.setIfInBounds_toArray, List.set_cons_succ, List.set_cons_zero]
      refine ⟨_, _, (.int .i64 4), rfl, rfl, ⟨rfl, fun W hW => by first | exact ⟨rfl, rfl⟩ | (simp only [Act.eval, execOp]; go_simp; try exact ⟨rfl, rfl⟩)⟩, ?_⟩
      simp only [Act.put, List.getElem_toArray, List.getElem_cons_zero, List.getElem_cons_succ, List.setIfInBounds_toArray, List.set_cons_succ, List.set_cons_zero]
      refine ⟨_, _, (.pointer (some ⟨qb, 4, none⟩)), rfl, rfl, ⟨rfl, fun W hW => by first | exact ⟨rfl, rfl⟩ | (simp only [Act.eval, execOp]; go_simp; try exact ⟨rfl, rfl⟩)⟩, ?_⟩
      simp only [Act.put, List.getElem_toArray, List.getElem_cons_zero, List.getElem_cons_succ, List.setIfInBounds_toArray, List.set_cons_succ, List.set_cons_zero]
      refine ⟨_, _, (.int .i64 (q 4)), rfl, rfl, ⟨rfl, fun W hW => by have q0 := (HQ.out.kp hW.kp).c (p := 4) (by decide); simp only [execOp]; go_simp; done⟩, ?_⟩
      simp only [Act.put, List.getElem_toArray, List.getElem_cons_zero, List.getElem_cons_succ, List.setIfInBounds_toArray, List.set_cons_succ, List.set_cons_zero]
      refine ⟨_, _, (.int .i64 4), rfl, rfl, ⟨rfl, fun W hW => by first | exact ⟨rfl, rfl⟩ | (simp only [Act.eval, execOp]; go_simp; try exact ⟨rfl, rfl⟩)⟩, ?_⟩
      simp only [Act.put, List.getElem_toArray, List.getElem_cons_zero, List.getElem_cons_succ, List.setIfInBounds_toArray, List.set_cons_succ, List.set_cons_zero]
      refine ⟨_, _, (.int .i64 5), rfl, rfl, ⟨rfl, fun W hW => by first | exact ⟨rfl, rfl⟩ | (simp only [Act.eval, execOp]; go_simp; try exact ⟨rfl, rfl⟩)⟩, ?_⟩
      simp only [Act.put, List.getElem_toArray, List.getElem_cons_zero, List.getElem_cons_succ, List.setIfInBounds_toArray, List.set_cons_succ, List.set_cons_zero]
      refine ⟨_, _, (.pointer (some ⟨qb, 5, none⟩)), rfl, rfl, ⟨rfl, fun W hW => by first | exact ⟨rfl, rfl⟩ | (simp only [Act.eval, execOp]; go_simp; try exact ⟨rfl, rfl⟩)⟩, ?_⟩
      simp only [Act.put, List.getElem_toArray, List.getElem_cons_zero, List.getElem_cons_succ, List.setIfInBounds_toArray, List.set_cons_succ, List.set_cons_zero]
      refine ⟨_, _, (.int .i64 (q 5)), rfl, rfl, ⟨rfl, fun W hW => by have q0 := (HQ.out.kp hW.kp).c (p := 5) (by decide); simp only [execOp]; go_simp; done⟩, ?_⟩
      simp only [Act.put, List.getElem_toArray, List.getElem_cons_zero, List.getElem_cons_succ, List.setIfInBounds_toArray, List.set_cons_succ, List.set_cons_zero]
      refine ⟨_, _, (.int .i64 4), rfl, rfl, ⟨rfl, fun W hW => by first | exact ⟨rfl, rfl⟩ | (simp only [Act.eval, execOp]; go_simp; try exact ⟨rfl, rfl⟩)⟩, ?_⟩
      simp only [Act.put, List.getElem_toArray, List.getElem_cons_zero, List.getElem_cons_succ, List.setIfInBounds_toArray, List.set_cons_succ, List.set_cons_zero]
      refine ⟨_, _, (.int .i64 7), rfl, rfl, ⟨rfl, fun W hW => by first | exact ⟨rfl, rfl⟩ | (simp only [Act.eval, execOp]; go_simp; try exact ⟨rfl, rfl⟩)⟩, ?_⟩
      simp only [Act.put, List.getElem_toArray, List.getElem_cons_zero, List.getElem_cons_succ, List.setIfInBounds_toArray, List.set_cons_succ, List.set_cons_zero]
      refine ⟨_, _, (.pointer (some ⟨qb, 7, none⟩)), rfl, rfl, ⟨rfl, fun W hW => by first | exact ⟨rfl, rfl⟩ | (simp only [Act.eval, execOp]; go_simp; try exact ⟨rfl, rfl⟩)⟩, ?_⟩
      simp only [Act.put, List.getElem_toArray, List.getElem_cons_zero, List.getElem_cons_succ, List.setIfInBounds_toArray, List.set_cons_succ, List.set_cons_zero]
      refine ⟨_, _, (.int .i64 (q 7)), rfl, rfl, ⟨rfl, fun W hW => by have q0 := (HQ.out.kp hW.kp).c (p := 7) (by decide); simp only [execOp]; go_simp; done⟩, ?_⟩
      simp only [Act.put, List.getElem_toArray, List.getElem_cons_zero, List.getElem_cons_succ, List.setIfInBounds_toArray, List.set_cons_succ, List.set_cons_zero]
      refine ⟨_, _, (.int .i64 4), rfl, rfl, ⟨rfl, fun W hW => by first | exact ⟨rfl, rfl⟩ | (simp only [Act.eval, execOp]; go_simp; try exact ⟨rfl, rfl⟩)⟩, ?_⟩
      simp only [Act.put, List.getElem_toArray, List.getElem_cons_zero, List.getElem_cons_succ, List.setIfInBounds_toArray, List.set_cons_succ, List.set_cons_zero]
      refine ⟨_, _, (.int .i64 8), rfl, rfl, ⟨rfl, fun W hW => by first | exact ⟨rfl, rfl⟩ | (simp only [Act.eval, execOp]; go_simp; try exact ⟨rfl, rfl⟩)⟩, ?_⟩
      simp only [Act.put, List.getElem_toArray, List.getElem_cons_zero, List.getElem_cons_succ, List.setIfInBounds_toArray, List.set_cons_succ, List.set_cons_zero]
      refine ⟨_, _, (.pointer (some ⟨qb, 8, none⟩)), rfl, rfl, ⟨rfl, fun W hW => by first | exact ⟨rfl, rfl⟩ | (simp only [Act.eval, execOp]; go_simp; try exact ⟨rfl, rfl⟩)⟩, ?_⟩
      simp only [Act.put, List.getElem_toArray, List.getElem_cons_zero, List.getElem_cons_succ, List.setIfInBounds_toArray, List.set_cons_succ, List.set_cons_zero]
      refine ⟨_, _, (.int .i64 (q 8)), rfl, rfl, ⟨rfl, fun W hW => by have q0 := (HQ.out.kp hW.kp).c (p := 8) (by decide); simp only [execOp]; go_simp; done⟩, ?_⟩
      simp only [Act.put, List.getElem_toArray, List.getElem_cons_zero, List.getElem_cons_succ, List.setIfInBounds_toArray, List.set_cons_succ, List.set_cons_zero]
      refine ⟨_, _, (.agg #[.int .i64 (q 4), .int .i64 (q 5), .int .i64 (q 7), .int .i64 (q 8)]), rfl, rfl, ⟨rfl, fun W hW => by first | exact ⟨rfl, rfl⟩ | (simp only [Act.eval, execOp]; go_simp; try exact ⟨rfl, rfl⟩)⟩, ?_⟩
      simp only [Act.put, List.getElem_toArray, List.getElem_cons_zero, List.getElem_cons_succ, List.setIfInBounds_toArray, List.set_cons_succ, List.set_cons_zero]
      refine ⟨_, rfl, ?_⟩
      go_wp2_with fail
      refine (HIN.out w.drew hIx0).mono ?_
      rintro r w9 ⟨rfl, hi9, hb9⟩
      have hC := hC0.trans hb9
      go_wp2_with fail
      refine ⟨rfl, hC, ?_⟩
      refine ⟨_, _, (.int .i64 p), rfl, rfl, ⟨rfl, fun W hW => by first | exact ⟨rfl, rfl⟩ | (simp only [Act.eval, execOp]; go_simp; try exact ⟨rfl, rfl⟩)⟩, ?_⟩
      simp only [Act.put, List.getElem_toArray, List.getElem_cons_zero, List.getElem_cons_succ, List.setIfInBounds_toArray, List.set_cons_succ, List.set_cons_zero]
      refine ⟨_, _, (.int .i64 ee), rfl, rfl, ⟨rfl, fun W hW => by first | exact ⟨rfl, rfl⟩ | (simp only [Act.eval, execOp]; go_simp; try exact ⟨rfl, rfl⟩)⟩, ?_⟩
      simp only [Act.put, List.getElem_toArray, List.getElem_cons_zero, List.getElem_cons_succ, List.setIfInBounds_toArray, List.set_cons_succ, List.set_cons_zero]
      refine ⟨_, _, (.int .i64 p), rfl, rfl, ⟨rfl, fun W hW => by first | exact ⟨rfl, rfl⟩ | (simp only [Act.eval, execOp]; go_simp; try exact ⟨rfl, rfl⟩)⟩, ?_⟩
      simp only [Act.put, List.getElem_toArray, List.getElem_cons_zero, List.getElem_cons_succ, List.setIfInBounds_toArray, List.set_cons_succ, List.set_cons_zero]
      refine ⟨_, _, (.int .i64 ee), rfl, rfl, ⟨rfl, fun W hW => by first | exact ⟨rfl, rfl⟩ | (simp only [Act.eval, execOp]; go_simp; try exact ⟨rfl, rfl⟩)⟩, ?_⟩
      simp only [Act.put, List.getElem_toArray, List.getElem_cons_zero, List.getElem_cons_succ, List.setIfInBounds_toArray, List.set_cons_succ, List.set_cons_zero]
      refine ⟨?_, hi9, hC⟩
      first | rfl | simp only [Act.put, List.getElem_toArray, List.getElem_cons_zero, List.getElem_cons_succ, List.setIfInBounds_toArray, List.set_cons_succ, List.set_cons_zero]
    rintro a9 w9 ⟨rfl, hi9, hb9⟩
    simp only [Act.put, List.setIfInBounds_toArray, List.set_cons_succ, List.set_cons_zero]
    have HL := Lib.hid (HI.out.base hb9 hi9 HG.out.2 HG.out.1)
    have HB := Lib.hid hb9.l
    clear hi9 hb9 hC0 hIx0
    go_wp2_with fail
    go_ret2
    exact ⟨rfl, fun _ => HL.out, HB.out⟩
end Go.Proofs.Ytgjibpgfcbdpgaa
namespace Go.Proofs.Ytgjibpgfcbdpgaa
set_option maxRecDepth 100000
set_option linter.unusedVariables false
set_option linter.unusedSimpArgs false
open Go.RowKit Go.Sort

/-- what a leap of a node of the level e + 2 answers -/
def LeapAt (F : Nat) (n0 g b mb : Nat) (room : Int) (e : Nat) : Prop := ∀ (k jn : Nat) (l : List Nd) (w : World), LIn n0 w g b mb l room → Is l (e + 2) k → jn ≤ e → e ≤ 40 →
  Calls Try.prog F #[makerL g mb, .int .i64 (k : Int), .int .i64 (jn : Int)] w (LpR (leapN room e jn l k) n0 g b mb room w)
set_option maxHeartbeats 8000000 in
theorem anew_two (n0 g b mb : Nat) (room : Int) : LeapAt 65 n0 g b mb room 0 := by
  intro k jn l w hin hk hj he
  obtain rfl : jn = 0 := by omega
  have hn0 := hin.ix.hB
  have hal := ((Below.refl w.heap.size w).alloc (Nat.le_refl _) (.cells #[.pointer (some ⟨g, 0, none⟩), .map (some mb)] 76)).alloc (by simp) (.cells #[.int .i64 ((0 : Nat) : Int)] 3)
  have hM : ML ((w.alloc (.cells #[.pointer (some ⟨g, 0, none⟩), .map (some mb)] 76)).alloc (.cells #[.int .i64 ((0 : Nat) : Int)] 3)) w.heap.size g mb := heap_old (heap_new rfl)
  have HI := Lib.hid (hin.below hal)
  have HM := Lib.hid hM
  have HA := Lib.hid (BelL.of hal hn0)
  have HR := Lib.hid hin.right
  have hlv := levelL_any room n0 g b mb l k hk.lt _ HI.out.ix hin.right
  rw [show (l.getD k deadN).1 = 2 from hk.lev] at hlv
  have hz : stepZ room l (k : Int) = put6 l room (stepK l k) := by unfold stepZ; rw [if_pos (show levI l (k : Int) = 2 from lev_at hk), Int.toNat_natCast]
  have hg := put_grows7 HR.out (stepK l k)
  have hr := put_right HR.out (stepK l k)
  have hst := fun W hW => makerStep_any room n0 g b l (k : Int) W hW HR.out
  rw [← hz] at hg hr
  rw [show leapN room 0 0 l (k : Int) = stepZ room l (k : Int) from rfl]
  generalize stepZ room l (k : Int) = z at *
  obtain ⟨zl, zn, ze⟩ := z
  have HG := Lib.hid (And.intro hg hr)
  have HST := Lib.hid hst
  have m0 := hM.c0
  have m1 := hM.c1
  have HK := Lib.hid hk
  clear hal hM hin hk hg hr hz hst
  go_enter Try.func65, Try.ntmps65
  go_wp2_with fail
  generalize ((w.alloc (.cells #[.pointer (some ⟨g, 0, none⟩), .map (some mb)] 76)).alloc (.cells #[.int .i64 ((0 : Nat) : Int)] 3)) = w0 at *
  refine hlv.mono ?_
  rintro r w1 ⟨rfl, hb1⟩
  have hal := (Below.refl w1.heap.size w1).alloc (Nat.le_refl _) (.cells #[.int .i64 2] 3)
  have hbb := Qt.more hb1 hb1.size hal
  have HI1 := Lib.hid (HI.out.below hbb)
  have HM1 := Lib.hid (HM.out.below hbb)
  have HA1 := Lib.hid (HA.out.trans (.of hbb HI.out.ix.hB))
  have m0' := HM1.out.c0
  have hst := HST.out _ HI1.out.ix
  clear hlv hb1 hal hbb m0 m1 HI HM HA HST
  go_wp2_with fail
  generalize (w1.alloc (.cells #[.int .i64 2] 3)) = v1 at *
  refine hst.mono ?_
  rintro r w2 ⟨rfl, hi2, hb2⟩
  have HL := Lib.hid (HI1.out.base hb2 hi2 HG.out.2 HG.out.1)
  have HB := Lib.hid (HA1.out.trans hb2.l)
  clear hst hi2 hb2 m0'
  go_wp2_with fail
  go_ret2
  exact ⟨rfl, fun _ => HL.out, HB.out⟩
end Go.Proofs.Ytgjibpgfcbdpgaa
namespace Go.Proofs.Ytgjibpgfcbdpgaa
set_option maxRecDepth 100000
set_option linter.unusedVariables false
set_option linter.unusedSimpArgs false

section
variable {room : Int} {l : List Nd}
theorem Many.ok {α : Type} {f : List Nd → List Nd × α × Int} {N : Nat} {Q : List Nd → α → Prop} (h : ManyR room l f N Q) (he : (f l).2.2 = 0) : Grows l (f l).1 ∧ Right6 (f l).1 room ∧ Q (f l).1 (f l).2.1 := by
  rcases h with ⟨h1, _⟩ | ⟨m, q, e, g, r, _, hq, _⟩
  · rw [he] at h1; exact absurd h1 (by decide)
  · rw [e]; exact ⟨g, r, hq⟩
theorem Done.ok {f : List Nd → Zn} {N : Nat} {Q : List Nd → Nat → Prop} (h : DoneR room l f N Q) (he : (f l).2.2 = 0) : Grows l (f l).1 ∧ Right6 (f l).1 room ∧ ∃ p : Nat, (f l).2.1 = (p : Int) ∧ Q (f l).1 p ∧ ∀ b, Grows (f l).1 b → Right6 b room → f b = (b, (p : Int), 0) := by
  rcases h with ⟨h1, _⟩ | ⟨m, p, e, g, r, _, hq, a⟩
  · rw [he] at h1; exact absurd h1 (by decide)
  · rw [e]; exact ⟨g, r, p, rfl, hq, a⟩
theorem and_err {α : Type} (z : List Nd × α × Int) (f : List Nd → α → Zn) (hf : ∀ l a, ¬ (f l a).2.2 = 0 → (f l a).2.1 = 0) (h : ¬ (andZ z f).2.2 = 0) : (andZ z f).2.1 = 0 := by
  unfold andZ at h ⊢
  split
  · next hz => rw [if_pos hz] at h; exact hf _ _ h
  · rfl
theorem put_err0 (l : List Nd) (room : Int) (k : Kd) (h : ¬ (put6 l room k).2.2 = 0) : (put6 l room k).2.1 = 0 := by rw [put_err h]
theorem far_err (first second : List Nd → Int → Zn) (l : List Nd) (n : Int) (h : ¬ (farZ room first second l n).2.2 = 0) : (farZ room first second l n).2.1 = 0 := by
  unfold farZ at h ⊢
  exact and_err _ _ (fun l1 p => and_err _ _ fun l2 q => and_err _ _ fun l3 r => and_err _ _ fun l4 s => put_err0 l4 room _) h
/-- with an error no place is told -/
theorem leap_err (room : Int) : ∀ (e j : Nat) (l : List Nd) (n : Int), ¬ (leapN room e j l n).2.2 = 0 → (leapN room e j l n).2.1 = 0
  | 0, j, l, n, h => by
    have h' : ¬ (stepZ room l n).2.2 = 0 := h
    show (stepZ room l n).2.1 = 0
    unfold stepZ at h' ⊢
    split
    · next hl => rw [if_pos hl] at h'; exact put_err0 _ _ _ h'
    · rfl
  | e + 1, j, l, n, h => far_err _ _ l n h
end
end Go.Proofs.Ytgjibpgfcbdpgaa
namespace Go.Proofs.Ytgjibpgfcbdpgaa
set_option maxRecDepth 100000
set_option linter.unusedVariables false
set_option linter.unusedSimpArgs false
open Go.RowKit Go.Sort

/-- a leap is put into the map -/
theorem LIn.put {n0 : Nat} {w w' : World} {g b mb N : Nat} {l : List Nd} {room n j to : Int} {D : DataW Unit} (h : LIn n0 w g b mb l room) (hs : SaysJ D (okJ room l)) (hm : MapJ w' mb N (D.put (kj n j) (.lit (.int .i64 to)))) (hg : w.grownBy w' (some mb)) (hj : JKey n j) (ht : okJ room l n j to) : LIn n0 w' g b mb l room ∧ BelL n0 w w' := by
  obtain ⟨N0, D0, h1, _⟩ := h.memo
  obtain ⟨es, c, hmm, _⟩ := id h1
  obtain ⟨v, DI, hi⟩ := id h.ix
  have hgm : g ≠ mb := fun e => by
    subst e
    have := hi.row
    unfold IxRow at this
    rw [this] at hmm
    injection hmm with hmm
    cases hmm
  have hvm : v.ownBlock ≠ some mb := fun e => by
    obtain ⟨_, _, cs, fz, hc⟩ := ownN_kind hi.own mb e
    rw [hmm] at hc
    injection hc with hc
    cases hc
  have hrow : IxRow w' g v room (.map (some b)) := by
    unfold IxRow
    rw [hg.block g (lt_heap6 hi.row) (fun e => hgm (by injection e))]
    exact hi.row
  refine ⟨⟨⟨v, DI, hrow, World.ownsRow.kept hi.own hg (.inr hvm), World.ownsMap.kept hi.map hg (fun e => h.ne (by injection e with e; exact e.symm)), hi.says, hi.gB, hi.bB, Nat.le_trans hi.hB hg.size⟩, h.right, ⟨N, _, hm, saysJ_put hs hj ht⟩, h.ne, h.mB⟩, (Below.refl n0 w).grown hg hi.hB (fun k e => by injection e with e; subst e; exact h.mB), Kp.grown hg (fun r e cs T fz hc => by injection e with e; subst e; rw [hmm] at hc; injection hc with hc; cases hc)⟩
set_option maxHeartbeats 8000000 in
theorem leap_of (n0 g b mb : Nat) (room : Int) (e : Nat) (ha : LeapAt 65 n0 g b mb room e) : LeapAt 42 n0 g b mb room e := by
  intro k jn l w hin hk hj he
  have hn0 := hin.ix.hB
  have hal := (Below.refl w.heap.size w).alloc (Nat.le_refl _) (.cells #[.pointer (some ⟨g, 0, none⟩), .map (some mb)] 76)
  have hM : ML (w.alloc (.cells #[.pointer (some ⟨g, 0, none⟩), .map (some mb)] 76)) w.heap.size g mb := heap_new rfl
  have HI := Lib.hid (hin.below hal)
  have HM := Lib.hid hM
  have HA := Lib.hid (BelL.of hal hn0)
  have hsm := hin.right.small
  have hklt := hk.lt
  have HJ := Lib.hid (show JKey (k : Int) (jn : Int) by unfold JKey; omega)
  have hcall := ha k jn l _ HI.out hk hj he
  have HD := Lib.hid (leap_done room e jn k l _ (Sf.of hin.right hk (by omega)) hj)
  have HER := Lib.hid (leap_err room e jn l (k : Int))
  have HK := Lib.hid hk
  have m0 := hM.c0
  have m1 := hM.c1
  obtain ⟨N, D, hmap, hsays⟩ := HI.out.memo
  have hlook := lookJ_run hmap hsays HJ.out
  clear hal hM hin hmap
  rcases hlook with ⟨to, ⟨k', j', p', e', h1, h2, rfl, h4, h5, h6⟩, hrun⟩ | ⟨to, hrun⟩
  · obtain rfl : k' = k := by omega
    obtain rfl : j' = jn := by omega
    obtain rfl : e' = e := by have a1 := h4.lev; have a2 := HK.out.lev; rw [a1] at a2; omega
    have hz : leapN room e' j' l (k' : Int) = (l, (p' : Int), 0) := h6 l (Grows.refl l) HI.out.right
    rw [hz]
    clear hz h6 hcall HD HER
    go_enter Try.func42, Try.ntmps42
    go_wp2_with fail
    go_ret2
    exact ⟨rfl, fun _ => HI.out, HA.out⟩
  · obtain ⟨⟨zl, zn, ze⟩, hzz⟩ : ∃ z, z = leapN room e jn l (k : Int) := ⟨_, rfl⟩
    have her := HER.out
    rw [← hzz] at hcall her ⊢
    have HZ := Lib.hid hzz
    have HE := Lib.hid her
    clear hzz her HER
    go_enter Try.func42, Try.ntmps42
    go_wp2_with fail
    generalize (w.alloc (.cells #[.pointer (some ⟨g, 0, none⟩), .map (some mb)] 76)) = w0 at *
    refine hcall.mono ?_
    rintro r w2 ⟨rfl, hl2, hb2⟩
    dsimp only at hl2
    have hM2 := HM.out.kp hb2.kp
    have m0' := hM2.c0
    have m1' := hM2.c1
    by_cases hze : ze = 0
    · subst hze
      have hL2 := hl2 rfl
      obtain ⟨N2, D2, hmap2, hsays2⟩ := id hL2.memo
      have htight := hmap2.tight hsays2.1.2
      obtain ⟨gr, rr, p, hp, hq, hag⟩ := Done.ok HD.out (by show (leapN room e jn l (k : Int)).2.2 = 0; rw [← HZ.out])
      have hp' : (leapN room e jn l (k : Int)).2.1 = (p : Int) := hp
      have gr' : Grows l (leapN room e jn l (k : Int)).1 := gr
      have hag' : ∀ b, Grows (leapN room e jn l (k : Int)).1 b → Right6 b room → leapN room e jn b (k : Int) = (b, (p : Int), 0) := hag
      have hqs : Sf (leapN room e jn l (k : Int)).1 room e p _ := hq
      have hpl := hqs.is.lt
      have hps := hqs.right.small
      rw [← HZ.out] at hp' gr' hag' hpl hps
      dsimp only at hp' gr' hag' hpl hps
      subst hp'
      have HOK := Lib.hid (show okJ room zl (k : Int) (jn : Int) (p : Int) from ⟨k, jn, p, e, rfl, rfl, rfl, HK.out.grows gr', hj, hag'⟩)
      have hkey := keyOf_jump HJ.out
      have HB2 := Lib.hid (HA.out.trans hb2)
      have HL2 := Lib.hid hL2
      have HS2 := Lib.hid hsays2
      have HP := Lib.hid (show (Lit.int .i64 (p : Int)).wf = true from wf_small ⟨by omega, by omega⟩)
      clear hcall hl2 hb2 hM2 hL2 hmap2 hsays2 gr rr hp hq hag gr' hag' hqs hpl hps HD HM HI HA m0 m1 hrun
      go_wp2_with (at_mapUpdate; refine wpList_mapUpdate_own _ rfl _ _ _ 74 rfl 100 3 jumpKeyed Try.underlying74 (plainElem Try.prog 3) mb 4300043 D2 rfl htight (by unfold maxLen; omega) _ _ _ rfl rfl hkey (.lit (.int .i64 (p : Int))) [] (plainElem_int Try.underlying3 HP.out) ?_; intro w7 hown7 hgrow7; have HF := Lib.hid (LIn.put HL2.out HS2.out hown7 hgrow7 HJ.out HOK.out); clear hown7 hgrow7 htight hkey)
      go_ret2
      exact ⟨rfl, fun _ => HF.out.1, HB2.out.trans HF.out.2⟩
    · have hzn : zn = 0 := HE.out hze
      subst hzn
      have hzb : (ze == 0) = false := beq_eq_false_iff_ne.2 hze
      have HB2 := Lib.hid (HA.out.trans hb2)
      clear hcall hl2 hb2 hM2 HD HM HI HA m0 m1 hrun m0' m1'
      go_wp2_with fail
      go_ret2
      exact ⟨rfl, fun h => absurd h hze, HB2.out⟩
end Go.Proofs.Ytgjibpgfcbdpgaa
namespace Go.Proofs.Ytgjibpgfcbdpgaa
set_option maxRecDepth 100000
set_option linter.unusedVariables false
set_option linter.unusedSimpArgs false

/-- what is done at first -/
def fstZ (room : Int) (e jn : Nat) : List Nd → Int → Zn := if jn = e + 1 then leapN room e (min jn e) else centreZ room
def picF (e jn : Nat) (F : Pic) : Pic := if jn = e + 1 then runF (2 ^ min jn e) F else F
section
variable {room : Int} {l1 l2 l3 l4 : List Nd} {e jn : Nat} {F : Pic}
theorem fst_done (m : List Nd) (q : Nat) (d : Int × Int) (r : Right6 m room) (hs : Sf m room (e + 1) q (moveF F d)) : DoneR room m (fun b => fstZ room e jn b q) (costN e) (fun b p => Sf b room e p (moveF (picF e jn F) d)) := by
  unfold fstZ picF
  by_cases h : jn = e + 1
  · rw [if_pos h, if_pos h]
    have := leap_done room e (min jn e) q m _ hs (Nat.min_le_right _ _)
    rw [run_move] at this
    exact this
  · rw [if_neg h, if_neg h]
    exact hs.centre.mono (cost_pos e) fun b p g rb hp => hp
theorem snd_done (m : List Nd) (q : Nat) (d : Int × Int) (r : Right6 m room) (hs : Sf m room (e + 1) q (moveF F d)) : DoneR room m (fun b => leapN room e (min jn e) b q) (costN e) (fun b p => Sf b room e p (moveF (runF (2 ^ min jn e) F) d)) := by
  have := leap_done room e (min jn e) q m _ hs (Nat.min_le_right _ _)
  rw [run_move] at this
  exact this
theorem stage1 (r1 : Right6 l1 room) {p : Nat → Int} {p' : Nat → Nat} (hp : ∀ t, t < 9 → p t = ((p' t : Nat) : Int) ∧ Sf l1 room (e + 1) (p' t) (moveF F (dNine (e + 1) t))) (i : Nat) (hi : i ≤ 9) :
    ManyR room l1 (fun b => eachTo (fstZ room e jn) b p i) (i * costN e) (fun m q => ∀ t, t < i → ∃ q' : Nat, q t = (q' : Int) ∧ Sf m room e q' (moveF (picF e jn F) (dNine (e + 1) t))) :=
  each_done (f := fstZ room e jn) (K := 9) (N := costN e) (Q := fun t b q => Sf b room e q (moveF (picF e jn F) (dNine (e + 1) t))) r1 (fun t m b q _ hs g r => hs.grows g r) (fun t ht m g r => by
    obtain ⟨e1, e2⟩ := hp t ht
    rw [e1]
    exact fst_done m _ _ r (e2.grows g r)) i hi
theorem stage2 (r2 : Right6 l2 room) (he : e + 1 ≤ 41) {q : Nat → Int} {q' : Nat → Nat} {G : Pic} (hq : ∀ t, t < 9 → q t = ((q' t : Nat) : Int) ∧ Sf l2 room e (q' t) (moveF G (dNine (e + 1) t))) (i : Nat) (hi : i ≤ 4) :
    ManyR room l2 (fun b => eachTo (fun m i => put6 m room (overK q i)) b cornP i) (i * 1) (fun b r => ∀ t, t < i → ∃ r' : Nat, r t = (r' : Int) ∧ Sf b room (e + 1) r' (moveF G (dFour e t))) :=
  each_done (f := fun m i => put6 m room (overK q i)) (p := cornP) (K := 4) (N := 1) (Q := fun i b r => Sf b room (e + 1) r (moveF G (dFour e i))) r2 (fun t m b q _ hs g r => hs.grows g r) (fun i hi m g r => by
    refine join_done r (by omega) (q := fun k => q' (i / 2 * 3 + i % 2 + (k / 2 * 3 + k % 2))) (fun k hk => ?_) fun k hk => ?_
    · have hc : (cornP i).toNat = i / 2 * 3 + i % 2 := by unfold cornP; rw [Int.toNat_natCast]
      have := (hq (i / 2 * 3 + i % 2 + (k / 2 * 3 + k % 2)) (by omega)).1
      unfold overK
      rw [hc]
      rcases (by omega : k = 0 ∨ k = 1 ∨ k = 2 ∨ k = 3) with rfl | rfl | rfl | rfl <;> exact this
    · rw [move_move]
      have := ((hq (i / 2 * 3 + i % 2 + (k / 2 * 3 + k % 2)) (by omega)).2).grows g r
      rw [← quad_sum e i k hi hk] at this
      exact this) i hi
theorem stage3 (r3 : Right6 l3 room) {s : Nat → Int} {s' : Nat → Nat} {G : Pic} (hs : ∀ t, t < 4 → s t = ((s' t : Nat) : Int) ∧ Sf l3 room (e + 1) (s' t) (moveF G (dFour e t))) (i : Nat) (hi : i ≤ 4) :
    ManyR room l3 (fun b => eachTo (leapN room e (min jn e)) b s i) (i * costN e) (fun b u => ∀ t, t < i → ∃ u' : Nat, u t = (u' : Int) ∧ Sf b room e u' (moveF (runF (2 ^ min jn e) G) (dFour e t))) :=
  each_done (f := leapN room e (min jn e)) (K := 4) (N := costN e) (Q := fun t b q => Sf b room e q (moveF (runF (2 ^ min jn e) G) (dFour e t))) r3 (fun t m b q _ hs g r => hs.grows g r) (fun t ht m g r => by
    obtain ⟨e1, e2⟩ := hs t ht
    rw [e1]
    exact snd_done m _ _ r (e2.grows g r)) i hi
end
end Go.Proofs.Ytgjibpgfcbdpgaa
