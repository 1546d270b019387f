/-
  Texts that the claims of this seat share, part 16.
-/
import Derived.Test.YtklccoodfhejbaaB14
import Derived.Test.YtklccoodfhejbaaB15
set_option linter.unusedVariables false
set_option linter.unusedSimpArgs false
namespace Go.Proofs.Ytklccoodfhejbaa
set_option maxRecDepth 100000
set_option linter.unusedVariables false
set_option linter.unusedSimpArgs false
open Go.RowKit Go.Sort

theorem lev_is {l : List Nd} {room : Int} (hr : Right6 l room) {n : Int} (h : 2 ≤ levI l n) : ∃ e k : Nat, n = (k : Int) ∧ Is l (e + 2) k ∧ e + 2 ≤ 42 ∧ levI l n = (e : Int) + 2 := by
  by_cases hn : 0 ≤ n ∧ n < l.length
  · have h1 : levI l n = (ndAt l n).1 := if_pos hn
    obtain ⟨k, rfl⟩ : ∃ k : Nat, n = (k : Int) := ⟨n.toNat, by omega⟩
    have hb := right_bd hr k (by omega)
    rw [ndAt_nat] at h1
    exact ⟨((l.getD k deadN).1 - 2).toNat, k, rfl, ⟨by omega, by omega⟩, by omega, by omega⟩
  · have h1 : levI l n = -1 := if_neg hn
    omega
theorem sqV_sqK (l : List Nd) (n y x : Nat) (hy : y < 3) (hx : x < 3) : sqV (v16 l n) y x = kidsV (sqK l n y x) := by
  unfold sqV v16 kidsV sqK
  rw [show (y * 4 + x) / 4 = y by omega, show (y * 4 + x) % 4 = x by omega, show (y * 4 + (x + 1)) / 4 = y by omega, show (y * 4 + (x + 1)) % 4 = x + 1 by omega, show ((y + 1) * 4 + x) / 4 = y + 1 by omega, show ((y + 1) * 4 + x) % 4 = x by omega, show ((y + 1) * 4 + (x + 1)) / 4 = y + 1 by omega, show ((y + 1) * 4 + (x + 1)) % 4 = x + 1 by omega]
/-- what Maker.Centre answers -/
def centreZ (room : Int) (l : List Nd) (n : Int) : List Nd × Int × Int := if levI l n < 2 then (l, 0, 1) else put6 l room (sqK l n.toNat 1 1)
set_option maxHeartbeats 16000000 in
theorem makerCentre_any (room : Int) (n0 g b : Nat) (l : List Nd) (n : Int) (w : World) (hix : Ix n0 w g b l room) (hr : Right6 l room) :
    Calls Try.prog 69 #[makerV g, .int .i64 n] w (IxK (centreZ room l n) n0 g b room w) := by
  have hn0 := hix.hB
  have hal := (Below.refl w.heap.size w).alloc (Nat.le_refl _) (.cells #[.pointer (some ⟨g, 0, none⟩)] 73)
  have hM : MB (w.alloc (.cells #[.pointer (some ⟨g, 0, none⟩)] 73)) w.heap.size g := heap_alloc_new w _
  have hlv := level_any room n0 g b l n _ (hix.below hal) hr
  have m0 := hM.c
  have HIX := Lib.hid (hix.below hal)
  have HM := Lib.hid hM
  have HA := Lib.hid (BelK.of (b := b) hal hn0)
  have HR := Lib.hid hr
  clear hix hr hal hM
  by_cases h2 : levI l n < 2
  · have hz : centreZ room l n = (l, 0, 1) := if_pos h2
    rw [hz]
    generalize levI l n = lv at *
    clear hz
    go_enter Try.func69, Try.ntmps69
    go_wp2_with fail
    refine hlv.mono ?_
    rintro r w1 ⟨rfl, hb1⟩
    have HI := Lib.hid (HIX.out.below hb1)
    have HB := Lib.hid (HA.out.more hb1 hn0)
    clear hlv hb1 m0
    go_wp2_with fail
    go_ret2
    exact ⟨rfl, HI.out, HB.out⟩
  · obtain ⟨e, k, rfl, hn, he, hle⟩ := lev_is HR.out (n := n) (by omega)
    have hz : centreZ room l (k : Int) = put6 l room (sqK l k 1 1) := by
      unfold centreZ
      rw [if_neg h2, Int.toNat_natCast]
    rw [hz]
    obtain ⟨⟨m, p, ee⟩, hzz⟩ : ∃ z, z = put6 l room (sqK l k 1 1) := ⟨_, rfl⟩
    rw [← hzz]
    have HZ := Lib.hid hzz
    have HN := Lib.hid hn
    rw [hle] at hlv
    have hl2 : ¬ (e : Int) + 2 < 2 := by omega
    clear hz hzz hn h2 hle
    go_enter Try.func69, Try.ntmps69
    go_wp2_with fail
    refine hlv.mono ?_
    generalize (w.alloc (.cells #[.pointer (some ⟨g, 0, none⟩)] 73)) = v0 at *
    rintro r w1 ⟨rfl, hb1⟩
    have HI := Lib.hid (HIX.out.below hb1)
    have HB := Lib.hid (HA.out.more hb1 hn0)
    have HM1 := Lib.hid (HM.out.below hb1)
    clear hlv hb1 m0 HIX HM HA
    have hC0 : BelK n0 b w1 w1.drew := .of (below_drew w1) HI.out.hB
    have hq : ∀ W, BelK n0 b w1 W → W.cell? ⟨w.heap.size, 0, none⟩ = some (.pointer (some ⟨g, 0, none⟩)) := fun W hW => (HM1.out.kp hW.kp).c
    go_wp2_with fail
    refine region_calm_to (fun W => BelK n0 b w1 W) (fun (a0 a9 : Act) (w9 : World) => a9 = (((((((((((a0.put (some 10) (.pointer (some ⟨w.heap.size, 0, none⟩))).put (some 11) (.pointer (some ⟨g, 0, none⟩))).put (some 12) (makerV g)).put (some 13) (.int .i64 (k : Int))).put (some 14) (.agg (row16 (v16 l k)))).put (some 15) (kidsV (sqK l k 1 1))).put (some 16) (.tuple #[.int .i64 p, .int .i64 ee])).put (some 17) (.int .i64 p)).put (some 18) (.int .i64 ee)).put (some 4) (.int .i64 p)).put (some 5) (.int .i64 ee)) ∧ Ix n0 w9 g b m room ∧ BelK n0 b w1 w9) (.calm 0 (.calm 1 (.calm 2 (.calm 3 (.only 4 (.only 5 (.only 6 (.calm 7 (.calm 8 (.calm 9 (.calm 10 .done))))))))))) (by kernel_rfl) (by kernel_rfl) (by kernel_rfl) (by rfl) hC0 ?_ ?_
    · skip
      refine ⟨_, _, (.pointer (some ⟨w.heap.size, 0, none⟩)), rfl, rfl, ⟨rfl, fun W hW => by first | exact ⟨rfl, rfl⟩ | (simp only [Act.eval, execOp]; go_simp; try exact ⟨rfl, rfl⟩)⟩, ?_⟩
      simp only [Act.put, List.setIfInBounds_toArray, List.set_cons_succ, List.set_cons_zero]
      refine ⟨_, _, (.pointer (some ⟨g, 0, none⟩)), rfl, rfl, ⟨rfl, fun W hW => by have q := hq W hW; simp only [execOp]; go_simp; done⟩, ?_⟩
      simp only [Act.put, List.setIfInBounds_toArray, List.set_cons_succ, List.set_cons_zero]
      refine ⟨_, _, (makerV g), rfl, rfl, ⟨rfl, fun W hW => by have q := hq W hW; simp only [execOp]; go_simp; done⟩, ?_⟩
      simp only [Act.put, List.setIfInBounds_toArray, List.set_cons_succ, List.set_cons_zero]
      refine ⟨_, _, (.int .i64 (k : Int)), rfl, rfl, ⟨rfl, fun W hW => by first | exact ⟨rfl, rfl⟩ | (simp only [Act.eval, execOp]; go_simp; try exact ⟨rfl, rfl⟩)⟩, ?_⟩
      simp only [Act.put, List.setIfInBounds_toArray, List.set_cons_succ, List.set_cons_zero]
      refine ⟨_, rfl, ?_⟩
      go_wp2_with fail
      refine (sixteen_any room n0 g b e l k _ (HI.out.below (below_drew w1)) HR.out HN.out).mono ?_
      rintro r w7 ⟨rfl, hb7⟩
      have hC := hC0.more hb7 HI.out.hB
      have hI7 := (HI.out.below (below_drew w1)).below hb7
      have hC7 := hC
      go_wp2_with fail
      refine ⟨rfl, hC, ?_⟩
      refine ⟨_, rfl, ?_⟩
      go_wp2_with fail
      refine (sqB_any (v16 l k) 1 1 (by decide) (by decide) w7).mono ?_
      rw [sqV_sqK l k 1 1 (by decide) (by decide)]
      rintro r w8 ⟨rfl, hb8⟩
      have hC := hC7.more hb8 HI.out.hB
      have hI8 := hI7.below hb8
      have hC8 := hC
      go_wp2_with fail
      refine ⟨rfl, hC, ?_⟩
      refine ⟨_, rfl, ?_⟩
      go_wp2_with fail
      have hin := intern_anyK n0 g b l room (sqK l k 1 1) w8 hI8 HR.out
      rw [← HZ.out] at hin
      refine hin.mono ?_
      rintro r w9 ⟨rfl, hi9, hb9⟩
      have hC := hC8.trans hb9
      have hC9 := hC
      go_wp2_with fail
      refine ⟨rfl, hC, ?_⟩
      refine ⟨_, _, (.int .i64 p), rfl, rfl, ⟨rfl, fun W hW => by first | exact ⟨rfl, rfl⟩ | (simp only [Act.eval, execOp]; go_simp; try exact ⟨rfl, rfl⟩)⟩, ?_⟩
      simp only [Act.put, List.setIfInBounds_toArray, List.set_cons_succ, List.set_cons_zero]
      refine ⟨_, _, (.int .i64 ee), rfl, rfl, ⟨rfl, fun W hW => by first | exact ⟨rfl, rfl⟩ | (simp only [Act.eval, execOp]; go_simp; try exact ⟨rfl, rfl⟩)⟩, ?_⟩
      simp only [Act.put, List.setIfInBounds_toArray, List.set_cons_succ, List.set_cons_zero]
      refine ⟨_, _, (.int .i64 p), rfl, rfl, ⟨rfl, fun W hW => by first | exact ⟨rfl, rfl⟩ | (simp only [Act.eval, execOp]; go_simp; try exact ⟨rfl, rfl⟩)⟩, ?_⟩
      simp only [Act.put, List.setIfInBounds_toArray, List.set_cons_succ, List.set_cons_zero]
      refine ⟨_, _, (.int .i64 ee), rfl, rfl, ⟨rfl, fun W hW => by first | exact ⟨rfl, rfl⟩ | (simp only [Act.eval, execOp]; go_simp; try exact ⟨rfl, rfl⟩)⟩, ?_⟩
      simp only [Act.put, List.setIfInBounds_toArray, List.set_cons_succ, List.set_cons_zero]
      refine ⟨?_, hi9, hC9⟩
      first | rfl | simp only [Act.put, List.setIfInBounds_toArray, List.set_cons_succ, List.set_cons_zero]
    rintro a9 w9 ⟨rfl, hi9, hb9⟩
    simp only [Act.put, List.setIfInBounds_toArray, List.set_cons_succ, List.set_cons_zero]
    have HI9 := Lib.hid hi9
    have HB9 := Lib.hid (HB.out.trans hb9)
    clear hi9 hb9 hq hC0
    go_wp2_with fail
    go_ret2
    exact ⟨rfl, HI9.out, HB9.out⟩
/-- what Maker.Step answers -/
def stepZ (room : Int) (l : List Nd) (n : Int) : List Nd × Int × Int := if levI l n = 2 then put6 l room (stepK l n.toNat) else (l, 0, 1)
theorem nb_about {l : List Nd} {n y x : Nat} (hy : y = 1 ∨ y = 2) (hx : x = 1 ∨ x = 2) : nbTo (v16 l n) y x 9 = ((aboutK l n y x : Nat) : Int) := by
  rcases hy with rfl | rfl <;> rcases hx with rfl | rfl
  all_goals
    simp only [nbTo, v16, aboutK, Nat.reduceSub, Nat.reduceAdd, Nat.reduceMul, Nat.reduceDiv, Nat.reduceMod]
    omega
theorem next_nx {l : List Nd} {n y x : Nat} (hy : y = 1 ∨ y = 2) (hx : x = 1 ∨ x = 2) : (if Cel.livesB (decide (v16 l n (y * 4 + x) = 1)) (nbTo (v16 l n) y x 9) = true then (1 : Int) else 0) = ((nxK l n y x : Nat) : Int) := by
  rw [nb_about hy hx]
  have e : decide (v16 l n (y * 4 + x) = 1) = decide (sx l n y x = 1) := by
    unfold v16
    rw [show (y * 4 + x) / 4 = y by omega, show (y * 4 + x) % 4 = x by omega]
    exact decide_eq_decide.2 (by omega)
  rw [e]
  unfold nxK
  split <;> rfl
theorem v16_bd {l : List Nd} {room : Int} {n : Nat} (hr : Right6 l room) (hn : Is l 2 n) : ∀ p, p < 16 → 0 ≤ v16 l n p ∧ v16 l n p ≤ 1 := fun p hp => by
  have := sx_two hr hn (y := p / 4) (x := p % 4) (by omega) (by omega)
  unfold v16
  omega
set_option maxHeartbeats 16000000 in
theorem makerStep_any (room : Int) (n0 g b : Nat) (l : List Nd) (n : Int) (w : World) (hix : Ix n0 w g b l room) (hr : Right6 l room) :
    Calls Try.prog 82 #[makerV g, .int .i64 n] w (IxK (stepZ room l n) n0 g b room w) := by
  have hn0 := hix.hB
  have hal := (Below.refl w.heap.size w).alloc (Nat.le_refl _) (.cells #[.pointer (some ⟨g, 0, none⟩)] 73)
  have hM : MB (w.alloc (.cells #[.pointer (some ⟨g, 0, none⟩)] 73)) w.heap.size g := heap_alloc_new w _
  have hlv := level_any room n0 g b l n _ (hix.below hal) hr
  have m0 := hM.c
  have HIX := Lib.hid (hix.below hal)
  have HM := Lib.hid hM
  have HA := Lib.hid (BelK.of (b := b) hal hn0)
  have HR := Lib.hid hr
  clear hix hr hal hM
  by_cases h2 : levI l n = 2
  · obtain ⟨e, k, rfl, hn, he, hle⟩ := lev_is HR.out (n := n) (by omega)
    obtain rfl : e = 0 := by omega
    have hz : stepZ room l (k : Int) = put6 l room (stepK l k) := by
      unfold stepZ
      rw [if_pos h2, Int.toNat_natCast]
    rw [hz]
    obtain ⟨⟨m, p, ee⟩, hzz⟩ : ∃ z, z = put6 l room (stepK l k) := ⟨_, rfl⟩
    rw [← hzz]
    have HZ := Lib.hid hzz
    have HN := Lib.hid hn
    have HV := Lib.hid (v16_bd HR.out hn)
    rw [h2] at hlv
    have hnx : ∀ (y x : Nat), (y = 1 ∨ y = 2) → (x = 1 ∨ x = 2) → ∀ W, Calls Try.prog 98 #[.agg (row16 (v16 l k)), .int .i64 (y : Int), .int .i64 (x : Int)] W fun r w' => r = .returned (.int .i64 ((nxK l k y x : Nat) : Int)) ∧ Below W.heap.size W w' := fun y x hy hx W => by
      have := next_any (v16 l k) HV.out y x (by omega) (by omega) W
      rw [next_nx hy hx] at this
      exact this
    have hnz : ∃ v : Nat → Int, v = v16 l k := ⟨_, rfl⟩
    obtain ⟨v, hv⟩ := hnz
    rw [← hv] at hnx
    have hsx := fun W hW => sixteen_any room n0 g b 0 l k W hW HR.out HN.out
    rw [← hv] at hsx
    obtain ⟨a1, ha1⟩ : ∃ a, a = ((nxK l k 1 1 : Nat) : Int) := ⟨_, rfl⟩
    obtain ⟨a2, ha2⟩ : ∃ a, a = ((nxK l k 1 2 : Nat) : Int) := ⟨_, rfl⟩
    obtain ⟨a3, ha3⟩ : ∃ a, a = ((nxK l k 2 1 : Nat) : Int) := ⟨_, rfl⟩
    obtain ⟨a4, ha4⟩ : ∃ a, a = ((nxK l k 2 2 : Nat) : Int) := ⟨_, rfl⟩
    have HN1 := Lib.hid (fun W => hnx 1 1 (by decide) (by decide) W)
    have HN2 := Lib.hid (fun W => hnx 1 2 (by decide) (by decide) W)
    have HN3 := Lib.hid (fun W => hnx 2 1 (by decide) (by decide) W)
    have HN4 := Lib.hid (fun W => hnx 2 2 (by decide) (by decide) W)
    rw [← ha1] at HN1
    rw [← ha2] at HN2
    rw [← ha3] at HN3
    rw [← ha4] at HN4
    have hin := fun W hW => intern_anyK n0 g b l room (stepK l k) W hW HR.out
    rw [← HZ.out] at hin
    unfold kidsV stepK at hin
    rw [← ha1, ← ha2, ← ha3, ← ha4] at hin
    have HIN := Lib.hid hin
    clear hz hzz hn h2 hle hnx hv ha1 ha2 ha3 ha4 hin HZ HV
    go_enter Try.func82, Try.ntmps82
    go_wp2_with fail
    refine hlv.mono ?_
    generalize (w.alloc (.cells #[.pointer (some ⟨g, 0, none⟩)] 73)) = v0 at *
    rintro r w1 ⟨rfl, hb1⟩
    have HI := Lib.hid (HIX.out.below hb1)
    have HB := Lib.hid (HA.out.more hb1 hn0)
    have HM1 := Lib.hid (HM.out.below hb1)
    have m1 := HM1.out.c
    have hsx := hsx w1 HI.out
    clear hlv hb1 m0 HIX HM HA
    go_wp2_with fail
    refine hsx.mono ?_
    rintro r w2 ⟨rfl, hb2⟩
    have hal := (Below.refl w2.heap.size w2).alloc (Nat.le_refl _) (.cells (row16 v) 119)
    have hb' := Qt.more (B := w1.heap.size) hb2 hb2.size hal
    have HI2 := Lib.hid (HI.out.below hb')
    have HB2 := Lib.hid (HB.out.more hb' hn0)
    have HM2 := Lib.hid (HM1.out.below hb')
    have HS2 := Lib.hid (show S16 (w2.alloc (.cells (row16 v) 119)) w2.heap.size v from heap_new rfl)
    clear hsx hb2 hb' hal HI HB HM1 m1
    go_wp2_with fail
    generalize (w2.alloc (.cells (row16 v) 119)) = v2 at *
    generalize w2.heap.size = pb at *
    have hC0 : BelK n0 b v2 v2.drew := .of (below_drew v2) HI2.out.hB
    have hq : ∀ W, BelK n0 b v2 W → W.cell? ⟨w.heap.size, 0, none⟩ = some (.pointer (some ⟨g, 0, none⟩)) := fun W hW => (HM2.out.kp hW.kp).c
    refine region_calm_to (fun W => BelK n0 b v2 W) (fun (a0 a9 : Act) (w9 : World) => a9 = ((((((((((((((((a0.put (some 14) (.pointer (some ⟨w.heap.size, 0, none⟩))).put (some 15) (.pointer (some ⟨g, 0, none⟩))).put (some 16) (.agg (row16 v))).put (some 18) (.agg (row16 v))).put (some 20) (.agg (row16 v))).put (some 22) (.agg (row16 v))).put (some 17) (.int .i64 a1)).put (some 19) (.int .i64 a2)).put (some 21) (.int .i64 a3)).put (some 23) (.int .i64 a4)).put (some 24) (.agg #[.int .i64 a1, .int .i64 a2, .int .i64 a3, .int .i64 a4])).put (some 25) (.tuple #[.int .i64 p, .int .i64 ee])).put (some 26) (.int .i64 p)).put (some 27) (.int .i64 ee)).put (some 4) (.int .i64 p)).put (some 5) (.int .i64 ee)) ∧ Ix n0 w9 g b m room ∧ BelK n0 b v2 w9) (.calm 0 (.calm 1 (.calm 2 (.calm 4 (.calm 6 (.calm 8 (.only 3 (.only 5 (.only 7 (.only 9 (.calm 10 (.only 11 (.calm 12 (.calm 13 (.calm 14 (.calm 15 .done)))))))))))))))) (by kernel_rfl) (by kernel_rfl) (by kernel_rfl) (by rfl) hC0 ?_ ?_
    · skip
      refine ⟨_, _, (.pointer (some ⟨w.heap.size, 0, none⟩)), rfl, rfl, ⟨rfl, fun W hW => by first | exact ⟨rfl, rfl⟩ | (simp only [Act.eval, execOp]; go_simp; try exact ⟨rfl, rfl⟩)⟩, ?_⟩
      simp only [Act.put, List.setIfInBounds_toArray, List.set_cons_succ, List.set_cons_zero]
      refine ⟨_, _, (.pointer (some ⟨g, 0, none⟩)), rfl, rfl, ⟨rfl, fun W hW => by have q := hq W hW; simp only [execOp]; go_simp; done⟩, ?_⟩
      simp only [Act.put, List.setIfInBounds_toArray, List.set_cons_succ, List.set_cons_zero]
      refine ⟨_, _, (.agg (row16 v)), rfl, rfl, ⟨rfl, fun W hW => by exact load16_quiet W pb v (HS2.out.kp hW.kp) _ _ _ rfl rfl⟩, ?_⟩
      simp only [Act.put, List.setIfInBounds_toArray, List.set_cons_succ, List.set_cons_zero]
      refine ⟨_, _, (.agg (row16 v)), rfl, rfl, ⟨rfl, fun W hW => by exact load16_quiet W pb v (HS2.out.kp hW.kp) _ _ _ rfl rfl⟩, ?_⟩
      simp only [Act.put, List.setIfInBounds_toArray, List.set_cons_succ, List.set_cons_zero]
      refine ⟨_, _, (.agg (row16 v)), rfl, rfl, ⟨rfl, fun W hW => by exact load16_quiet W pb v (HS2.out.kp hW.kp) _ _ _ rfl rfl⟩, ?_⟩
      simp only [Act.put, List.setIfInBounds_toArray, List.set_cons_succ, List.set_cons_zero]
      refine ⟨_, _, (.agg (row16 v)), rfl, rfl, ⟨rfl, fun W hW => by exact load16_quiet W pb v (HS2.out.kp hW.kp) _ _ _ rfl rfl⟩, ?_⟩
      simp only [Act.put, List.setIfInBounds_toArray, List.set_cons_succ, List.set_cons_zero]
      refine ⟨_, rfl, ?_⟩
      go_wp2_with fail
      refine (HN1.out v2.drew).mono ?_
      rintro r u1 ⟨rfl, hbu1⟩
      have hC := hC0.more hbu1 HI2.out.hB
      have hIu1 := (HI2.out.below (below_drew v2)).below hbu1
      have hCu1 := hC
      go_wp2_with fail
      refine ⟨rfl, hC, ?_⟩
      refine ⟨_, rfl, ?_⟩
      go_wp2_with fail
      refine (HN2.out u1).mono ?_
      rintro r u2 ⟨rfl, hbu2⟩
      have hC := hCu1.more hbu2 HI2.out.hB
      have hIu2 := (hIu1).below hbu2
      have hCu2 := hC
      go_wp2_with fail
      refine ⟨rfl, hC, ?_⟩
      refine ⟨_, rfl, ?_⟩
      go_wp2_with fail
      refine (HN3.out u2).mono ?_
      rintro r u3 ⟨rfl, hbu3⟩
      have hC := hCu2.more hbu3 HI2.out.hB
      have hIu3 := (hIu2).below hbu3
      have hCu3 := hC
      go_wp2_with fail
      refine ⟨rfl, hC, ?_⟩
      refine ⟨_, rfl, ?_⟩
      go_wp2_with fail
      refine (HN4.out u3).mono ?_
      rintro r u4 ⟨rfl, hbu4⟩
      have hC := hCu3.more hbu4 HI2.out.hB
      have hIu4 := (hIu3).below hbu4
      have hCu4 := hC
      go_wp2_with fail
      refine ⟨rfl, hC, ?_⟩
      refine ⟨_, _, (.agg #[.int .i64 a1, .int .i64 a2, .int .i64 a3, .int .i64 a4]), rfl, rfl, ⟨rfl, fun W hW => by first | exact ⟨rfl, rfl⟩ | (simp only [Act.eval, execOp]; go_simp; try exact ⟨rfl, rfl⟩)⟩, ?_⟩
      simp only [Act.put, List.setIfInBounds_toArray, List.set_cons_succ, List.set_cons_zero]
      refine ⟨_, rfl, ?_⟩
      go_wp2_with fail
      refine (HIN.out u4 hIu4).mono ?_
      rintro r w9 ⟨rfl, hi9, hb9⟩
      have hC := hCu4.trans hb9
      have hC9 := hC
      go_wp2_with fail
      refine ⟨rfl, hC, ?_⟩
      refine ⟨_, _, (.int .i64 p), rfl, rfl, ⟨rfl, fun W hW => by first | exact ⟨rfl, rfl⟩ | (simp only [Act.eval, execOp]; go_simp; try exact ⟨rfl, rfl⟩)⟩, ?_⟩
      simp only [Act.put, List.setIfInBounds_toArray, List.set_cons_succ, List.set_cons_zero]
      refine ⟨_, _, (.int .i64 ee), rfl, rfl, ⟨rfl, fun W hW => by first | exact ⟨rfl, rfl⟩ | (simp only [Act.eval, execOp]; go_simp; try exact ⟨rfl, rfl⟩)⟩, ?_⟩
      simp only [Act.put, List.setIfInBounds_toArray, List.set_cons_succ, List.set_cons_zero]
      refine ⟨_, _, (.int .i64 p), rfl, rfl, ⟨rfl, fun W hW => by first | exact ⟨rfl, rfl⟩ | (simp only [Act.eval, execOp]; go_simp; try exact ⟨rfl, rfl⟩)⟩, ?_⟩
      simp only [Act.put, List.setIfInBounds_toArray, List.set_cons_succ, List.set_cons_zero]
      refine ⟨_, _, (.int .i64 ee), rfl, rfl, ⟨rfl, fun W hW => by first | exact ⟨rfl, rfl⟩ | (simp only [Act.eval, execOp]; go_simp; try exact ⟨rfl, rfl⟩)⟩, ?_⟩
      simp only [Act.put, List.setIfInBounds_toArray, List.set_cons_succ, List.set_cons_zero]
      refine ⟨?_, hi9, hC9⟩
      first | rfl | simp only [Act.put, List.setIfInBounds_toArray, List.set_cons_succ, List.set_cons_zero]
    rintro a9 w9 ⟨rfl, hi9, hb9⟩
    simp only [Act.put, List.setIfInBounds_toArray, List.set_cons_succ, List.set_cons_zero]
    have HI9 := Lib.hid hi9
    have HB9 := Lib.hid (HB2.out.trans hb9)
    clear hi9 hb9 hq hC0
    go_wp2_with fail
    go_ret2
    exact ⟨rfl, HI9.out, HB9.out⟩
  · have hz : stepZ room l n = (l, 0, 1) := if_neg h2
    rw [hz]
    generalize levI l n = lv at *
    clear hz
    have hl2 : (lv == 2) = false := beq_eq_false_iff_ne.2 h2
    go_enter Try.func82, Try.ntmps82
    go_wp2_with fail
    refine hlv.mono ?_
    rintro r w1 ⟨rfl, hb1⟩
    have HI := Lib.hid (HIX.out.below hb1)
    have HB := Lib.hid (HA.out.more hb1 hn0)
    clear hlv hb1 m0
    go_wp2_with fail
    go_ret2
    exact ⟨rfl, HI.out, HB.out⟩
end Go.Proofs.Ytklccoodfhejbaa
