/-
  Texts that the claims of this seat share, part 14.
-/
import Derived.Test.YtklccoodfhejbaaB12
import Derived.Test.YtklccoodfhejbaaB11
import Derived.Test.YtklccoodfhejbaaB13
set_option linter.unusedVariables false
set_option linter.unusedSimpArgs false
namespace Go.Proofs.Ytklccoodfhejbaa
set_option maxRecDepth 100000
set_option linter.unusedVariables false
set_option linter.unusedSimpArgs false
open Go.RowKit Go.Sort

/-- the kids of a square, out of sixteen numbers -/
abbrev sqV (v : Nat → Int) (y x : Nat) : Value := .agg #[.int .i64 (v (y * 4 + x)), .int .i64 (v (y * 4 + (x + 1))), .int .i64 (v ((y + 1) * 4 + x)), .int .i64 (v ((y + 1) * 4 + (x + 1)))]
set_option maxHeartbeats 8000000 in
theorem sqB_any (v : Nat → Int) (y x : Nat) (hy : y < 3) (hx : x < 3) (w : World) : Calls Try.prog 92 #[.agg (row16 v), .int .i64 (y : Int), .int .i64 (x : Int)] w fun r w' => r = .returned (sqV v y x) ∧ Below w.heap.size w w' := by
  have hal1 := (Below.refl w.heap.size w).alloc (Nat.le_refl _) (.cells (row16 v) 119)
  have hal2 := hal1.alloc hal1.size (.cells #[.int .i64 0, .int .i64 0, .int .i64 0, .int .i64 0] 33)
  have hS : S16 ((w.alloc (.cells (row16 v) 119)).alloc (.cells #[.int .i64 0, .int .i64 0, .int .i64 0, .int .i64 0] 33)) w.heap.size v := heap_old (heap_new rfl)
  have hK : KR ((w.alloc (.cells (row16 v) 119)).alloc (.cells #[.int .i64 0, .int .i64 0, .int .i64 0, .int .i64 0] 33)) (w.heap.size + 1) (0, 0, 0, 0) := heap_new (by simp)
  have HA := Lib.hid hal2
  have HS := Lib.hid hS
  have HK := Lib.hid hK
  clear hal1 hal2 hS hK
  go_enter Try.func92, Try.ntmps92
  go_wp2_with fail
  generalize ((w.alloc (.cells (row16 v) 119)).alloc (.cells #[.int .i64 0, .int .i64 0, .int .i64 0, .int .i64 0] 33)) = v2 at *
  have HT := Lib.hid (show ∀ a b c d : Int, ((((v2.setCell ⟨w.heap.size + 1, 0, none⟩ (.int .i64 a)).setCell ⟨w.heap.size + 1, 1, none⟩ (.int .i64 b)).setCell ⟨w.heap.size + 1, 2, none⟩ (.int .i64 c)).setCell ⟨w.heap.size + 1, 3, none⟩ (.int .i64 d)).drew.heap[w.heap.size + 1]? = some (.cells #[.int .i64 a, .int .i64 b, .int .i64 c, .int .i64 d] 33 (0, 0)) ∧ Below w.heap.size w ((((v2.setCell ⟨w.heap.size + 1, 0, none⟩ (.int .i64 a)).setCell ⟨w.heap.size + 1, 1, none⟩ (.int .i64 b)).setCell ⟨w.heap.size + 1, 2, none⟩ (.int .i64 c)).setCell ⟨w.heap.size + 1, 3, none⟩ (.int .i64 d)).drew from fun a b c d => by
    have h := HK.out
    unfold KR at h
    have hb := (((HA.out.setCell (p := ⟨w.heap.size + 1, 0, none⟩) (by show w.heap.size ≤ _ + 1; omega) (.int .i64 a)).setCell (p := ⟨w.heap.size + 1, 1, none⟩) (by show w.heap.size ≤ _ + 1; omega) (.int .i64 b)).setCell (p := ⟨w.heap.size + 1, 2, none⟩) (by show w.heap.size ≤ _ + 1; omega) (.int .i64 c)).setCell (p := ⟨w.heap.size + 1, 3, none⟩) (by show w.heap.size ≤ _ + 1; omega) (.int .i64 d)
    refine ⟨?_, Qt.more hb hb.size (below_drew _)⟩
    show ((((v2.setCell ⟨w.heap.size + 1, 0, none⟩ (.int .i64 a)).setCell ⟨w.heap.size + 1, 1, none⟩ (.int .i64 b)).setCell ⟨w.heap.size + 1, 2, none⟩ (.int .i64 c)).setCell ⟨w.heap.size + 1, 3, none⟩ (.int .i64 d)).heap[w.heap.size + 1]? = _
    simp [World.setCell, Array.getElem?_modify, h])
  rcases (by omega : y = 0 ∨ y = 1 ∨ y = 2) with rfl | rfl | rfl <;> rcases (by omega : x = 0 ∨ x = 1 ∨ x = 2) with rfl | rfl | rfl
  all_goals
    have c0 := HS.out.c (p := 0) (by decide)
    have c1 := HS.out.c (p := 1) (by decide)
    have c2 := HS.out.c (p := 2) (by decide)
    have c3 := HS.out.c (p := 3) (by decide)
    have c4 := HS.out.c (p := 4) (by decide)
    have c5 := HS.out.c (p := 5) (by decide)
    have c6 := HS.out.c (p := 6) (by decide)
    have c7 := HS.out.c (p := 7) (by decide)
    have c8 := HS.out.c (p := 8) (by decide)
    have c9 := HS.out.c (p := 9) (by decide)
    have c10 := HS.out.c (p := 10) (by decide)
    have c11 := HS.out.c (p := 11) (by decide)
    have c12 := HS.out.c (p := 12) (by decide)
    have c13 := HS.out.c (p := 13) (by decide)
    have c14 := HS.out.c (p := 14) (by decide)
    have c15 := HS.out.c (p := 15) (by decide)
    have hf := fun j => Lib.frozen_of_heap HK.out j
    have f0 := hf 0
    have f1 := hf 1
    have f2 := hf 2
    have f3 := hf 3
    have k0 := HK.out.c (j := 0) (by decide)
    have k1 := HK.out.c (j := 1) (by decide)
    have k2 := HK.out.c (j := 2) (by decide)
    have k3 := HK.out.c (j := 3) (by decide)
    simp only [kd] at k0 k1 k2 k3
    clear hf
    go_region
    clear c0 c1 c2 c3 c4 c5 c6 c7 c8 c9 c10 c11 c12 c13 c14 c15 k0 k1 k2 k3 f0 f1 f2 f3
    go_wp2_with fail
    refine bodyPost_ret (results_cell1 rfl _ _ _ _ _ _ _ rfl (HT.out _ _ _ _).1 Try.underlying33 rfl (by kernel_rfl)) rfl ?_
    exact ⟨rfl, (HT.out _ _ _ _).2⟩
/-- how many are alive about a place, summed up row by row, from less the place's own on -/
def nbTo (v : Nat → Int) (y x : Nat) : Nat → Int
  | 0 => -v (y * 4 + x)
  | t + 1 => nbTo v y x t + v ((y - 1 + t / 3) * 4 + (x - 1 + t % 3))
theorem nbTo_bd {v : Nat → Int} (hv : ∀ p, p < 16 → 0 ≤ v p ∧ v p ≤ 1) {y x : Nat} (hy : 1 ≤ y ∧ y < 3) (hx : 1 ≤ x ∧ x < 3) : ∀ t, t ≤ 9 → -1 ≤ nbTo v y x t ∧ nbTo v y x t ≤ t
  | 0, _ => by
    have := hv (y * 4 + x) (by omega)
    unfold nbTo
    omega
  | t + 1, ht => by
    have ih := nbTo_bd hv hy hx t (by omega)
    have := hv ((y - 1 + t / 3) * 4 + (x - 1 + t % 3)) (by omega)
    unfold nbTo
    omega
set_option maxHeartbeats 16000000 in
theorem next_any (v : Nat → Int) (hv : ∀ p, p < 16 → 0 ≤ v p ∧ v p ≤ 1) (y x : Nat) (hy : 1 ≤ y ∧ y < 3) (hx : 1 ≤ x ∧ x < 3) (w : World) : Calls Try.prog 98 #[.agg (row16 v), .int .i64 (y : Int), .int .i64 (x : Int)] w fun r w' => r = .returned (.int .i64 (if Cel.livesB (decide (v (y * 4 + x) = 1)) (nbTo v y x 9) = true then 1 else 0)) ∧ Below w.heap.size w w' := by
  have hal1 := (Below.refl w.heap.size w).alloc (Nat.le_refl _) (.cells (row16 v) 119)
  have hS : S16 (w.alloc (.cells (row16 v) 119)) w.heap.size v := heap_new rfl
  have HA := Lib.hid hal1
  have HS := Lib.hid hS
  have HV := Lib.hid hv
  clear hal1 hS hv
  rcases (by omega : y = 1 ∨ y = 2) with rfl | rfl <;> rcases (by omega : x = 1 ∨ x = 2) with rfl | rfl
  · obtain ⟨lv, hl⟩ : ∃ lv, lv = Cel.livesB (decide (v (1 * 4 + 1) = 1)) (nbTo v 1 1 9) := ⟨_, rfl⟩
    rw [← hl]
    have HL := Lib.hid hl
    clear hl
    go_enter Try.func98, Try.ntmps98
    have c0 := HS.out.c (p := 5) (by decide)
    have b0 := HV.out 5 (by decide)
    go_wp2_with fail
    clear c0 b0
    generalize (w.alloc (.cells (row16 v) 119)) = v0 at *
    go_loopw [7, 24] (fun s u wr => ∃ i : Nat, i ≤ 3 ∧ u = .int .i64 i ∧ s = .int .i64 (nbTo v 1 1 (i * 3)) ∧ Hid (S16 wr w.heap.size v ∧ Below w.heap.size w wr)) (fun _ u _ => 3 - (intOf u).toNat)
    case atStart => exact ⟨0, by decide, rfl, rfl, HS.out, HA.out⟩
    case round =>
      obtain ⟨i, hi, rfl, rfl, HH⟩ := hrel
      by_cases hlt : i < 3
      · rcases (by omega : i = 0 ∨ i = 1 ∨ i = 2) with rfl | rfl | rfl
        · have e0 := HH.out.1.c (p := 0) (by decide)
          have e1 := HH.out.1.c (p := 1) (by decide)
          have e2 := HH.out.1.c (p := 2) (by decide)
          have e3 := HH.out.1.c (p := 3) (by decide)
          have hal := (Below.refl wr.heap.size wr).alloc (Nat.le_refl _) (.cells #[.int .i64 (v 0), .int .i64 (v 1), .int .i64 (v 2), .int .i64 (v 3)] 33)
          have HK := Lib.hid (show KR (wr.alloc (.cells #[.int .i64 (v 0), .int .i64 (v 1), .int .i64 (v 2), .int .i64 (v 3)] 33)) wr.heap.size (v 0, v 1, v 2, v 3) from heap_new rfl)
          have HI := Lib.hid (And.intro (HH.out.1.below hal) (Qt.more HH.out.2 HH.out.2.size hal))
          clear hal HH
          go_wp2_with fail
          clear e0 e1 e2 e3
          generalize (wr.alloc (.cells #[.int .i64 (v 0), .int .i64 (v 1), .int .i64 (v 2), .int .i64 (v 3)] 33)) = w1 at *
          generalize wr.heap.size = lb at *
          go_loopw [7, 34] (fun s u wr => ∃ j : Nat, j ≤ 3 ∧ u = .int .i64 j ∧ s = .int .i64 (nbTo v 1 1 (0 + j)) ∧ wr = w1) (fun _ u _ => 3 - (intOf u).toNat)
          case atStart => exact ⟨0, by decide, rfl, rfl, rfl⟩
          case round =>
            obtain ⟨j, hj, rfl, rfl, rfl⟩ := hrel
            by_cases hjl : j < 3
            · rcases (by omega : j = 0 ∨ j = 1 ∨ j = 2) with rfl | rfl | rfl
              · have k0 := HK.out.c (j := 0) (by decide)
                have b0 := HV.out 0 (by decide)
                have b1 := nbTo_bd HV.out (y := 1) (x := 1) (by decide) (by decide) 0 (by decide)
                have hn : nbTo v 1 1 (0 + 1) = nbTo v 1 1 (0 + 0) + v 0 := rfl
                simp only [kd] at k0
                generalize nbTo v 1 1 (0 + 0) = nn at *
                have hw : IntKind.i64.wrap (nn + v 0) = nn + v 0 := by rw [IntKind.wrap_i64]; omega
                have HN := Lib.hid hn
                clear hn b0 b1
                go_wp2_with fail
                go_roundw
                case measure => decide
                case rel => exact ⟨1, by decide, by go_num, by rw [HN.out], by first | rfl | trivial⟩
              · have k0 := HK.out.c (j := 1) (by decide)
                have b0 := HV.out 1 (by decide)
                have b1 := nbTo_bd HV.out (y := 1) (x := 1) (by decide) (by decide) 1 (by decide)
                have hn : nbTo v 1 1 (0 + 2) = nbTo v 1 1 (0 + 1) + v 1 := rfl
                simp only [kd] at k0
                generalize nbTo v 1 1 (0 + 1) = nn at *
                have hw : IntKind.i64.wrap (nn + v 1) = nn + v 1 := by rw [IntKind.wrap_i64]; omega
                have HN := Lib.hid hn
                clear hn b0 b1
                go_wp2_with fail
                go_roundw
                case measure => decide
                case rel => exact ⟨2, by decide, by go_num, by rw [HN.out], by first | rfl | trivial⟩
              · have k0 := HK.out.c (j := 2) (by decide)
                have b0 := HV.out 2 (by decide)
                have b1 := nbTo_bd HV.out (y := 1) (x := 1) (by decide) (by decide) 2 (by decide)
                have hn : nbTo v 1 1 (0 + 3) = nbTo v 1 1 (0 + 2) + v 2 := rfl
                simp only [kd] at k0
                generalize nbTo v 1 1 (0 + 2) = nn at *
                have hw : IntKind.i64.wrap (nn + v 2) = nn + v 2 := by rw [IntKind.wrap_i64]; omega
                have HN := Lib.hid hn
                clear hn b0 b1
                go_wp2_with fail
                go_roundw
                case measure => decide
                case rel => exact ⟨3, by decide, by go_num, by rw [HN.out], by first | rfl | trivial⟩
            · obtain rfl : j = 3 := by omega
              go_wp2_with fail
              go_roundw
              case measure => decide
              case rel => exact ⟨1, by decide, by go_num, rfl, HI.out⟩
        · have e0 := HH.out.1.c (p := 4) (by decide)
          have e1 := HH.out.1.c (p := 5) (by decide)
          have e2 := HH.out.1.c (p := 6) (by decide)
          have e3 := HH.out.1.c (p := 7) (by decide)
          have hal := (Below.refl wr.heap.size wr).alloc (Nat.le_refl _) (.cells #[.int .i64 (v 4), .int .i64 (v 5), .int .i64 (v 6), .int .i64 (v 7)] 33)
          have HK := Lib.hid (show KR (wr.alloc (.cells #[.int .i64 (v 4), .int .i64 (v 5), .int .i64 (v 6), .int .i64 (v 7)] 33)) wr.heap.size (v 4, v 5, v 6, v 7) from heap_new rfl)
          have HI := Lib.hid (And.intro (HH.out.1.below hal) (Qt.more HH.out.2 HH.out.2.size hal))
          clear hal HH
          go_wp2_with fail
          clear e0 e1 e2 e3
          generalize (wr.alloc (.cells #[.int .i64 (v 4), .int .i64 (v 5), .int .i64 (v 6), .int .i64 (v 7)] 33)) = w1 at *
          generalize wr.heap.size = lb at *
          go_loopw [7, 34] (fun s u wr => ∃ j : Nat, j ≤ 3 ∧ u = .int .i64 j ∧ s = .int .i64 (nbTo v 1 1 (3 + j)) ∧ wr = w1) (fun _ u _ => 3 - (intOf u).toNat)
          case atStart => exact ⟨0, by decide, rfl, rfl, rfl⟩
          case round =>
            obtain ⟨j, hj, rfl, rfl, rfl⟩ := hrel
            by_cases hjl : j < 3
            · rcases (by omega : j = 0 ∨ j = 1 ∨ j = 2) with rfl | rfl | rfl
              · have k0 := HK.out.c (j := 0) (by decide)
                have b0 := HV.out 4 (by decide)
                have b1 := nbTo_bd HV.out (y := 1) (x := 1) (by decide) (by decide) 3 (by decide)
                have hn : nbTo v 1 1 (3 + 1) = nbTo v 1 1 (3 + 0) + v 4 := rfl
                simp only [kd] at k0
                generalize nbTo v 1 1 (3 + 0) = nn at *
                have hw : IntKind.i64.wrap (nn + v 4) = nn + v 4 := by rw [IntKind.wrap_i64]; omega
                have HN := Lib.hid hn
                clear hn b0 b1
                go_wp2_with fail
                go_roundw
                case measure => decide
                case rel => exact ⟨1, by decide, by go_num, by rw [HN.out], by first | rfl | trivial⟩
              · have k0 := HK.out.c (j := 1) (by decide)
                have b0 := HV.out 5 (by decide)
                have b1 := nbTo_bd HV.out (y := 1) (x := 1) (by decide) (by decide) 4 (by decide)
                have hn : nbTo v 1 1 (3 + 2) = nbTo v 1 1 (3 + 1) + v 5 := rfl
                simp only [kd] at k0
                generalize nbTo v 1 1 (3 + 1) = nn at *
                have hw : IntKind.i64.wrap (nn + v 5) = nn + v 5 := by rw [IntKind.wrap_i64]; omega
                have HN := Lib.hid hn
                clear hn b0 b1
                go_wp2_with fail
                go_roundw
                case measure => decide
                case rel => exact ⟨2, by decide, by go_num, by rw [HN.out], by first | rfl | trivial⟩
              · have k0 := HK.out.c (j := 2) (by decide)
                have b0 := HV.out 6 (by decide)
                have b1 := nbTo_bd HV.out (y := 1) (x := 1) (by decide) (by decide) 5 (by decide)
                have hn : nbTo v 1 1 (3 + 3) = nbTo v 1 1 (3 + 2) + v 6 := rfl
                simp only [kd] at k0
                generalize nbTo v 1 1 (3 + 2) = nn at *
                have hw : IntKind.i64.wrap (nn + v 6) = nn + v 6 := by rw [IntKind.wrap_i64]; omega
                have HN := Lib.hid hn
                clear hn b0 b1
                go_wp2_with fail
                go_roundw
                case measure => decide
                case rel => exact ⟨3, by decide, by go_num, by rw [HN.out], by first | rfl | trivial⟩
            · obtain rfl : j = 3 := by omega
              go_wp2_with fail
              go_roundw
              case measure => decide
              case rel => exact ⟨2, by decide, by go_num, rfl, HI.out⟩
        · have e0 := HH.out.1.c (p := 8) (by decide)
          have e1 := HH.out.1.c (p := 9) (by decide)
          have e2 := HH.out.1.c (p := 10) (by decide)
          have e3 := HH.out.1.c (p := 11) (by decide)
          have hal := (Below.refl wr.heap.size wr).alloc (Nat.le_refl _) (.cells #[.int .i64 (v 8), .int .i64 (v 9), .int .i64 (v 10), .int .i64 (v 11)] 33)
          have HK := Lib.hid (show KR (wr.alloc (.cells #[.int .i64 (v 8), .int .i64 (v 9), .int .i64 (v 10), .int .i64 (v 11)] 33)) wr.heap.size (v 8, v 9, v 10, v 11) from heap_new rfl)
          have HI := Lib.hid (And.intro (HH.out.1.below hal) (Qt.more HH.out.2 HH.out.2.size hal))
          clear hal HH
          go_wp2_with fail
          clear e0 e1 e2 e3
          generalize (wr.alloc (.cells #[.int .i64 (v 8), .int .i64 (v 9), .int .i64 (v 10), .int .i64 (v 11)] 33)) = w1 at *
          generalize wr.heap.size = lb at *
          go_loopw [7, 34] (fun s u wr => ∃ j : Nat, j ≤ 3 ∧ u = .int .i64 j ∧ s = .int .i64 (nbTo v 1 1 (6 + j)) ∧ wr = w1) (fun _ u _ => 3 - (intOf u).toNat)
          case atStart => exact ⟨0, by decide, rfl, rfl, rfl⟩
          case round =>
            obtain ⟨j, hj, rfl, rfl, rfl⟩ := hrel
            by_cases hjl : j < 3
            · rcases (by omega : j = 0 ∨ j = 1 ∨ j = 2) with rfl | rfl | rfl
              · have k0 := HK.out.c (j := 0) (by decide)
                have b0 := HV.out 8 (by decide)
                have b1 := nbTo_bd HV.out (y := 1) (x := 1) (by decide) (by decide) 6 (by decide)
                have hn : nbTo v 1 1 (6 + 1) = nbTo v 1 1 (6 + 0) + v 8 := rfl
                simp only [kd] at k0
                generalize nbTo v 1 1 (6 + 0) = nn at *
                have hw : IntKind.i64.wrap (nn + v 8) = nn + v 8 := by rw [IntKind.wrap_i64]; omega
                have HN := Lib.hid hn
                clear hn b0 b1
                go_wp2_with fail
                go_roundw
                case measure => decide
                case rel => exact ⟨1, by decide, by go_num, by rw [HN.out], by first | rfl | trivial⟩
              · have k0 := HK.out.c (j := 1) (by decide)
                have b0 := HV.out 9 (by decide)
                have b1 := nbTo_bd HV.out (y := 1) (x := 1) (by decide) (by decide) 7 (by decide)
                have hn : nbTo v 1 1 (6 + 2) = nbTo v 1 1 (6 + 1) + v 9 := rfl
                simp only [kd] at k0
                generalize nbTo v 1 1 (6 + 1) = nn at *
                have hw : IntKind.i64.wrap (nn + v 9) = nn + v 9 := by rw [IntKind.wrap_i64]; omega
                have HN := Lib.hid hn
                clear hn b0 b1
                go_wp2_with fail
                go_roundw
                case measure => decide
                case rel => exact ⟨2, by decide, by go_num, by rw [HN.out], by first | rfl | trivial⟩
              · have k0 := HK.out.c (j := 2) (by decide)
                have b0 := HV.out 10 (by decide)
                have b1 := nbTo_bd HV.out (y := 1) (x := 1) (by decide) (by decide) 8 (by decide)
                have hn : nbTo v 1 1 (6 + 3) = nbTo v 1 1 (6 + 2) + v 10 := rfl
                simp only [kd] at k0
                generalize nbTo v 1 1 (6 + 2) = nn at *
                have hw : IntKind.i64.wrap (nn + v 10) = nn + v 10 := by rw [IntKind.wrap_i64]; omega
                have HN := Lib.hid hn
                clear hn b0 b1
                go_wp2_with fail
                go_roundw
                case measure => decide
                case rel => exact ⟨3, by decide, by go_num, by rw [HN.out], by first | rfl | trivial⟩
            · obtain rfl : j = 3 := by omega
              go_wp2_with fail
              go_roundw
              case measure => decide
              case rel => exact ⟨3, by decide, by go_num, rfl, HI.out⟩
      · obtain rfl : i = 3 := by omega
        have c0 := HH.out.1.c (p := 5) (by decide)
        have b1 := nbTo_bd HV.out (y := 1) (x := 1) (by decide) (by decide) 9 (by decide)
        have HB := Lib.hid HH.out.2
        have hlv : Calls Try.prog 103 #[.bool (v 5 == 1), .int .i64 (nbTo v 1 1 (3 * 3))] wr fun e w' => e = .returned (.bool lv) ∧ wr = w' := by rw [HL.out]; exact Cel.lives_any (decide (v 5 = 1)) (nbTo v 1 1 9) wr
        clear HH HL
        go_wp2_with fail
        refine hlv.mono ?_
        rintro r _ ⟨rfl, rfl⟩
        clear hlv c0 b1
        cases lv
        all_goals
          go_wp2_with fail
          go_ret
          exact ⟨rfl, HB.out⟩
  · obtain ⟨lv, hl⟩ : ∃ lv, lv = Cel.livesB (decide (v (1 * 4 + 2) = 1)) (nbTo v 1 2 9) := ⟨_, rfl⟩
    rw [← hl]
    have HL := Lib.hid hl
    clear hl
    go_enter Try.func98, Try.ntmps98
    have c0 := HS.out.c (p := 6) (by decide)
    have b0 := HV.out 6 (by decide)
    go_wp2_with fail
    clear c0 b0
    generalize (w.alloc (.cells (row16 v) 119)) = v0 at *
    go_loopw [7, 24] (fun s u wr => ∃ i : Nat, i ≤ 3 ∧ u = .int .i64 i ∧ s = .int .i64 (nbTo v 1 2 (i * 3)) ∧ Hid (S16 wr w.heap.size v ∧ Below w.heap.size w wr)) (fun _ u _ => 3 - (intOf u).toNat)
    case atStart => exact ⟨0, by decide, rfl, rfl, HS.out, HA.out⟩
    case round =>
      obtain ⟨i, hi, rfl, rfl, HH⟩ := hrel
      by_cases hlt : i < 3
      · rcases (by omega : i = 0 ∨ i = 1 ∨ i = 2) with rfl | rfl | rfl
        · have e0 := HH.out.1.c (p := 0) (by decide)
          have e1 := HH.out.1.c (p := 1) (by decide)
          have e2 := HH.out.1.c (p := 2) (by decide)
          have e3 := HH.out.1.c (p := 3) (by decide)
          have hal := (Below.refl wr.heap.size wr).alloc (Nat.le_refl _) (.cells #[.int .i64 (v 0), .int .i64 (v 1), .int .i64 (v 2), .int .i64 (v 3)] 33)
          have HK := Lib.hid (show KR (wr.alloc (.cells #[.int .i64 (v 0), .int .i64 (v 1), .int .i64 (v 2), .int .i64 (v 3)] 33)) wr.heap.size (v 0, v 1, v 2, v 3) from heap_new rfl)
          have HI := Lib.hid (And.intro (HH.out.1.below hal) (Qt.more HH.out.2 HH.out.2.size hal))
          clear hal HH
          go_wp2_with fail
          clear e0 e1 e2 e3
          generalize (wr.alloc (.cells #[.int .i64 (v 0), .int .i64 (v 1), .int .i64 (v 2), .int .i64 (v 3)] 33)) = w1 at *
          generalize wr.heap.size = lb at *
          go_loopw [7, 34] (fun s u wr => ∃ j : Nat, j ≤ 3 ∧ u = .int .i64 j ∧ s = .int .i64 (nbTo v 1 2 (0 + j)) ∧ wr = w1) (fun _ u _ => 3 - (intOf u).toNat)
          case atStart => exact ⟨0, by decide, rfl, rfl, rfl⟩
          case round =>
            obtain ⟨j, hj, rfl, rfl, rfl⟩ := hrel
            by_cases hjl : j < 3
            · rcases (by omega : j = 0 ∨ j = 1 ∨ j = 2) with rfl | rfl | rfl
              · have k0 := HK.out.c (j := 1) (by decide)
                have b0 := HV.out 1 (by decide)
                have b1 := nbTo_bd HV.out (y := 1) (x := 2) (by decide) (by decide) 0 (by decide)
                have hn : nbTo v 1 2 (0 + 1) = nbTo v 1 2 (0 + 0) + v 1 := rfl
                simp only [kd] at k0
                generalize nbTo v 1 2 (0 + 0) = nn at *
                have hw : IntKind.i64.wrap (nn + v 1) = nn + v 1 := by rw [IntKind.wrap_i64]; omega
                have HN := Lib.hid hn
                clear hn b0 b1
                go_wp2_with fail
                go_roundw
                case measure => decide
                case rel => exact ⟨1, by decide, by go_num, by rw [HN.out], by first | rfl | trivial⟩
              · have k0 := HK.out.c (j := 2) (by decide)
                have b0 := HV.out 2 (by decide)
                have b1 := nbTo_bd HV.out (y := 1) (x := 2) (by decide) (by decide) 1 (by decide)
                have hn : nbTo v 1 2 (0 + 2) = nbTo v 1 2 (0 + 1) + v 2 := rfl
                simp only [kd] at k0
                generalize nbTo v 1 2 (0 + 1) = nn at *
                have hw : IntKind.i64.wrap (nn + v 2) = nn + v 2 := by rw [IntKind.wrap_i64]; omega
                have HN := Lib.hid hn
                clear hn b0 b1
                go_wp2_with fail
                go_roundw
                case measure => decide
                case rel => exact ⟨2, by decide, by go_num, by rw [HN.out], by first | rfl | trivial⟩
              · have k0 := HK.out.c (j := 3) (by decide)
                have b0 := HV.out 3 (by decide)
                have b1 := nbTo_bd HV.out (y := 1) (x := 2) (by decide) (by decide) 2 (by decide)
                have hn : nbTo v 1 2 (0 + 3) = nbTo v 1 2 (0 + 2) + v 3 := rfl
                simp only [kd] at k0
                generalize nbTo v 1 2 (0 + 2) = nn at *
                have hw : IntKind.i64.wrap (nn + v 3) = nn + v 3 := by rw [IntKind.wrap_i64]; omega
                have HN := Lib.hid hn
                clear hn b0 b1
                go_wp2_with fail
                go_roundw
                case measure => decide
                case rel => exact ⟨3, by decide, by go_num, by rw [HN.out], by first | rfl | trivial⟩
            · obtain rfl : j = 3 := by omega
              go_wp2_with fail
              go_roundw
              case measure => decide
              case rel => exact ⟨1, by decide, by go_num, rfl, HI.out⟩
        · have e0 := HH.out.1.c (p := 4) (by decide)
          have e1 := HH.out.1.c (p := 5) (by decide)
          have e2 := HH.out.1.c (p := 6) (by decide)
          have e3 := HH.out.1.c (p := 7) (by decide)
          have hal := (Below.refl wr.heap.size wr).alloc (Nat.le_refl _) (.cells #[.int .i64 (v 4), .int .i64 (v 5), .int .i64 (v 6), .int .i64 (v 7)] 33)
          have HK := Lib.hid (show KR (wr.alloc (.cells #[.int .i64 (v 4), .int .i64 (v 5), .int .i64 (v 6), .int .i64 (v 7)] 33)) wr.heap.size (v 4, v 5, v 6, v 7) from heap_new rfl)
          have HI := Lib.hid (And.intro (HH.out.1.below hal) (Qt.more HH.out.2 HH.out.2.size hal))
          clear hal HH
          go_wp2_with fail
          clear e0 e1 e2 e3
          generalize (wr.alloc (.cells #[.int .i64 (v 4), .int .i64 (v 5), .int .i64 (v 6), .int .i64 (v 7)] 33)) = w1 at *
          generalize wr.heap.size = lb at *
          go_loopw [7, 34] (fun s u wr => ∃ j : Nat, j ≤ 3 ∧ u = .int .i64 j ∧ s = .int .i64 (nbTo v 1 2 (3 + j)) ∧ wr = w1) (fun _ u _ => 3 - (intOf u).toNat)
          case atStart => exact ⟨0, by decide, rfl, rfl, rfl⟩
          case round =>
            obtain ⟨j, hj, rfl, rfl, rfl⟩ := hrel
            by_cases hjl : j < 3
            · rcases (by omega : j = 0 ∨ j = 1 ∨ j = 2) with rfl | rfl | rfl
              · have k0 := HK.out.c (j := 1) (by decide)
                have b0 := HV.out 5 (by decide)
                have b1 := nbTo_bd HV.out (y := 1) (x := 2) (by decide) (by decide) 3 (by decide)
                have hn : nbTo v 1 2 (3 + 1) = nbTo v 1 2 (3 + 0) + v 5 := rfl
                simp only [kd] at k0
                generalize nbTo v 1 2 (3 + 0) = nn at *
                have hw : IntKind.i64.wrap (nn + v 5) = nn + v 5 := by rw [IntKind.wrap_i64]; omega
                have HN := Lib.hid hn
                clear hn b0 b1
                go_wp2_with fail
                go_roundw
                case measure => decide
                case rel => exact ⟨1, by decide, by go_num, by rw [HN.out], by first | rfl | trivial⟩
              · have k0 := HK.out.c (j := 2) (by decide)
                have b0 := HV.out 6 (by decide)
                have b1 := nbTo_bd HV.out (y := 1) (x := 2) (by decide) (by decide) 4 (by decide)
                have hn : nbTo v 1 2 (3 + 2) = nbTo v 1 2 (3 + 1) + v 6 := rfl
                simp only [kd] at k0
                generalize nbTo v 1 2 (3 + 1) = nn at *
                have hw : IntKind.i64.wrap (nn + v 6) = nn + v 6 := by rw [IntKind.wrap_i64]; omega
                have HN := Lib.hid hn
                clear hn b0 b1
                go_wp2_with fail
                go_roundw
                case measure => decide
                case rel => exact ⟨2, by decide, by go_num, by rw [HN.out], by first | rfl | trivial⟩
              · have k0 := HK.out.c (j := 3) (by decide)
                have b0 := HV.out 7 (by decide)
                have b1 := nbTo_bd HV.out (y := 1) (x := 2) (by decide) (by decide) 5 (by decide)
                have hn : nbTo v 1 2 (3 + 3) = nbTo v 1 2 (3 + 2) + v 7 := rfl
                simp only [kd] at k0
                generalize nbTo v 1 2 (3 + 2) = nn at *
                have hw : IntKind.i64.wrap (nn + v 7) = nn + v 7 := by rw [IntKind.wrap_i64]; omega
                have HN := Lib.hid hn
                clear hn b0 b1
                go_wp2_with fail
                go_roundw
                case measure => decide
                case rel => exact ⟨3, by decide, by go_num, by rw [HN.out], by first | rfl | trivial⟩
            · obtain rfl : j = 3 := by omega
              go_wp2_with fail
              go_roundw
              case measure => decide
              case rel => exact ⟨2, by decide, by go_num, rfl, HI.out⟩
        · have e0 := HH.out.1.c (p := 8) (by decide)
          have e1 := HH.out.1.c (p := 9) (by decide)
          have e2 := HH.out.1.c (p := 10) (by decide)
          have e3 := HH.out.1.c (p := 11) (by decide)
          have hal := (Below.refl wr.heap.size wr).alloc (Nat.le_refl _) (.cells #[.int .i64 (v 8), .int .i64 (v 9), .int .i64 (v 10), .int .i64 (v 11)] 33)
          have HK := Lib.hid (show KR (wr.alloc (.cells #[.int .i64 (v 8), .int .i64 (v 9), .int .i64 (v 10), .int .i64 (v 11)] 33)) wr.heap.size (v 8, v 9, v 10, v 11) from heap_new rfl)
          have HI := Lib.hid (And.intro (HH.out.1.below hal) (Qt.more HH.out.2 HH.out.2.size hal))
          clear hal HH
          go_wp2_with fail
          clear e0 e1 e2 e3
          generalize (wr.alloc (.cells #[.int .i64 (v 8), .int .i64 (v 9), .int .i64 (v 10), .int .i64 (v 11)] 33)) = w1 at *
          generalize wr.heap.size = lb at *
          go_loopw [7, 34] (fun s u wr => ∃ j : Nat, j ≤ 3 ∧ u = .int .i64 j ∧ s = .int .i64 (nbTo v 1 2 (6 + j)) ∧ wr = w1) (fun _ u _ => 3 - (intOf u).toNat)
          case atStart => exact ⟨0, by decide, rfl, rfl, rfl⟩
          case round =>
            obtain ⟨j, hj, rfl, rfl, rfl⟩ := hrel
            by_cases hjl : j < 3
            · rcases (by omega : j = 0 ∨ j = 1 ∨ j = 2) with rfl | rfl | rfl
              · have k0 := HK.out.c (j := 1) (by decide)
                have b0 := HV.out 9 (by decide)
                have b1 := nbTo_bd HV.out (y := 1) (x := 2) (by decide) (by decide) 6 (by decide)
                have hn : nbTo v 1 2 (6 + 1) = nbTo v 1 2 (6 + 0) + v 9 := rfl
                simp only [kd] at k0
                generalize nbTo v 1 2 (6 + 0) = nn at *
                have hw : IntKind.i64.wrap (nn + v 9) = nn + v 9 := by rw [IntKind.wrap_i64]; omega
                have HN := Lib.hid hn
                clear hn b0 b1
                go_wp2_with fail
                go_roundw
                case measure => decide
                case rel => exact ⟨1, by decide, by go_num, by rw [HN.out], by first | rfl | trivial⟩
              · have k0 := HK.out.c (j := 2) (by decide)
                have b0 := HV.out 10 (by decide)
                have b1 := nbTo_bd HV.out (y := 1) (x := 2) (by decide) (by decide) 7 (by decide)
                have hn : nbTo v 1 2 (6 + 2) = nbTo v 1 2 (6 + 1) + v 10 := rfl
                simp only [kd] at k0
                generalize nbTo v 1 2 (6 + 1) = nn at *
                have hw : IntKind.i64.wrap (nn + v 10) = nn + v 10 := by rw [IntKind.wrap_i64]; omega
                have HN := Lib.hid hn
                clear hn b0 b1
                go_wp2_with fail
                go_roundw
                case measure => decide
                case rel => exact ⟨2, by decide, by go_num, by rw [HN.out], by first | rfl | trivial⟩
              · have k0 := HK.out.c (j := 3) (by decide)
                have b0 := HV.out 11 (by decide)
                have b1 := nbTo_bd HV.out (y := 1) (x := 2) (by decide) (by decide) 8 (by decide)
                have hn : nbTo v 1 2 (6 + 3) = nbTo v 1 2 (6 + 2) + v 11 := rfl
                simp only [kd] at k0
                generalize nbTo v 1 2 (6 + 2) = nn at *
                have hw : IntKind.i64.wrap (nn + v 11) = nn + v 11 := by rw [IntKind.wrap_i64]; omega
                have HN := Lib.hid hn
                clear hn b0 b1
                go_wp2_with fail
                go_roundw
                case measure => decide
                case rel => exact ⟨3, by decide, by go_num, by rw [HN.out], by first | rfl | trivial⟩
            · obtain rfl : j = 3 := by omega
              go_wp2_with fail
              go_roundw
              case measure => decide
              case rel => exact ⟨3, by decide, by go_num, rfl, HI.out⟩
      · obtain rfl : i = 3 := by omega
        have c0 := HH.out.1.c (p := 6) (by decide)
        have b1 := nbTo_bd HV.out (y := 1) (x := 2) (by decide) (by decide) 9 (by decide)
        have HB := Lib.hid HH.out.2
        have hlv : Calls Try.prog 103 #[.bool (v 6 == 1), .int .i64 (nbTo v 1 2 (3 * 3))] wr fun e w' => e = .returned (.bool lv) ∧ wr = w' := by rw [HL.out]; exact Cel.lives_any (decide (v 6 = 1)) (nbTo v 1 2 9) wr
        clear HH HL
        go_wp2_with fail
        refine hlv.mono ?_
        rintro r _ ⟨rfl, rfl⟩
        clear hlv c0 b1
        cases lv
        all_goals
          go_wp2_with fail
          go_ret
          exact ⟨rfl, HB.out⟩
  · obtain ⟨lv, hl⟩ : ∃ lv, lv = Cel.livesB (decide (v (2 * 4 + 1) = 1)) (nbTo v 2 1 9) := ⟨_, rfl⟩
    rw [← hl]
    have HL := Lib.hid hl
    clear hl
    go_enter Try.func98, Try.ntmps98
    have c0 := HS.out.c (p := 9) (by decide)
    have b0 := HV.out 9 (by decide)
    go_wp2_with fail
    clear c0 b0
    generalize (w.alloc (.cells (row16 v) 119)) = v0 at *
    go_loopw [7, 24] (fun s u wr => ∃ i : Nat, i ≤ 3 ∧ u = .int .i64 i ∧ s = .int .i64 (nbTo v 2 1 (i * 3)) ∧ Hid (S16 wr w.heap.size v ∧ Below w.heap.size w wr)) (fun _ u _ => 3 - (intOf u).toNat)
    case atStart => exact ⟨0, by decide, rfl, rfl, HS.out, HA.out⟩
    case round =>
      obtain ⟨i, hi, rfl, rfl, HH⟩ := hrel
      by_cases hlt : i < 3
      · rcases (by omega : i = 0 ∨ i = 1 ∨ i = 2) with rfl | rfl | rfl
        · have e0 := HH.out.1.c (p := 4) (by decide)
          have e1 := HH.out.1.c (p := 5) (by decide)
          have e2 := HH.out.1.c (p := 6) (by decide)
          have e3 := HH.out.1.c (p := 7) (by decide)
          have hal := (Below.refl wr.heap.size wr).alloc (Nat.le_refl _) (.cells #[.int .i64 (v 4), .int .i64 (v 5), .int .i64 (v 6), .int .i64 (v 7)] 33)
          have HK := Lib.hid (show KR (wr.alloc (.cells #[.int .i64 (v 4), .int .i64 (v 5), .int .i64 (v 6), .int .i64 (v 7)] 33)) wr.heap.size (v 4, v 5, v 6, v 7) from heap_new rfl)
          have HI := Lib.hid (And.intro (HH.out.1.below hal) (Qt.more HH.out.2 HH.out.2.size hal))
          clear hal HH
          go_wp2_with fail
          clear e0 e1 e2 e3
          generalize (wr.alloc (.cells #[.int .i64 (v 4), .int .i64 (v 5), .int .i64 (v 6), .int .i64 (v 7)] 33)) = w1 at *
          generalize wr.heap.size = lb at *
          go_loopw [7, 34] (fun s u wr => ∃ j : Nat, j ≤ 3 ∧ u = .int .i64 j ∧ s = .int .i64 (nbTo v 2 1 (0 + j)) ∧ wr = w1) (fun _ u _ => 3 - (intOf u).toNat)
          case atStart => exact ⟨0, by decide, rfl, rfl, rfl⟩
          case round =>
            obtain ⟨j, hj, rfl, rfl, rfl⟩ := hrel
            by_cases hjl : j < 3
            · rcases (by omega : j = 0 ∨ j = 1 ∨ j = 2) with rfl | rfl | rfl
              · have k0 := HK.out.c (j := 0) (by decide)
                have b0 := HV.out 4 (by decide)
                have b1 := nbTo_bd HV.out (y := 2) (x := 1) (by decide) (by decide) 0 (by decide)
                have hn : nbTo v 2 1 (0 + 1) = nbTo v 2 1 (0 + 0) + v 4 := rfl
                simp only [kd] at k0
                generalize nbTo v 2 1 (0 + 0) = nn at *
                have hw : IntKind.i64.wrap (nn + v 4) = nn + v 4 := by rw [IntKind.wrap_i64]; omega
                have HN := Lib.hid hn
                clear hn b0 b1
                go_wp2_with fail
                go_roundw
                case measure => decide
                case rel => exact ⟨1, by decide, by go_num, by rw [HN.out], by first | rfl | trivial⟩
              · have k0 := HK.out.c (j := 1) (by decide)
                have b0 := HV.out 5 (by decide)
                have b1 := nbTo_bd HV.out (y := 2) (x := 1) (by decide) (by decide) 1 (by decide)
                have hn : nbTo v 2 1 (0 + 2) = nbTo v 2 1 (0 + 1) + v 5 := rfl
                simp only [kd] at k0
                generalize nbTo v 2 1 (0 + 1) = nn at *
                have hw : IntKind.i64.wrap (nn + v 5) = nn + v 5 := by rw [IntKind.wrap_i64]; omega
                have HN := Lib.hid hn
                clear hn b0 b1
                go_wp2_with fail
                go_roundw
                case measure => decide
                case rel => exact ⟨2, by decide, by go_num, by rw [HN.out], by first | rfl | trivial⟩
              · have k0 := HK.out.c (j := 2) (by decide)
                have b0 := HV.out 6 (by decide)
                have b1 := nbTo_bd HV.out (y := 2) (x := 1) (by decide) (by decide) 2 (by decide)
                have hn : nbTo v 2 1 (0 + 3) = nbTo v 2 1 (0 + 2) + v 6 := rfl
                simp only [kd] at k0
                generalize nbTo v 2 1 (0 + 2) = nn at *
                have hw : IntKind.i64.wrap (nn + v 6) = nn + v 6 := by rw [IntKind.wrap_i64]; omega
                have HN := Lib.hid hn
                clear hn b0 b1
                go_wp2_with fail
                go_roundw
                case measure => decide
                case rel => exact ⟨3, by decide, by go_num, by rw [HN.out], by first | rfl | trivial⟩
            · obtain rfl : j = 3 := by omega
              go_wp2_with fail
              go_roundw
              case measure => decide
              case rel => exact ⟨1, by decide, by go_num, rfl, HI.out⟩
        · have e0 := HH.out.1.c (p := 8) (by decide)
          have e1 := HH.out.1.c (p := 9) (by decide)
          have e2 := HH.out.1.c (p := 10) (by decide)
          have e3 := HH.out.1.c (p := 11) (by decide)
          have hal := (Below.refl wr.heap.size wr).alloc (Nat.le_refl _) (.cells #[.int .i64 (v 8), .int .i64 (v 9), .int .i64 (v 10), .int .i64 (v 11)] 33)
          have HK := Lib.hid (show KR (wr.alloc (.cells #[.int .i64 (v 8), .int .i64 (v 9), .int .i64 (v 10), .int .i64 (v 11)] 33)) wr.heap.size (v 8, v 9, v 10, v 11) from heap_new rfl)
          have HI := Lib.hid (And.intro (HH.out.1.below hal) (Qt.more HH.out.2 HH.out.2.size hal))
          clear hal HH
          go_wp2_with fail
          clear e0 e1 e2 e3
          generalize (wr.alloc (.cells #[.int .i64 (v 8), .int .i64 (v 9), .int .i64 (v 10), .int .i64 (v 11)] 33)) = w1 at *
          generalize wr.heap.size = lb at *
          go_loopw [7, 34] (fun s u wr => ∃ j : Nat, j ≤ 3 ∧ u = .int .i64 j ∧ s = .int .i64 (nbTo v 2 1 (3 + j)) ∧ wr = w1) (fun _ u _ => 3 - (intOf u).toNat)
          case atStart => exact ⟨0, by decide, rfl, rfl, rfl⟩
          case round =>
            obtain ⟨j, hj, rfl, rfl, rfl⟩ := hrel
            by_cases hjl : j < 3
            · rcases (by omega : j = 0 ∨ j = 1 ∨ j = 2) with rfl | rfl | rfl
              · have k0 := HK.out.c (j := 0) (by decide)
                have b0 := HV.out 8 (by decide)
                have b1 := nbTo_bd HV.out (y := 2) (x := 1) (by decide) (by decide) 3 (by decide)
                have hn : nbTo v 2 1 (3 + 1) = nbTo v 2 1 (3 + 0) + v 8 := rfl
                simp only [kd] at k0
                generalize nbTo v 2 1 (3 + 0) = nn at *
                have hw : IntKind.i64.wrap (nn + v 8) = nn + v 8 := by rw [IntKind.wrap_i64]; omega
                have HN := Lib.hid hn
                clear hn b0 b1
                go_wp2_with fail
                go_roundw
                case measure => decide
                case rel => exact ⟨1, by decide, by go_num, by rw [HN.out], by first | rfl | trivial⟩
              · have k0 := HK.out.c (j := 1) (by decide)
                have b0 := HV.out 9 (by decide)
                have b1 := nbTo_bd HV.out (y := 2) (x := 1) (by decide) (by decide) 4 (by decide)
                have hn : nbTo v 2 1 (3 + 2) = nbTo v 2 1 (3 + 1) + v 9 := rfl
                simp only [kd] at k0
                generalize nbTo v 2 1 (3 + 1) = nn at *
                have hw : IntKind.i64.wrap (nn + v 9) = nn + v 9 := by rw [IntKind.wrap_i64]; omega
                have HN := Lib.hid hn
                clear hn b0 b1
                go_wp2_with fail
                go_roundw
                case measure => decide
                case rel => exact ⟨2, by decide, by go_num, by rw [HN.out], by first | rfl | trivial⟩
              · have k0 := HK.out.c (j := 2) (by decide)
                have b0 := HV.out 10 (by decide)
                have b1 := nbTo_bd HV.out (y := 2) (x := 1) (by decide) (by decide) 5 (by decide)
                have hn : nbTo v 2 1 (3 + 3) = nbTo v 2 1 (3 + 2) + v 10 := rfl
                simp only [kd] at k0
                generalize nbTo v 2 1 (3 + 2) = nn at *
                have hw : IntKind.i64.wrap (nn + v 10) = nn + v 10 := by rw [IntKind.wrap_i64]; omega
                have HN := Lib.hid hn
                clear hn b0 b1
                go_wp2_with fail
                go_roundw
                case measure => decide
                case rel => exact ⟨3, by decide, by go_num, by rw [HN.out], by first | rfl | trivial⟩
            · obtain rfl : j = 3 := by omega
              go_wp2_with fail
              go_roundw
              case measure => decide
              case rel => exact ⟨2, by decide, by go_num, rfl, HI.out⟩
        · have e0 := HH.out.1.c (p := 12) (by decide)
          have e1 := HH.out.1.c (p := 13) (by decide)
          have e2 := HH.out.1.c (p := 14) (by decide)
          have e3 := HH.out.1.c (p := 15) (by decide)
          have hal := (Below.refl wr.heap.size wr).alloc (Nat.le_refl _) (.cells #[.int .i64 (v 12), .int .i64 (v 13), .int .i64 (v 14), .int .i64 (v 15)] 33)
          have HK := Lib.hid (show KR (wr.alloc (.cells #[.int .i64 (v 12), .int .i64 (v 13), .int .i64 (v 14), .int .i64 (v 15)] 33)) wr.heap.size (v 12, v 13, v 14, v 15) from heap_new rfl)
          have HI := Lib.hid (And.intro (HH.out.1.below hal) (Qt.more HH.out.2 HH.out.2.size hal))
          clear hal HH
          go_wp2_with fail
          clear e0 e1 e2 e3
          generalize (wr.alloc (.cells #[.int .i64 (v 12), .int .i64 (v 13), .int .i64 (v 14), .int .i64 (v 15)] 33)) = w1 at *
          generalize wr.heap.size = lb at *
          go_loopw [7, 34] (fun s u wr => ∃ j : Nat, j ≤ 3 ∧ u = .int .i64 j ∧ s = .int .i64 (nbTo v 2 1 (6 + j)) ∧ wr = w1) (fun _ u _ => 3 - (intOf u).toNat)
          case atStart => exact ⟨0, by decide, rfl, rfl, rfl⟩
          case round =>
            obtain ⟨j, hj, rfl, rfl, rfl⟩ := hrel
            by_cases hjl : j < 3
            · rcases (by omega : j = 0 ∨ j = 1 ∨ j = 2) with rfl | rfl | rfl
              · have k0 := HK.out.c (j := 0) (by decide)
                have b0 := HV.out 12 (by decide)
                have b1 := nbTo_bd HV.out (y := 2) (x := 1) (by decide) (by decide) 6 (by decide)
                have hn : nbTo v 2 1 (6 + 1) = nbTo v 2 1 (6 + 0) + v 12 := rfl
                simp only [kd] at k0
                generalize nbTo v 2 1 (6 + 0) = nn at *
                have hw : IntKind.i64.wrap (nn + v 12) = nn + v 12 := by rw [IntKind.wrap_i64]; omega
                have HN := Lib.hid hn
                clear hn b0 b1
                go_wp2_with fail
                go_roundw
                case measure => decide
                case rel => exact ⟨1, by decide, by go_num, by rw [HN.out], by first | rfl | trivial⟩
              · have k0 := HK.out.c (j := 1) (by decide)
                have b0 := HV.out 13 (by decide)
                have b1 := nbTo_bd HV.out (y := 2) (x := 1) (by decide) (by decide) 7 (by decide)
                have hn : nbTo v 2 1 (6 + 2) = nbTo v 2 1 (6 + 1) + v 13 := rfl
                simp only [kd] at k0
                generalize nbTo v 2 1 (6 + 1) = nn at *
                have hw : IntKind.i64.wrap (nn + v 13) = nn + v 13 := by rw [IntKind.wrap_i64]; omega
                have HN := Lib.hid hn
                clear hn b0 b1
                go_wp2_with fail
                go_roundw
                case measure => decide
                case rel => exact ⟨2, by decide, by go_num, by rw [HN.out], by first | rfl | trivial⟩
              · have k0 := HK.out.c (j := 2) (by decide)
                have b0 := HV.out 14 (by decide)
                have b1 := nbTo_bd HV.out (y := 2) (x := 1) (by decide) (by decide) 8 (by decide)
                have hn : nbTo v 2 1 (6 + 3) = nbTo v 2 1 (6 + 2) + v 14 := rfl
                simp only [kd] at k0
                generalize nbTo v 2 1 (6 + 2) = nn at *
                have hw : IntKind.i64.wrap (nn + v 14) = nn + v 14 := by rw [IntKind.wrap_i64]; omega
                have HN := Lib.hid hn
                clear hn b0 b1
                go_wp2_with fail
                go_roundw
                case measure => decide
                case rel => exact ⟨3, by decide, by go_num, by rw [HN.out], by first | rfl | trivial⟩
            · obtain rfl : j = 3 := by omega
              go_wp2_with fail
              go_roundw
              case measure => decide
              case rel => exact ⟨3, by decide, by go_num, rfl, HI.out⟩
      · obtain rfl : i = 3 := by omega
        have c0 := HH.out.1.c (p := 9) (by decide)
        have b1 := nbTo_bd HV.out (y := 2) (x := 1) (by decide) (by decide) 9 (by decide)
        have HB := Lib.hid HH.out.2
        have hlv : Calls Try.prog 103 #[.bool (v 9 == 1), .int .i64 (nbTo v 2 1 (3 * 3))] wr fun e w' => e = .returned (.bool lv) ∧ wr = w' := by rw [HL.out]; exact Cel.lives_any (decide (v 9 = 1)) (nbTo v 2 1 9) wr
        clear HH HL
        go_wp2_with fail
        refine hlv.mono ?_
        rintro r _ ⟨rfl, rfl⟩
        clear hlv c0 b1
        cases lv
        all_goals
          go_wp2_with fail
          go_ret
          exact ⟨rfl, HB.out⟩
  · obtain ⟨lv, hl⟩ : ∃ lv, lv = Cel.livesB (decide (v (2 * 4 + 2) = 1)) (nbTo v 2 2 9) := ⟨_, rfl⟩
    rw [← hl]
    have HL := Lib.hid hl
    clear hl
    go_enter Try.func98, Try.ntmps98
    have c0 := HS.out.c (p := 10) (by decide)
    have b0 := HV.out 10 (by decide)
    go_wp2_with fail
    clear c0 b0
    generalize (w.alloc (.cells (row16 v) 119)) = v0 at *
    go_loopw [7, 24] (fun s u wr => ∃ i : Nat, i ≤ 3 ∧ u = .int .i64 i ∧ s = .int .i64 (nbTo v 2 2 (i * 3)) ∧ Hid (S16 wr w.heap.size v ∧ Below w.heap.size w wr)) (fun _ u _ => 3 - (intOf u).toNat)
    case atStart => exact ⟨0, by decide, rfl, rfl, HS.out, HA.out⟩
    case round =>
      obtain ⟨i, hi, rfl, rfl, HH⟩ := hrel
      by_cases hlt : i < 3
      · rcases (by omega : i = 0 ∨ i = 1 ∨ i = 2) with rfl | rfl | rfl
        · have e0 := HH.out.1.c (p := 4) (by decide)
          have e1 := HH.out.1.c (p := 5) (by decide)
          have e2 := HH.out.1.c (p := 6) (by decide)
          have e3 := HH.out.1.c (p := 7) (by decide)
          have hal := (Below.refl wr.heap.size wr).alloc (Nat.le_refl _) (.cells #[.int .i64 (v 4), .int .i64 (v 5), .int .i64 (v 6), .int .i64 (v 7)] 33)
          have HK := Lib.hid (show KR (wr.alloc (.cells #[.int .i64 (v 4), .int .i64 (v 5), .int .i64 (v 6), .int .i64 (v 7)] 33)) wr.heap.size (v 4, v 5, v 6, v 7) from heap_new rfl)
          have HI := Lib.hid (And.intro (HH.out.1.below hal) (Qt.more HH.out.2 HH.out.2.size hal))
          clear hal HH
          go_wp2_with fail
          clear e0 e1 e2 e3
          generalize (wr.alloc (.cells #[.int .i64 (v 4), .int .i64 (v 5), .int .i64 (v 6), .int .i64 (v 7)] 33)) = w1 at *
          generalize wr.heap.size = lb at *
          go_loopw [7, 34] (fun s u wr => ∃ j : Nat, j ≤ 3 ∧ u = .int .i64 j ∧ s = .int .i64 (nbTo v 2 2 (0 + j)) ∧ wr = w1) (fun _ u _ => 3 - (intOf u).toNat)
          case atStart => exact ⟨0, by decide, rfl, rfl, rfl⟩
          case round =>
            obtain ⟨j, hj, rfl, rfl, rfl⟩ := hrel
            by_cases hjl : j < 3
            · rcases (by omega : j = 0 ∨ j = 1 ∨ j = 2) with rfl | rfl | rfl
              · have k0 := HK.out.c (j := 1) (by decide)
                have b0 := HV.out 5 (by decide)
                have b1 := nbTo_bd HV.out (y := 2) (x := 2) (by decide) (by decide) 0 (by decide)
                have hn : nbTo v 2 2 (0 + 1) = nbTo v 2 2 (0 + 0) + v 5 := rfl
                simp only [kd] at k0
                generalize nbTo v 2 2 (0 + 0) = nn at *
                have hw : IntKind.i64.wrap (nn + v 5) = nn + v 5 := by rw [IntKind.wrap_i64]; omega
                have HN := Lib.hid hn
                clear hn b0 b1
                go_wp2_with fail
                go_roundw
                case measure => decide
                case rel => exact ⟨1, by decide, by go_num, by rw [HN.out], by first | rfl | trivial⟩
              · have k0 := HK.out.c (j := 2) (by decide)
                have b0 := HV.out 6 (by decide)
                have b1 := nbTo_bd HV.out (y := 2) (x := 2) (by decide) (by decide) 1 (by decide)
                have hn : nbTo v 2 2 (0 + 2) = nbTo v 2 2 (0 + 1) + v 6 := rfl
                simp only [kd] at k0
                generalize nbTo v 2 2 (0 + 1) = nn at *
                have hw : IntKind.i64.wrap (nn + v 6) = nn + v 6 := by rw [IntKind.wrap_i64]; omega
                have HN := Lib.hid hn
                clear hn b0 b1
                go_wp2_with fail
                go_roundw
                case measure => decide
                case rel => exact ⟨2, by decide, by go_num, by rw [HN.out], by first | rfl | trivial⟩
              · have k0 := HK.out.c (j := 3) (by decide)
                have b0 := HV.out 7 (by decide)
                have b1 := nbTo_bd HV.out (y := 2) (x := 2) (by decide) (by decide) 2 (by decide)
                have hn : nbTo v 2 2 (0 + 3) = nbTo v 2 2 (0 + 2) + v 7 := rfl
                simp only [kd] at k0
                generalize nbTo v 2 2 (0 + 2) = nn at *
                have hw : IntKind.i64.wrap (nn + v 7) = nn + v 7 := by rw [IntKind.wrap_i64]; omega
                have HN := Lib.hid hn
                clear hn b0 b1
                go_wp2_with fail
                go_roundw
                case measure => decide
                case rel => exact ⟨3, by decide, by go_num, by rw [HN.out], by first | rfl | trivial⟩
            · obtain rfl : j = 3 := by omega
              go_wp2_with fail
              go_roundw
              case measure => decide
              case rel => exact ⟨1, by decide, by go_num, rfl, HI.out⟩
        · have e0 := HH.out.1.c (p := 8) (by decide)
          have e1 := HH.out.1.c (p := 9) (by decide)
          have e2 := HH.out.1.c (p := 10) (by decide)
          have e3 := HH.out.1.c (p := 11) (by decide)
          have hal := (Below.refl wr.heap.size wr).alloc (Nat.le_refl _) (.cells #[.int .i64 (v 8), .int .i64 (v 9), .int .i64 (v 10), .int .i64 (v 11)] 33)
          have HK := Lib.hid (show KR (wr.alloc (.cells #[.int .i64 (v 8), .int .i64 (v 9), .int .i64 (v 10), .int .i64 (v 11)] 33)) wr.heap.size (v 8, v 9, v 10, v 11) from heap_new rfl)
          have HI := Lib.hid (And.intro (HH.out.1.below hal) (Qt.more HH.out.2 HH.out.2.size hal))
          clear hal HH
          go_wp2_with fail
          clear e0 e1 e2 e3
          generalize (wr.alloc (.cells #[.int .i64 (v 8), .int .i64 (v 9), .int .i64 (v 10), .int .i64 (v 11)] 33)) = w1 at *
          generalize wr.heap.size = lb at *
          go_loopw [7, 34] (fun s u wr => ∃ j : Nat, j ≤ 3 ∧ u = .int .i64 j ∧ s = .int .i64 (nbTo v 2 2 (3 + j)) ∧ wr = w1) (fun _ u _ => 3 - (intOf u).toNat)
          case atStart => exact ⟨0, by decide, rfl, rfl, rfl⟩
          case round =>
            obtain ⟨j, hj, rfl, rfl, rfl⟩ := hrel
            by_cases hjl : j < 3
            · rcases (by omega : j = 0 ∨ j = 1 ∨ j = 2) with rfl | rfl | rfl
              · have k0 := HK.out.c (j := 1) (by decide)
                have b0 := HV.out 9 (by decide)
                have b1 := nbTo_bd HV.out (y := 2) (x := 2) (by decide) (by decide) 3 (by decide)
                have hn : nbTo v 2 2 (3 + 1) = nbTo v 2 2 (3 + 0) + v 9 := rfl
                simp only [kd] at k0
                generalize nbTo v 2 2 (3 + 0) = nn at *
                have hw : IntKind.i64.wrap (nn + v 9) = nn + v 9 := by rw [IntKind.wrap_i64]; omega
                have HN := Lib.hid hn
                clear hn b0 b1
                go_wp2_with fail
                go_roundw
                case measure => decide
                case rel => exact ⟨1, by decide, by go_num, by rw [HN.out], by first | rfl | trivial⟩
              · have k0 := HK.out.c (j := 2) (by decide)
                have b0 := HV.out 10 (by decide)
                have b1 := nbTo_bd HV.out (y := 2) (x := 2) (by decide) (by decide) 4 (by decide)
                have hn : nbTo v 2 2 (3 + 2) = nbTo v 2 2 (3 + 1) + v 10 := rfl
                simp only [kd] at k0
                generalize nbTo v 2 2 (3 + 1) = nn at *
                have hw : IntKind.i64.wrap (nn + v 10) = nn + v 10 := by rw [IntKind.wrap_i64]; omega
                have HN := Lib.hid hn
                clear hn b0 b1
                go_wp2_with fail
                go_roundw
                case measure => decide
                case rel => exact ⟨2, by decide, by go_num, by rw [HN.out], by first | rfl | trivial⟩
              · have k0 := HK.out.c (j := 3) (by decide)
                have b0 := HV.out 11 (by decide)
                have b1 := nbTo_bd HV.out (y := 2) (x := 2) (by decide) (by decide) 5 (by decide)
                have hn : nbTo v 2 2 (3 + 3) = nbTo v 2 2 (3 + 2) + v 11 := rfl
                simp only [kd] at k0
                generalize nbTo v 2 2 (3 + 2) = nn at *
                have hw : IntKind.i64.wrap (nn + v 11) = nn + v 11 := by rw [IntKind.wrap_i64]; omega
                have HN := Lib.hid hn
                clear hn b0 b1
                go_wp2_with fail
                go_roundw
                case measure => decide
                case rel => exact ⟨3, by decide, by go_num, by rw [HN.out], by first | rfl | trivial⟩
            · obtain rfl : j = 3 := by omega
              go_wp2_with fail
              go_roundw
              case measure => decide
              case rel => exact ⟨2, by decide, by go_num, rfl, HI.out⟩
        · have e0 := HH.out.1.c (p := 12) (by decide)
          have e1 := HH.out.1.c (p := 13) (by decide)
          have e2 := HH.out.1.c (p := 14) (by decide)
          have e3 := HH.out.1.c (p := 15) (by decide)
          have hal := (Below.refl wr.heap.size wr).alloc (Nat.le_refl _) (.cells #[.int .i64 (v 12), .int .i64 (v 13), .int .i64 (v 14), .int .i64 (v 15)] 33)
          have HK := Lib.hid (show KR (wr.alloc (.cells #[.int .i64 (v 12), .int .i64 (v 13), .int .i64 (v 14), .int .i64 (v 15)] 33)) wr.heap.size (v 12, v 13, v 14, v 15) from heap_new rfl)
          have HI := Lib.hid (And.intro (HH.out.1.below hal) (Qt.more HH.out.2 HH.out.2.size hal))
          clear hal HH
          go_wp2_with fail
          clear e0 e1 e2 e3
          generalize (wr.alloc (.cells #[.int .i64 (v 12), .int .i64 (v 13), .int .i64 (v 14), .int .i64 (v 15)] 33)) = w1 at *
          generalize wr.heap.size = lb at *
          go_loopw [7, 34] (fun s u wr => ∃ j : Nat, j ≤ 3 ∧ u = .int .i64 j ∧ s = .int .i64 (nbTo v 2 2 (6 + j)) ∧ wr = w1) (fun _ u _ => 3 - (intOf u).toNat)
          case atStart => exact ⟨0, by decide, rfl, rfl, rfl⟩
          case round =>
            obtain ⟨j, hj, rfl, rfl, rfl⟩ := hrel
            by_cases hjl : j < 3
            · rcases (by omega : j = 0 ∨ j = 1 ∨ j = 2) with rfl | rfl | rfl
              · have k0 := HK.out.c (j := 1) (by decide)
                have b0 := HV.out 13 (by decide)
                have b1 := nbTo_bd HV.out (y := 2) (x := 2) (by decide) (by decide) 6 (by decide)
                have hn : nbTo v 2 2 (6 + 1) = nbTo v 2 2 (6 + 0) + v 13 := rfl
                simp only [kd] at k0
                generalize nbTo v 2 2 (6 + 0) = nn at *
                have hw : IntKind.i64.wrap (nn + v 13) = nn + v 13 := by rw [IntKind.wrap_i64]; omega
                have HN := Lib.hid hn
                clear hn b0 b1
                go_wp2_with fail
                go_roundw
                case measure => decide
                case rel => exact ⟨1, by decide, by go_num, by rw [HN.out], by first | rfl | trivial⟩
              · have k0 := HK.out.c (j := 2) (by decide)
                have b0 := HV.out 14 (by decide)
                have b1 := nbTo_bd HV.out (y := 2) (x := 2) (by decide) (by decide) 7 (by decide)
                have hn : nbTo v 2 2 (6 + 2) = nbTo v 2 2 (6 + 1) + v 14 := rfl
                simp only [kd] at k0
                generalize nbTo v 2 2 (6 + 1) = nn at *
                have hw : IntKind.i64.wrap (nn + v 14) = nn + v 14 := by rw [IntKind.wrap_i64]; omega
                have HN := Lib.hid hn
                clear hn b0 b1
                go_wp2_with fail
                go_roundw
                case measure => decide
                case rel => exact ⟨2, by decide, by go_num, by rw [HN.out], by first | rfl | trivial⟩
              · have k0 := HK.out.c (j := 3) (by decide)
                have b0 := HV.out 15 (by decide)
                have b1 := nbTo_bd HV.out (y := 2) (x := 2) (by decide) (by decide) 8 (by decide)
                have hn : nbTo v 2 2 (6 + 3) = nbTo v 2 2 (6 + 2) + v 15 := rfl
                simp only [kd] at k0
                generalize nbTo v 2 2 (6 + 2) = nn at *
                have hw : IntKind.i64.wrap (nn + v 15) = nn + v 15 := by rw [IntKind.wrap_i64]; omega
                have HN := Lib.hid hn
                clear hn b0 b1
                go_wp2_with fail
                go_roundw
                case measure => decide
                case rel => exact ⟨3, by decide, by go_num, by rw [HN.out], by first | rfl | trivial⟩
            · obtain rfl : j = 3 := by omega
              go_wp2_with fail
              go_roundw
              case measure => decide
              case rel => exact ⟨3, by decide, by go_num, rfl, HI.out⟩
      · obtain rfl : i = 3 := by omega
        have c0 := HH.out.1.c (p := 10) (by decide)
        have b1 := nbTo_bd HV.out (y := 2) (x := 2) (by decide) (by decide) 9 (by decide)
        have HB := Lib.hid HH.out.2
        have hlv : Calls Try.prog 103 #[.bool (v 10 == 1), .int .i64 (nbTo v 2 2 (3 * 3))] wr fun e w' => e = .returned (.bool lv) ∧ wr = w' := by rw [HL.out]; exact Cel.lives_any (decide (v 10 = 1)) (nbTo v 2 2 9) wr
        clear HH HL
        go_wp2_with fail
        refine hlv.mono ?_
        rintro r _ ⟨rfl, rfl⟩
        clear hlv c0 b1
        cases lv
        all_goals
          go_wp2_with fail
          go_ret
          exact ⟨rfl, HB.out⟩
end Go.Proofs.Ytklccoodfhejbaa
