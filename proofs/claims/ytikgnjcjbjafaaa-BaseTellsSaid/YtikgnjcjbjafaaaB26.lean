/-
  Texts that the claims of this seat share, part 26.
-/
import Derived.Test.YtikgnjcjbjafaaaB25
import Derived.Test.YtikgnjcjbjafaaaB18
import Derived.Test.YtikgnjcjbjafaaaB14
set_option linter.unusedVariables false
set_option linter.unusedSimpArgs false
namespace Go.Proofs.Ytikgnjcjbjafaaa
set_option maxRecDepth 100000
set_option linter.unusedVariables false
set_option linter.unusedSimpArgs false
open Go.RowKit Go.Sort

def aw8S : List Nd := [(0, (0, 0, 0, 0), 0), (0, (0, 0, 0, 0), 1), (1, (0, 0, 0, 0), 0), (1, (0, 1, 0, 0), 1), (1, (1, 1, 0, 0), 2), (2, (2, 2, 3, 4), 3)]
def aw8A : List Nd := aw8S ++ [(1, (0, 1, 0, 1), 2)]
def aw8B : List Nd := aw8S ++ [(1, (0, 0, 1, 1), 2)]
def aw8C : List Nd := aw8S ++ [(1, (0, 0, 0, 1), 1), (1, (0, 0, 1, 1), 2)]
theorem aw8_1 : make7 new6 50 [(-1, 0), (0, 0), (1, 0)] 2 = (aw8S, 5, 0) := by kernel_rfl
theorem aw8_2 : step8 aw8S 50 5 = (aw8A, 6, 0) := by kernel_rfl
theorem aw8_3 : centre8 aw8S 50 5 = (aw8B, 6, 0) := by kernel_rfl
theorem aw8_4 : (nine8 aw8S 50 5).1 = aw8C := by kernel_rfl
theorem aw8_5 : (nine8 aw8S 50 5).2.2 = 0 := by kernel_rfl
theorem aw8_6 : (nine8 aw8S 50 5).2.1 4 = 7 := by kernel_rfl
theorem aw8_7 : (nine8 aw8S 50 5).2.1 8 = 4 := by kernel_rfl
theorem aw8_8 : step8 aw8S 50 1 = (aw8S, 0, 1) := by kernel_rfl
theorem rdC_three (W : World) : RdC (W.alloc (.cells #[.int .i64 (-1), .int .i64 0, .int .i64 0, .int .i64 0, .int .i64 1, .int .i64 0] 32)) (W.alloc (.cells #[.int .i64 (-1), .int .i64 0, .int .i64 0, .int .i64 0, .int .i64 1, .int .i64 0] 32)).heap.size (some ⟨W.heap.size, 0, none⟩) [(-1, 0), (0, 0), (1, 0)] := fun j hj => by
  have hn := heap_alloc_new W (.cells #[.int .i64 (-1), .int .i64 0, .int .i64 0, .int .i64 0, .int .i64 1, .int .i64 0] 32 (0, 0))
  have hj3 : j = 0 ∨ j = 1 ∨ j = 2 := by simp at hj; omega
  rcases hj3 with rfl | rfl | rfl
  all_goals
    refine ⟨W.heap.size, 0, rfl, by simp, ?_, ?_⟩ <;> · rw [Lib.cell_of_heap hn]; rfl
set_option maxHeartbeats 16000000 in
set_option maxRecDepth 100000 in
theorem awake8_any (w : World) : Calls Try.prog 27 #[] w fun e w' => e = .returned (.bool true) ∧ Below w.heap.size w w' := by
  have hn := refNew6_any 50 w
  rw [show newL 50 = new6 from rfl, show newRoom 50 = 50 from rfl] at hn
  go_enter Try.func27, Try.ntmps27
  go_wp2_with fail
  refine hn.mono ?_
  clear hn
  intro e w1 h1
  obtain ⟨A1, c1, rfl, hcap1, N1, hb1⟩ := storeR_box7 h1
  have hal1 := (Below.refl w1.heap.size w1).alloc (Nat.le_refl _) (.cells #[.int .i64 (-1), .int .i64 0, .int .i64 0, .int .i64 0, .int .i64 1, .int .i64 0] 32)
  have HC1 := rdC_three w1
  have hB1 := Qt.more hb1 hb1.size hal1
  have hc2 := refMake7_any A1 new6 c1 50 (some ⟨w1.heap.size, 0, none⟩) [(-1, 0), (0, 0), (1, 0)] 3 2 _ (N1.below hal1) (by decide) hcap1 (by decide) HC1 (by decide) (by decide)
  rw [aw8_1] at hc2
  unfold storeV at hc2
  clear h1 HC1 N1
  go_wp2_with fail
  refine hc2.mono ?_
  generalize (w1.alloc (.cells #[.int .i64 (-1), .int .i64 0, .int .i64 0, .int .i64 0, .int .i64 1, .int .i64 0] 32)) = v1 at *
  intro e w2 h2
  obtain ⟨A2, c2, rfl, hcap2, N2, hb2⟩ := putR_box h2
  have hB2 := Qt.more hB1 hB1.size hb2
  have hal := (Below.refl w2.heap.size w2).alloc (Nat.le_refl _) (.cells #[.slice A2 aw8S.length c2, .int .i64 50] 27)
  have HS := Lib.hid (stB_new N2 hcap2 50)
  have HB := Lib.hid (Qt.more hB2 hB2.size hal)
  clear h2 hc2 hb1 hb2 hB1 hB2 N2 hal hal1
  go_wp2_with fail
  generalize (w2.alloc (.cells #[.slice A2 aw8S.length c2, .int .i64 50] 27)) = v2 at *
  generalize w2.heap.size = b2 at *
  have hc2 := step8_any A2 aw8S c2 50 5 v2 HS.out.rd (by decide) hcap2
  rw [aw8_2] at hc2
  unfold storeV at hc2
  refine hc2.mono ?_
  intro e w3 h
  obtain ⟨A3, c3, rfl, hcap3, N, hb⟩ := putR_box h
  have hal := (Below.refl w3.heap.size w3).alloc (Nat.le_refl _) (.cells #[.slice A3 aw8A.length c3, .int .i64 50] 27)
  have hb' := Qt.more (B := v2.heap.size) hb hb.size hal
  have HA3 := Lib.hid (stB_new N hcap3 50)
  have HS3 := Lib.hid (HS.out.below hb')
  have HB3 := Lib.hid (Qt.more HB.out HB.out.size hb')
  have s0 := HS3.out.s0
  have s1 := HS3.out.s1
  clear h hc2 hb hb' N hal HB HS
  go_wp2_with fail
  generalize (w3.alloc (.cells #[.slice A3 aw8A.length c3, .int .i64 50] 27)) = v3 at *
  generalize w3.heap.size = b3 at *
  have hc2 := centre8_any A2 aw8S c2 50 5 v3 HS3.out.rd (by decide) hcap2
  rw [aw8_3] at hc2
  unfold storeV at hc2
  clear s0 s1
  refine hc2.mono ?_
  intro e w4 h
  obtain ⟨A4, c4, rfl, hcap4, N, hb⟩ := putR_box h
  have hal := (Below.refl w4.heap.size w4).alloc (Nat.le_refl _) (.cells #[.slice A4 aw8B.length c4, .int .i64 50] 27)
  have hb' := Qt.more (B := v3.heap.size) hb hb.size hal
  have HD4 := Lib.hid (stB_new N hcap4 50)
  have HA4 := Lib.hid (HA3.out.below hb')
  have HS4 := Lib.hid (HS3.out.below hb')
  have HB4 := Lib.hid (Qt.more HB3.out HB3.out.size hb')
  have s0 := HS4.out.s0
  have s1 := HS4.out.s1
  clear h hc2 hb hb' N hal HA3 HB3 HS3
  go_wp2_with fail
  generalize (w4.alloc (.cells #[.slice A4 aw8B.length c4, .int .i64 50] 27)) = v4 at *
  generalize w4.heap.size = b4 at *
  have hc2 := nine8_any A2 aw8S c2 50 5 v4 HS4.out.rd (by decide) hcap2
  obtain ⟨z, hz⟩ : ∃ z, z = nine8 aw8S 50 5 := ⟨_, rfl⟩
  have z1 := aw8_4
  have z2 := aw8_5
  have z3 := aw8_6
  have z4 := aw8_7
  rw [← hz] at hc2 z1 z2 z3 z4
  clear hz
  obtain ⟨zl, f, ze⟩ := z
  simp only at z1 z2 z3 z4
  subst z1 z2
  have Z3 := Lib.hid z3
  have Z4 := Lib.hid z4
  clear z3 z4
  unfold storeV at hc2
  clear s0 s1
  refine hc2.mono ?_
  rintro e w5 ⟨A5, c5, rfl, hcap5, N, hb⟩
  have hal := (Below.refl w5.heap.size w5).alloc (Nat.le_refl _) (.cells #[.slice A5 aw8C.length c5, .int .i64 50] 27)
  have hal2 := hal.alloc hal.size (.cells #[.int .i64 (f 0), .int .i64 (f 1), .int .i64 (f 2), .int .i64 (f 3), .int .i64 (f 4), .int .i64 (f 5), .int .i64 (f 6), .int .i64 (f 7), .int .i64 (f 8)] 61)
  have hb' := Qt.more (B := v4.heap.size) hb hb.size hal2
  have HE5 := Lib.hid ((stB_new N hcap5 50).below ((Below.refl _ _).alloc (Nat.le_refl _) (.cells #[.int .i64 (f 0), .int .i64 (f 1), .int .i64 (f 2), .int .i64 (f 3), .int .i64 (f 4), .int .i64 (f 5), .int .i64 (f 6), .int .i64 (f 7), .int .i64 (f 8)] 61)))
  have hsz : (w5.alloc (.cells #[.slice A5 aw8C.length c5, .int .i64 50] 27)).heap.size = w5.heap.size + 1 := by simp
  have HN5 := Lib.hid (show N9 ((w5.alloc (.cells #[.slice A5 aw8C.length c5, .int .i64 50] 27)).alloc (.cells #[.int .i64 (f 0), .int .i64 (f 1), .int .i64 (f 2), .int .i64 (f 3), .int .i64 (f 4), .int .i64 (f 5), .int .i64 (f 6), .int .i64 (f 7), .int .i64 (f 8)] 61)) (w5.heap.size + 1) f from heap_new hsz)
  have HD5 := Lib.hid (HD4.out.below hb')
  have HA5 := Lib.hid (HA4.out.below hb')
  have HS5 := Lib.hid (HS4.out.below hb')
  have HB5 := Lib.hid (Qt.more HB4.out HB4.out.size hb')
  have s0 := HS5.out.s0
  have s1 := HS5.out.s1
  clear hc2 hb hb' N hal hal2 HA4 HB4 HS4 HD4 hsz
  go_wp2_with fail
  generalize ((w5.alloc (.cells #[.slice A5 aw8C.length c5, .int .i64 50] 27)).alloc (.cells #[.int .i64 (f 0), .int .i64 (f 1), .int .i64 (f 2), .int .i64 (f 3), .int .i64 (f 4), .int .i64 (f 5), .int .i64 (f 6), .int .i64 (f 7), .int .i64 (f 8)] 61)) = v5 at *
  generalize w5.heap.size = b5 at *
  have hc2 := step8_any A2 aw8S c2 50 1 v5 HS5.out.rd (by decide) hcap2
  rw [aw8_8] at hc2
  unfold storeV at hc2
  clear s0 s1
  refine hc2.mono ?_
  intro e w6 h
  obtain ⟨A6, c6, rfl, hcap6, N, hb⟩ := putR_box h
  have hbo := fun o => Qt.more (B := v5.heap.size) hb hb.size ((Below.refl w6.heap.size w6).alloc (Nat.le_refl _) o)
  have HB := Lib.hid (Qt.more HB5.out HB5.out.size (hbo (.cells #[.slice A6 aw8S.length c6, .int .i64 50] 27)))
  have haA : (aw8A.length : Int) = 7 := rfl
  have haB : (aw8B.length : Int) = 7 := rfl
  have haC : (aw8C.length : Int) = 8 := rfl
  have a0 := fun o => (HA5.out.below (hbo o)).s0
  have d0 := fun o => (HD5.out.below (hbo o)).s0
  have e0 := fun o => (HE5.out.below (hbo o)).s0
  have n4 := fun o => (HN5.out.below (hbo o)).c (p := 4) (by decide)
  have n8 := fun o => (HN5.out.below (hbo o)).c (p := 8) (by decide)
  simp only [Z3.out] at n4
  simp only [Z4.out] at n8
  obtain ⟨qa, oa, rfl, hla, hna⟩ := HA5.out.nd (by decide)
  obtain ⟨qd, od, rfl, hld, hnd⟩ := HD5.out.nd (by decide)
  obtain ⟨qe, oe, rfl, hle, hne⟩ := HE5.out.nd (by decide)
  obtain ⟨_, y1, y2, y3, y4, _⟩ := hna 6 (by decide)
  have ka1 : ∀ o, (w6.alloc o).cell? ⟨qa, oa + 6 * 6 + 1, none⟩ = some (.int .i64 0) := fun o => ((hbo o).cell hla).trans y1
  have ka2 : ∀ o, (w6.alloc o).cell? ⟨qa, oa + 6 * 6 + 2, none⟩ = some (.int .i64 1) := fun o => ((hbo o).cell hla).trans y2
  have ka3 : ∀ o, (w6.alloc o).cell? ⟨qa, oa + 6 * 6 + 3, none⟩ = some (.int .i64 0) := fun o => ((hbo o).cell hla).trans y3
  have ka4 : ∀ o, (w6.alloc o).cell? ⟨qa, oa + 6 * 6 + 4, none⟩ = some (.int .i64 1) := fun o => ((hbo o).cell hla).trans y4
  clear y1 y2 y3 y4
  obtain ⟨_, y1, y2, y3, y4, _⟩ := hnd 6 (by decide)
  have kd1 : ∀ o, (w6.alloc o).cell? ⟨qd, od + 6 * 6 + 1, none⟩ = some (.int .i64 0) := fun o => ((hbo o).cell hld).trans y1
  have kd2 : ∀ o, (w6.alloc o).cell? ⟨qd, od + 6 * 6 + 2, none⟩ = some (.int .i64 0) := fun o => ((hbo o).cell hld).trans y2
  have kd3 : ∀ o, (w6.alloc o).cell? ⟨qd, od + 6 * 6 + 3, none⟩ = some (.int .i64 1) := fun o => ((hbo o).cell hld).trans y3
  have kd4 : ∀ o, (w6.alloc o).cell? ⟨qd, od + 6 * 6 + 4, none⟩ = some (.int .i64 1) := fun o => ((hbo o).cell hld).trans y4
  clear y1 y2 y3 y4
  obtain ⟨_, y1, y2, y3, y4, _⟩ := hne 4 (by decide)
  have ke1 : ∀ o, (w6.alloc o).cell? ⟨qe, oe + 4 * 6 + 1, none⟩ = some (.int .i64 1) := fun o => ((hbo o).cell hle).trans y1
  have ke2 : ∀ o, (w6.alloc o).cell? ⟨qe, oe + 4 * 6 + 2, none⟩ = some (.int .i64 1) := fun o => ((hbo o).cell hle).trans y2
  have ke3 : ∀ o, (w6.alloc o).cell? ⟨qe, oe + 4 * 6 + 3, none⟩ = some (.int .i64 0) := fun o => ((hbo o).cell hle).trans y3
  have ke4 : ∀ o, (w6.alloc o).cell? ⟨qe, oe + 4 * 6 + 4, none⟩ = some (.int .i64 0) := fun o => ((hbo o).cell hle).trans y4
  clear y1 y2 y3 y4
  obtain ⟨_, y1, y2, y3, y4, _⟩ := hne 7 (by decide)
  have kf1 : ∀ o, (w6.alloc o).cell? ⟨qe, oe + 7 * 6 + 1, none⟩ = some (.int .i64 0) := fun o => ((hbo o).cell hle).trans y1
  have kf2 : ∀ o, (w6.alloc o).cell? ⟨qe, oe + 7 * 6 + 2, none⟩ = some (.int .i64 0) := fun o => ((hbo o).cell hle).trans y2
  have kf3 : ∀ o, (w6.alloc o).cell? ⟨qe, oe + 7 * 6 + 3, none⟩ = some (.int .i64 1) := fun o => ((hbo o).cell hle).trans y3
  have kf4 : ∀ o, (w6.alloc o).cell? ⟨qe, oe + 7 * 6 + 4, none⟩ = some (.int .i64 1) := fun o => ((hbo o).cell hle).trans y4
  clear y1 y2 y3 y4
  have ea := fun W => eqlK (0, 1, 0, 1) (0, 1, 0, 1) W
  have eb := fun W => eqlK (0, 0, 1, 1) (0, 0, 1, 1) W
  have ec := fun W => eqlK (1, 1, 0, 0) (1, 1, 0, 0) W
  dsimp only at ea eb ec
  clear h N hc2 hb hbo HB5 HA5 HD5 HE5 HN5 HS5 hna hnd hne Z3 Z4
  go_wp2_with fail
  go_ret
  exact ⟨rfl, HB.out⟩
end Go.Proofs.Ytikgnjcjbjafaaa
