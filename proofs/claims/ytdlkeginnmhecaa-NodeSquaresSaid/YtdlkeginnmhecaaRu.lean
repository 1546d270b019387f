/-
  The law NodeSquares.
-/
import Derived.Test.YtdlkeginnmhecaaRt
namespace Go.Proofs.Ytdlkeginnmhecaa
set_option linter.unusedVariables false
set_option linter.unusedSimpArgs false
open Go.RowKit Go.Sort

theorem bits_any (A : Option Addr) (l : List Nd) (c : Nat) (room : Int) (hRt : Right6 l room) (hc : l.length ≤ c) : ∀ j : Nat, j ≤ 4 → ∀ n, n < l.length → (l.getD n deadN).1 = j → ∀ w, RdN w w.heap.size A l →
    Calls Try.prog 26 #[storeV A l.length c room, .int .i64 n] w fun e w' => e = .returned (.string (txB (bitsN l j n))) ∧ Below w.heap.size w w' := by
  intro j
  induction j with
  | zero => intro _ n hn hlev w hR; exact bits_0 A l c room hRt n hn hlev w hR
  | succ j ih => intro hj n hn hlev w hR; exact bits_succ A l c room hRt hc j (by omega) (ih (by omega)) n hn (by rw [hlev]; omega) w hR

theorem sum_step (X : List UInt8) (hX : ∀ c ∈ X, c = 48 ∨ c = 49) (k : Nat) (hk : k < X.length) : (X[k] = 48 ∧ sumB (X.take (k + 1)) = sumB (X.take k)) ∨ (X[k] = 49 ∧ sumB (X.take (k + 1)) = sumB (X.take k) + 1) := by
  rw [List.take_succ_eq_append_getElem hk, sumB_append]
  rcases hX X[k] (List.getElem_mem hk) with h | h
  · left
    rw [h]
    exact ⟨rfl, rfl⟩
  · right
    rw [h]
    exact ⟨rfl, rfl⟩
theorem sum_take (X : List UInt8) (k : Nat) : sumB (X.take k) ≤ sumB X := by
  have h := sumB_append (X.take k) (X.drop k)
  rw [List.take_append_drop] at h
  omega

set_option maxHeartbeats 16000000 in
set_option maxRecDepth 100000 in
theorem nodeSquares_law (room : Int) (A : Option Addr) (raw : List Raw5) (c : Nat) (r r2 : Raw5) (w : World) (hI : I64 room) (hR : RdR w w.heap.size A raw) (hl : raw.length ≤ 9223372036854775807) (hF : ∀ j, j < raw.length → Fine5 (raw.getD j dead5)) (hr : Fine5 r) (hr2 : Fine5 r2) :
    Calls Try.prog 5 #[.int .i64 room, .slice A raw.length c, rawV r, rawV r2] w fun e w' => e = .returned (.bool true) ∧ Below w.heap.size w w' := by
  obtain ⟨hS, hSl⟩ := store_right room raw
  have hpb := pick6_bd room 60 (by decide)
  have hst := fun W hR' => store6_any A raw c room W hR' hl hI hF
  obtain ⟨R, hRR⟩ : ∃ R, R = 2 + pick6 room 60 := ⟨_, rfl⟩
  rw [← hRR] at hS hst
  obtain ⟨l, hll⟩ : ∃ l, l = store6 room raw := ⟨_, rfl⟩
  rw [← hll] at hS hst hSl
  have hkf := kids_fit hS (by omega) r
  have hkd := fun A2 c2 W hW => kids6_any A2 l c2 R r W hW (by omega) hr
  obtain ⟨k, hk⟩ : ∃ k, k = kids6 l r := ⟨_, rfl⟩
  rw [← hk] at hkf hkd
  have hcase := once hS hkf
  have h2l := hS.two
  have hRb : R ≤ 1000 ∧ 0 ≤ R := by omega
  have HC := Lib.hid hcase
  have HS := Lib.hid hS
  have HSl := Lib.hid hSl
  have HRR := Lib.hid hR
  have heql := eqlK
  unfold rawV
  unfold storeV kidsV rawV at hkd
  clear hcase hS hSl hR hpb hRR hll hI hF hk hkf hr
  have HR2 := Lib.hid hr2
  clear hr2
  go_enter Try.func5, Try.ntmps5
  go_wp2_with fail
  have hal := (Below.refl w.heap.size w).alloc (Nat.le_refl _) (.cells #[.int .i64 r.1, .int .i64 r.2.1, .int .i64 r.2.2.1, .int .i64 r.2.2.2.1, .int .i64 r.2.2.2.2] 27)
  have hal2 := (Below.refl (w.alloc (.cells #[.int .i64 r.1, .int .i64 r.2.1, .int .i64 r.2.2.1, .int .i64 r.2.2.2.1, .int .i64 r.2.2.2.2] 27)).heap.size (w.alloc (.cells #[.int .i64 r.1, .int .i64 r.2.1, .int .i64 r.2.2.1, .int .i64 r.2.2.2.1, .int .i64 r.2.2.2.2] 27))).alloc (Nat.le_refl _) (.cells #[.int .i64 r2.1, .int .i64 r2.2.1, .int .i64 r2.2.2.1, .int .i64 r2.2.2.2.1, .int .i64 r2.2.2.2.2] 27)
  have HQ := Lib.hid ((rawB_new (w := w) r).below hal2)
  have hszw : (w.alloc (.cells #[.int .i64 r.1, .int .i64 r.2.1, .int .i64 r.2.2.1, .int .i64 r.2.2.2.1, .int .i64 r.2.2.2.2] 27)).heap.size = w.heap.size + 1 := by simp
  have hPn := rawB_new (w := (w.alloc (.cells #[.int .i64 r.1, .int .i64 r.2.1, .int .i64 r.2.2.1, .int .i64 r.2.2.2.1, .int .i64 r.2.2.2.2] 27))) r2
  rw [hszw] at hPn
  have HP := Lib.hid hPn
  have hal := hal.alloc hal.size (.cells #[.int .i64 r2.1, .int .i64 r2.2.1, .int .i64 r2.2.2.1, .int .i64 r2.2.2.2.1, .int .i64 r2.2.2.2.2] 27)
  have HB := Lib.hid hal
  have HR1 := Lib.hid ((HRR.out.below hal (Nat.le_refl _)).more hal.size)
  clear HRR hal hal2 hPn hszw
  generalize ((w.alloc (.cells #[.int .i64 r.1, .int .i64 r.2.1, .int .i64 r.2.2.1, .int .i64 r.2.2.2.1, .int .i64 r.2.2.2.2] 27)).alloc (.cells #[.int .i64 r2.1, .int .i64 r2.2.1, .int .i64 r2.2.2.1, .int .i64 r2.2.2.2.1, .int .i64 r2.2.2.2.2] 27)) = v0 at *
  generalize hb0 : w.heap.size = b0 at *
  generalize b0 + 1 = b1 at *
  refine (awake6_any v0).mono ?_
  rintro e w1 ⟨rfl, hb1⟩
  have hst1 := hst w1 ((HR1.out.below hb1 (Nat.le_refl _)).more hb1.size)
  have HQ1 := Lib.hid (HQ.out.below hb1)
  have HP1 := Lib.hid (HP.out.below hb1)
  have HB1 := Lib.hid (Qt.more HB.out (hb0 ▸ HB.out.size) hb1)
  clear hst HR1 HQ HP HB hb1
  go_wp2_with fail
  refine hst1.mono ?_
  intro e w2 h
  obtain ⟨A2, c2, rfl, hcap2, N2, hb2⟩ := storeR_box h
  have hal := (Below.refl w2.heap.size w2).alloc (Nat.le_refl _) (.cells #[.slice A2 l.length c2, .int .i64 R] 25)
  have HS2 := Lib.hid (stB_new N2 hcap2 R)
  have HQ2 := Lib.hid ((HQ1.out.below hb2).below hal)
  have HP2 := Lib.hid ((HP1.out.below hb2).below hal)
  have hB2 := Qt.more HB1.out (hb0 ▸ HB1.out.size) hb2
  have HB2 := Lib.hid (Qt.more hB2 (hb0 ▸ hB2.size) hal)
  clear h hst1 hb2 HB1 HQ1 HP1 N2 hal hB2
  go_wp2_with fail
  generalize (w2.alloc (.cells #[.slice A2 l.length c2, .int .i64 R] 25)) = v2 at *
  generalize w2.heap.size = b2 at *
  have hkd2 := hkd A2 c2
  have hin2 := fun W hW => nodeIntern_any A2 l c2 R k W hW (by have := HSl.out; omega) hcap2
  obtain ⟨⟨lb, nb, eb⟩, hp⟩ : ∃ p, p = intern6 l R k := ⟨_, rfl⟩
  rw [← hp] at hin2
  have HPP := Lib.hid hp
  unfold storeV kidsV at hin2
  clear hp hkd
  refine region_calm_to (fun W => Below v2.heap.size v2 W) (fun (a0 a9 : Act) (w9 : World) => ∃ (A9 : Option Addr) (c9 b9 : Nat), a9 = ((((((((((((a0.put (some 26) (.agg #[.slice A2 l.length c2, .int .i64 R])).put (some 27) (.agg #[.slice A2 l.length c2, .int .i64 R])).put (some 28) (.agg #[.int .i64 r.1, .int .i64 r.2.1, .int .i64 r.2.2.1, .int .i64 r.2.2.2.1, .int .i64 r.2.2.2.2])).put (some 29) (.agg #[.int .i64 k.1, .int .i64 k.2.1, .int .i64 k.2.2.1, .int .i64 k.2.2.2])).put (some 30) (.tuple #[.agg #[.slice A9 lb.length c9, .int .i64 R], .int .i64 nb, .int .i64 eb])).put (some 25) (.tuple #[.agg #[.slice A9 lb.length c9, .int .i64 R], .int .i64 nb, .int .i64 eb])).put (some 31) (.agg #[.slice A9 lb.length c9, .int .i64 R])).put (some 32) (.int .i64 nb)).put (some 33) (.int .i64 eb)).put (some 11) (.pointer (some ⟨b9, 0, none⟩))).put (some 12) (.int .i64 nb)).put (some 13) (.int .i64 eb)) ∧ StB w9 b9 A9 lb c9 R ∧ Below v2.heap.size v2 w9) (.calm 0 (.calm 1 (.calm 2 (.two 3 9 (.two 4 9 (.calm 5 (.calm 6 (.calm 7 (.calm 8 (.only 9 (.only 10 (.only 11 (.only 12 .done)))))))) (.only 4 (.calm 5 (.calm 6 (.calm 7 (.calm 8 (.only 10 (.only 11 (.only 12 .done))))))))) (.only 3 (.only 4 (.calm 5 (.calm 6 (.calm 7 (.calm 8 (.only 10 (.only 11 (.only 12 .done))))))))))))) (by kernel_rfl) (by kernel_rfl) (by kernel_rfl) (by rfl) (below_drew _) ?_ ?_
  · skip
    refine ⟨_, _, (.agg #[.slice A2 l.length c2, .int .i64 R]), rfl, rfl, ⟨rfl, fun W hW => by have s0 := (HS2.out.below hW).s0; have s1 := (HS2.out.below hW).s1; simp only [execOp]; go_simp; done⟩, ?_⟩
    simp only [Act.put, List.setIfInBounds_toArray, List.set_cons_succ, List.set_cons_zero]
    refine ⟨_, _, (.agg #[.slice A2 l.length c2, .int .i64 R]), rfl, rfl, ⟨rfl, fun W hW => by have s0 := (HS2.out.below hW).s0; have s1 := (HS2.out.below hW).s1; simp only [execOp]; go_simp; done⟩, ?_⟩
    simp only [Act.put, List.setIfInBounds_toArray, List.set_cons_succ, List.set_cons_zero]
    refine ⟨_, _, (.agg #[.int .i64 r.1, .int .i64 r.2.1, .int .i64 r.2.2.1, .int .i64 r.2.2.2.1, .int .i64 r.2.2.2.2]), rfl, rfl, ⟨rfl, fun W hW => by have r0 := (HQ2.out.below hW).c0; have r1 := (HQ2.out.below hW).c1; have r2 := (HQ2.out.below hW).c2; have r3 := (HQ2.out.below hW).c3; have r4 := (HQ2.out.below hW).c4; simp only [execOp]; go_simp; done⟩, ?_⟩
    simp only [Act.put, List.setIfInBounds_toArray, List.set_cons_succ, List.set_cons_zero]
    constructor
    · refine ⟨_, rfl, ?_⟩
      go_wp2_with fail
      refine (hkd2 _ (HS2.out.rd.below (below_drew _))).mono ?_
      rintro e w6 ⟨rfl, hb6⟩
      have hB6 := Qt.more (below_drew _) (Nat.le_refl _) hb6
      clear hb6
      go_wp2_with fail
      refine ⟨rfl, hB6, ?_⟩
      constructor
      · refine ⟨_, rfl, ?_⟩
        go_wp2_with fail
        refine (hin2 _ (HS2.out.rd.below hB6)).mono ?_
        intro e w9 h
        obtain ⟨A9, c9, rfl, hcap9, N9, hb⟩ := putR_box h
        have hBc := Qt.more hB6 hB6.size hb
        have hS9 := stB_new N9 hcap9 R
        have hB9 := hBc.alloc hBc.size (.cells #[.slice A9 lb.length c9, .int .i64 R] 25)
        have hB8 := hBc.alloc hBc.size (.cells #[.slice none 0 0, .int .i64 0] 25)
        clear h hb
        go_wp2_with fail
        refine ⟨rfl, hBc, ?_⟩
        refine ⟨_, _, (.tuple #[.agg #[.slice A9 lb.length c9, .int .i64 R], .int .i64 nb, .int .i64 eb]), rfl, rfl, ⟨rfl, fun W hW => by first | exact ⟨rfl, rfl⟩ | (simp only [Act.eval, execOp]; go_simp; try exact ⟨rfl, rfl⟩)⟩, ?_⟩
        simp only [Act.put, List.setIfInBounds_toArray, List.set_cons_succ, List.set_cons_zero]
        refine ⟨_, _, (.agg #[.slice A9 lb.length c9, .int .i64 R]), rfl, rfl, ⟨rfl, fun W hW => by first | exact ⟨rfl, rfl⟩ | (simp only [Act.eval, execOp]; go_simp; try exact ⟨rfl, rfl⟩)⟩, ?_⟩
        simp only [Act.put, List.setIfInBounds_toArray, List.set_cons_succ, List.set_cons_zero]
        refine ⟨_, _, .int .i64 nb, rfl, rfl, ⟨rfl, fun W hW => by first | exact ⟨rfl, rfl⟩ | (simp only [Act.eval, execOp]; go_simp; try exact ⟨rfl, rfl⟩)⟩, ?_⟩
        simp only [Act.put, List.setIfInBounds_toArray, List.set_cons_succ, List.set_cons_zero]
        refine ⟨_, _, .int .i64 eb, rfl, rfl, ⟨rfl, fun W hW => by first | exact ⟨rfl, rfl⟩ | (simp only [Act.eval, execOp]; go_simp; try exact ⟨rfl, rfl⟩)⟩, ?_⟩
        simp only [Act.put, List.setIfInBounds_toArray, List.set_cons_succ, List.set_cons_zero]
        refine ⟨_, rfl, ?_⟩
        go_wp2_with fail
        refine ⟨rfl, hB8, ?_⟩
        refine ⟨_, rfl, ?_⟩
        go_wp2_with fail
        refine ⟨rfl, hB9, ?_⟩
        refine ⟨_, rfl, ?_⟩
        go_wp2_with fail
        refine ⟨rfl, hB9, ?_⟩
        refine ⟨_, rfl, ?_⟩
        go_wp2_with fail
        refine ⟨rfl, hB9, ?_⟩
        show ∃ (A9 : Option Addr) (c9 b9 : Nat), _
        refine ⟨A9, c9, w9.heap.size, ?_, hS9, hB9⟩
        first | rfl | simp only [Act.put, List.setIfInBounds_toArray, List.set_cons_succ, List.set_cons_zero]
      · refine ⟨_, rfl, ?_⟩
        have hB8 := hB6.alloc hB6.size (.cells #[.slice none 0 0, .int .i64 0] 25)
        have hrow8 := heap_alloc_new w6 (.cells #[.slice none 0 0, .int .i64 0] 25 (0, 0))
        have hblk : v2.heap.size ≤ w6.heap.size := hB6.size
        go_wp2_with fail
        refine ⟨rfl, hB8, ?_⟩
        refine ⟨_, rfl, ?_⟩
        go_wp2_with fail
        refine (hin2 _ (HS2.out.rd.below hB8)).mono ?_
        intro e w9 h
        obtain ⟨A9, c9, rfl, hcap9, N9, hb⟩ := putR_box h
        have hBc := Qt.more hB8 hB8.size hb
        have hrow9 := (hb.block _ (lt_heap6 hrow8)).trans hrow8
        have hS9 := stB_put (room := R) hrow9 N9 hcap9
        have hB9 := (hBc.setCell (p := ⟨w6.heap.size, 0, none⟩) hblk (.slice A9 lb.length c9)).setCell (p := ⟨w6.heap.size, 1, none⟩) hblk (.int .i64 R)
        have f0 : w9.frozen? ⟨w6.heap.size, 0, none⟩ = false := Lib.frozen_of_heap hrow9 0
        have f1 : w9.frozen? ⟨w6.heap.size, 1, none⟩ = false := Lib.frozen_of_heap hrow9 1
        have g0 : w9.cell? ⟨w6.heap.size, 0, none⟩ = some (.slice none 0 0) := by rw [Lib.cell_of_heap hrow9]; rfl
        have g1 : w9.cell? ⟨w6.heap.size, 1, none⟩ = some (.int .i64 0) := by rw [Lib.cell_of_heap hrow9]; rfl
        clear h hb hrow9 hrow8 hblk
        go_wp2_with fail
        refine ⟨rfl, hBc, ?_⟩
        refine ⟨_, _, (.tuple #[.agg #[.slice A9 lb.length c9, .int .i64 R], .int .i64 nb, .int .i64 eb]), rfl, rfl, ⟨rfl, fun W hW => by first | exact ⟨rfl, rfl⟩ | (simp only [Act.eval, execOp]; go_simp; try exact ⟨rfl, rfl⟩)⟩, ?_⟩
        simp only [Act.put, List.setIfInBounds_toArray, List.set_cons_succ, List.set_cons_zero]
        refine ⟨_, _, (.agg #[.slice A9 lb.length c9, .int .i64 R]), rfl, rfl, ⟨rfl, fun W hW => by first | exact ⟨rfl, rfl⟩ | (simp only [Act.eval, execOp]; go_simp; try exact ⟨rfl, rfl⟩)⟩, ?_⟩
        simp only [Act.put, List.setIfInBounds_toArray, List.set_cons_succ, List.set_cons_zero]
        refine ⟨_, _, .int .i64 nb, rfl, rfl, ⟨rfl, fun W hW => by first | exact ⟨rfl, rfl⟩ | (simp only [Act.eval, execOp]; go_simp; try exact ⟨rfl, rfl⟩)⟩, ?_⟩
        simp only [Act.put, List.setIfInBounds_toArray, List.set_cons_succ, List.set_cons_zero]
        refine ⟨_, _, .int .i64 eb, rfl, rfl, ⟨rfl, fun W hW => by first | exact ⟨rfl, rfl⟩ | (simp only [Act.eval, execOp]; go_simp; try exact ⟨rfl, rfl⟩)⟩, ?_⟩
        simp only [Act.put, List.setIfInBounds_toArray, List.set_cons_succ, List.set_cons_zero]
        refine ⟨_, rfl, ?_⟩
        go_wp2_with fail
        refine ⟨rfl, hB9, ?_⟩
        refine ⟨_, rfl, ?_⟩
        go_wp2_with fail
        refine ⟨rfl, hB9, ?_⟩
        refine ⟨_, rfl, ?_⟩
        go_wp2_with fail
        refine ⟨rfl, hB9, ?_⟩
        show ∃ (A9 : Option Addr) (c9 b9 : Nat), _
        refine ⟨A9, c9, w6.heap.size, ?_, hS9, hB9⟩
        first | rfl | simp only [Act.put, List.setIfInBounds_toArray, List.set_cons_succ, List.set_cons_zero]
    · refine ⟨_, rfl, ?_⟩
      have hB8 := (below_drew v2).alloc (Nat.le_refl _) (.cells #[.slice none 0 0, .int .i64 0] 25)
      have hrow8 : (v2.drew.alloc (.cells #[.slice none 0 0, .int .i64 0] 25 (0, 0))).heap[v2.heap.size]? = _ := heap_alloc_new v2.drew (.cells #[.slice none 0 0, .int .i64 0] 25 (0, 0))
      have hblk : v2.heap.size ≤ v2.heap.size := Nat.le_refl _
      go_wp2_with fail
      refine ⟨rfl, hB8, ?_⟩
      refine ⟨_, rfl, ?_⟩
      go_wp2_with fail
      refine (hkd2 _ (HS2.out.rd.below hB8)).mono ?_
      rintro e w6 ⟨rfl, hb6⟩
      have hB6 := Qt.more hB8 hB8.size hb6
      have hrow6 := (hb6.block _ (lt_heap6 hrow8)).trans hrow8
      clear hb6
      go_wp2_with fail
      refine ⟨rfl, hB6, ?_⟩
      refine ⟨_, rfl, ?_⟩
      go_wp2_with fail
      refine (hin2 _ (HS2.out.rd.below hB6)).mono ?_
      intro e w9 h
      obtain ⟨A9, c9, rfl, hcap9, N9, hb⟩ := putR_box h
      have hBc := Qt.more hB6 hB6.size hb
      have hrow9 := (hb.block _ (lt_heap6 hrow6)).trans hrow6
      have hS9 := stB_put (room := R) hrow9 N9 hcap9
      have hB9 := (hBc.setCell (p := ⟨v2.heap.size, 0, none⟩) hblk (.slice A9 lb.length c9)).setCell (p := ⟨v2.heap.size, 1, none⟩) hblk (.int .i64 R)
      have f0 : w9.frozen? ⟨v2.heap.size, 0, none⟩ = false := Lib.frozen_of_heap hrow9 0
      have f1 : w9.frozen? ⟨v2.heap.size, 1, none⟩ = false := Lib.frozen_of_heap hrow9 1
      have g0 : w9.cell? ⟨v2.heap.size, 0, none⟩ = some (.slice none 0 0) := by rw [Lib.cell_of_heap hrow9]; rfl
      have g1 : w9.cell? ⟨v2.heap.size, 1, none⟩ = some (.int .i64 0) := by rw [Lib.cell_of_heap hrow9]; rfl
      clear h hb hrow9 hrow6 hblk
      go_wp2_with fail
      refine ⟨rfl, hBc, ?_⟩
      refine ⟨_, _, (.tuple #[.agg #[.slice A9 lb.length c9, .int .i64 R], .int .i64 nb, .int .i64 eb]), rfl, rfl, ⟨rfl, fun W hW => by first | exact ⟨rfl, rfl⟩ | (simp only [Act.eval, execOp]; go_simp; try exact ⟨rfl, rfl⟩)⟩, ?_⟩
      simp only [Act.put, List.setIfInBounds_toArray, List.set_cons_succ, List.set_cons_zero]
      refine ⟨_, _, (.agg #[.slice A9 lb.length c9, .int .i64 R]), rfl, rfl, ⟨rfl, fun W hW => by first | exact ⟨rfl, rfl⟩ | (simp only [Act.eval, execOp]; go_simp; try exact ⟨rfl, rfl⟩)⟩, ?_⟩
      simp only [Act.put, List.setIfInBounds_toArray, List.set_cons_succ, List.set_cons_zero]
      refine ⟨_, _, .int .i64 nb, rfl, rfl, ⟨rfl, fun W hW => by first | exact ⟨rfl, rfl⟩ | (simp only [Act.eval, execOp]; go_simp; try exact ⟨rfl, rfl⟩)⟩, ?_⟩
      simp only [Act.put, List.setIfInBounds_toArray, List.set_cons_succ, List.set_cons_zero]
      refine ⟨_, _, .int .i64 eb, rfl, rfl, ⟨rfl, fun W hW => by first | exact ⟨rfl, rfl⟩ | (simp only [Act.eval, execOp]; go_simp; try exact ⟨rfl, rfl⟩)⟩, ?_⟩
      simp only [Act.put, List.setIfInBounds_toArray, List.set_cons_succ, List.set_cons_zero]
      refine ⟨_, rfl, ?_⟩
      go_wp2_with fail
      refine ⟨rfl, hB9, ?_⟩
      refine ⟨_, rfl, ?_⟩
      go_wp2_with fail
      refine ⟨rfl, hB9, ?_⟩
      refine ⟨_, rfl, ?_⟩
      go_wp2_with fail
      refine ⟨rfl, hB9, ?_⟩
      show ∃ (A9 : Option Addr) (c9 b9 : Nat), _
      refine ⟨A9, c9, v2.heap.size, ?_, hS9, hB9⟩
      first | rfl | simp only [Act.put, List.setIfInBounds_toArray, List.set_cons_succ, List.set_cons_zero]
  rintro a9 v3 ⟨A3, c3, b3, rfl, hS3, hb3⟩
  simp only [Act.put, List.setIfInBounds_toArray, List.set_cons_succ, List.set_cons_zero]
  have HP3 := Lib.hid (HP2.out.below hb3)
  have HB3 := Lib.hid (Qt.more HB2.out (hb0 ▸ HB2.out.size) hb3)
  have HS3 := Lib.hid hS3
  have hcap3 := hS3.cap
  clear hin2 hkd2 HS2 HQ2 HP2 HB2 hS3 hb3
  rcases HC.out with ⟨l1, n, HO⟩ | ⟨e1, e2⟩
  · have hq := HPP.out
    rw [HO.one, Prod.mk.injEq, Prod.mk.injEq] at hq
    obtain ⟨rfl, rfl, rfl⟩ := hq
    go_wp2_with fail
    have h1s : lb.length ≤ 43 := by have := HO.len; have := HSl.out; omega
    have hkf2 := kids_fit HO.r1 h1s r2
    have hkd3 := fun W hW => kids6_any A3 lb c3 R r2 W hW (by omega) HR2.out
    obtain ⟨K2, hK2⟩ : ∃ K2, K2 = kids6 lb r2 := ⟨_, rfl⟩
    rw [← hK2] at hkf2 hkd3
    have HC2 := Lib.hid (once HO.r1 hkf2)
    have hin3 := fun W hW => nodeIntern_any A3 lb c3 R K2 W hW (by omega) hcap3
    obtain ⟨⟨lc, mc, ec⟩, hp⟩ : ∃ p, p = intern6 lb R K2 := ⟨_, rfl⟩
    rw [← hp] at hin3
    have HPP2 := Lib.hid hp
    have HO1 := Lib.hid HO
    unfold storeV kidsV at hin3
    unfold storeV kidsV rawV at hkd3
    clear hp hK2 hkf2 HO
    refine region_calm_to (fun W => Below v3.heap.size v3 W) (fun (a0 a9 : Act) (w9 : World) => ∃ (A9 : Option Addr) (c9 b9 : Nat), a9 = ((((((((((((a0.put (some 42) (.agg #[.slice A3 lb.length c3, .int .i64 R])).put (some 43) (.agg #[.slice A3 lb.length c3, .int .i64 R])).put (some 44) (.agg #[.int .i64 r2.1, .int .i64 r2.2.1, .int .i64 r2.2.2.1, .int .i64 r2.2.2.2.1, .int .i64 r2.2.2.2.2])).put (some 45) (.agg #[.int .i64 K2.1, .int .i64 K2.2.1, .int .i64 K2.2.2.1, .int .i64 K2.2.2.2])).put (some 46) (.tuple #[.agg #[.slice A9 lc.length c9, .int .i64 R], .int .i64 mc, .int .i64 ec])).put (some 41) (.tuple #[.agg #[.slice A9 lc.length c9, .int .i64 R], .int .i64 mc, .int .i64 ec])).put (some 47) (.agg #[.slice A9 lc.length c9, .int .i64 R])).put (some 48) (.int .i64 mc)).put (some 49) (.int .i64 ec)).put (some 14) (.pointer (some ⟨b9, 0, none⟩))).put (some 15) (.int .i64 mc)).put (some 16) (.int .i64 ec)) ∧ StB w9 b9 A9 lc c9 R ∧ Below v3.heap.size v3 w9) (.calm 0 (.calm 1 (.calm 2 (.two 3 9 (.two 4 9 (.calm 5 (.calm 6 (.calm 7 (.calm 8 (.only 9 (.only 10 (.only 11 (.only 12 .done)))))))) (.only 4 (.calm 5 (.calm 6 (.calm 7 (.calm 8 (.only 10 (.only 11 (.only 12 .done))))))))) (.only 3 (.only 4 (.calm 5 (.calm 6 (.calm 7 (.calm 8 (.only 10 (.only 11 (.only 12 .done))))))))))))) (by kernel_rfl) (by kernel_rfl) (by kernel_rfl) (by rfl) (below_drew _) ?_ ?_
    · skip
      refine ⟨_, _, (.agg #[.slice A3 lb.length c3, .int .i64 R]), rfl, rfl, ⟨rfl, fun W hW => by have s0 := (HS3.out.below hW).s0; have s1 := (HS3.out.below hW).s1; simp only [execOp]; go_simp; done⟩, ?_⟩
      simp only [Act.put, List.setIfInBounds_toArray, List.set_cons_succ, List.set_cons_zero]
      refine ⟨_, _, (.agg #[.slice A3 lb.length c3, .int .i64 R]), rfl, rfl, ⟨rfl, fun W hW => by have s0 := (HS3.out.below hW).s0; have s1 := (HS3.out.below hW).s1; simp only [execOp]; go_simp; done⟩, ?_⟩
      simp only [Act.put, List.setIfInBounds_toArray, List.set_cons_succ, List.set_cons_zero]
      refine ⟨_, _, (.agg #[.int .i64 r2.1, .int .i64 r2.2.1, .int .i64 r2.2.2.1, .int .i64 r2.2.2.2.1, .int .i64 r2.2.2.2.2]), rfl, rfl, ⟨rfl, fun W hW => by have r0 := (HP3.out.below hW).c0; have r1 := (HP3.out.below hW).c1; have r2 := (HP3.out.below hW).c2; have r3 := (HP3.out.below hW).c3; have r4 := (HP3.out.below hW).c4; simp only [execOp]; go_simp; done⟩, ?_⟩
      simp only [Act.put, List.setIfInBounds_toArray, List.set_cons_succ, List.set_cons_zero]
      constructor
      · refine ⟨_, rfl, ?_⟩
        go_wp2_with fail
        refine (hkd3 _ (HS3.out.rd.below (below_drew _))).mono ?_
        rintro e w6 ⟨rfl, hb6⟩
        have hB6 := Qt.more (below_drew _) (Nat.le_refl _) hb6
        clear hb6
        go_wp2_with fail
        refine ⟨rfl, hB6, ?_⟩
        constructor
        · refine ⟨_, rfl, ?_⟩
          go_wp2_with fail
          refine (hin3 _ (HS3.out.rd.below hB6)).mono ?_
          intro e w9 h
          obtain ⟨A9, c9, rfl, hcap9, N9, hb⟩ := putR_box h
          have hBc := Qt.more hB6 hB6.size hb
          have hS9 := stB_new N9 hcap9 R
          have hB9 := hBc.alloc hBc.size (.cells #[.slice A9 lc.length c9, .int .i64 R] 25)
          have hB8 := hBc.alloc hBc.size (.cells #[.slice none 0 0, .int .i64 0] 25)
          clear h hb
          go_wp2_with fail
          refine ⟨rfl, hBc, ?_⟩
          refine ⟨_, _, (.tuple #[.agg #[.slice A9 lc.length c9, .int .i64 R], .int .i64 mc, .int .i64 ec]), rfl, rfl, ⟨rfl, fun W hW => by first | exact ⟨rfl, rfl⟩ | (simp only [Act.eval, execOp]; go_simp; try exact ⟨rfl, rfl⟩)⟩, ?_⟩
          simp only [Act.put, List.setIfInBounds_toArray, List.set_cons_succ, List.set_cons_zero]
          refine ⟨_, _, (.agg #[.slice A9 lc.length c9, .int .i64 R]), rfl, rfl, ⟨rfl, fun W hW => by first | exact ⟨rfl, rfl⟩ | (simp only [Act.eval, execOp]; go_simp; try exact ⟨rfl, rfl⟩)⟩, ?_⟩
          simp only [Act.put, List.setIfInBounds_toArray, List.set_cons_succ, List.set_cons_zero]
          refine ⟨_, _, .int .i64 mc, rfl, rfl, ⟨rfl, fun W hW => by first | exact ⟨rfl, rfl⟩ | (simp only [Act.eval, execOp]; go_simp; try exact ⟨rfl, rfl⟩)⟩, ?_⟩
          simp only [Act.put, List.setIfInBounds_toArray, List.set_cons_succ, List.set_cons_zero]
          refine ⟨_, _, .int .i64 ec, rfl, rfl, ⟨rfl, fun W hW => by first | exact ⟨rfl, rfl⟩ | (simp only [Act.eval, execOp]; go_simp; try exact ⟨rfl, rfl⟩)⟩, ?_⟩
          simp only [Act.put, List.setIfInBounds_toArray, List.set_cons_succ, List.set_cons_zero]
          refine ⟨_, rfl, ?_⟩
          go_wp2_with fail
          refine ⟨rfl, hB8, ?_⟩
          refine ⟨_, rfl, ?_⟩
          go_wp2_with fail
          refine ⟨rfl, hB9, ?_⟩
          refine ⟨_, rfl, ?_⟩
          go_wp2_with fail
          refine ⟨rfl, hB9, ?_⟩
          refine ⟨_, rfl, ?_⟩
          go_wp2_with fail
          refine ⟨rfl, hB9, ?_⟩
          show ∃ (A9 : Option Addr) (c9 b9 : Nat), _
          refine ⟨A9, c9, w9.heap.size, ?_, hS9, hB9⟩
          first | rfl | simp only [Act.put, List.setIfInBounds_toArray, List.set_cons_succ, List.set_cons_zero]
        · refine ⟨_, rfl, ?_⟩
          have hB8 := hB6.alloc hB6.size (.cells #[.slice none 0 0, .int .i64 0] 25)
          have hrow8 := heap_alloc_new w6 (.cells #[.slice none 0 0, .int .i64 0] 25 (0, 0))
          have hblk : v3.heap.size ≤ w6.heap.size := hB6.size
          go_wp2_with fail
          refine ⟨rfl, hB8, ?_⟩
          refine ⟨_, rfl, ?_⟩
          go_wp2_with fail
          refine (hin3 _ (HS3.out.rd.below hB8)).mono ?_
          intro e w9 h
          obtain ⟨A9, c9, rfl, hcap9, N9, hb⟩ := putR_box h
          have hBc := Qt.more hB8 hB8.size hb
          have hrow9 := (hb.block _ (lt_heap6 hrow8)).trans hrow8
          have hS9 := stB_put (room := R) hrow9 N9 hcap9
          have hB9 := (hBc.setCell (p := ⟨w6.heap.size, 0, none⟩) hblk (.slice A9 lc.length c9)).setCell (p := ⟨w6.heap.size, 1, none⟩) hblk (.int .i64 R)
          have f0 : w9.frozen? ⟨w6.heap.size, 0, none⟩ = false := Lib.frozen_of_heap hrow9 0
          have f1 : w9.frozen? ⟨w6.heap.size, 1, none⟩ = false := Lib.frozen_of_heap hrow9 1
          have g0 : w9.cell? ⟨w6.heap.size, 0, none⟩ = some (.slice none 0 0) := by rw [Lib.cell_of_heap hrow9]; rfl
          have g1 : w9.cell? ⟨w6.heap.size, 1, none⟩ = some (.int .i64 0) := by rw [Lib.cell_of_heap hrow9]; rfl
          clear h hb hrow9 hrow8 hblk
          go_wp2_with fail
          refine ⟨rfl, hBc, ?_⟩
          refine ⟨_, _, (.tuple #[.agg #[.slice A9 lc.length c9, .int .i64 R], .int .i64 mc, .int .i64 ec]), rfl, rfl, ⟨rfl, fun W hW => by first | exact ⟨rfl, rfl⟩ | (simp only [Act.eval, execOp]; go_simp; try exact ⟨rfl, rfl⟩)⟩, ?_⟩
          simp only [Act.put, List.setIfInBounds_toArray, List.set_cons_succ, List.set_cons_zero]
          refine ⟨_, _, (.agg #[.slice A9 lc.length c9, .int .i64 R]), rfl, rfl, ⟨rfl, fun W hW => by first | exact ⟨rfl, rfl⟩ | (simp only [Act.eval, execOp]; go_simp; try exact ⟨rfl, rfl⟩)⟩, ?_⟩
          simp only [Act.put, List.setIfInBounds_toArray, List.set_cons_succ, List.set_cons_zero]
          refine ⟨_, _, .int .i64 mc, rfl, rfl, ⟨rfl, fun W hW => by first | exact ⟨rfl, rfl⟩ | (simp only [Act.eval, execOp]; go_simp; try exact ⟨rfl, rfl⟩)⟩, ?_⟩
          simp only [Act.put, List.setIfInBounds_toArray, List.set_cons_succ, List.set_cons_zero]
          refine ⟨_, _, .int .i64 ec, rfl, rfl, ⟨rfl, fun W hW => by first | exact ⟨rfl, rfl⟩ | (simp only [Act.eval, execOp]; go_simp; try exact ⟨rfl, rfl⟩)⟩, ?_⟩
          simp only [Act.put, List.setIfInBounds_toArray, List.set_cons_succ, List.set_cons_zero]
          refine ⟨_, rfl, ?_⟩
          go_wp2_with fail
          refine ⟨rfl, hB9, ?_⟩
          refine ⟨_, rfl, ?_⟩
          go_wp2_with fail
          refine ⟨rfl, hB9, ?_⟩
          refine ⟨_, rfl, ?_⟩
          go_wp2_with fail
          refine ⟨rfl, hB9, ?_⟩
          show ∃ (A9 : Option Addr) (c9 b9 : Nat), _
          refine ⟨A9, c9, w6.heap.size, ?_, hS9, hB9⟩
          first | rfl | simp only [Act.put, List.setIfInBounds_toArray, List.set_cons_succ, List.set_cons_zero]
      · refine ⟨_, rfl, ?_⟩
        have hB8 := (below_drew v3).alloc (Nat.le_refl _) (.cells #[.slice none 0 0, .int .i64 0] 25)
        have hrow8 : (v3.drew.alloc (.cells #[.slice none 0 0, .int .i64 0] 25 (0, 0))).heap[v3.heap.size]? = _ := heap_alloc_new v3.drew (.cells #[.slice none 0 0, .int .i64 0] 25 (0, 0))
        have hblk : v3.heap.size ≤ v3.heap.size := Nat.le_refl _
        go_wp2_with fail
        refine ⟨rfl, hB8, ?_⟩
        refine ⟨_, rfl, ?_⟩
        go_wp2_with fail
        refine (hkd3 _ (HS3.out.rd.below hB8)).mono ?_
        rintro e w6 ⟨rfl, hb6⟩
        have hB6 := Qt.more hB8 hB8.size hb6
        have hrow6 := (hb6.block _ (lt_heap6 hrow8)).trans hrow8
        clear hb6
        go_wp2_with fail
        refine ⟨rfl, hB6, ?_⟩
        refine ⟨_, rfl, ?_⟩
        go_wp2_with fail
        refine (hin3 _ (HS3.out.rd.below hB6)).mono ?_
        intro e w9 h
        obtain ⟨A9, c9, rfl, hcap9, N9, hb⟩ := putR_box h
        have hBc := Qt.more hB6 hB6.size hb
        have hrow9 := (hb.block _ (lt_heap6 hrow6)).trans hrow6
        have hS9 := stB_put (room := R) hrow9 N9 hcap9
        have hB9 := (hBc.setCell (p := ⟨v3.heap.size, 0, none⟩) hblk (.slice A9 lc.length c9)).setCell (p := ⟨v3.heap.size, 1, none⟩) hblk (.int .i64 R)
        have f0 : w9.frozen? ⟨v3.heap.size, 0, none⟩ = false := Lib.frozen_of_heap hrow9 0
        have f1 : w9.frozen? ⟨v3.heap.size, 1, none⟩ = false := Lib.frozen_of_heap hrow9 1
        have g0 : w9.cell? ⟨v3.heap.size, 0, none⟩ = some (.slice none 0 0) := by rw [Lib.cell_of_heap hrow9]; rfl
        have g1 : w9.cell? ⟨v3.heap.size, 1, none⟩ = some (.int .i64 0) := by rw [Lib.cell_of_heap hrow9]; rfl
        clear h hb hrow9 hrow6 hblk
        go_wp2_with fail
        refine ⟨rfl, hBc, ?_⟩
        refine ⟨_, _, (.tuple #[.agg #[.slice A9 lc.length c9, .int .i64 R], .int .i64 mc, .int .i64 ec]), rfl, rfl, ⟨rfl, fun W hW => by first | exact ⟨rfl, rfl⟩ | (simp only [Act.eval, execOp]; go_simp; try exact ⟨rfl, rfl⟩)⟩, ?_⟩
        simp only [Act.put, List.setIfInBounds_toArray, List.set_cons_succ, List.set_cons_zero]
        refine ⟨_, _, (.agg #[.slice A9 lc.length c9, .int .i64 R]), rfl, rfl, ⟨rfl, fun W hW => by first | exact ⟨rfl, rfl⟩ | (simp only [Act.eval, execOp]; go_simp; try exact ⟨rfl, rfl⟩)⟩, ?_⟩
        simp only [Act.put, List.setIfInBounds_toArray, List.set_cons_succ, List.set_cons_zero]
        refine ⟨_, _, .int .i64 mc, rfl, rfl, ⟨rfl, fun W hW => by first | exact ⟨rfl, rfl⟩ | (simp only [Act.eval, execOp]; go_simp; try exact ⟨rfl, rfl⟩)⟩, ?_⟩
        simp only [Act.put, List.setIfInBounds_toArray, List.set_cons_succ, List.set_cons_zero]
        refine ⟨_, _, .int .i64 ec, rfl, rfl, ⟨rfl, fun W hW => by first | exact ⟨rfl, rfl⟩ | (simp only [Act.eval, execOp]; go_simp; try exact ⟨rfl, rfl⟩)⟩, ?_⟩
        simp only [Act.put, List.setIfInBounds_toArray, List.set_cons_succ, List.set_cons_zero]
        refine ⟨_, rfl, ?_⟩
        go_wp2_with fail
        refine ⟨rfl, hB9, ?_⟩
        refine ⟨_, rfl, ?_⟩
        go_wp2_with fail
        refine ⟨rfl, hB9, ?_⟩
        refine ⟨_, rfl, ?_⟩
        go_wp2_with fail
        refine ⟨rfl, hB9, ?_⟩
        show ∃ (A9 : Option Addr) (c9 b9 : Nat), _
        refine ⟨A9, c9, v3.heap.size, ?_, hS9, hB9⟩
        first | rfl | simp only [Act.put, List.setIfInBounds_toArray, List.set_cons_succ, List.set_cons_zero]
    rintro a9 v4 ⟨A4, c4, b4, rfl, hS4, hb4⟩
    simp only [Act.put, List.setIfInBounds_toArray, List.set_cons_succ, List.set_cons_zero]
    have HB4 := Lib.hid (Qt.more HB3.out (hb0 ▸ HB3.out.size) hb4)
    have HS4 := Lib.hid hS4
    have hcap4 := hS4.cap
    clear hin3 hkd3 HS3 HP3 HB3 hS4 hb4
    rcases HC2.out with ⟨l2, m, HO⟩ | ⟨e1, e2⟩
    · have hq := HPP2.out
      rw [HO.one, Prod.mk.injEq, Prod.mk.injEq] at hq
      obtain ⟨rfl, rfl, rfl⟩ := hq
      have hnl : n < lc.length := Nat.lt_of_lt_of_le HO1.out.n_ HO.len.1
      have hml := HO.n_
      have hr2 := HO.r1
      have HR2' := Lib.hid hr2
      clear HO HC2 HPP2 HC HPP hr2
      have s0 := HS4.out.s0
      have hnz : (n : Int) < (lc.length : Int) := by omega
      have hmz : (m : Int) < (lc.length : Int) := by omega
      obtain ⟨q4, o4, rfl, _, hnd⟩ := HS4.out.nd (by omega)
      have x0 := (hnd n hnl).1
      have y0 := (hnd m hml).1
      have x5 := (hnd n hnl).2.2.2.2.2
      have hbn := right_bd HR2'.out n hnl
      have hbm := right_bd HR2'.out m hml
      have HX5 := Lib.hid x5
      clear x5 hnd
      obtain ⟨jn, hjn⟩ : ∃ jn : Nat, (lc.getD n deadN).1 = (jn : Int) := ⟨(lc.getD n deadN).1.toNat, by omega⟩
      obtain ⟨jm, hjm⟩ : ∃ jm : Nat, (lc.getD m deadN).1 = (jm : Int) := ⟨(lc.getD m deadN).1.toNat, by omega⟩
      rw [hjn] at x0
      rw [hjm] at y0
      have HJN := Lib.hid hjn
      have HJM := Lib.hid hjm
      have HBN := Lib.hid hbn
      clear hjn hjm hbn hbm
      by_cases hbig : 4 < jn
      · have hg : (jn : Int) > 4 := by omega
        go_wp2_with fail
        go_ret
        first
          | exact ⟨rfl, HB4.out⟩
          | exact ⟨rfl, hb0 ▸ HB4.out⟩
      · have hg : ¬ (jn : Int) > 4 := by omega
        by_cases hbig2 : 4 < jm
        · have hg2 : (jm : Int) > 4 := by omega
          go_wp2_with fail
          go_ret
          first
            | exact ⟨rfl, HB4.out⟩
            | exact ⟨rfl, hb0 ▸ HB4.out⟩
        · have hg2 : ¬ (jm : Int) > 4 := by omega
          have hsb := bitsN_sum HR2'.out jn n (by omega) hnl HJN.out
          have hsbm := bitsN_sum HR2'.out jm m (by omega) hml HJM.out
          have hlenX := bitsN_len lc jn n
          have hiff := bits_iff HR2'.out hnl hml
          rw [HJN.out, HJM.out, Int.toNat_natCast, Int.toNat_natCast] at hiff
          have hc1 := bits_any (some ⟨q4, o4, none⟩) lc c4 R HR2'.out hcap4 jn (by omega) n hnl HJN.out v4 HS4.out.rd
          have hc2 := fun W hW => bits_any (some ⟨q4, o4, none⟩) lc c4 R HR2'.out hcap4 jm (by omega) m hml HJM.out W hW
          have X5 := HX5.out
          rw [← hsb.1] at X5
          generalize bitsN lc jn n = X at *
          generalize bitsN lc jm m = Y at *
          have hxy : txB X = txB Y ↔ X = Y := ⟨fun h => congrArg (fun b : ByteArray => b.data.toList) h, fun h => by rw [h]⟩
          have hsz : (txB X).size = 2 ^ jn * 2 ^ jn := (txB_size X).trans hlenX
          have hst := fun (k : Nat) (hk : k < X.length) => sum_step X hsb.2.2 k hk
          have hbd : sumB X ≤ 256 := Nat.le_trans hsb.2.1 (Nat.le_trans (Nat.pow_le_pow_right (by decide) (show jn ≤ 4 by omega)) (by decide))
          have htk := fun k : Nat => sum_take X k
          have hall : X.take X.length = X := List.take_length
          have hget : ∀ (k : Nat) (h : k < (txB X).size) (h2 : k < X.length), (txB X)[k]'h = X[k]'h2 := fun _ _ _ => rfl
          have hne : X ≠ Y → ¬ txB X = txB Y := fun h e => h (hxy.1 e)
          have HXY := Lib.hid hiff
          have HNE := Lib.hid hne
          have HSTEP := Lib.hid hst
          have HGET := Lib.hid hget
          have HBD := Lib.hid hbd
          have HTK := Lib.hid htk
          have HALL := Lib.hid hall
          have HLX := Lib.hid hlenX
          have HX6 := Lib.hid X5
          have s1 := HS4.out.s1
          unfold storeV at hc1 hc2
          clear hsb hsbm hiff hxy hst hbd htk hall hget hne hlenX X5 HX5 HBN
          go_wp2_with fail
          refine hc1.mono ?_
          rintro e w5 ⟨rfl, hb5⟩
          have HS5 := Lib.hid (HS4.out.below hb5)
          have hc3 := hc2 w5 HS5.out.rd
          replace x0 := Qt.keep hb5 x0
          have x5 := Qt.keep hb5 HX6.out
          have HX7 := Lib.hid x5
          have HB5 := Lib.hid (Qt.more HB4.out (hb0 ▸ HB4.out.size) hb5)
          replace s0 := HS5.out.s0
          replace s1 := HS5.out.s1
          clear hc1 hc2 hb5 x5 HX6 y0 HS4 HB4
          go_wp2_with fail
          refine hc3.mono ?_
          rintro e w6 ⟨rfl, hb6⟩
          replace x0 := Qt.keep hb6 x0
          have HX8 := Lib.hid (Qt.keep hb6 HX7.out)
          have HB6 := Lib.hid (Qt.more HB5.out (hb0 ▸ HB5.out.size) hb6)
          have HS6 := Lib.hid (HS5.out.below hb6)
          clear hc3 hb6 HX7 HB5 HS5 s0 s1
          have hsz2 : (txB X).size ≤ 256 := by
            rw [hsz]
            have : jn = 0 ∨ jn = 1 ∨ jn = 2 ∨ jn = 3 ∨ jn = 4 := by omega
            rcases this with rfl | rfl | rfl | rfl | rfl <;> decide
          have HSZ := Lib.hid hsz
          clear hsz
          go_wp2_with fail
          go_loopw [19, 20] (fun pv i wr => ∃ k : Nat, k ≤ (txB X).size ∧ i = .int .i64 k ∧ pv = .int .i64 ((sumB (X.take k) : Nat) : Int) ∧ Hid (Below w6.heap.size w6 wr)) (fun _ i _ => (txB X).size - (intOf i).toNat)
          case atStart => exact ⟨0, Nat.zero_le _, rfl, rfl, Below.refl _ _⟩
          case round =>
            obtain ⟨k, hk, rfl, rfl, HBr⟩ := hrel
            by_cases hlt : k < (txB X).size
            · have hlX : k < X.length := by rw [← txB_size]; exact hlt
              have hkz : (k : Int) < ((txB X).size : Int) := by omega
              have hst := HSTEP.out k hlX
              have hg2 := HGET.out k hlt hlX
              have hb1 := HBD.out
              have hb2 := HTK.out k
              have hb3 := HTK.out (k + 1)
              rcases hst with ⟨h48, hs⟩ | ⟨h49, hs⟩
              · rw [h48] at hg2
                have HS8 := Lib.hid hs
                generalize sumB (X.take k) = sk at *
                clear h48 hs hb3
                go_wp2_with fail
                go_roundw
                case measure => simp [intOf]; omega
                case rel => exact ⟨k + 1, by omega, by go_num, by rw [HS8.out]; try rfl, HBr.out⟩
              · rw [h49] at hg2
                have HS8 := Lib.hid hs
                generalize sumB (X.take k) = sk at *
                clear h49 hs hb3
                go_wp2_with fail
                go_roundw
                case measure => simp [intOf]; omega
                case rel => exact ⟨k + 1, by omega, by go_num, by rw [HS8.out]; exact congrArg (Value.int .i64) (by omega), HBr.out⟩
            · obtain rfl : k = (txB X).size := by omega
              have hkz : ¬ ((txB X).size : Int) < ((txB X).size : Int) := by omega
              have hfin : sumB (X.take (txB X).size) = sumB X := by rw [txB_size, HALL.out]
              rw [hfin]
              have s0 := (HS6.out.below HBr.out).s0
              have HBf := Lib.hid (Qt.more HB6.out (hb0 ▸ HB6.out.size) HBr.out)
              replace x0 := Qt.keep HBr.out x0
              have x5 := Qt.keep HBr.out HX8.out
              have hj5 : jn = 0 ∨ jn = 1 ∨ jn = 2 ∨ jn = 3 ∨ jn = 4 := by omega
              have hzz := HSZ.out
              clear hfin HX8 HSTEP HGET HTK HALL HLX
              by_cases hnm : n = m
              · obtain rfl := HXY.out.2 hnm
                subst hnm
                clear HXY HNE HSZ
                rcases hj5 with rfl | rfl | rfl | rfl | rfl
                · have hz : ((txB X).size : Int) = 1 := by rw [hzz]; rfl
                  clear hzz
                  go_wp2_with fail
                  go_ret
                  first
                    | exact ⟨rfl, HBf.out⟩
                    | exact ⟨rfl, hb0 ▸ HBf.out⟩
                · have hz : ((txB X).size : Int) = 4 := by rw [hzz]; rfl
                  clear hzz
                  go_wp2_with fail
                  go_ret
                  first
                    | exact ⟨rfl, HBf.out⟩
                    | exact ⟨rfl, hb0 ▸ HBf.out⟩
                · have hz : ((txB X).size : Int) = 16 := by rw [hzz]; rfl
                  clear hzz
                  go_wp2_with fail
                  go_ret
                  first
                    | exact ⟨rfl, HBf.out⟩
                    | exact ⟨rfl, hb0 ▸ HBf.out⟩
                · have hz : ((txB X).size : Int) = 64 := by rw [hzz]; rfl
                  clear hzz
                  go_wp2_with fail
                  go_ret
                  first
                    | exact ⟨rfl, HBf.out⟩
                    | exact ⟨rfl, hb0 ▸ HBf.out⟩
                · have hz : ((txB X).size : Int) = 256 := by rw [hzz]; rfl
                  clear hzz
                  go_wp2_with fail
                  go_ret
                  first
                    | exact ⟨rfl, HBf.out⟩
                    | exact ⟨rfl, hb0 ▸ HBf.out⟩
              · have hXY : ((txB X).toList == (txB Y).toList) = false := by
                  rw [ByteArray.toList_eq, ByteArray.toList_eq, beq_eq_false_iff_ne]
                  exact fun e => hnm (HXY.out.1 e)
                have hz1 : ((n : Int) == (m : Int)) = false := beq_eq_false_iff_ne.2 (by omega)
                clear HXY HNE HSZ
                rcases hj5 with rfl | rfl | rfl | rfl | rfl
                · have hz : ((txB X).size : Int) = 1 := by rw [hzz]; rfl
                  clear hzz
                  go_wp2_with fail
                  go_ret
                  first
                    | exact ⟨rfl, HBf.out⟩
                    | exact ⟨rfl, hb0 ▸ HBf.out⟩
                · have hz : ((txB X).size : Int) = 4 := by rw [hzz]; rfl
                  clear hzz
                  go_wp2_with fail
                  go_ret
                  first
                    | exact ⟨rfl, HBf.out⟩
                    | exact ⟨rfl, hb0 ▸ HBf.out⟩
                · have hz : ((txB X).size : Int) = 16 := by rw [hzz]; rfl
                  clear hzz
                  go_wp2_with fail
                  go_ret
                  first
                    | exact ⟨rfl, HBf.out⟩
                    | exact ⟨rfl, hb0 ▸ HBf.out⟩
                · have hz : ((txB X).size : Int) = 64 := by rw [hzz]; rfl
                  clear hzz
                  go_wp2_with fail
                  go_ret
                  first
                    | exact ⟨rfl, HBf.out⟩
                    | exact ⟨rfl, hb0 ▸ HBf.out⟩
                · have hz : ((txB X).size : Int) = 256 := by rw [hzz]; rfl
                  clear hzz
                  go_wp2_with fail
                  go_ret
                  first
                    | exact ⟨rfl, HBf.out⟩
                    | exact ⟨rfl, hb0 ▸ HBf.out⟩
    · have hq := HPP2.out
      rw [e1, Prod.mk.injEq, Prod.mk.injEq] at hq
      obtain ⟨rfl, rfl, rfl⟩ := hq
      go_wp2_with fail
      go_ret
      first
        | exact ⟨rfl, HB4.out⟩
        | exact ⟨rfl, hb0 ▸ HB4.out⟩
  · have hq := HPP.out
    rw [e1, Prod.mk.injEq, Prod.mk.injEq] at hq
    obtain ⟨rfl, rfl, rfl⟩ := hq
    go_wp2_with fail
    go_ret
    first
      | exact ⟨rfl, HB3.out⟩
      | exact ⟨rfl, hb0 ▸ HB3.out⟩
end Go.Proofs.Ytdlkeginnmhecaa
