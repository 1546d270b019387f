/-
  The law NodeOnce.
-/
import Derived.Test.YtdlkeginnmhecaaRr
namespace Go.Proofs.Ytdlkeginnmhecaa
set_option linter.unusedVariables false
set_option linter.unusedSimpArgs false
open Go.RowKit Go.Sort

set_option maxHeartbeats 16000000 in
set_option maxRecDepth 100000 in
theorem nodeOnce_law (room : Int) (A : Option Addr) (raw : List Raw5) (c : Nat) (r r2 : Raw5) (w : World) (hI : I64 room) (hR : RdR w w.heap.size A raw) (hl : raw.length ≤ 9223372036854775807) (hF : ∀ j, j < raw.length → Fine5 (raw.getD j dead5)) (hr : Fine5 r) (hr2 : Fine5 r2) :
    Calls Try.prog 4 #[.int .i64 room, .slice A raw.length c, rawV r, rawV r2] w fun e w' => e = .returned (.bool true) ∧ Below w.heap.size w w' := by
  obtain ⟨hS, hSl⟩ := store_right room raw
  have hpb := pick6_bd room 60 (by decide)
  have hst := fun W hR' => store6_any A raw c room W hR' hl hI hF
  obtain ⟨R, hRR⟩ : ∃ R, R = 2 + pick6 room 60 := ⟨_, rfl⟩
  rw [← hRR] at hS hst
  obtain ⟨l, hll⟩ : ∃ l, l = store6 room raw := ⟨_, rfl⟩
  rw [← hll] at hS hst hSl
  have hkf := kids_fit hS (by omega) r
  have hkd := fun A2 c2 W hW => kids6_any A2 l c2 R r W hW (by omega) hr
  obtain ⟨k, hk⟩ : ∃ k, k = kids6 l r := ⟨_, rfl⟩
  rw [← hk] at hkf hkd
  have hcase := once hS hkf
  have h2l := hS.two
  have hRb : R ≤ 1000 ∧ 0 ≤ R := by omega
  have HC := Lib.hid hcase
  have HS := Lib.hid hS
  have HSl := Lib.hid hSl
  have HRR := Lib.hid hR
  have heql := eqlK
  unfold rawV
  unfold storeV kidsV rawV at hkd
  clear hcase hS hSl hR hpb hRR hll hI hF hk hkf hr
  have HR2 := Lib.hid hr2
  clear hr2
  go_enter Try.func4, Try.ntmps4
  go_wp2_with fail
  have hal := (Below.refl w.heap.size w).alloc (Nat.le_refl _) (.cells #[.int .i64 r.1, .int .i64 r.2.1, .int .i64 r.2.2.1, .int .i64 r.2.2.2.1, .int .i64 r.2.2.2.2] 27)
  have hal2 := (Below.refl (w.alloc (.cells #[.int .i64 r.1, .int .i64 r.2.1, .int .i64 r.2.2.1, .int .i64 r.2.2.2.1, .int .i64 r.2.2.2.2] 27)).heap.size (w.alloc (.cells #[.int .i64 r.1, .int .i64 r.2.1, .int .i64 r.2.2.1, .int .i64 r.2.2.2.1, .int .i64 r.2.2.2.2] 27))).alloc (Nat.le_refl _) (.cells #[.int .i64 r2.1, .int .i64 r2.2.1, .int .i64 r2.2.2.1, .int .i64 r2.2.2.2.1, .int .i64 r2.2.2.2.2] 27)
  have HQ := Lib.hid ((rawB_new (w := w) r).below hal2)
  have hszw : (w.alloc (.cells #[.int .i64 r.1, .int .i64 r.2.1, .int .i64 r.2.2.1, .int .i64 r.2.2.2.1, .int .i64 r.2.2.2.2] 27)).heap.size = w.heap.size + 1 := by simp
  have hPn := rawB_new (w := (w.alloc (.cells #[.int .i64 r.1, .int .i64 r.2.1, .int .i64 r.2.2.1, .int .i64 r.2.2.2.1, .int .i64 r.2.2.2.2] 27))) r2
  rw [hszw] at hPn
  have HP := Lib.hid hPn
  have hal := hal.alloc hal.size (.cells #[.int .i64 r2.1, .int .i64 r2.2.1, .int .i64 r2.2.2.1, .int .i64 r2.2.2.2.1, .int .i64 r2.2.2.2.2] 27)
  have HB := Lib.hid hal
  have HR1 := Lib.hid ((HRR.out.below hal (Nat.le_refl _)).more hal.size)
  clear HRR hal hal2 hPn hszw
  generalize ((w.alloc (.cells #[.int .i64 r.1, .int .i64 r.2.1, .int .i64 r.2.2.1, .int .i64 r.2.2.2.1, .int .i64 r.2.2.2.2] 27)).alloc (.cells #[.int .i64 r2.1, .int .i64 r2.2.1, .int .i64 r2.2.2.1, .int .i64 r2.2.2.2.1, .int .i64 r2.2.2.2.2] 27)) = v0 at *
  generalize hb0 : w.heap.size = b0 at *
  generalize b0 + 1 = b1 at *
  refine (awake6_any v0).mono ?_
  rintro e w1 ⟨rfl, hb1⟩
  have hst1 := hst w1 ((HR1.out.below hb1 (Nat.le_refl _)).more hb1.size)
  have HQ1 := Lib.hid (HQ.out.below hb1)
  have HP1 := Lib.hid (HP.out.below hb1)
  have HB1 := Lib.hid (Qt.more HB.out (hb0 ▸ HB.out.size) hb1)
  clear hst HR1 HQ HP HB hb1
  go_wp2_with fail
  refine hst1.mono ?_
  intro e w2 h
  obtain ⟨A2, c2, rfl, hcap2, N2, hb2⟩ := storeR_box h
  have hal := (Below.refl w2.heap.size w2).alloc (Nat.le_refl _) (.cells #[.slice A2 l.length c2, .int .i64 R] 25)
  have HS2 := Lib.hid (stB_new N2 hcap2 R)
  have HQ2 := Lib.hid ((HQ1.out.below hb2).below hal)
  have HP2 := Lib.hid ((HP1.out.below hb2).below hal)
  have hB2 := Qt.more HB1.out (hb0 ▸ HB1.out.size) hb2
  have HB2 := Lib.hid (Qt.more hB2 (hb0 ▸ hB2.size) hal)
  have c0 := HQ2.out.c0
  have c1 := HQ2.out.c1
  have c2' := HQ2.out.c2
  have c3 := HQ2.out.c3
  have c4 := HQ2.out.c4
  clear h hst1 hb2 HB1 HQ1 HP1 N2 hal hB2
  go_wp2_with fail
  generalize (w2.alloc (.cells #[.slice A2 l.length c2, .int .i64 R] 25)) = v2 at *
  generalize w2.heap.size = b2 at *
  refine (hkd A2 c2 v2 HS2.out.rd).mono ?_
  rintro e w3 ⟨rfl, hb3⟩
  clear c0 c1 c2' c3 c4 hkd
  have hal := (Below.refl w3.heap.size w3).alloc (Nat.le_refl _) (.cells #[.int .i64 k.1, .int .i64 k.2.1, .int .i64 k.2.2.1, .int .i64 k.2.2.2] 26)
  have HK3 := Lib.hid (kdB_new (w := w3) k)
  have HS3 := Lib.hid ((HS2.out.below hb3).below hal)
  have HP3 := Lib.hid ((HP2.out.below hb3).below hal)
  have hB3 := Qt.more HB2.out (hb0 ▸ HB2.out.size) hb3
  have HB3 := Lib.hid (Qt.more hB3 (hb0 ▸ hB3.size) hal)
  clear hb3 HB2 HQ2 HP2 HS2 hal hB3
  have s0 := HS3.out.s0
  have s1 := HS3.out.s1
  go_wp2_with fail
  clear s0 s1
  generalize (w3.alloc (.cells #[.int .i64 k.1, .int .i64 k.2.1, .int .i64 k.2.2.1, .int .i64 k.2.2.2] 26)) = v3 at *
  generalize w3.heap.size = b3 at *
  have hin := nodeIntern_any A2 l c2 R k v3 HS3.out.rd (by have := HSl.out; omega) hcap2
  rcases HC.out with ⟨l1, n, HO⟩ | ⟨e1, e2⟩
  · rw [HO.one] at hin
    unfold storeV kidsV at hin
    have HOh := Lib.hid HO
    clear HO
    refine hin.mono ?_
    intro e w5 h
    obtain ⟨A5, c5, rfl, hcap5, N5, hb5⟩ := putR_box h
    have hal := (Below.refl w5.heap.size w5).alloc (Nat.le_refl _) (.cells #[.slice A5 l1.length c5, .int .i64 R] 25)
    have HA5 := Lib.hid (stB_new N5 hcap5 R)
    have HS5 := Lib.hid ((HS3.out.below hb5).below hal)
    have HK5 := Lib.hid ((HK3.out.below hb5).below hal)
    have HP5 := Lib.hid ((HP3.out.below hb5).below hal)
    have hB5 := Qt.more HB3.out (hb0 ▸ HB3.out.size) hb5
    have HB5 := Lib.hid (Qt.more hB5 (hb0 ▸ hB5.size) hal)
    clear h hin hb5 hal hB5 HB3 HP3 HK3 HS3 N5
    go_wp2_with fail
    generalize (w5.alloc (.cells #[.slice A5 l1.length c5, .int .i64 R] 25)) = v5 at *
    generalize w5.heap.size = b5 at *
    have h1s : l1.length ≤ 43 := by have := HOh.out.len; have := HSl.out; omega
    have hkd2 := fun W hW => kids6_any A5 l1 c5 R r2 W hW (by omega) HR2.out
    have hin2 := fun W hW => nodeIntern_any A5 l1 c5 R (kids6 l1 r2) W hW (by omega) hcap5
    obtain ⟨K2, hK2⟩ : ∃ K2, K2 = kids6 l1 r2 := ⟨_, rfl⟩
    have hag := HOh.out.again K2
    rw [← hK2] at hkd2 hin2
    obtain ⟨⟨lb, nb, eb⟩, hp⟩ : ∃ p, p = intern6 l1 R K2 := ⟨_, rfl⟩
    rw [← hp] at hin2 hag
    simp only at hag
    have HAG := Lib.hid hag
    unfold storeV kidsV at hin2
    unfold storeV kidsV rawV at hkd2
    clear hK2 hag hp
    refine region_calm_to (fun W => Below v5.heap.size v5 W) (fun (a0 a9 : Act) (w9 : World) => ∃ (A9 : Option Addr) (c9 b9 : Nat), a9 = ((((((((((((a0.put (some 57) (.agg #[.slice A5 l1.length c5, .int .i64 R])).put (some 58) (.agg #[.slice A5 l1.length c5, .int .i64 R])).put (some 59) (.agg #[.int .i64 r2.1, .int .i64 r2.2.1, .int .i64 r2.2.2.1, .int .i64 r2.2.2.2.1, .int .i64 r2.2.2.2.2])).put (some 60) (.agg #[.int .i64 K2.1, .int .i64 K2.2.1, .int .i64 K2.2.2.1, .int .i64 K2.2.2.2])).put (some 61) (.tuple #[.agg #[.slice A9 lb.length c9, .int .i64 R], .int .i64 nb, .int .i64 eb])).put (some 56) (.tuple #[.agg #[.slice A9 lb.length c9, .int .i64 R], .int .i64 nb, .int .i64 eb])).put (some 62) (.agg #[.slice A9 lb.length c9, .int .i64 R])).put (some 63) (.int .i64 nb)).put (some 64) (.int .i64 eb)).put (some 15) (.pointer (some ⟨b9, 0, none⟩))).put (some 16) (.int .i64 nb)).put (some 17) (.int .i64 eb)) ∧ StB w9 b9 A9 lb c9 R ∧ Below v5.heap.size v5 w9) (.calm 0 (.calm 1 (.calm 2 (.two 3 9 (.two 4 9 (.calm 5 (.calm 6 (.calm 7 (.calm 8 (.only 9 (.only 10 (.only 11 (.only 12 .done)))))))) (.only 4 (.calm 5 (.calm 6 (.calm 7 (.calm 8 (.only 10 (.only 11 (.only 12 .done))))))))) (.only 3 (.only 4 (.calm 5 (.calm 6 (.calm 7 (.calm 8 (.only 10 (.only 11 (.only 12 .done))))))))))))) (by kernel_rfl) (by kernel_rfl) (by kernel_rfl) (by rfl) (below_drew _) ?_ ?_
    · skip
      refine ⟨_, _, (.agg #[.slice A5 l1.length c5, .int .i64 R]), rfl, rfl, ⟨rfl, fun W hW => by have s0 := (HA5.out.below hW).s0; have s1 := (HA5.out.below hW).s1; simp only [execOp]; go_simp; done⟩, ?_⟩
      simp only [Act.put, List.setIfInBounds_toArray, List.set_cons_succ, List.set_cons_zero]
      refine ⟨_, _, (.agg #[.slice A5 l1.length c5, .int .i64 R]), rfl, rfl, ⟨rfl, fun W hW => by have s0 := (HA5.out.below hW).s0; have s1 := (HA5.out.below hW).s1; simp only [execOp]; go_simp; done⟩, ?_⟩
      simp only [Act.put, List.setIfInBounds_toArray, List.set_cons_succ, List.set_cons_zero]
      refine ⟨_, _, (.agg #[.int .i64 r2.1, .int .i64 r2.2.1, .int .i64 r2.2.2.1, .int .i64 r2.2.2.2.1, .int .i64 r2.2.2.2.2]), rfl, rfl, ⟨rfl, fun W hW => by have r0 := (HP5.out.below hW).c0; have r1 := (HP5.out.below hW).c1; have r2 := (HP5.out.below hW).c2; have r3 := (HP5.out.below hW).c3; have r4 := (HP5.out.below hW).c4; simp only [execOp]; go_simp; done⟩, ?_⟩
      simp only [Act.put, List.setIfInBounds_toArray, List.set_cons_succ, List.set_cons_zero]
      constructor
      · refine ⟨_, rfl, ?_⟩
        go_wp2_with fail
        refine (hkd2 _ (HA5.out.rd.below (below_drew _))).mono ?_
        rintro e w6 ⟨rfl, hb6⟩
        have hB6 := Qt.more (below_drew _) (Nat.le_refl _) hb6
        clear hb6
        go_wp2_with fail
        refine ⟨rfl, hB6, ?_⟩
        constructor
        · refine ⟨_, rfl, ?_⟩
          go_wp2_with fail
          refine (hin2 _ (HA5.out.rd.below hB6)).mono ?_
          intro e w9 h
          obtain ⟨A9, c9, rfl, hcap9, N9, hb⟩ := putR_box h
          have hBc := Qt.more hB6 hB6.size hb
          have hS9 := stB_new N9 hcap9 R
          have hB9 := hBc.alloc hBc.size (.cells #[.slice A9 lb.length c9, .int .i64 R] 25)
          have hB8 := hBc.alloc hBc.size (.cells #[.slice none 0 0, .int .i64 0] 25)
          clear h hb
          go_wp2_with fail
          refine ⟨rfl, hBc, ?_⟩
          refine ⟨_, _, (.tuple #[.agg #[.slice A9 lb.length c9, .int .i64 R], .int .i64 nb, .int .i64 eb]), rfl, rfl, ⟨rfl, fun W hW => by first | exact ⟨rfl, rfl⟩ | (simp only [Act.eval, execOp]; go_simp; try exact ⟨rfl, rfl⟩)⟩, ?_⟩
          simp only [Act.put, List.setIfInBounds_toArray, List.set_cons_succ, List.set_cons_zero]
          refine ⟨_, _, (.agg #[.slice A9 lb.length c9, .int .i64 R]), rfl, rfl, ⟨rfl, fun W hW => by first | exact ⟨rfl, rfl⟩ | (simp only [Act.eval, execOp]; go_simp; try exact ⟨rfl, rfl⟩)⟩, ?_⟩
          simp only [Act.put, List.setIfInBounds_toArray, List.set_cons_succ, List.set_cons_zero]
          refine ⟨_, _, .int .i64 nb, rfl, rfl, ⟨rfl, fun W hW => by first | exact ⟨rfl, rfl⟩ | (simp only [Act.eval, execOp]; go_simp; try exact ⟨rfl, rfl⟩)⟩, ?_⟩
          simp only [Act.put, List.setIfInBounds_toArray, List.set_cons_succ, List.set_cons_zero]
          refine ⟨_, _, .int .i64 eb, rfl, rfl, ⟨rfl, fun W hW => by first | exact ⟨rfl, rfl⟩ | (simp only [Act.eval, execOp]; go_simp; try exact ⟨rfl, rfl⟩)⟩, ?_⟩
          simp only [Act.put, List.setIfInBounds_toArray, List.set_cons_succ, List.set_cons_zero]
          refine ⟨_, rfl, ?_⟩
          go_wp2_with fail
          refine ⟨rfl, hB8, ?_⟩
          refine ⟨_, rfl, ?_⟩
          go_wp2_with fail
          refine ⟨rfl, hB9, ?_⟩
          refine ⟨_, rfl, ?_⟩
          go_wp2_with fail
          refine ⟨rfl, hB9, ?_⟩
          refine ⟨_, rfl, ?_⟩
          go_wp2_with fail
          refine ⟨rfl, hB9, ?_⟩
          show ∃ (A9 : Option Addr) (c9 b9 : Nat), _
          refine ⟨A9, c9, w9.heap.size, ?_, hS9, hB9⟩
          first | rfl | simp only [Act.put, List.setIfInBounds_toArray, List.set_cons_succ, List.set_cons_zero]
        · refine ⟨_, rfl, ?_⟩
          have hB8 := hB6.alloc hB6.size (.cells #[.slice none 0 0, .int .i64 0] 25)
          have hrow8 := heap_alloc_new w6 (.cells #[.slice none 0 0, .int .i64 0] 25 (0, 0))
          have hblk : v5.heap.size ≤ w6.heap.size := hB6.size
          go_wp2_with fail
          refine ⟨rfl, hB8, ?_⟩
          refine ⟨_, rfl, ?_⟩
          go_wp2_with fail
          refine (hin2 _ (HA5.out.rd.below hB8)).mono ?_
          intro e w9 h
          obtain ⟨A9, c9, rfl, hcap9, N9, hb⟩ := putR_box h
          have hBc := Qt.more hB8 hB8.size hb
          have hrow9 := (hb.block _ (lt_heap6 hrow8)).trans hrow8
          have hS9 := stB_put (room := R) hrow9 N9 hcap9
          have hB9 := (hBc.setCell (p := ⟨w6.heap.size, 0, none⟩) hblk (.slice A9 lb.length c9)).setCell (p := ⟨w6.heap.size, 1, none⟩) hblk (.int .i64 R)
          have f0 : w9.frozen? ⟨w6.heap.size, 0, none⟩ = false := Lib.frozen_of_heap hrow9 0
          have f1 : w9.frozen? ⟨w6.heap.size, 1, none⟩ = false := Lib.frozen_of_heap hrow9 1
          have g0 : w9.cell? ⟨w6.heap.size, 0, none⟩ = some (.slice none 0 0) := by rw [Lib.cell_of_heap hrow9]; rfl
          have g1 : w9.cell? ⟨w6.heap.size, 1, none⟩ = some (.int .i64 0) := by rw [Lib.cell_of_heap hrow9]; rfl
          clear h hb hrow9 hrow8 hblk
          go_wp2_with fail
          refine ⟨rfl, hBc, ?_⟩
          refine ⟨_, _, (.tuple #[.agg #[.slice A9 lb.length c9, .int .i64 R], .int .i64 nb, .int .i64 eb]), rfl, rfl, ⟨rfl, fun W hW => by first | exact ⟨rfl, rfl⟩ | (simp only [Act.eval, execOp]; go_simp; try exact ⟨rfl, rfl⟩)⟩, ?_⟩
          simp only [Act.put, List.setIfInBounds_toArray, List.set_cons_succ, List.set_cons_zero]
          refine ⟨_, _, (.agg #[.slice A9 lb.length c9, .int .i64 R]), rfl, rfl, ⟨rfl, fun W hW => by first | exact ⟨rfl, rfl⟩ | (simp only [Act.eval, execOp]; go_simp; try exact ⟨rfl, rfl⟩)⟩, ?_⟩
          simp only [Act.put, List.setIfInBounds_toArray, List.set_cons_succ, List.set_cons_zero]
          refine ⟨_, _, .int .i64 nb, rfl, rfl, ⟨rfl, fun W hW => by first | exact ⟨rfl, rfl⟩ | (simp only [Act.eval, execOp]; go_simp; try exact ⟨rfl, rfl⟩)⟩, ?_⟩
          simp only [Act.put, List.setIfInBounds_toArray, List.set_cons_succ, List.set_cons_zero]
          refine ⟨_, _, .int .i64 eb, rfl, rfl, ⟨rfl, fun W hW => by first | exact ⟨rfl, rfl⟩ | (simp only [Act.eval, execOp]; go_simp; try exact ⟨rfl, rfl⟩)⟩, ?_⟩
          simp only [Act.put, List.setIfInBounds_toArray, List.set_cons_succ, List.set_cons_zero]
          refine ⟨_, rfl, ?_⟩
          go_wp2_with fail
          refine ⟨rfl, hB9, ?_⟩
          refine ⟨_, rfl, ?_⟩
          go_wp2_with fail
          refine ⟨rfl, hB9, ?_⟩
          refine ⟨_, rfl, ?_⟩
          go_wp2_with fail
          refine ⟨rfl, hB9, ?_⟩
          show ∃ (A9 : Option Addr) (c9 b9 : Nat), _
          refine ⟨A9, c9, w6.heap.size, ?_, hS9, hB9⟩
          first | rfl | simp only [Act.put, List.setIfInBounds_toArray, List.set_cons_succ, List.set_cons_zero]
      · refine ⟨_, rfl, ?_⟩
        have hB8 := (below_drew v5).alloc (Nat.le_refl _) (.cells #[.slice none 0 0, .int .i64 0] 25)
        have hrow8 : (v5.drew.alloc (.cells #[.slice none 0 0, .int .i64 0] 25 (0, 0))).heap[v5.heap.size]? = _ := heap_alloc_new v5.drew (.cells #[.slice none 0 0, .int .i64 0] 25 (0, 0))
        have hblk : v5.heap.size ≤ v5.heap.size := Nat.le_refl _
        go_wp2_with fail
        refine ⟨rfl, hB8, ?_⟩
        refine ⟨_, rfl, ?_⟩
        go_wp2_with fail
        refine (hkd2 _ (HA5.out.rd.below hB8)).mono ?_
        rintro e w6 ⟨rfl, hb6⟩
        have hB6 := Qt.more hB8 hB8.size hb6
        have hrow6 := (hb6.block _ (lt_heap6 hrow8)).trans hrow8
        clear hb6
        go_wp2_with fail
        refine ⟨rfl, hB6, ?_⟩
        refine ⟨_, rfl, ?_⟩
        go_wp2_with fail
        refine (hin2 _ (HA5.out.rd.below hB6)).mono ?_
        intro e w9 h
        obtain ⟨A9, c9, rfl, hcap9, N9, hb⟩ := putR_box h
        have hBc := Qt.more hB6 hB6.size hb
        have hrow9 := (hb.block _ (lt_heap6 hrow6)).trans hrow6
        have hS9 := stB_put (room := R) hrow9 N9 hcap9
        have hB9 := (hBc.setCell (p := ⟨v5.heap.size, 0, none⟩) hblk (.slice A9 lb.length c9)).setCell (p := ⟨v5.heap.size, 1, none⟩) hblk (.int .i64 R)
        have f0 : w9.frozen? ⟨v5.heap.size, 0, none⟩ = false := Lib.frozen_of_heap hrow9 0
        have f1 : w9.frozen? ⟨v5.heap.size, 1, none⟩ = false := Lib.frozen_of_heap hrow9 1
        have g0 : w9.cell? ⟨v5.heap.size, 0, none⟩ = some (.slice none 0 0) := by rw [Lib.cell_of_heap hrow9]; rfl
        have g1 : w9.cell? ⟨v5.heap.size, 1, none⟩ = some (.int .i64 0) := by rw [Lib.cell_of_heap hrow9]; rfl
        clear h hb hrow9 hrow6 hblk
        go_wp2_with fail
        refine ⟨rfl, hBc, ?_⟩
        refine ⟨_, _, (.tuple #[.agg #[.slice A9 lb.length c9, .int .i64 R], .int .i64 nb, .int .i64 eb]), rfl, rfl, ⟨rfl, fun W hW => by first | exact ⟨rfl, rfl⟩ | (simp only [Act.eval, execOp]; go_simp; try exact ⟨rfl, rfl⟩)⟩, ?_⟩
        simp only [Act.put, List.setIfInBounds_toArray, List.set_cons_succ, List.set_cons_zero]
        refine ⟨_, _, (.agg #[.slice A9 lb.length c9, .int .i64 R]), rfl, rfl, ⟨rfl, fun W hW => by first | exact ⟨rfl, rfl⟩ | (simp only [Act.eval, execOp]; go_simp; try exact ⟨rfl, rfl⟩)⟩, ?_⟩
        simp only [Act.put, List.setIfInBounds_toArray, List.set_cons_succ, List.set_cons_zero]
        refine ⟨_, _, .int .i64 nb, rfl, rfl, ⟨rfl, fun W hW => by first | exact ⟨rfl, rfl⟩ | (simp only [Act.eval, execOp]; go_simp; try exact ⟨rfl, rfl⟩)⟩, ?_⟩
        simp only [Act.put, List.setIfInBounds_toArray, List.set_cons_succ, List.set_cons_zero]
        refine ⟨_, _, .int .i64 eb, rfl, rfl, ⟨rfl, fun W hW => by first | exact ⟨rfl, rfl⟩ | (simp only [Act.eval, execOp]; go_simp; try exact ⟨rfl, rfl⟩)⟩, ?_⟩
        simp only [Act.put, List.setIfInBounds_toArray, List.set_cons_succ, List.set_cons_zero]
        refine ⟨_, rfl, ?_⟩
        go_wp2_with fail
        refine ⟨rfl, hB9, ?_⟩
        refine ⟨_, rfl, ?_⟩
        go_wp2_with fail
        refine ⟨rfl, hB9, ?_⟩
        refine ⟨_, rfl, ?_⟩
        go_wp2_with fail
        refine ⟨rfl, hB9, ?_⟩
        show ∃ (A9 : Option Addr) (c9 b9 : Nat), _
        refine ⟨A9, c9, v5.heap.size, ?_, hS9, hB9⟩
        first | rfl | simp only [Act.put, List.setIfInBounds_toArray, List.set_cons_succ, List.set_cons_zero]
    rintro a9 v6 ⟨A6, c6, b6, rfl, hS6, hb6⟩
    simp only [Act.put, List.setIfInBounds_toArray, List.set_cons_succ, List.set_cons_zero]
    have hlb : lb.length ≤ 44 := by have := HAG.out.2.2; omega
    have HB6 := Lib.hid hS6
    have HA6 := Lib.hid (HA5.out.below hb6)
    have HS6' := Lib.hid (HS5.out.below hb6)
    have HK6 := Lib.hid (HK5.out.below hb6)
    have HBw6 := Lib.hid (Qt.more HB5.out (hb0 ▸ HB5.out.size) hb6)
    have s0 := hS6.s0
    have s1 := hS6.s1
    have k0 := HK6.out.c0
    have k1 := HK6.out.c1
    have k2 := HK6.out.c2
    have k3 := HK6.out.c3
    have hcap6 := hS6.cap
    have hin := nodeIntern_any A6 lb c6 R k v6 hS6.rd (by omega) hcap6
    rw [HAG.out.2.1] at hin
    unfold storeV kidsV at hin
    clear hin2 hkd2 HA5 HS5 HK5 HB5 hS6 hb6 HP5
    go_wp2_with fail
    clear s0 s1 k0 k1 k2 k3
    refine hin.mono ?_
    intro e w7 h
    obtain ⟨A7, c7, rfl, hcap7, N7, hb7⟩ := putR_box h
    have hal := (Below.refl w7.heap.size w7).alloc (Nat.le_refl _) (.cells #[.slice A7 lb.length c7, .int .i64 R] 25)
    have HC7 := Lib.hid (stB_new N7 hcap7 R)
    have HB7 := Lib.hid ((HB6.out.below hb7).below hal)
    have HA7 := Lib.hid ((HA6.out.below hb7).below hal)
    have HS7 := Lib.hid ((HS6'.out.below hb7).below hal)
    have HK7 := Lib.hid ((HK6.out.below hb7).below hal)
    have hBw7 := Qt.more HBw6.out (hb0 ▸ HBw6.out.size) hb7
    have HBw7 := Lib.hid (Qt.more hBw7 (hb0 ▸ hBw7.size) hal)
    have b0' := HB7.out.s0
    have b1' := HB7.out.s1
    have hsm := refSame6_any A6 lb c6 R A7 lb c7 R _ HB7.out.rd HC7.out.rd (by omega) (by omega)
    rw [decide_eq_true (⟨rfl, rfl⟩ : R = R ∧ lb = lb)] at hsm
    unfold storeV at hsm
    clear h hin hb7 hal hBw7 HBw6 HB6 HA6 HS6' HK6 N7
    go_wp2_with fail
    clear b0' b1'
    refine hsm.mono ?_
    generalize (w7.alloc (.cells #[.slice A7 lb.length c7, .int .i64 R] 25)) = v7 at *
    generalize w7.heap.size = b7 at *
    rintro e w8 ⟨rfl, hb8⟩
    have HB8 := Lib.hid (HB7.out.below hb8)
    have HA8 := Lib.hid (HA7.out.below hb8)
    have HS8 := Lib.hid (HS7.out.below hb8)
    have HK8 := Lib.hid (HK7.out.below hb8)
    have HBw8 := Lib.hid (Qt.more HBw7.out (hb0 ▸ HBw7.out.size) hb8)
    have s0 := HB8.out.s0
    have s1 := HB8.out.s1
    have hrt := nodeRight_any A6 lb c6 R w8 HB8.out.rd (by omega) hcap6
    rw [right_iff.2 HAG.out.1] at hrt
    unfold storeV at hrt
    clear hsm hb8 HBw7 HB7 HA7 HS7 HK7 HC7
    go_wp2_with fail
    clear s0 s1
    refine hrt.mono ?_
    rintro e w9 ⟨rfl, hb9⟩
    have HA9 := Lib.hid (HA8.out.below hb9)
    have HS9 := Lib.hid (HS8.out.below hb9)
    have HK9 := Lib.hid (HK8.out.below hb9)
    have HBw9 := Lib.hid (Qt.more HBw8.out (hb0 ▸ HBw8.out.size) hb9)
    have s0 := HS9.out.s0
    have a0 := HA9.out.s0
    have hln := HOh.out.len
    have h42 : l.length ≤ 42 := HSl.out
    have z1 : ¬ ((l1.length : Int) < (l.length : Int)) := by omega
    have z2 : ¬ ((l1.length : Int) > (l.length : Int) + 1) := by omega
    have z3 : (l1.length : Int) ≤ (l.length : Int) + 1 := by omega
    have z4 : (l.length : Int) ≤ (l1.length : Int) := by omega
    clear hrt hb9 HBw8 HB8 HA8 HS8 HK8 hln
    go_wp2_with fail
    clear s0 a0
    have HN := Lib.hid HOh.out.n_
    obtain ⟨qs, os, rfl, _, hns⟩ := HS9.out.nd (by omega)
    obtain ⟨qa, oa, rfl, _, hna⟩ := HA9.out.nd (by omega)
    have HNS := Lib.hid hns
    have HNA := Lib.hid hna
    clear hns hna
    go_loopw [21] (fun i wr => ∃ j : Nat, j ≤ l.length ∧ i = .int .i64 j ∧ Hid (Below w9.heap.size w9 wr)) (fun i _ => l.length - (intOf i).toNat)
    case atStart => exact ⟨0, Nat.zero_le _, rfl, Below.refl _ _⟩
    case round =>
      obtain ⟨j, hj, rfl, HB⟩ := hrel
      have s0 := (HS9.out.below HB.out).s0
      by_cases hlt : j < l.length
      · have hltz : (j : Int) < (l.length : Int) := by omega
        obtain ⟨n0, n1, n2, n3, n4, n5⟩ := HNS.out j hlt
        obtain ⟨m0, m1, m2, m3, m4, m5⟩ := HNA.out j (by omega)
        rw [HOh.out.same j hlt] at m0 m1 m2 m3 m4 m5
        have hne := fun W => neqN (l.getD j deadN) (l.getD j deadN) W
        rw [decide_eq_true (rfl : l.getD j deadN = l.getD j deadN)] at hne
        generalize l.getD j deadN = x at *
        have q0 := Qt.cell_in (Qt.keep HB.out n0)
        have q1 := Qt.cell_in (Qt.keep HB.out n1)
        have q2 := Qt.cell_in (Qt.keep HB.out n2)
        have q3 := Qt.cell_in (Qt.keep HB.out n3)
        have q4 := Qt.cell_in (Qt.keep HB.out n4)
        have q5 := Qt.cell_in (Qt.keep HB.out n5)
        have p0 := Qt.cell_in (Qt.keep HB.out m0)
        have p1 := Qt.cell_in (Qt.keep HB.out m1)
        have p2 := Qt.cell_in (Qt.keep HB.out m2)
        have p3 := Qt.cell_in (Qt.keep HB.out m3)
        have p4 := Qt.cell_in (Qt.keep HB.out m4)
        have p5 := Qt.cell_in (Qt.keep HB.out m5)
        have t0 := Qt.cell_in s0
        have t1 := Qt.cell_in (HA9.out.below HB.out).s0
        have d1 : decide ((j : Int) < 0) = false := decide_eq_false (by omega)
        have d2 : decide (l.length ≤ j) = false := decide_eq_false (by omega)
        have d3 : decide (l1.length ≤ j) = false := decide_eq_false (by omega)
        have hj1 : (j : Int) < (l1.length : Int) := by omega
        clear n0 n1 n2 n3 n4 n5 m0 m1 m2 m3 m4 m5
        go_wp2_with fail
        refine Qt.below_all (by kernel_rfl) (by kernel_rfl) ?_
        repeat (go_big_quiet_step (fail))
        refine wpQuiet_nil ?_
        intro w10 hb10
        have HB10 := Lib.hid (Qt.more HB.out HB.out.size hb10)
        clear q0 q1 q2 q3 q4 q5 p0 p1 p2 p3 p4 p5 t0 t1 hne s0 hb10
        go_wp2_with fail
        go_roundw
        case measure => simp [intOf]; omega
        case rel => exact ⟨j + 1, by omega, by go_num, HB10.out⟩
      · obtain rfl : j = l.length := by omega
        have hltz : ¬ (l.length : Int) < (l.length : Int) := by omega
        have HBf := Lib.hid (Qt.more HBw9.out (hb0 ▸ HBw9.out.size) HB.out)
        obtain ⟨m0, m1, m2, m3, m4, m5⟩ := HNA.out n HN.out
        rw [HOh.out.kids] at m1 m2 m3 m4
        have he := fun W => heql k k W
        rw [decide_eq_true (rfl : k = k)] at he
        have hn := HN.out
        have hnz : (n : Int) < (l1.length : Int) := by omega
        have d1 : decide ((n : Int) < 0) = false := decide_eq_false (by omega)
        have d2 : decide (l1.length ≤ n) = false := decide_eq_false (by omega)
        have q1 := Qt.cell_in (Qt.keep HB.out m1)
        have q2 := Qt.cell_in (Qt.keep HB.out m2)
        have q3 := Qt.cell_in (Qt.keep HB.out m3)
        have q4 := Qt.cell_in (Qt.keep HB.out m4)
        have t1 := Qt.cell_in (HA9.out.below HB.out).s0
        have k0 := Qt.cell_in (HK9.out.below HB.out).c0
        have k1 := Qt.cell_in (HK9.out.below HB.out).c1
        have k2 := Qt.cell_in (HK9.out.below HB.out).c2
        have k3 := Qt.cell_in (HK9.out.below HB.out).c3
        clear m0 m1 m2 m3 m4 m5 heql hn
        go_wp2_with fail
        refine Qt.below_all (by kernel_rfl) (by kernel_rfl) ?_
        repeat (go_big_quiet_step (fail))
        refine wpQuiet_nil ?_
        intro w10 hb10
        have hB10 := Qt.more HBf.out (hb0 ▸ HBf.out.size) hb10
        go_wp2_with fail
        go_ret
        first
          | exact ⟨rfl, hB10⟩
          | exact ⟨rfl, hb0 ▸ hB10⟩
  · rw [e1] at hin
    unfold storeV kidsV at hin
    refine hin.mono ?_
    intro e w5 h
    obtain ⟨A5, c5, rfl, hcap5, N5, hb5⟩ := putR_box h
    have hal := (Below.refl w5.heap.size w5).alloc (Nat.le_refl _) (.cells #[.slice A5 l.length c5, .int .i64 R] 25)
    have HA5 := Lib.hid (stB_new N5 hcap5 R)
    have HS5 := Lib.hid ((HS3.out.below hb5).below hal)
    have hB5 := Qt.more HB3.out (hb0 ▸ HB3.out.size) hb5
    have HB5 := Lib.hid (Qt.more hB5 (hb0 ▸ hB5.size) hal)
    have s0o := fun o => ((HS3.out.below hb5).below ((Below.refl w5.heap.size w5).alloc (Nat.le_refl _) o)).s0
    have s1o := fun o => ((HS3.out.below hb5).below ((Below.refl w5.heap.size w5).alloc (Nat.le_refl _) o)).s1
    have h42 : l.length ≤ 42 := HSl.out
    have hsm := refSame6_any A5 l c5 R A2 l c2 R _ HA5.out.rd HS5.out.rd (by omega) (by omega)
    rw [decide_eq_true (⟨rfl, rfl⟩ : R = R ∧ l = l)] at hsm
    unfold storeV at hsm
    clear h hin hb5 hal hB5 HB3 HP3 HK3 HS3 N5
    go_wp2_with fail
    refine hsm.mono ?_
    rintro e w6 ⟨rfl, hb6⟩
    have hBf := Lib.hid (Qt.more HB5.out (hb0 ▸ HB5.out.size) hb6)
    go_wp2_with fail
    go_ret
    first
      | exact ⟨rfl, hBf.out⟩
      | exact ⟨rfl, hb0 ▸ hBf.out⟩
end Go.Proofs.Ytdlkeginnmhecaa
