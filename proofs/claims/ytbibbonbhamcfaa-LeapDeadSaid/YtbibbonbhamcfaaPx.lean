/-
  LeapDead: of what is dead each leap is dead, and each run, as far as the levels go.
-/
import Derived.Test.YtbibbonbhamcfaaB27
import Derived.Test.YtbibbonbhamcfaaB14
import Derived.Test.YtbibbonbhamcfaaB13
import Derived.Test.YtbibbonbhamcfaaB21
import Derived.Test.YtbibbonbhamcfaaB24
import Derived.Test.YtbibbonbhamcfaaB20
import Derived.Test.YtbibbonbhamcfaaB08
import Derived.Test.YtbibbonbhamcfaaB10
namespace Go.Proofs.Ytbibbonbhamcfaa
set_option maxRecDepth 100000
set_option linter.unusedVariables false
set_option linter.unusedSimpArgs false
open Go.RowKit Go.Sort

/-- the law's numbers -/
structure DeaN (level j count : Int) (p vz lz ez cz : Int) (u : Nat) (R : Int) (s : List Nd) (n m : Nat) (b : List Nd) (k : Nat) : Prop where
  pk1 : ∀ W, Calls Try.prog 14 #[.int .i64 level, .int .i64 41] W fun e w' => e = .returned (.int .i64 p) ∧ W = w'
  pk2 : ∀ W, Calls Try.prog 14 #[.int .i64 j, .int .i64 lz] W fun e w' => e = .returned (.int .i64 ez) ∧ W = w'
  pk3 : ∀ W, Calls Try.prog 14 #[.int .i64 count, .int .i64 1099511627776] W fun e w' => e = .returned (.int .i64 (u : Int)) ∧ W = w'
  wv : IntKind.i64.wrap (2 + p) = vz
  wl : IntKind.i64.wrap (vz - 1) = lz
  wc : IntKind.i64.wrap (1099511627776 + (u : Int)) = cz
  bz : I64 ez ∧ I64 cz ∧ I64 (u : Int)
  mke : empty6 new6 R vz = (s, (n : Int), 0)
  lp : leap9 s R (n : Int) ez = (s, (m : Int), 0)
  r1 : run9 s R (n : Int) (u : Int) = (b, (k : Int), 0)
  r2 : run9 s R (n : Int) cz = (s, 0, 2)
  rs : Right6 s R
  rb : Right6 b R
  mlt : m < s.length
  klt : k < b.length
  mlev : (s.getD m deadN).1 = lz
  mpop : (s.getD m deadN).2.2 = 0
  klev : (b.getD k deadN).1 = 2
  kpop : (b.getD k deadN).2.2 = 0
theorem dea_num {R : Int} (hR : R = 500) {level j count : Int} (h1 : I64 level) (h2 : I64 j) (h3 : I64 count) : ∃ p vz lz ez cz u s n m b k, DeaN level j count p vz lz ez cz u R s n m b k := by
  have q1 := pickI_bd level 41 (by decide)
  have q3 := pickI_bd count 1099511627776 (by decide)
  obtain ⟨v, hv⟩ : ∃ v : Nat, (v : Int) = 2 + pickI level 41 := ⟨(2 + pickI level 41).toNat, by omega⟩
  have q2 := pickI_bd j ((v : Int) - 1) (by omega)
  obtain ⟨e, he⟩ : ∃ e : Nat, (e : Int) = pickI j ((v : Int) - 1) := ⟨(pickI j ((v : Int) - 1)).toNat, by omega⟩
  obtain ⟨u, hu⟩ : ∃ u : Nat, (u : Int) = pickI count 1099511627776 := ⟨(pickI count 1099511627776).toNat, by omega⟩
  obtain ⟨s, n, m, b, k, hk⟩ := dea_known hR (v := v) (e := e) (u := u) (c1 := u) (by omega) (by omega) (by omega) (by omega) (by omega)
  have hm := emp_node hk.rs _ _ hk.em
  have hkk := emp_node hk.rb _ _ hk.ek
  refine ⟨pickI level 41, v, (v : Int) - 1, e, ((1099511627776 + u : Nat) : Int), u, s, n, m, b, k, fun W => pick9_any level 41 W h1.1 h1.2 (by decide) (by decide), fun W => by rw [he]; exact pick9_any j ((v : Int) - 1) W h2.1 h2.2 (by omega) (by omega), fun W => by rw [hu]; exact pick9_any count 1099511627776 W h3.1 h3.2 (by decide) (by decide), ?_, ?_, ?_, ⟨⟨by omega, by omega⟩, ⟨by omega, by omega⟩, ⟨by omega, by omega⟩⟩, hk.mke, hk.lp, hk.r1, hk.r2, hk.rs, hk.rb, hm.1, hkk.1, ?_, hm.2.2, hkk.2.1, hkk.2.2⟩
  · rw [IntKind.wrap_i64]; omega
  · rw [IntKind.wrap_i64]; omega
  · rw [IntKind.wrap_i64]; omega
  · rw [hm.2.1]; omega
set_option maxHeartbeats 16000000 in
theorem leapDead_law (level j count : Int) (w : World) (hI1 : I64 level) (hI2 : I64 j) (hI3 : I64 count) :
    Calls Try.prog 10 #[.int .i64 level, .int .i64 j, .int .i64 count] w fun e w' => e = .returned (.bool true) ∧ Below w.heap.size w w' := by
  obtain ⟨R, hR⟩ : ∃ R : Int, R = 500 := ⟨_, rfl⟩
  obtain ⟨p, vz, lz, ez, cz, u, s, n, m, b, k, hmk⟩ := dea_num hR hI1 hI2 hI3
  have hnew := fun W => refNew6_any 500 W
  have hnl : newL 500 = new6 := by decide
  have hnr : newRoom 500 = R := by rw [hR]; decide
  rw [hnl, hnr] at hnew
  have hpk1 := hmk.pk1
  have hpk2 := hmk.pk2
  have hpk3 := hmk.pk3
  have hwv := hmk.wv
  have hwl := hmk.wl
  have HMK := Lib.hid hmk
  have HRV := Lib.hid hR
  clear hmk hR hnl hnr hI1 hI2 hI3
  go_enter Try.func10, Try.ntmps10
  go_wp2_with fail
  refine (awake9_any w).mono ?_
  rintro r w1 ⟨rfl, hb1⟩
  have HB1 := Lib.hid hb1
  clear hb1
  go_wp2_with fail
  refine (hpk1 _).mono ?_
  rintro r _ ⟨rfl, rfl⟩
  go_wp2_with fail
  refine (hpk2 _).mono ?_
  rintro r _ ⟨rfl, rfl⟩
  clear hpk1 hpk2 hwv hwl
  go_wp2_with fail
  refine (hnew _).mono ?_
  intro r w3 h
  obtain ⟨A3, c3, rfl, hcap3, N3, hb3⟩ := storeR_box h
  have HB3 := Lib.hid (Qt.more HB1.out HB1.out.size hb3)
  have hc := refEmpty6_any A3 new6 c3 R vz w3 N3 (by decide) hcap3 (lev_bd (new_right (room := R) (by have := HRV.out; omega) (by have := HRV.out; omega)))
  rw [HMK.out.mke] at hc
  unfold storeV at hc
  clear h hb3 hnew HB1 N3
  go_wp2_with fail
  refine hc.mono ?_
  intro r w4 h
  obtain ⟨A4, c4, rfl, hcap4, N4, hb4⟩ := putR_box h
  have hal := (Below.refl w4.heap.size w4).alloc (Nat.le_refl _) (.cells #[.slice A4 s.length c4, .int .i64 R] 26)
  have hb' := Qt.more (B := w3.heap.size) hb4 hb4.size hal
  have HS4 := Lib.hid (stB_new N4 hcap4 R)
  have HB4 := Lib.hid (Qt.more HB3.out HB3.out.size hb')
  have hml := right_len HMK.out.rs
  clear h hc hb4 hb' N4 hal HB3
  have s0 := HS4.out.s0
  have s1 := HS4.out.s1
  go_wp2_with fail
  clear s0 s1
  generalize (w4.alloc (.cells #[.slice A4 s.length c4, .int .i64 R] 26)) = v4 at *
  generalize w4.heap.size = b4 at *
  have hc := leap9_any A4 s c4 R n ez v4 HMK.out.bz.1 HS4.out.rd (by omega) hcap4 (lev_bd HMK.out.rs)
  rw [HMK.out.lp] at hc
  unfold storeV at hc
  refine hc.mono ?_
  intro r w5 h
  obtain ⟨A5, c5, rfl, hcap5, N5, hb5⟩ := putR_box h
  have hal := (Below.refl w5.heap.size w5).alloc (Nat.le_refl _) (.cells #[.slice A5 s.length c5, .int .i64 R] 26)
  have hb' := Qt.more (B := v4.heap.size) hb5 hb5.size hal
  have HT5 := Lib.hid (stB_new N5 hcap5 R)
  have HS5 := Lib.hid (HS4.out.below hb')
  have HB5 := Lib.hid (Qt.more HB4.out HB4.out.size hb')
  clear h hc hb5 hb' N5 hal HB4 HS4
  have s0 := HT5.out.s0
  have s1 := HT5.out.s1
  go_wp2_with fail
  clear s0 s1
  generalize (w5.alloc (.cells #[.slice A5 s.length c5, .int .i64 R] 26)) = v5 at *
  generalize w5.heap.size = b5 at *
  have hrn := fun W hW => run9_any A4 s c4 R n u W HMK.out.bz.2.2 hW (by omega) hcap4 (lev_bd HMK.out.rs)
  rw [HMK.out.r1] at hrn
  unfold storeV at hrn
  refine region_calm_to (fun W => Below v5.heap.size v5 W) (fun (a0 a9 : Act) (w9 : World) => ∃ (A9 : Option Addr) (c9 b9 : Nat), a9 = ((((((((((((a0.put (some 47) (.int .i64 (n : Int))).put (some 48) (.int .i64 count)).put (some 49) (.int .i64 (u : Int))).put (some 46) (.agg #[.slice A4 s.length c4, .int .i64 R])).put (some 50) (.tuple #[.agg #[.slice A9 b.length c9, .int .i64 R], .int .i64 (k : Int), .int .i64 0])).put (some 45) (.tuple #[.agg #[.slice A9 b.length c9, .int .i64 R], .int .i64 (k : Int), .int .i64 0])).put (some 51) (.agg #[.slice A9 b.length c9, .int .i64 R])).put (some 52) (.int .i64 (k : Int))).put (some 53) (.int .i64 0)).put (some 16) (.pointer (some ⟨b9, 0, none⟩))).put (some 17) (.int .i64 (k : Int))).put (some 18) (.int .i64 0)) ∧ StB w9 b9 A9 b c9 R ∧ Below v5.heap.size v5 w9) (.calm 1 (.calm 2 (.calm 3 (.calm 0 (.two 4 9 (.calm 5 (.calm 6 (.calm 7 (.calm 8 (.only 9 (.only 10 (.only 11 (.only 12 .done)))))))) (.only 4 (.calm 5 (.calm 6 (.calm 7 (.calm 8 (.only 10 (.only 11 (.only 12 .done))))))))))))) (by kernel_rfl) (by kernel_rfl) (by kernel_rfl) (by rfl) (below_drew _) ?_ ?_
  · skip
    refine ⟨_, _, .int .i64 (n : Int), rfl, rfl, ⟨rfl, fun W hW => by first | exact ⟨rfl, rfl⟩ | (simp only [Act.eval, execOp]; go_simp; try exact ⟨rfl, rfl⟩)⟩, ?_⟩
    simp only [Act.put, List.setIfInBounds_toArray, List.set_cons_succ, List.set_cons_zero]
    refine ⟨_, _, .int .i64 count, rfl, rfl, ⟨rfl, fun W hW => by first | exact ⟨rfl, rfl⟩ | (simp only [Act.eval, execOp]; go_simp; try exact ⟨rfl, rfl⟩)⟩, ?_⟩
    simp only [Act.put, List.setIfInBounds_toArray, List.set_cons_succ, List.set_cons_zero]
    refine ⟨_, _, .int .i64 (u : Int), rfl, rfl, ⟨rfl, fun W hW => by simp only [execOp]; go_simp; exact (hpk3 W).mono fun e w1 h => ⟨h.1, h.2.symm⟩⟩, ?_⟩
    simp only [Act.put, List.setIfInBounds_toArray, List.set_cons_succ, List.set_cons_zero]
    refine ⟨_, _, (.agg #[.slice A4 s.length c4, .int .i64 R]), rfl, rfl, ⟨rfl, fun W hW => by have s0 := (HS5.out.below hW).s0; have s1 := (HS5.out.below hW).s1; simp only [execOp]; go_simp; done⟩, ?_⟩
    simp only [Act.put, List.setIfInBounds_toArray, List.set_cons_succ, List.set_cons_zero]
    constructor
    · refine ⟨_, rfl, ?_⟩
      go_wp2_with fail
      refine (hrn _ (HS5.out.rd.below (below_drew _))).mono ?_
      intro e w9 h
      obtain ⟨A9, c9, rfl, hcap9, N9, hb⟩ := putR_box h
      have hBc := Qt.more (below_drew v5) (Nat.le_refl _) hb
      have hS9 := stB_new N9 hcap9 R
      have hB9 := hBc.alloc hBc.size (.cells #[.slice A9 b.length c9, .int .i64 R] 26)
      have hB8 := hBc.alloc hBc.size (.cells #[.slice none 0 0, .int .i64 0] 26)
      clear h hb
      go_wp2_with fail
      refine ⟨rfl, hBc, ?_⟩
      refine ⟨_, _, (.tuple #[.agg #[.slice A9 b.length c9, .int .i64 R], .int .i64 (k : Int), .int .i64 0]), rfl, rfl, ⟨rfl, fun W hW => by first | exact ⟨rfl, rfl⟩ | (simp only [Act.eval, execOp]; go_simp; try exact ⟨rfl, rfl⟩)⟩, ?_⟩
      simp only [Act.put, List.setIfInBounds_toArray, List.set_cons_succ, List.set_cons_zero]
      refine ⟨_, _, (.agg #[.slice A9 b.length c9, .int .i64 R]), rfl, rfl, ⟨rfl, fun W hW => by first | exact ⟨rfl, rfl⟩ | (simp only [Act.eval, execOp]; go_simp; try exact ⟨rfl, rfl⟩)⟩, ?_⟩
      simp only [Act.put, List.setIfInBounds_toArray, List.set_cons_succ, List.set_cons_zero]
      refine ⟨_, _, .int .i64 (k : Int), rfl, rfl, ⟨rfl, fun W hW => by first | exact ⟨rfl, rfl⟩ | (simp only [Act.eval, execOp]; go_simp; try exact ⟨rfl, rfl⟩)⟩, ?_⟩
      simp only [Act.put, List.setIfInBounds_toArray, List.set_cons_succ, List.set_cons_zero]
      refine ⟨_, _, .int .i64 0, rfl, rfl, ⟨rfl, fun W hW => by first | exact ⟨rfl, rfl⟩ | (simp only [Act.eval, execOp]; go_simp; try exact ⟨rfl, rfl⟩)⟩, ?_⟩
      simp only [Act.put, List.setIfInBounds_toArray, List.set_cons_succ, List.set_cons_zero]
      refine ⟨_, rfl, ?_⟩
      go_wp2_with fail
      refine ⟨rfl, hB8, ?_⟩
      refine ⟨_, rfl, ?_⟩
      go_wp2_with fail
      refine ⟨rfl, hB9, ?_⟩
      refine ⟨_, rfl, ?_⟩
      go_wp2_with fail
      refine ⟨rfl, hB9, ?_⟩
      refine ⟨_, rfl, ?_⟩
      go_wp2_with fail
      refine ⟨rfl, hB9, ?_⟩
      show ∃ (A9 : Option Addr) (c9 b9 : Nat), _
      refine ⟨A9, c9, w9.heap.size, ?_, hS9, hB9⟩
      first | rfl | simp only [Act.put, List.setIfInBounds_toArray, List.set_cons_succ, List.set_cons_zero]
    · refine ⟨_, rfl, ?_⟩
      have hB8 := (below_drew v5).alloc (Nat.le_refl _) (.cells #[.slice none 0 0, .int .i64 0] 26)
      have hrow8 : (v5.drew.alloc (.cells #[.slice none 0 0, .int .i64 0] 26 (0, 0))).heap[v5.heap.size]? = _ := heap_alloc_new v5.drew (.cells #[.slice none 0 0, .int .i64 0] 26 (0, 0))
      go_wp2_with fail
      refine ⟨rfl, hB8, ?_⟩
      refine ⟨_, rfl, ?_⟩
      go_wp2_with fail
      refine (hrn _ (HS5.out.rd.below hB8)).mono ?_
      intro e w9 h
      obtain ⟨A9, c9, rfl, hcap9, N9, hb⟩ := putR_box h
      have hBc := Qt.more hB8 hB8.size hb
      have hrow9 := (hb.block _ (lt_heap6 hrow8)).trans hrow8
      have hS9 := stB_put (room := R) hrow9 N9 hcap9
      have hB9 := (hBc.setCell (p := ⟨v5.heap.size, 0, none⟩) (Nat.le_refl _) (.slice A9 b.length c9)).setCell (p := ⟨v5.heap.size, 1, none⟩) (Nat.le_refl _) (.int .i64 R)
      have f0 : w9.frozen? ⟨v5.heap.size, 0, none⟩ = false := Lib.frozen_of_heap hrow9 0
      have f1 : w9.frozen? ⟨v5.heap.size, 1, none⟩ = false := Lib.frozen_of_heap hrow9 1
      have g0 : w9.cell? ⟨v5.heap.size, 0, none⟩ = some (.slice none 0 0) := by rw [Lib.cell_of_heap hrow9]; rfl
      have g1 : w9.cell? ⟨v5.heap.size, 1, none⟩ = some (.int .i64 0) := by rw [Lib.cell_of_heap hrow9]; rfl
      clear h hb hrow9 hrow8
      go_wp2_with fail
      refine ⟨rfl, hBc, ?_⟩
      refine ⟨_, _, (.tuple #[.agg #[.slice A9 b.length c9, .int .i64 R], .int .i64 (k : Int), .int .i64 0]), rfl, rfl, ⟨rfl, fun W hW => by first | exact ⟨rfl, rfl⟩ | (simp only [Act.eval, execOp]; go_simp; try exact ⟨rfl, rfl⟩)⟩, ?_⟩
      simp only [Act.put, List.setIfInBounds_toArray, List.set_cons_succ, List.set_cons_zero]
      refine ⟨_, _, (.agg #[.slice A9 b.length c9, .int .i64 R]), rfl, rfl, ⟨rfl, fun W hW => by first | exact ⟨rfl, rfl⟩ | (simp only [Act.eval, execOp]; go_simp; try exact ⟨rfl, rfl⟩)⟩, ?_⟩
      simp only [Act.put, List.setIfInBounds_toArray, List.set_cons_succ, List.set_cons_zero]
      refine ⟨_, _, .int .i64 (k : Int), rfl, rfl, ⟨rfl, fun W hW => by first | exact ⟨rfl, rfl⟩ | (simp only [Act.eval, execOp]; go_simp; try exact ⟨rfl, rfl⟩)⟩, ?_⟩
      simp only [Act.put, List.setIfInBounds_toArray, List.set_cons_succ, List.set_cons_zero]
      refine ⟨_, _, .int .i64 0, rfl, rfl, ⟨rfl, fun W hW => by first | exact ⟨rfl, rfl⟩ | (simp only [Act.eval, execOp]; go_simp; try exact ⟨rfl, rfl⟩)⟩, ?_⟩
      simp only [Act.put, List.setIfInBounds_toArray, List.set_cons_succ, List.set_cons_zero]
      refine ⟨_, rfl, ?_⟩
      go_wp2_with fail
      refine ⟨rfl, hB9, ?_⟩
      refine ⟨_, rfl, ?_⟩
      go_wp2_with fail
      refine ⟨rfl, hB9, ?_⟩
      refine ⟨_, rfl, ?_⟩
      go_wp2_with fail
      refine ⟨rfl, hB9, ?_⟩
      show ∃ (A9 : Option Addr) (c9 b9 : Nat), _
      refine ⟨A9, c9, v5.heap.size, ?_, hS9, hB9⟩
      first | rfl | simp only [Act.put, List.setIfInBounds_toArray, List.set_cons_succ, List.set_cons_zero]
  rintro a9 v6 ⟨A6, c6, b6, rfl, hS6, hb6⟩
  simp only [Act.put, List.setIfInBounds_toArray, List.set_cons_succ, List.set_cons_zero]
  have HS6 := Lib.hid hS6
  have HT6 := Lib.hid (HT5.out.below hb6)
  have HS7 := Lib.hid (HS5.out.below hb6)
  have HB6 := Lib.hid (Qt.more HB5.out HB5.out.size hb6)
  clear hrn hS6 hb6 HS5 HB5 HT5
  go_wp2_with fail
  have hrn := fun W hW => run9_any A4 s c4 R n cz W HMK.out.bz.2.1 hW (by omega) hcap4 (lev_bd HMK.out.rs)
  rw [HMK.out.r2] at hrn
  unfold storeV at hrn
  have hwc := HMK.out.wc
  refine region_calm_to (fun W => Below v6.heap.size v6 W) (fun (a0 a9 : Act) (w9 : World) => ∃ (A9 : Option Addr) (c9 b9 : Nat), a9 = (((((((((((((a0.put (some 56) (.int .i64 (n : Int))).put (some 57) (.int .i64 count)).put (some 58) (.int .i64 (u : Int))).put (some 59) (.int .i64 cz)).put (some 55) (.agg #[.slice A4 s.length c4, .int .i64 R])).put (some 60) (.tuple #[.agg #[.slice A9 s.length c9, .int .i64 R], .int .i64 ((0 : Nat) : Int), .int .i64 2])).put (some 54) (.tuple #[.agg #[.slice A9 s.length c9, .int .i64 R], .int .i64 ((0 : Nat) : Int), .int .i64 2])).put (some 61) (.agg #[.slice A9 s.length c9, .int .i64 R])).put (some 62) (.int .i64 ((0 : Nat) : Int))).put (some 63) (.int .i64 2)).put (some 19) (.pointer (some ⟨b9, 0, none⟩))).put (some 20) (.int .i64 ((0 : Nat) : Int))).put (some 21) (.int .i64 2)) ∧ StB w9 b9 A9 s c9 R ∧ Below v6.heap.size v6 w9) (.calm 1 (.calm 2 (.calm 3 (.calm 4 (.calm 0 (.two 5 10 (.calm 6 (.calm 7 (.calm 8 (.calm 9 (.only 10 (.only 11 (.only 12 (.only 13 .done)))))))) (.only 5 (.calm 6 (.calm 7 (.calm 8 (.calm 9 (.only 11 (.only 12 (.only 13 .done)))))))))))))) (by kernel_rfl) (by kernel_rfl) (by kernel_rfl) (by rfl) (below_drew _) ?_ ?_
  · skip
    refine ⟨_, _, .int .i64 (n : Int), rfl, rfl, ⟨rfl, fun W hW => by first | exact ⟨rfl, rfl⟩ | (simp only [Act.eval, execOp]; go_simp; try exact ⟨rfl, rfl⟩)⟩, ?_⟩
    simp only [Act.put, List.setIfInBounds_toArray, List.set_cons_succ, List.set_cons_zero]
    refine ⟨_, _, .int .i64 count, rfl, rfl, ⟨rfl, fun W hW => by first | exact ⟨rfl, rfl⟩ | (simp only [Act.eval, execOp]; go_simp; try exact ⟨rfl, rfl⟩)⟩, ?_⟩
    simp only [Act.put, List.setIfInBounds_toArray, List.set_cons_succ, List.set_cons_zero]
    refine ⟨_, _, .int .i64 (u : Int), rfl, rfl, ⟨rfl, fun W hW => by simp only [execOp]; go_simp; exact (hpk3 W).mono fun e w1 h => ⟨h.1, h.2.symm⟩⟩, ?_⟩
    simp only [Act.put, List.setIfInBounds_toArray, List.set_cons_succ, List.set_cons_zero]
    refine ⟨_, _, .int .i64 cz, rfl, rfl, ⟨rfl, fun W hW => by simp only [Act.eval, execOp]; go_simp; first | done | (rw [hwc]; first | done | exact ⟨rfl, rfl⟩)⟩, ?_⟩
    simp only [Act.put, List.setIfInBounds_toArray, List.set_cons_succ, List.set_cons_zero]
    refine ⟨_, _, (.agg #[.slice A4 s.length c4, .int .i64 R]), rfl, rfl, ⟨rfl, fun W hW => by have s0 := (HS7.out.below hW).s0; have s1 := (HS7.out.below hW).s1; simp only [execOp]; go_simp; done⟩, ?_⟩
    simp only [Act.put, List.setIfInBounds_toArray, List.set_cons_succ, List.set_cons_zero]
    constructor
    · refine ⟨_, rfl, ?_⟩
      go_wp2_with fail
      refine (hrn _ (HS7.out.rd.below (below_drew _))).mono ?_
      intro e w9 h
      obtain ⟨A9, c9, rfl, hcap9, N9, hb⟩ := putR_box h
      have hBc := Qt.more (below_drew v6) (Nat.le_refl _) hb
      have hS9 := stB_new N9 hcap9 R
      have hB9 := hBc.alloc hBc.size (.cells #[.slice A9 s.length c9, .int .i64 R] 26)
      have hB8 := hBc.alloc hBc.size (.cells #[.slice none 0 0, .int .i64 0] 26)
      clear h hb
      go_wp2_with fail
      refine ⟨rfl, hBc, ?_⟩
      refine ⟨_, _, (.tuple #[.agg #[.slice A9 s.length c9, .int .i64 R], .int .i64 ((0 : Nat) : Int), .int .i64 2]), rfl, rfl, ⟨rfl, fun W hW => by first | exact ⟨rfl, rfl⟩ | (simp only [Act.eval, execOp]; go_simp; try exact ⟨rfl, rfl⟩)⟩, ?_⟩
      simp only [Act.put, List.setIfInBounds_toArray, List.set_cons_succ, List.set_cons_zero]
      refine ⟨_, _, (.agg #[.slice A9 s.length c9, .int .i64 R]), rfl, rfl, ⟨rfl, fun W hW => by first | exact ⟨rfl, rfl⟩ | (simp only [Act.eval, execOp]; go_simp; try exact ⟨rfl, rfl⟩)⟩, ?_⟩
      simp only [Act.put, List.setIfInBounds_toArray, List.set_cons_succ, List.set_cons_zero]
      refine ⟨_, _, .int .i64 ((0 : Nat) : Int), rfl, rfl, ⟨rfl, fun W hW => by first | exact ⟨rfl, rfl⟩ | (simp only [Act.eval, execOp]; go_simp; try exact ⟨rfl, rfl⟩)⟩, ?_⟩
      simp only [Act.put, List.setIfInBounds_toArray, List.set_cons_succ, List.set_cons_zero]
      refine ⟨_, _, .int .i64 2, rfl, rfl, ⟨rfl, fun W hW => by first | exact ⟨rfl, rfl⟩ | (simp only [Act.eval, execOp]; go_simp; try exact ⟨rfl, rfl⟩)⟩, ?_⟩
      simp only [Act.put, List.setIfInBounds_toArray, List.set_cons_succ, List.set_cons_zero]
      refine ⟨_, rfl, ?_⟩
      go_wp2_with fail
      refine ⟨rfl, hB8, ?_⟩
      refine ⟨_, rfl, ?_⟩
      go_wp2_with fail
      refine ⟨rfl, hB9, ?_⟩
      refine ⟨_, rfl, ?_⟩
      go_wp2_with fail
      refine ⟨rfl, hB9, ?_⟩
      refine ⟨_, rfl, ?_⟩
      go_wp2_with fail
      refine ⟨rfl, hB9, ?_⟩
      show ∃ (A9 : Option Addr) (c9 b9 : Nat), _
      refine ⟨A9, c9, w9.heap.size, ?_, hS9, hB9⟩
      first | rfl | simp only [Act.put, List.setIfInBounds_toArray, List.set_cons_succ, List.set_cons_zero]
    · refine ⟨_, rfl, ?_⟩
      have hB8 := (below_drew v6).alloc (Nat.le_refl _) (.cells #[.slice none 0 0, .int .i64 0] 26)
      have hrow8 : (v6.drew.alloc (.cells #[.slice none 0 0, .int .i64 0] 26 (0, 0))).heap[v6.heap.size]? = _ := heap_alloc_new v6.drew (.cells #[.slice none 0 0, .int .i64 0] 26 (0, 0))
      go_wp2_with fail
      refine ⟨rfl, hB8, ?_⟩
      refine ⟨_, rfl, ?_⟩
      go_wp2_with fail
      refine (hrn _ (HS7.out.rd.below hB8)).mono ?_
      intro e w9 h
      obtain ⟨A9, c9, rfl, hcap9, N9, hb⟩ := putR_box h
      have hBc := Qt.more hB8 hB8.size hb
      have hrow9 := (hb.block _ (lt_heap6 hrow8)).trans hrow8
      have hS9 := stB_put (room := R) hrow9 N9 hcap9
      have hB9 := (hBc.setCell (p := ⟨v6.heap.size, 0, none⟩) (Nat.le_refl _) (.slice A9 s.length c9)).setCell (p := ⟨v6.heap.size, 1, none⟩) (Nat.le_refl _) (.int .i64 R)
      have f0 : w9.frozen? ⟨v6.heap.size, 0, none⟩ = false := Lib.frozen_of_heap hrow9 0
      have f1 : w9.frozen? ⟨v6.heap.size, 1, none⟩ = false := Lib.frozen_of_heap hrow9 1
      have g0 : w9.cell? ⟨v6.heap.size, 0, none⟩ = some (.slice none 0 0) := by rw [Lib.cell_of_heap hrow9]; rfl
      have g1 : w9.cell? ⟨v6.heap.size, 1, none⟩ = some (.int .i64 0) := by rw [Lib.cell_of_heap hrow9]; rfl
      clear h hb hrow9 hrow8
      go_wp2_with fail
      refine ⟨rfl, hBc, ?_⟩
      refine ⟨_, _, (.tuple #[.agg #[.slice A9 s.length c9, .int .i64 R], .int .i64 ((0 : Nat) : Int), .int .i64 2]), rfl, rfl, ⟨rfl, fun W hW => by first | exact ⟨rfl, rfl⟩ | (simp only [Act.eval, execOp]; go_simp; try exact ⟨rfl, rfl⟩)⟩, ?_⟩
      simp only [Act.put, List.setIfInBounds_toArray, List.set_cons_succ, List.set_cons_zero]
      refine ⟨_, _, (.agg #[.slice A9 s.length c9, .int .i64 R]), rfl, rfl, ⟨rfl, fun W hW => by first | exact ⟨rfl, rfl⟩ | (simp only [Act.eval, execOp]; go_simp; try exact ⟨rfl, rfl⟩)⟩, ?_⟩
      simp only [Act.put, List.setIfInBounds_toArray, List.set_cons_succ, List.set_cons_zero]
      refine ⟨_, _, .int .i64 ((0 : Nat) : Int), rfl, rfl, ⟨rfl, fun W hW => by first | exact ⟨rfl, rfl⟩ | (simp only [Act.eval, execOp]; go_simp; try exact ⟨rfl, rfl⟩)⟩, ?_⟩
      simp only [Act.put, List.setIfInBounds_toArray, List.set_cons_succ, List.set_cons_zero]
      refine ⟨_, _, .int .i64 2, rfl, rfl, ⟨rfl, fun W hW => by first | exact ⟨rfl, rfl⟩ | (simp only [Act.eval, execOp]; go_simp; try exact ⟨rfl, rfl⟩)⟩, ?_⟩
      simp only [Act.put, List.setIfInBounds_toArray, List.set_cons_succ, List.set_cons_zero]
      refine ⟨_, rfl, ?_⟩
      go_wp2_with fail
      refine ⟨rfl, hB9, ?_⟩
      refine ⟨_, rfl, ?_⟩
      go_wp2_with fail
      refine ⟨rfl, hB9, ?_⟩
      refine ⟨_, rfl, ?_⟩
      go_wp2_with fail
      refine ⟨rfl, hB9, ?_⟩
      show ∃ (A9 : Option Addr) (c9 b9 : Nat), _
      refine ⟨A9, c9, v6.heap.size, ?_, hS9, hB9⟩
      first | rfl | simp only [Act.put, List.setIfInBounds_toArray, List.set_cons_succ, List.set_cons_zero]
  rintro a9 v7 ⟨A7, c7, b7, rfl, hS7, hb7⟩
  simp only [Act.put, List.setIfInBounds_toArray, List.set_cons_succ, List.set_cons_zero]
  have HS8 := Lib.hid (HS6.out.below hb7)
  have HT8 := Lib.hid (HT6.out.below hb7)
  have HB7 := Lib.hid (Qt.more HB6.out HB6.out.size hb7)
  clear hrn hS7 hb7 HS6 HB6 HT6 HS7 hpk3 hwc
  have hlt1 : m < s.length := HMK.out.mlt
  have hlt1y : (m : Int) < (s.length : Int) := by omega
  have hlt2 : k < b.length := HMK.out.klt
  have hlt2y : (k : Int) < (b.length : Int) := by omega
  have hwl := HMK.out.wl
  obtain ⟨qa, oa, hA5, _, _⟩ := HT8.out.nd (Nat.lt_of_le_of_lt (Nat.zero_le _) hlt1)
  subst hA5
  obtain ⟨qb, ob, hA6, _, _⟩ := HS8.out.nd (Nat.lt_of_le_of_lt (Nat.zero_le _) hlt2)
  subst hA6
  have s0 := HT8.out.s0
  have s1 := HS8.out.s0
  have x1 := (HT8.out.node hlt1).1
  have x2 := (HT8.out.node hlt1).2.2.2.2.2
  have x3 := (HS8.out.node hlt2).1
  have x4 := (HS8.out.node hlt2).2.2.2.2.2
  rw [HMK.out.mlev] at x1
  rw [HMK.out.mpop] at x2
  rw [HMK.out.klev] at x3
  rw [HMK.out.kpop] at x4
  go_wp2_with fail
  go_ret
  exact ⟨rfl, HB7.out⟩
end Go.Proofs.Ytbibbonbhamcfaa
