/-
  LeapSteps: runs, one behind the other, are one run; the same sets come to the same node, when trimmed.
-/
import Derived.Test.YtgjibpgfcbdpgaaB29
import Derived.Test.YtgjibpgfcbdpgaaB14
import Derived.Test.YtgjibpgfcbdpgaaB13
import Derived.Test.YtgjibpgfcbdpgaaB23
import Derived.Test.YtgjibpgfcbdpgaaB26
import Derived.Test.YtgjibpgfcbdpgaaB22
import Derived.Test.YtgjibpgfcbdpgaaB08
import Derived.Test.YtgjibpgfcbdpgaaB10
namespace Go.Proofs.Ytgjibpgfcbdpgaa
set_option maxRecDepth 100000
set_option linter.unusedVariables false
set_option linter.unusedSimpArgs false
open Go.RowKit Go.Sort

theorem pick_40 {c : Int} (h : I64 c) : ∃ u : Nat, u < 40 ∧ ∀ W, Calls Try.prog 14 #[.int .i64 c, .int .i64 40] W fun e w' => e = .returned (.int .i64 (u : Int)) ∧ W = w' := by
  have hq := pickI_bd c 40 (by decide)
  refine ⟨(pickI c 40).toNat, by omega, fun W => ?_⟩
  rw [Int.toNat_of_nonneg hq.1]
  exact pick9_any c 40 W h.1 h.2 (by decide) (by decide)
/-- the law's numbers -/
structure StpN (u1 u2 : Nat) (cz : Int) (R : Int) (L : List (Int × Int)) (s : List Nd) (n : Nat) (a : List Nd) (m : Nat) (ea : Int) (b : List Nd) (k : Nat) (eb : Int) (c : List Nd) (i : Nat) (ec : Int) (d : List Nd) (o : Nat) (ed : Int) (x : List Nd) (z : Nat) (ep : Int) : Prop where
  k : StpK R L u1 u2 (u1 + u2) s n a m ea b k eb c i ec d o ed x z ep
  r3 : run9 b R (n : Int) cz = (c, (i : Int), ec)
  wc : IntKind.i64.wrap ((u1 : Int) + (u2 : Int)) = cz
  b1 : I64 (u1 : Int)
  b2 : I64 (u2 : Int)
  bc : I64 cz
set_option maxHeartbeats 16000000 in
theorem leapSteps_law (B : Option Addr) (raw : List (Int × Int)) (dd : Nat) (one two : Int) (w : World) (hB : RdC w w.heap.size B raw) (hBl : raw.length ≤ 9223372036854775807) (hBc : raw.length ≤ dd) (hBw : ∀ p ∈ raw, Cel.I64 p.1 ∧ Cel.I64 p.2) (hI1 : I64 one) (hI2 : I64 two) :
    Calls Try.prog 6 #[.slice B raw.length dd, .int .i64 one, .int .i64 two] w fun e w' => e = .returned (.bool true) ∧ Below w.heap.size w w' := by
  obtain ⟨u1, hu1, hpk1⟩ := pick_40 hI1
  obtain ⟨u2, hu2, hpk2⟩ := pick_40 hI2
  have hset1 := fun W hW => Cel.set_any B raw dd W hW hBl hBc hBw
  obtain ⟨hS1, hS2, _⟩ := raw_set raw
  have hbd : ∀ s ∈ Cel.rawSet raw, -8 ≤ s.1 ∧ s.1 ≤ 7 ∧ -8 ≤ s.2 ∧ s.2 ≤ 7 := fun s hs => Cel.rawTo_bd ((Cel.mem_setL _ _).1 hs)
  obtain ⟨L, hLL⟩ : ∃ L, L = Cel.rawSet raw := ⟨_, rfl⟩
  rw [← hLL] at hset1 hS1 hS2 hbd
  obtain ⟨R, hR⟩ : ∃ R : Int, R = 20000 := ⟨_, rfl⟩
  obtain ⟨s, n, a, m, ea, b, k, eb, c, i, ec, d, o, ed, x, z, ep, hmk⟩ := stp_all hR L hS1 hS2 hbd hu1 hu2
  obtain ⟨cz, hcz⟩ : ∃ cz : Int, cz = ((u1 + u2 : Nat) : Int) := ⟨_, rfl⟩
  have HMN := Lib.hid (show StpN u1 u2 cz R L s n a m ea b k eb c i ec d o ed x z ep from ⟨hmk, by rw [hcz]; exact hmk.r3, by rw [IntKind.wrap_i64, hcz]; omega, ⟨by omega, by omega⟩, ⟨by omega, by omega⟩, ⟨by omega, by omega⟩⟩)
  have HMK := Lib.hid hmk
  have HRV := Lib.hid hR
  have HL60 := Lib.hid hS2
  have HB := Lib.hid hB
  have hnew := fun W => refNew6_any 20000 W
  have hnl : newL 20000 = new6 := by decide
  have hnr : newRoom 20000 = R := by rw [hR]; decide
  rw [hnl, hnr] at hnew
  clear hmk hR hbd hS1 hS2 hLL hB hBw hBl hBc hI1 hI2 hu1 hu2 hcz hnl hnr
  go_enter Try.func6, Try.ntmps6
  go_wp2_with fail
  refine (awake9_any w).mono ?_
  rintro r w1 ⟨rfl, hb1⟩
  have HB1 := Lib.hid hb1
  have HR1 := Lib.hid ((HB.out.below hb1 (Nat.le_refl _)).more hb1.size)
  clear hb1 HB
  go_wp2_with fail
  refine (hnew _).mono ?_
  intro r w2 h
  obtain ⟨A2, c2, rfl, hcap2, N2, hb2⟩ := storeR_box h
  have HB2 := Lib.hid (Qt.more HB1.out HB1.out.size hb2)
  have hset := hset1 w2 ((HR1.out.below hb2 (Nat.le_refl _)).more hb2.size)
  have HN2 := Lib.hid N2
  clear h hb2 hnew HB1 HR1 hset1 N2
  go_wp2_with fail
  refine hset.mono ?_
  rintro r w3 ⟨v3, rfl, ⟨A3, c3, rfl, hcap3, hR3⟩, hb3⟩
  have HB3 := Lib.hid (Qt.more HB2.out HB2.out.size hb3)
  have hc := refMake7_any A2 new6 c2 R A3 L c3 4 w3 ((RdN.below HN2.out hb3 (Nat.le_refl _)).more hb3.size) (by decide) hcap2 (lev_bd (new_right (room := R) (by have := HRV.out; omega) (by have := HRV.out; omega))) hR3 (by have := HL60.out; omega) hcap3
  rw [HMK.out.mke] at hc
  unfold storeV at hc
  clear hset hb3 HB2 hR3 HN2
  go_wp2_with fail
  refine hc.mono ?_
  intro r w4 h
  obtain ⟨A4, c4, rfl, hcap4, N4, hb4⟩ := putR_box h
  have hal := (Below.refl w4.heap.size w4).alloc (Nat.le_refl _) (.cells #[.slice A4 s.length c4, .int .i64 R] 26)
  have hb' := Qt.more (B := w3.heap.size) hb4 hb4.size hal
  have HS4 := Lib.hid (stB_new N4 hcap4 R)
  have HB4 := Lib.hid (Qt.more HB3.out HB3.out.size hb')
  have hml := right_len HMK.out.rs
  clear h hc hb4 hb' N4 hal HB3
  have s0 := HS4.out.s0
  have s1 := HS4.out.s1
  go_wp2_with fail
  clear s0 s1
  generalize (w4.alloc (.cells #[.slice A4 s.length c4, .int .i64 R] 26)) = v4 at *
  generalize w4.heap.size = b4 at *
  have hrn := fun W hW => run9_any A4 s c4 R n u1 W HMN.out.b1 hW (by omega) hcap4 (lev_bd HMK.out.rs)
  rw [HMK.out.r1] at hrn
  unfold storeV at hrn
  refine region_calm_to (fun W => Below v4.heap.size v4 W) (fun (a0 a9 : Act) (w9 : World) => ∃ (A9 : Option Addr) (c9 b9 : Nat), a9 = ((((((((((((a0.put (some 37) (.int .i64 (n : Int))).put (some 38) (.int .i64 one)).put (some 39) (.int .i64 (u1 : Int))).put (some 36) (.agg #[.slice A4 s.length c4, .int .i64 R])).put (some 40) (.tuple #[.agg #[.slice A9 a.length c9, .int .i64 R], .int .i64 (m : Int), .int .i64 ea])).put (some 35) (.tuple #[.agg #[.slice A9 a.length c9, .int .i64 R], .int .i64 (m : Int), .int .i64 ea])).put (some 41) (.agg #[.slice A9 a.length c9, .int .i64 R])).put (some 42) (.int .i64 (m : Int))).put (some 43) (.int .i64 ea)).put (some 11) (.pointer (some ⟨b9, 0, none⟩))).put (some 12) (.int .i64 (m : Int))).put (some 13) (.int .i64 ea)) ∧ StB w9 b9 A9 a c9 R ∧ Below v4.heap.size v4 w9) (.calm 1 (.calm 2 (.calm 3 (.calm 0 (.two 4 9 (.calm 5 (.calm 6 (.calm 7 (.calm 8 (.only 9 (.only 10 (.only 11 (.only 12 .done)))))))) (.only 4 (.calm 5 (.calm 6 (.calm 7 (.calm 8 (.only 10 (.only 11 (.only 12 .done))))))))))))) (by kernel_rfl) (by kernel_rfl) (by kernel_rfl) (by rfl) (below_drew _) ?_ ?_
  · skip
    refine ⟨_, _, .int .i64 (n : Int), rfl, rfl, ⟨rfl, fun W hW => by first | exact ⟨rfl, rfl⟩ | (simp only [Act.eval, execOp]; go_simp; try exact ⟨rfl, rfl⟩)⟩, ?_⟩
    simp only [Act.put, List.setIfInBounds_toArray, List.set_cons_succ, List.set_cons_zero]
    refine ⟨_, _, .int .i64 one, rfl, rfl, ⟨rfl, fun W hW => by first | exact ⟨rfl, rfl⟩ | (simp only [Act.eval, execOp]; go_simp; try exact ⟨rfl, rfl⟩)⟩, ?_⟩
    simp only [Act.put, List.setIfInBounds_toArray, List.set_cons_succ, List.set_cons_zero]
    refine ⟨_, _, .int .i64 (u1 : Int), rfl, rfl, ⟨rfl, fun W hW => by simp only [execOp]; go_simp; exact (hpk1 W).mono fun e w1 h => ⟨h.1, h.2.symm⟩⟩, ?_⟩
    simp only [Act.put, List.setIfInBounds_toArray, List.set_cons_succ, List.set_cons_zero]
    refine ⟨_, _, (.agg #[.slice A4 s.length c4, .int .i64 R]), rfl, rfl, ⟨rfl, fun W hW => by have s0 := (HS4.out.below hW).s0; have s1 := (HS4.out.below hW).s1; simp only [execOp]; go_simp; done⟩, ?_⟩
    simp only [Act.put, List.setIfInBounds_toArray, List.set_cons_succ, List.set_cons_zero]
    constructor
    · refine ⟨_, rfl, ?_⟩
      go_wp2_with fail
      refine (hrn _ (HS4.out.rd.below (below_drew _))).mono ?_
      intro e w9 h
      obtain ⟨A9, c9, rfl, hcap9, N9, hb⟩ := putR_box h
      have hBc := Qt.more (below_drew v4) (Nat.le_refl _) hb
      have hS9 := stB_new N9 hcap9 R
      have hB9 := hBc.alloc hBc.size (.cells #[.slice A9 a.length c9, .int .i64 R] 26)
      have hB8 := hBc.alloc hBc.size (.cells #[.slice none 0 0, .int .i64 0] 26)
      clear h hb
      go_wp2_with fail
      refine ⟨rfl, hBc, ?_⟩
      refine ⟨_, _, (.tuple #[.agg #[.slice A9 a.length c9, .int .i64 R], .int .i64 (m : Int), .int .i64 ea]), rfl, rfl, ⟨rfl, fun W hW => by first | exact ⟨rfl, rfl⟩ | (simp only [Act.eval, execOp]; go_simp; try exact ⟨rfl, rfl⟩)⟩, ?_⟩
      simp only [Act.put, List.setIfInBounds_toArray, List.set_cons_succ, List.set_cons_zero]
      refine ⟨_, _, (.agg #[.slice A9 a.length c9, .int .i64 R]), rfl, rfl, ⟨rfl, fun W hW => by first | exact ⟨rfl, rfl⟩ | (simp only [Act.eval, execOp]; go_simp; try exact ⟨rfl, rfl⟩)⟩, ?_⟩
      simp only [Act.put, List.setIfInBounds_toArray, List.set_cons_succ, List.set_cons_zero]
      refine ⟨_, _, .int .i64 (m : Int), rfl, rfl, ⟨rfl, fun W hW => by first | exact ⟨rfl, rfl⟩ | (simp only [Act.eval, execOp]; go_simp; try exact ⟨rfl, rfl⟩)⟩, ?_⟩
      simp only [Act.put, List.setIfInBounds_toArray, List.set_cons_succ, List.set_cons_zero]
      refine ⟨_, _, .int .i64 ea, rfl, rfl, ⟨rfl, fun W hW => by first | exact ⟨rfl, rfl⟩ | (simp only [Act.eval, execOp]; go_simp; try exact ⟨rfl, rfl⟩)⟩, ?_⟩
      simp only [Act.put, List.setIfInBounds_toArray, List.set_cons_succ, List.set_cons_zero]
      refine ⟨_, rfl, ?_⟩
      go_wp2_with fail
      refine ⟨rfl, hB8, ?_⟩
      refine ⟨_, rfl, ?_⟩
      go_wp2_with fail
      refine ⟨rfl, hB9, ?_⟩
      refine ⟨_, rfl, ?_⟩
      go_wp2_with fail
      refine ⟨rfl, hB9, ?_⟩
      refine ⟨_, rfl, ?_⟩
      go_wp2_with fail
      refine ⟨rfl, hB9, ?_⟩
      show ∃ (A9 : Option Addr) (c9 b9 : Nat), _
      refine ⟨A9, c9, w9.heap.size, ?_, hS9, hB9⟩
      first | rfl | simp only [Act.put, List.setIfInBounds_toArray, List.set_cons_succ, List.set_cons_zero]
    · refine ⟨_, rfl, ?_⟩
      have hB8 := (below_drew v4).alloc (Nat.le_refl _) (.cells #[.slice none 0 0, .int .i64 0] 26)
      have hrow8 : (v4.drew.alloc (.cells #[.slice none 0 0, .int .i64 0] 26 (0, 0))).heap[v4.heap.size]? = _ := heap_alloc_new v4.drew (.cells #[.slice none 0 0, .int .i64 0] 26 (0, 0))
      go_wp2_with fail
      refine ⟨rfl, hB8, ?_⟩
      refine ⟨_, rfl, ?_⟩
      go_wp2_with fail
      refine (hrn _ (HS4.out.rd.below hB8)).mono ?_
      intro e w9 h
      obtain ⟨A9, c9, rfl, hcap9, N9, hb⟩ := putR_box h
      have hBc := Qt.more hB8 hB8.size hb
      have hrow9 := (hb.block _ (lt_heap6 hrow8)).trans hrow8
      have hS9 := stB_put (room := R) hrow9 N9 hcap9
      have hB9 := (hBc.setCell (p := ⟨v4.heap.size, 0, none⟩) (Nat.le_refl _) (.slice A9 a.length c9)).setCell (p := ⟨v4.heap.size, 1, none⟩) (Nat.le_refl _) (.int .i64 R)
      have f0 : w9.frozen? ⟨v4.heap.size, 0, none⟩ = false := Lib.frozen_of_heap hrow9 0
      have f1 : w9.frozen? ⟨v4.heap.size, 1, none⟩ = false := Lib.frozen_of_heap hrow9 1
      have g0 : w9.cell? ⟨v4.heap.size, 0, none⟩ = some (.slice none 0 0) := by rw [Lib.cell_of_heap hrow9]; rfl
      have g1 : w9.cell? ⟨v4.heap.size, 1, none⟩ = some (.int .i64 0) := by rw [Lib.cell_of_heap hrow9]; rfl
      clear h hb hrow9 hrow8
      go_wp2_with fail
      refine ⟨rfl, hBc, ?_⟩
      refine ⟨_, _, (.tuple #[.agg #[.slice A9 a.length c9, .int .i64 R], .int .i64 (m : Int), .int .i64 ea]), rfl, rfl, ⟨rfl, fun W hW => by first | exact ⟨rfl, rfl⟩ | (simp only [Act.eval, execOp]; go_simp; try exact ⟨rfl, rfl⟩)⟩, ?_⟩
      simp only [Act.put, List.setIfInBounds_toArray, List.set_cons_succ, List.set_cons_zero]
      refine ⟨_, _, (.agg #[.slice A9 a.length c9, .int .i64 R]), rfl, rfl, ⟨rfl, fun W hW => by first | exact ⟨rfl, rfl⟩ | (simp only [Act.eval, execOp]; go_simp; try exact ⟨rfl, rfl⟩)⟩, ?_⟩
      simp only [Act.put, List.setIfInBounds_toArray, List.set_cons_succ, List.set_cons_zero]
      refine ⟨_, _, .int .i64 (m : Int), rfl, rfl, ⟨rfl, fun W hW => by first | exact ⟨rfl, rfl⟩ | (simp only [Act.eval, execOp]; go_simp; try exact ⟨rfl, rfl⟩)⟩, ?_⟩
      simp only [Act.put, List.setIfInBounds_toArray, List.set_cons_succ, List.set_cons_zero]
      refine ⟨_, _, .int .i64 ea, rfl, rfl, ⟨rfl, fun W hW => by first | exact ⟨rfl, rfl⟩ | (simp only [Act.eval, execOp]; go_simp; try exact ⟨rfl, rfl⟩)⟩, ?_⟩
      simp only [Act.put, List.setIfInBounds_toArray, List.set_cons_succ, List.set_cons_zero]
      refine ⟨_, rfl, ?_⟩
      go_wp2_with fail
      refine ⟨rfl, hB9, ?_⟩
      refine ⟨_, rfl, ?_⟩
      go_wp2_with fail
      refine ⟨rfl, hB9, ?_⟩
      refine ⟨_, rfl, ?_⟩
      go_wp2_with fail
      refine ⟨rfl, hB9, ?_⟩
      show ∃ (A9 : Option Addr) (c9 b9 : Nat), _
      refine ⟨A9, c9, v4.heap.size, ?_, hS9, hB9⟩
      first | rfl | simp only [Act.put, List.setIfInBounds_toArray, List.set_cons_succ, List.set_cons_zero]
  rintro a9 v5 ⟨A5, c5, b5, rfl, hS5, hb5⟩
  simp only [Act.put, List.setIfInBounds_toArray, List.set_cons_succ, List.set_cons_zero]
  have HS5 := Lib.hid hS5
  have HB5 := Lib.hid (Qt.more HB4.out HB4.out.size hb5)
  have hcap5 := HS5.out.cap
  have hml := right_len HMK.out.ra
  clear hrn hS5 hb5 HS4 HB4
  go_wp2_with fail
  have hrn := fun W hW => run9_any A5 a c5 R m u2 W HMN.out.b2 hW (by omega) hcap5 (lev_bd HMK.out.ra)
  rw [HMK.out.r2] at hrn
  unfold storeV at hrn
  refine region_calm_to (fun W => Below v5.heap.size v5 W) (fun (a0 a9 : Act) (w9 : World) => ∃ (A9 : Option Addr) (c9 b9 : Nat), a9 = ((((((((((((a0.put (some 46) (.int .i64 (m : Int))).put (some 47) (.int .i64 two)).put (some 48) (.int .i64 (u2 : Int))).put (some 45) (.agg #[.slice A5 a.length c5, .int .i64 R])).put (some 49) (.tuple #[.agg #[.slice A9 b.length c9, .int .i64 R], .int .i64 (k : Int), .int .i64 eb])).put (some 44) (.tuple #[.agg #[.slice A9 b.length c9, .int .i64 R], .int .i64 (k : Int), .int .i64 eb])).put (some 50) (.agg #[.slice A9 b.length c9, .int .i64 R])).put (some 51) (.int .i64 (k : Int))).put (some 52) (.int .i64 eb)).put (some 14) (.pointer (some ⟨b9, 0, none⟩))).put (some 15) (.int .i64 (k : Int))).put (some 16) (.int .i64 eb)) ∧ StB w9 b9 A9 b c9 R ∧ Below v5.heap.size v5 w9) (.calm 1 (.calm 2 (.calm 3 (.calm 0 (.two 4 9 (.calm 5 (.calm 6 (.calm 7 (.calm 8 (.only 9 (.only 10 (.only 11 (.only 12 .done)))))))) (.only 4 (.calm 5 (.calm 6 (.calm 7 (.calm 8 (.only 10 (.only 11 (.only 12 .done))))))))))))) (by kernel_rfl) (by kernel_rfl) (by kernel_rfl) (by rfl) (below_drew _) ?_ ?_
  · skip
    refine ⟨_, _, .int .i64 (m : Int), rfl, rfl, ⟨rfl, fun W hW => by first | exact ⟨rfl, rfl⟩ | (simp only [Act.eval, execOp]; go_simp; try exact ⟨rfl, rfl⟩)⟩, ?_⟩
    simp only [Act.put, List.setIfInBounds_toArray, List.set_cons_succ, List.set_cons_zero]
    refine ⟨_, _, .int .i64 two, rfl, rfl, ⟨rfl, fun W hW => by first | exact ⟨rfl, rfl⟩ | (simp only [Act.eval, execOp]; go_simp; try exact ⟨rfl, rfl⟩)⟩, ?_⟩
    simp only [Act.put, List.setIfInBounds_toArray, List.set_cons_succ, List.set_cons_zero]
    refine ⟨_, _, .int .i64 (u2 : Int), rfl, rfl, ⟨rfl, fun W hW => by simp only [execOp]; go_simp; exact (hpk2 W).mono fun e w1 h => ⟨h.1, h.2.symm⟩⟩, ?_⟩
    simp only [Act.put, List.setIfInBounds_toArray, List.set_cons_succ, List.set_cons_zero]
    refine ⟨_, _, (.agg #[.slice A5 a.length c5, .int .i64 R]), rfl, rfl, ⟨rfl, fun W hW => by have s0 := (HS5.out.below hW).s0; have s1 := (HS5.out.below hW).s1; simp only [execOp]; go_simp; done⟩, ?_⟩
    simp only [Act.put, List.setIfInBounds_toArray, List.set_cons_succ, List.set_cons_zero]
    constructor
    · refine ⟨_, rfl, ?_⟩
      go_wp2_with fail
      refine (hrn _ (HS5.out.rd.below (below_drew _))).mono ?_
      intro e w9 h
      obtain ⟨A9, c9, rfl, hcap9, N9, hb⟩ := putR_box h
      have hBc := Qt.more (below_drew v5) (Nat.le_refl _) hb
      have hS9 := stB_new N9 hcap9 R
      have hB9 := hBc.alloc hBc.size (.cells #[.slice A9 b.length c9, .int .i64 R] 26)
      have hB8 := hBc.alloc hBc.size (.cells #[.slice none 0 0, .int .i64 0] 26)
      clear h hb
      go_wp2_with fail
      refine ⟨rfl, hBc, ?_⟩
      refine ⟨_, _, (.tuple #[.agg #[.slice A9 b.length c9, .int .i64 R], .int .i64 (k : Int), .int .i64 eb]), rfl, rfl, ⟨rfl, fun W hW => by first | exact ⟨rfl, rfl⟩ | (simp only [Act.eval, execOp]; go_simp; try exact ⟨rfl, rfl⟩)⟩, ?_⟩
      simp only [Act.put, List.setIfInBounds_toArray, List.set_cons_succ, List.set_cons_zero]
      refine ⟨_, _, (.agg #[.slice A9 b.length c9, .int .i64 R]), rfl, rfl, ⟨rfl, fun W hW => by first | exact ⟨rfl, rfl⟩ | (simp only [Act.eval, execOp]; go_simp; try exact ⟨rfl, rfl⟩)⟩, ?_⟩
      simp only [Act.put, List.setIfInBounds_toArray, List.set_cons_succ, List.set_cons_zero]
      refine ⟨_, _, .int .i64 (k : Int), rfl, rfl, ⟨rfl, fun W hW => by first | exact ⟨rfl, rfl⟩ | (simp only [Act.eval, execOp]; go_simp; try exact ⟨rfl, rfl⟩)⟩, ?_⟩
      simp only [Act.put, List.setIfInBounds_toArray, List.set_cons_succ, List.set_cons_zero]
      refine ⟨_, _, .int .i64 eb, rfl, rfl, ⟨rfl, fun W hW => by first | exact ⟨rfl, rfl⟩ | (simp only [Act.eval, execOp]; go_simp; try exact ⟨rfl, rfl⟩)⟩, ?_⟩
      simp only [Act.put, List.setIfInBounds_toArray, List.set_cons_succ, List.set_cons_zero]
      refine ⟨_, rfl, ?_⟩
      go_wp2_with fail
      refine ⟨rfl, hB8, ?_⟩
      refine ⟨_, rfl, ?_⟩
      go_wp2_with fail
      refine ⟨rfl, hB9, ?_⟩
      refine ⟨_, rfl, ?_⟩
      go_wp2_with fail
      refine ⟨rfl, hB9, ?_⟩
      refine ⟨_, rfl, ?_⟩
      go_wp2_with fail
      refine ⟨rfl, hB9, ?_⟩
      show ∃ (A9 : Option Addr) (c9 b9 : Nat), _
      refine ⟨A9, c9, w9.heap.size, ?_, hS9, hB9⟩
      first | rfl | simp only [Act.put, List.setIfInBounds_toArray, List.set_cons_succ, List.set_cons_zero]
    · refine ⟨_, rfl, ?_⟩
      have hB8 := (below_drew v5).alloc (Nat.le_refl _) (.cells #[.slice none 0 0, .int .i64 0] 26)
      have hrow8 : (v5.drew.alloc (.cells #[.slice none 0 0, .int .i64 0] 26 (0, 0))).heap[v5.heap.size]? = _ := heap_alloc_new v5.drew (.cells #[.slice none 0 0, .int .i64 0] 26 (0, 0))
      go_wp2_with fail
      refine ⟨rfl, hB8, ?_⟩
      refine ⟨_, rfl, ?_⟩
      go_wp2_with fail
      refine (hrn _ (HS5.out.rd.below hB8)).mono ?_
      intro e w9 h
      obtain ⟨A9, c9, rfl, hcap9, N9, hb⟩ := putR_box h
      have hBc := Qt.more hB8 hB8.size hb
      have hrow9 := (hb.block _ (lt_heap6 hrow8)).trans hrow8
      have hS9 := stB_put (room := R) hrow9 N9 hcap9
      have hB9 := (hBc.setCell (p := ⟨v5.heap.size, 0, none⟩) (Nat.le_refl _) (.slice A9 b.length c9)).setCell (p := ⟨v5.heap.size, 1, none⟩) (Nat.le_refl _) (.int .i64 R)
      have f0 : w9.frozen? ⟨v5.heap.size, 0, none⟩ = false := Lib.frozen_of_heap hrow9 0
      have f1 : w9.frozen? ⟨v5.heap.size, 1, none⟩ = false := Lib.frozen_of_heap hrow9 1
      have g0 : w9.cell? ⟨v5.heap.size, 0, none⟩ = some (.slice none 0 0) := by rw [Lib.cell_of_heap hrow9]; rfl
      have g1 : w9.cell? ⟨v5.heap.size, 1, none⟩ = some (.int .i64 0) := by rw [Lib.cell_of_heap hrow9]; rfl
      clear h hb hrow9 hrow8
      go_wp2_with fail
      refine ⟨rfl, hBc, ?_⟩
      refine ⟨_, _, (.tuple #[.agg #[.slice A9 b.length c9, .int .i64 R], .int .i64 (k : Int), .int .i64 eb]), rfl, rfl, ⟨rfl, fun W hW => by first | exact ⟨rfl, rfl⟩ | (simp only [Act.eval, execOp]; go_simp; try exact ⟨rfl, rfl⟩)⟩, ?_⟩
      simp only [Act.put, List.setIfInBounds_toArray, List.set_cons_succ, List.set_cons_zero]
      refine ⟨_, _, (.agg #[.slice A9 b.length c9, .int .i64 R]), rfl, rfl, ⟨rfl, fun W hW => by first | exact ⟨rfl, rfl⟩ | (simp only [Act.eval, execOp]; go_simp; try exact ⟨rfl, rfl⟩)⟩, ?_⟩
      simp only [Act.put, List.setIfInBounds_toArray, List.set_cons_succ, List.set_cons_zero]
      refine ⟨_, _, .int .i64 (k : Int), rfl, rfl, ⟨rfl, fun W hW => by first | exact ⟨rfl, rfl⟩ | (simp only [Act.eval, execOp]; go_simp; try exact ⟨rfl, rfl⟩)⟩, ?_⟩
      simp only [Act.put, List.setIfInBounds_toArray, List.set_cons_succ, List.set_cons_zero]
      refine ⟨_, _, .int .i64 eb, rfl, rfl, ⟨rfl, fun W hW => by first | exact ⟨rfl, rfl⟩ | (simp only [Act.eval, execOp]; go_simp; try exact ⟨rfl, rfl⟩)⟩, ?_⟩
      simp only [Act.put, List.setIfInBounds_toArray, List.set_cons_succ, List.set_cons_zero]
      refine ⟨_, rfl, ?_⟩
      go_wp2_with fail
      refine ⟨rfl, hB9, ?_⟩
      refine ⟨_, rfl, ?_⟩
      go_wp2_with fail
      refine ⟨rfl, hB9, ?_⟩
      refine ⟨_, rfl, ?_⟩
      go_wp2_with fail
      refine ⟨rfl, hB9, ?_⟩
      show ∃ (A9 : Option Addr) (c9 b9 : Nat), _
      refine ⟨A9, c9, v5.heap.size, ?_, hS9, hB9⟩
      first | rfl | simp only [Act.put, List.setIfInBounds_toArray, List.set_cons_succ, List.set_cons_zero]
  rintro a9 v6 ⟨A6, c6, b6, rfl, hS6, hb6⟩
  simp only [Act.put, List.setIfInBounds_toArray, List.set_cons_succ, List.set_cons_zero]
  have HS6 := Lib.hid hS6
  have HB6 := Lib.hid (Qt.more HB5.out HB5.out.size hb6)
  have hcap6 := HS6.out.cap
  have hml := right_len HMK.out.rb
  clear hrn hS6 hb6 HS5 HB5
  go_wp2_with fail
  have hrn := fun W hW => run9_any A6 b c6 R n cz W HMN.out.bc hW (by omega) hcap6 (lev_bd HMK.out.rb)
  rw [HMN.out.r3] at hrn
  unfold storeV at hrn
  have hwc := HMN.out.wc
  refine region_calm_to (fun W => Below v6.heap.size v6 W) (fun (a0 a9 : Act) (w9 : World) => ∃ (A9 : Option Addr) (c9 b9 : Nat), a9 = (((((((((((((((a0.put (some 55) (.int .i64 (n : Int))).put (some 56) (.int .i64 one)).put (some 57) (.int .i64 (u1 : Int))).put (some 58) (.int .i64 two)).put (some 59) (.int .i64 (u2 : Int))).put (some 60) (.int .i64 cz)).put (some 54) (.agg #[.slice A6 b.length c6, .int .i64 R])).put (some 61) (.tuple #[.agg #[.slice A9 c.length c9, .int .i64 R], .int .i64 (i : Int), .int .i64 ec])).put (some 53) (.tuple #[.agg #[.slice A9 c.length c9, .int .i64 R], .int .i64 (i : Int), .int .i64 ec])).put (some 62) (.agg #[.slice A9 c.length c9, .int .i64 R])).put (some 63) (.int .i64 (i : Int))).put (some 64) (.int .i64 ec)).put (some 17) (.pointer (some ⟨b9, 0, none⟩))).put (some 18) (.int .i64 (i : Int))).put (some 19) (.int .i64 ec)) ∧ StB w9 b9 A9 c c9 R ∧ Below v6.heap.size v6 w9) (.calm 1 (.calm 2 (.calm 3 (.calm 4 (.calm 5 (.calm 6 (.calm 0 (.two 7 12 (.calm 8 (.calm 9 (.calm 10 (.calm 11 (.only 12 (.only 13 (.only 14 (.only 15 .done)))))))) (.only 7 (.calm 8 (.calm 9 (.calm 10 (.calm 11 (.only 13 (.only 14 (.only 15 .done)))))))))))))))) (by kernel_rfl) (by kernel_rfl) (by kernel_rfl) (by rfl) (below_drew _) ?_ ?_
  · skip
    refine ⟨_, _, .int .i64 (n : Int), rfl, rfl, ⟨rfl, fun W hW => by first | exact ⟨rfl, rfl⟩ | (simp only [Act.eval, execOp]; go_simp; try exact ⟨rfl, rfl⟩)⟩, ?_⟩
    simp only [Act.put, List.setIfInBounds_toArray, List.set_cons_succ, List.set_cons_zero]
    refine ⟨_, _, .int .i64 one, rfl, rfl, ⟨rfl, fun W hW => by first | exact ⟨rfl, rfl⟩ | (simp only [Act.eval, execOp]; go_simp; try exact ⟨rfl, rfl⟩)⟩, ?_⟩
    simp only [Act.put, List.setIfInBounds_toArray, List.set_cons_succ, List.set_cons_zero]
    refine ⟨_, _, .int .i64 (u1 : Int), rfl, rfl, ⟨rfl, fun W hW => by simp only [execOp]; go_simp; exact (hpk1 W).mono fun e w1 h => ⟨h.1, h.2.symm⟩⟩, ?_⟩
    simp only [Act.put, List.setIfInBounds_toArray, List.set_cons_succ, List.set_cons_zero]
    refine ⟨_, _, .int .i64 two, rfl, rfl, ⟨rfl, fun W hW => by first | exact ⟨rfl, rfl⟩ | (simp only [Act.eval, execOp]; go_simp; try exact ⟨rfl, rfl⟩)⟩, ?_⟩
    simp only [Act.put, List.setIfInBounds_toArray, List.set_cons_succ, List.set_cons_zero]
    refine ⟨_, _, .int .i64 (u2 : Int), rfl, rfl, ⟨rfl, fun W hW => by simp only [execOp]; go_simp; exact (hpk2 W).mono fun e w1 h => ⟨h.1, h.2.symm⟩⟩, ?_⟩
    simp only [Act.put, List.setIfInBounds_toArray, List.set_cons_succ, List.set_cons_zero]
    refine ⟨_, _, .int .i64 cz, rfl, rfl, ⟨rfl, fun W hW => by simp only [Act.eval, execOp]; go_simp; first | done | (rw [hwc]; first | done | exact ⟨rfl, rfl⟩)⟩, ?_⟩
    simp only [Act.put, List.setIfInBounds_toArray, List.set_cons_succ, List.set_cons_zero]
    refine ⟨_, _, (.agg #[.slice A6 b.length c6, .int .i64 R]), rfl, rfl, ⟨rfl, fun W hW => by have s0 := (HS6.out.below hW).s0; have s1 := (HS6.out.below hW).s1; simp only [execOp]; go_simp; done⟩, ?_⟩
    simp only [Act.put, List.setIfInBounds_toArray, List.set_cons_succ, List.set_cons_zero]
    constructor
    · refine ⟨_, rfl, ?_⟩
      go_wp2_with fail
      refine (hrn _ (HS6.out.rd.below (below_drew _))).mono ?_
      intro e w9 h
      obtain ⟨A9, c9, rfl, hcap9, N9, hb⟩ := putR_box h
      have hBc := Qt.more (below_drew v6) (Nat.le_refl _) hb
      have hS9 := stB_new N9 hcap9 R
      have hB9 := hBc.alloc hBc.size (.cells #[.slice A9 c.length c9, .int .i64 R] 26)
      have hB8 := hBc.alloc hBc.size (.cells #[.slice none 0 0, .int .i64 0] 26)
      clear h hb
      go_wp2_with fail
      refine ⟨rfl, hBc, ?_⟩
      refine ⟨_, _, (.tuple #[.agg #[.slice A9 c.length c9, .int .i64 R], .int .i64 (i : Int), .int .i64 ec]), rfl, rfl, ⟨rfl, fun W hW => by first | exact ⟨rfl, rfl⟩ | (simp only [Act.eval, execOp]; go_simp; try exact ⟨rfl, rfl⟩)⟩, ?_⟩
      simp only [Act.put, List.setIfInBounds_toArray, List.set_cons_succ, List.set_cons_zero]
      refine ⟨_, _, (.agg #[.slice A9 c.length c9, .int .i64 R]), rfl, rfl, ⟨rfl, fun W hW => by first | exact ⟨rfl, rfl⟩ | (simp only [Act.eval, execOp]; go_simp; try exact ⟨rfl, rfl⟩)⟩, ?_⟩
      simp only [Act.put, List.setIfInBounds_toArray, List.set_cons_succ, List.set_cons_zero]
      refine ⟨_, _, .int .i64 (i : Int), rfl, rfl, ⟨rfl, fun W hW => by first | exact ⟨rfl, rfl⟩ | (simp only [Act.eval, execOp]; go_simp; try exact ⟨rfl, rfl⟩)⟩, ?_⟩
      simp only [Act.put, List.setIfInBounds_toArray, List.set_cons_succ, List.set_cons_zero]
      refine ⟨_, _, .int .i64 ec, rfl, rfl, ⟨rfl, fun W hW => by first | exact ⟨rfl, rfl⟩ | (simp only [Act.eval, execOp]; go_simp; try exact ⟨rfl, rfl⟩)⟩, ?_⟩
      simp only [Act.put, List.setIfInBounds_toArray, List.set_cons_succ, List.set_cons_zero]
      refine ⟨_, rfl, ?_⟩
      go_wp2_with fail
      refine ⟨rfl, hB8, ?_⟩
      refine ⟨_, rfl, ?_⟩
      go_wp2_with fail
      refine ⟨rfl, hB9, ?_⟩
      refine ⟨_, rfl, ?_⟩
      go_wp2_with fail
      refine ⟨rfl, hB9, ?_⟩
      refine ⟨_, rfl, ?_⟩
      go_wp2_with fail
      refine ⟨rfl, hB9, ?_⟩
      show ∃ (A9 : Option Addr) (c9 b9 : Nat), _
      refine ⟨A9, c9, w9.heap.size, ?_, hS9, hB9⟩
      first | rfl | simp only [Act.put, List.setIfInBounds_toArray, List.set_cons_succ, List.set_cons_zero]
    · refine ⟨_, rfl, ?_⟩
      have hB8 := (below_drew v6).alloc (Nat.le_refl _) (.cells #[.slice none 0 0, .int .i64 0] 26)
      have hrow8 : (v6.drew.alloc (.cells #[.slice none 0 0, .int .i64 0] 26 (0, 0))).heap[v6.heap.size]? = _ := heap_alloc_new v6.drew (.cells #[.slice none 0 0, .int .i64 0] 26 (0, 0))
      go_wp2_with fail
      refine ⟨rfl, hB8, ?_⟩
      refine ⟨_, rfl, ?_⟩
      go_wp2_with fail
      refine (hrn _ (HS6.out.rd.below hB8)).mono ?_
      intro e w9 h
      obtain ⟨A9, c9, rfl, hcap9, N9, hb⟩ := putR_box h
      have hBc := Qt.more hB8 hB8.size hb
      have hrow9 := (hb.block _ (lt_heap6 hrow8)).trans hrow8
      have hS9 := stB_put (room := R) hrow9 N9 hcap9
      have hB9 := (hBc.setCell (p := ⟨v6.heap.size, 0, none⟩) (Nat.le_refl _) (.slice A9 c.length c9)).setCell (p := ⟨v6.heap.size, 1, none⟩) (Nat.le_refl _) (.int .i64 R)
      have f0 : w9.frozen? ⟨v6.heap.size, 0, none⟩ = false := Lib.frozen_of_heap hrow9 0
      have f1 : w9.frozen? ⟨v6.heap.size, 1, none⟩ = false := Lib.frozen_of_heap hrow9 1
      have g0 : w9.cell? ⟨v6.heap.size, 0, none⟩ = some (.slice none 0 0) := by rw [Lib.cell_of_heap hrow9]; rfl
      have g1 : w9.cell? ⟨v6.heap.size, 1, none⟩ = some (.int .i64 0) := by rw [Lib.cell_of_heap hrow9]; rfl
      clear h hb hrow9 hrow8
      go_wp2_with fail
      refine ⟨rfl, hBc, ?_⟩
      refine ⟨_, _, (.tuple #[.agg #[.slice A9 c.length c9, .int .i64 R], .int .i64 (i : Int), .int .i64 ec]), rfl, rfl, ⟨rfl, fun W hW => by first | exact ⟨rfl, rfl⟩ | (simp only [Act.eval, execOp]; go_simp; try exact ⟨rfl, rfl⟩)⟩, ?_⟩
      simp only [Act.put, List.setIfInBounds_toArray, List.set_cons_succ, List.set_cons_zero]
      refine ⟨_, _, (.agg #[.slice A9 c.length c9, .int .i64 R]), rfl, rfl, ⟨rfl, fun W hW => by first | exact ⟨rfl, rfl⟩ | (simp only [Act.eval, execOp]; go_simp; try exact ⟨rfl, rfl⟩)⟩, ?_⟩
      simp only [Act.put, List.setIfInBounds_toArray, List.set_cons_succ, List.set_cons_zero]
      refine ⟨_, _, .int .i64 (i : Int), rfl, rfl, ⟨rfl, fun W hW => by first | exact ⟨rfl, rfl⟩ | (simp only [Act.eval, execOp]; go_simp; try exact ⟨rfl, rfl⟩)⟩, ?_⟩
      simp only [Act.put, List.setIfInBounds_toArray, List.set_cons_succ, List.set_cons_zero]
      refine ⟨_, _, .int .i64 ec, rfl, rfl, ⟨rfl, fun W hW => by first | exact ⟨rfl, rfl⟩ | (simp only [Act.eval, execOp]; go_simp; try exact ⟨rfl, rfl⟩)⟩, ?_⟩
      simp only [Act.put, List.setIfInBounds_toArray, List.set_cons_succ, List.set_cons_zero]
      refine ⟨_, rfl, ?_⟩
      go_wp2_with fail
      refine ⟨rfl, hB9, ?_⟩
      refine ⟨_, rfl, ?_⟩
      go_wp2_with fail
      refine ⟨rfl, hB9, ?_⟩
      refine ⟨_, rfl, ?_⟩
      go_wp2_with fail
      refine ⟨rfl, hB9, ?_⟩
      show ∃ (A9 : Option Addr) (c9 b9 : Nat), _
      refine ⟨A9, c9, v6.heap.size, ?_, hS9, hB9⟩
      first | rfl | simp only [Act.put, List.setIfInBounds_toArray, List.set_cons_succ, List.set_cons_zero]
  rintro a9 v7 ⟨A7, c7, b7, rfl, hS7, hb7⟩
  simp only [Act.put, List.setIfInBounds_toArray, List.set_cons_succ, List.set_cons_zero]
  have HS7 := Lib.hid hS7
  have HB7 := Lib.hid (Qt.more HB6.out HB6.out.size hb7)
  have hcap7 := HS7.out.cap
  have hml := right_len HMK.out.rc
  clear hrn hS7 hb7 HS6 HB6 hwc hpk1 hpk2
  have s0 := HS7.out.s0
  have s1 := HS7.out.s1
  go_wp2_with fail
  clear s0 s1
  have hc := trim9_any A7 c c7 R n v7 HS7.out.rd (by omega) hcap7 (lev_bd HMK.out.rc)
  rw [HMK.out.r4] at hc
  unfold storeV at hc
  refine hc.mono ?_
  intro r w8 h
  obtain ⟨A8, c8, rfl, hcap8, N8, hb8⟩ := putR_box h
  have hal := (Below.refl w8.heap.size w8).alloc (Nat.le_refl _) (.cells #[.slice A8 d.length c8, .int .i64 R] 26)
  have hb' := Qt.more (B := v7.heap.size) hb8 hb8.size hal
  have HS8 := Lib.hid (stB_new N8 hcap8 R)
  have HB8 := Lib.hid (Qt.more HB7.out HB7.out.size hb')
  have hml := right_len HMK.out.rd
  clear h hc hb8 hb' N8 hal HB7 HS7
  have s0 := HS8.out.s0
  have s1 := HS8.out.s1
  go_wp2_with fail
  clear s0 s1
  generalize (w8.alloc (.cells #[.slice A8 d.length c8, .int .i64 R] 26)) = v8 at *
  generalize w8.heap.size = b8 at *
  have hc := run9_any A8 d c8 R n 0 v8 ⟨by decide, by decide⟩ HS8.out.rd (by omega) hcap8 (lev_bd HMK.out.rd)
  rw [HMK.out.r5] at hc
  unfold storeV at hc
  refine hc.mono ?_
  intro r w9 h
  obtain ⟨A9, c9, rfl, hcap9, N9, hb9⟩ := putR_box h
  have hal := (Below.refl w9.heap.size w9).alloc (Nat.le_refl _) (.cells #[.slice A9 x.length c9, .int .i64 R] 26)
  have hb' := Qt.more (B := v8.heap.size) hb9 hb9.size hal
  have HB9 := Lib.hid (Qt.more HB8.out HB8.out.size hb')
  clear h hc hb9 hb' N9 hal HB8 HS8
  have hres := HMK.out.res
  clear HMK HMN hml
  rcases hres with h1 | ⟨h1, h2⟩ | ⟨h1, h2, h3⟩ | ⟨h1, h2, h3, h4, h5, h6, h7⟩
  · subst h1
    go_wp2_with fail
    go_ret
    exact ⟨rfl, HB9.out⟩
  · subst h1 h2
    go_wp2_with fail
    go_ret
    exact ⟨rfl, HB9.out⟩
  · subst h1 h2 h3
    go_wp2_with fail
    go_ret
    exact ⟨rfl, HB9.out⟩
  · subst h1 h2 h3 h4 h5 h6 h7
    go_wp2_with fail
    go_ret
    exact ⟨rfl, HB9.out⟩
end Go.Proofs.Ytgjibpgfcbdpgaa
