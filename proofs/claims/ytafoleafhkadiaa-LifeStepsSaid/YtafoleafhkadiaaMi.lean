/-
  LifeSteps, the walk.
-/
import Derived.Test.YtafoleafhkadiaaGd
import Derived.Test.YtafoleafhkadiaaMh
namespace Go.Proofs.Ytafoleafhkadiaa
open Go.RowKit Go.Sort

theorem refBox_nilok {A : Option Addr} {n c : Nat} {l : List (Int × Int)} (hn : n = l.length) (h0 : l.length = 0) (w : World) :
    Calls Try.prog 20 #[.slice A n c] w fun e w' => e = .returned (.tuple #[.agg #[.int .i64 0, .int .i64 0, .int .i64 0, .int .i64 0], .bool false]) ∧ Below w.heap.size w w' := by
  rw [hn, h0]
  exact refBox_nil A c w
theorem refBox_yes {A : Option Addr} {l : List (Int × Int)} {n c : Nat} {v : Value} {w : World} (hR : Now w A l) (hn : n = l.length) (hc : n ≤ c) (h0 : 0 < l.length) (hr : rightB l = true) (hv : boxV l = v) :
    Calls Try.prog 20 #[.slice A n c] w fun e w' => e = .returned (.tuple #[v, .bool true]) ∧ Below w.heap.size w w' := by
  subst hn hv
  exact refBox_any A l c w hR hc h0 hr

set_option maxHeartbeats 8000000 in
set_option maxRecDepth 100000 in
theorem lifeSteps_walk (A : Option Addr) (raw : List (Int × Int)) (c : Nat) (n more : Int) (w : World) (hR : Rd w w.heap.size A raw) (hl : raw.length ≤ 9223372036854775807) (hc : raw.length ≤ c) (hw : ∀ p ∈ raw, I64 p.1 ∧ I64 p.2) (hn : I64 n) (hmore : I64 more) :
    Calls Try.prog 8 #[.slice A raw.length c, .int .i64 n, .int .i64 more] w fun e w' => e = .returned (.bool true) ∧ Below w.heap.size w w' := by
  have HW := Lib.hid hw
  have HN := Lib.hid hn
  have HMO := Lib.hid hmore
  clear hw hn hmore
  have hpn := pickI_bd n 8 (by omega)
  have hpm := pickI_bd more 8 (by omega)
  obtain ⟨k, hk⟩ : ∃ k : Nat, (k : Int) = pickI n 8 := ⟨(pickI n 8).toNat, by omega⟩
  obtain ⟨j, hj⟩ : ∃ j : Nat, (j : Int) = pickI more 8 := ⟨(pickI more 8).toNat, by omega⟩
  have hpick := fun w => pick2_any n 8 w HN.out.1 HN.out.2 (by omega) (by omega)
  have hpick2 := fun w => pick2_any more 8 w HMO.out.1 HMO.out.2 (by omega) (by omega)
  rw [← hk] at hpn hpick
  rw [← hj] at hpm hpick2
  have HPN := Lib.hid hpick
  have HPM := Lib.hid hpick2
  clear hk hj hpick hpick2 HN HMO
  go_enter Try.func8, Try.ntmps8
  go_wp2_with fail
  refine (awake2_any w).mono ?_
  rintro e w1 ⟨rfl, hb1⟩
  go_wp2_with fail
  refine (set_any A raw c w1 ((hR.below hb1 (Nat.le_refl _)).more hb1.size) hl hc HW.out).mono ?_
  rintro e w2 ⟨v, rfl, ⟨A2, c2, rfl, hc2, hr2⟩, hb2⟩
  have HB2 := Lib.hid (Qt.more hb1 hb1.size hb2)
  have HNE := Lib.hid (rawSet_near raw)
  obtain ⟨s, hs⟩ : ∃ s, s = rawSet raw := ⟨_, rfl⟩
  rw [← hs] at hr2 hc2 HNE ⊢
  have HS2 : Hid (Now w2 A2 s) := hr2
  have h60 := HNE.out.1
  clear hs hb1 hb2 hr2 hR HW
  obtain ⟨F1, F2, F3, F4, F5, F6, F7, F8, F9⟩ := steps_facts HNE.out (k := k) (j := j) (by omega) (by omega)
  have HG := Lib.hid (fun h0 h1 => box_grow F8 F9 h0 h1)
  have HE := Lib.hid (fun h0 : s.length = 0 => show (nextL s).length = 0 by rw [List.length_eq_zero_iff.1 h0]; rfl)
  obtain ⟨a, ha⟩ : ∃ a, a = iterL k s := ⟨_, rfl⟩
  obtain ⟨y, hy⟩ : ∃ y, y = iterL (k + j) s := ⟨_, rfl⟩
  obtain ⟨m, hm⟩ : ∃ m, m = nextL s := ⟨_, rfl⟩
  rw [← ha] at F1 F2 F5
  rw [← hy] at F2 F3 F6
  rw [← hm] at F4 F7 F9 HG HE
  have G1 := Lib.hid F1
  have G2 := Lib.hid F2
  have G3 := Lib.hid F3
  have G4 := Lib.hid F4
  have G8 := Lib.hid F8
  have G9 := Lib.hid F9
  have GK : Hid (I64 (k : Int)) := ⟨by omega, by omega⟩
  have GJ : Hid (I64 (j : Int)) := ⟨by omega, by omega⟩
  have GKJ : Hid (I64 ((k : Int) + (j : Int))) := ⟨by omega, by omega⟩
  clear ha hy hm F1 F2 F3 F4 F8 F9 HNE
  go_wp2_with fail
  refine (HPN.out _).mono ?_
  rintro e w2' ⟨rfl, rfl⟩
  go_wp2_with fail
  refine (run_ok G1.out HS2.out rfl hc2 (by omega) GK.out).mono ?_
  rintro e w3 ⟨A3, c3, rfl, hc3, HA3, hb3⟩
  have HB3 := Lib.hid (Qt.more HB2.out HB2.out.size hb3)
  have HS3 := Lib.hid (HS2.out.below hb3)
  clear hb3 HS2 HB2
  go_wp2_with fail
  refine (HPM.out _).mono ?_
  rintro e w3' ⟨rfl, rfl⟩
  go_wp2_with fail
  refine (run_ok G2.out HA3.out rfl hc3 (by omega) GJ.out).mono ?_
  rintro e w4 ⟨A4, c4, rfl, hc4, HY4, hb4⟩
  have HB4 := Lib.hid (Qt.more HB3.out HB3.out.size hb4)
  have HS4 := Lib.hid (HS3.out.below hb4)
  clear hb4 HS3 HB3 HA3
  go_wp2_with fail
  refine (HPN.out _).mono ?_
  rintro e w4' ⟨rfl, rfl⟩
  go_wp2_with fail
  refine (HPM.out _).mono ?_
  rintro e w4' ⟨rfl, rfl⟩
  go_wp2_with fail
  refine (run_ok G3.out HS4.out rfl hc2 (by omega) GKJ.out).mono ?_
  rintro e w5 ⟨A5, c5, rfl, hc5, HZ5, hb5⟩
  have HB5 := Lib.hid (Qt.more HB4.out HB4.out.size hb5)
  have HS5 := Lib.hid (HS4.out.below hb5)
  have HY5 := Lib.hid (HY4.out.below hb5)
  clear hb5 HS4 HB4 HY4
  go_wp2_with fail
  refine (next_ok G4.out HS5.out rfl hc2 (by omega)).mono ?_
  rintro e w6 ⟨A6, c6, rfl, hc6, HM6, hb6⟩
  have HB6 := Lib.hid (Qt.more HB5.out HB5.out.size hb6)
  have HS6 := Lib.hid (HS5.out.below hb6)
  have HY6 := Lib.hid (HY5.out.below hb6)
  have HZ6 := Lib.hid (HZ5.out.below hb6)
  clear hb6 HS5 HB5 HY5 HZ5
  by_cases h0 : 0 < s.length
  · by_cases h1 : 0 < m.length
    · obtain ⟨bx, by', ba, bb, dx, dy, da, db, e1, e2, u1, u2, u3, u4, u5, u6, u7, u8, g1, g2, g3, g4⟩ := HG.out h0 h1
      have E1 := Lib.hid e1
      have E2 := Lib.hid e2
      clear e1 e2 HG HE
      go_wp2_with fail
      refine (refBox_yes HS6.out rfl hc2 h0 G8.out E1.out).mono ?_
      rintro e w7 ⟨rfl, hb7⟩
      have HB7 := Lib.hid (Qt.more HB6.out HB6.out.size hb7)
      have HM7 := Lib.hid (HM6.out.below hb7)
      have HY7 := Lib.hid (HY6.out.below hb7)
      have HZ7 := Lib.hid (HZ6.out.below hb7)
      clear hb7 HS6 HB6 HY6 HZ6 HM6
      go_wp2_with fail
      have ha7 : Below w7.heap.size w7 (w7.alloc (.cells #[.int .i64 bx, .int .i64 by', .int .i64 ba, .int .i64 bb] 35)) := (Below.refl _ w7).alloc (Nat.le_refl _) _
      have W7 := Whole.new w7 35 #[.int .i64 bx, .int .i64 by', .int .i64 ba, .int .i64 bb]
      refine (refBox_yes (HM7.out.below ha7) rfl hc6 h1 G9.out E2.out).mono ?_
      rintro e w8 ⟨rfl, hb8⟩
      have hb8' := Qt.more ha7 ha7.size hb8
      have HB8 := Lib.hid (Qt.more HB7.out HB7.out.size hb8')
      have HY8 := Lib.hid (HY7.out.below hb8')
      have HZ8 := Lib.hid (HZ7.out.below hb8')
      have W8 := Lib.hid (W7.below hb8)
      have hs8 : w7.heap.size < w8.heap.size := by have := hb8.size; simp at this; omega
      clear hb8 hb8' ha7 W7 HB7 HY7 HZ7 HM7
      obtain ⟨B7, hB7⟩ : ∃ B7, B7 = w7.heap.size := ⟨_, rfl⟩
      rw [← hB7] at W8 hs8 ⊢
      clear hB7
      have ha8 : Below w8.heap.size w8 (w8.alloc (.cells #[.int .i64 dx, .int .i64 dy, .int .i64 da, .int .i64 db] 35)) := (Below.refl _ w8).alloc (Nat.le_refl _) _
      have W9 := Lib.hid (Whole.new w8 35 #[.int .i64 dx, .int .i64 dy, .int .i64 da, .int .i64 db])
      have HA8 := Lib.hid ha8
      clear ha8
      go_wp2_with (go_at_call 16; refine (same_yes (HY8.out.below HA8.out) (HZ8.out.below HA8.out) rfl (by omega) rfl).mono ?_; rintro e w9 ⟨rfl, hb9⟩; have HB9 := Lib.hid (Qt.more HB8.out HB8.out.size (Qt.more HA8.out HA8.out.size hb9)); obtain ⟨p0, p1, p2, p3, -, -, -, -⟩ := ((W8.out.below HA8.out).below hb9).four; obtain ⟨q0, q1, q2, q3, -, -, -, -⟩ := (W9.out.below hb9).four; clear hb9 HB8 HY8 HZ8 W8 W9 HA8)
      go_ret
      exact ⟨rfl, HB9.out⟩
    · have h10 : m.length = 0 := by omega
      have H10 := Lib.hid h10
      have hm0 : m.length ≤ 0 := by omega
      clear h10 HG HE h1
      go_wp2_with fail
      refine (refBox_any A2 s c2 w6 HS6.out hc2 h0 G8.out).mono ?_
      rintro e w7 ⟨rfl, hb7⟩
      have HB7 := Lib.hid (Qt.more HB6.out HB6.out.size hb7)
      have HY7 := Lib.hid (HY6.out.below hb7)
      have HZ7 := Lib.hid (HZ6.out.below hb7)
      clear hb7 HS6 HB6 HY6 HZ6 HM6
      obtain ⟨bx, by', ba, bb, e1⟩ : ∃ bx by' ba bb : Int, boxV s = .agg #[.int .i64 bx, .int .i64 by', .int .i64 ba, .int .i64 bb] := ⟨_, _, _, _, rfl⟩
      rw [e1]
      clear e1
      go_wp2_with fail
      have ha7 : Below w7.heap.size w7 (w7.alloc (.cells #[.int .i64 bx, .int .i64 by', .int .i64 ba, .int .i64 bb] 35)) := (Below.refl _ w7).alloc (Nat.le_refl _) _
      refine (refBox_nilok rfl H10.out _).mono ?_
      rintro e w8 ⟨rfl, hb8⟩
      have hb8' := Qt.more ha7 ha7.size hb8
      have HB8 := Lib.hid (Qt.more HB7.out HB7.out.size hb8')
      have HY8 := Lib.hid (HY7.out.below hb8')
      have HZ8 := Lib.hid (HZ7.out.below hb8')
      clear hb8 hb8' ha7 HB7 HY7 HZ7
      have HA8 := Lib.hid (fun O => (Below.refl _ w8).alloc (Nat.le_refl _) O)
      go_wp2_with (go_at_call 16; refine (same_yes (HY8.out.below (HA8.out _)) (HZ8.out.below (HA8.out _)) rfl (by omega) rfl).mono ?_; rintro e w9 ⟨rfl, hb9⟩; have HB9 := Lib.hid (Qt.more HB8.out HB8.out.size (Qt.more (HA8.out _) (HA8.out _).size hb9)); clear hb9)
      go_ret
      exact ⟨rfl, HB9.out⟩
  · have h00 : s.length = 0 := by omega
    have H00 := Lib.hid h00
    have H10 := Lib.hid (HE.out h00)
    clear h00 HG HE h0
    go_wp2_with fail
    refine (refBox_nilok rfl H00.out _).mono ?_
    rintro e w7 ⟨rfl, hb7⟩
    have HB7 := Lib.hid (Qt.more HB6.out HB6.out.size hb7)
    have HY7 := Lib.hid (HY6.out.below hb7)
    have HZ7 := Lib.hid (HZ6.out.below hb7)
    clear hb7 HS6 HB6 HY6 HZ6 HM6
    have HA7 := Lib.hid (fun O => (Below.refl _ w7).alloc (Nat.le_refl _) O)
    go_wp2_with fail
    refine (refBox_nilok rfl H10.out _).mono ?_
    rintro e w8 ⟨rfl, hb8⟩
    have hb8' := Qt.more (HA7.out _) (HA7.out _).size hb8
    have HB8 := Lib.hid (Qt.more HB7.out HB7.out.size hb8')
    have HY8 := Lib.hid (HY7.out.below hb8')
    have HZ8 := Lib.hid (HZ7.out.below hb8')
    clear hb8 hb8' HA7 HB7 HY7 HZ7
    have HA8 := Lib.hid (fun O => (Below.refl _ w8).alloc (Nat.le_refl _) O)
    go_wp2_with (go_at_call 16; refine (same_yes (HY8.out.below (HA8.out _)) (HZ8.out.below (HA8.out _)) rfl (by omega) rfl).mono ?_; rintro e w9 ⟨rfl, hb9⟩; have HB9 := Lib.hid (Qt.more HB8.out HB8.out.size (Qt.more (HA8.out _) (HA8.out _).size hb9)); clear hb9)
    go_ret
    exact ⟨rfl, HB9.out⟩

end Go.Proofs.Ytafoleafhkadiaa
