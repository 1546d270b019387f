/-
  The document's own answers to layer 12: SameWorkers, of the same workers.
-/
import Derived.Test.YtocepdhjkhhpfaaYt
import Derived.Test.YtocepdhjkhhpfaaB00
namespace Go.Proofs.Ytocepdhjkhhpfaa
set_option maxRecDepth 100000
set_option linter.unusedVariables false
set_option linter.unusedSimpArgs false
open Go.RowKit Go.Sort

theorem eq8_at (n : Nat) (a b c d e f g h : Int) (w : World) : (Op.equalIn (n + 1 + 1) 37 (.agg #[.int .i64 a, .int .i64 b, .int .i64 c, .int .i64 d, .int .i64 e, .int .i64 f, .int .i64 g, .int .i64 h]) (.agg #[.int .i64 a, .int .i64 b, .int .i64 c, .int .i64 d, .int .i64 e, .int .i64 f, .int .i64 g, .int .i64 h])).run Try.prog w = .ok true w := by
  have u3 := Try.underlying3
  have a3 := Try.isAgg3
  have z3 := Try.sizeOf3
  rw [Op.equalIn]
  simp only [Sem.run_bind, run_underlying Try.underlying37, Result.andThen_ok]
  simp only [Std.Legacy.Range.forIn_eq_forIn_range', Std.Legacy.Range.size, Nat.sub_zero, Nat.add_sub_cancel, Nat.div_one, List.range'_succ, List.range'_zero, List.forIn_cons, List.forIn_nil]
  go_simp
theorem eqW_at (x : Wk) (w : World) : (Op.equalIn 10000 39 (wkV x) (wkV x)).run Try.prog w = .ok true w := by
  have u3 := Try.underlying3
  have a3 := Try.isAgg3
  have z3 := Try.sizeOf3
  have u4 := Try.underlying4
  have a4 := Try.isAgg4
  have z4 := Try.sizeOf4
  have hS : Try.prog.underlying 39 = some (.struct (Try.prog.fieldsOf 39)) := by kernel_rfl
  have hp : Try.prog.stoodInHeld 39 = false := by kernel_rfl
  have hK := fun w => eq8_at 9997 x.r0 x.r1 x.r2 0 0 0 0 0 w
  rw [show (10000 : Nat) = 9999 + 1 from rfl, run_equalIn_agg w 9999 _ _ _ hS hp]
  simp only [Program.fieldsOf, Try.underlying39]
  go_simp
theorem neqW (x : Wk) (w : World) : (binOp .neq 39 (wkV x) (wkV x)).run Try.prog w = .ok (.bool false) w := by
  rw [run_neq_struct, eqW_at]
  rfl
set_option maxHeartbeats 8000000 in
theorem sameW_any (A B : Option Addr) (l : List Wk) (c d : Nat) (w : World) (hA : NowWk w A l) (hB : NowWk w B l) (hl : l.length ≤ 1000) :
    Calls Try.prog 19 #[.slice A l.length c, .slice B l.length d] w fun e w' => e = .returned (.bool true) ∧ Below w.heap.size w w' := by
  have HA := Lib.hid hA
  have HB := Lib.hid hB
  have hnn : ((l.length : Int) != (l.length : Int)) = false := by simp
  clear hA hB
  go_enter Try.func19, Try.ntmps19
  go_wp2_with fail
  go_loopw [5] (fun i wr => ∃ k : Nat, k ≤ l.length ∧ i = .int .i64 k ∧ Hid (Below w.heap.size w wr)) (fun i _ => l.length - (intOf i).toNat)
  case atStart => exact ⟨0, Nat.zero_le _, rfl, (show Hid _ from Below.refl _ _)⟩
  case round =>
    obtain ⟨k, hk, rfl, HH⟩ := hrel
    by_cases hlt : k < l.length
    · have hltz : (k : Int) < (l.length : Int) := by omega
      obtain ⟨b, off, hAe, hbl, hca⟩ := nowWk_row (HA.out.below HH.out) (by omega)
      obtain ⟨b2, off2, hBe, hbl2, hcb⟩ := nowWk_row (HB.out.below HH.out) (by omega)
      subst hAe hBe
      have hcA := hca k hlt
      have hcB := hcb k hlt
      have hne := neqW (l.getD k deadW)
      obtain ⟨x, hx⟩ : ∃ x, x = l.getD k deadW := ⟨_, rfl⟩
      rw [← hx] at hcA hcB hne
      have p0 := Qt.cell_in hcA.c0
      have q0 := Qt.cell_in hcB.c0
      have p1 := Qt.cell_in hcA.c1
      have q1 := Qt.cell_in hcB.c1
      have p2 := Qt.cell_in hcA.c2
      have q2 := Qt.cell_in hcB.c2
      have p3 := Qt.cell_in hcA.c3
      have q3 := Qt.cell_in hcB.c3
      have p4 := Qt.cell_in hcA.c4
      have q4 := Qt.cell_in hcB.c4
      have p5 := Qt.cell_in hcA.c5
      have q5 := Qt.cell_in hcB.c5
      have p6 := Qt.cell_in hcA.c6
      have q6 := Qt.cell_in hcB.c6
      have p7 := Qt.cell_in hcA.c7
      have q7 := Qt.cell_in hcB.c7
      have p8 := Qt.cell_in hcA.c8
      have q8 := Qt.cell_in hcB.c8
      have p9 := Qt.cell_in hcA.c9
      have q9 := Qt.cell_in hcB.c9
      have p10 := Qt.cell_in hcA.c10
      have q10 := Qt.cell_in hcB.c10
      have p11 := Qt.cell_in hcA.c11
      have q11 := Qt.cell_in hcB.c11
      clear hca hcb hcA hcB hx hbl hbl2
      go_wp2_with fail
      refine Qt.below_all (by kernel_rfl) (by kernel_rfl) ?_
      iterate 9 (go_big_quiet_step (first | fail))
      refine wpQuiet_nil ?_
      intro w5 hb5
      have HBD := Lib.hid (Qt.more HH.out HH.out.size hb5)
      clear hb5
      go_wp2_with fail
      go_roundw
      case measure => simp [intOf]; omega
      case rel => exact ⟨k + 1, by omega, by go_num, HBD.out⟩
    · obtain rfl : k = l.length := by omega
      have hltz : ¬ (l.length : Int) < (l.length : Int) := by omega
      go_wp2_with fail
      go_ret
      exact ⟨rfl, HH.out⟩
end Go.Proofs.Ytocepdhjkhhpfaa
