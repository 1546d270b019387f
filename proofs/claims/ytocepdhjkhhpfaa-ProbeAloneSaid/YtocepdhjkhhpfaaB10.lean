/-
  Texts that the claims of this seat share, part 10.
-/
import Derived.Test.YtocepdhjkhhpfaaB07
import Derived.Test.YtocepdhjkhhpfaaB09
set_option linter.unusedVariables false
set_option linter.unusedSimpArgs false
namespace Go.Proofs.Ytocepdhjkhhpfaa
set_option maxRecDepth 100000
set_option linter.unusedVariables false
set_option linter.unusedSimpArgs false
open Go.RowKit Go.Sort

set_option maxHeartbeats 4000000 in
theorem hMay_any {w : World} {b : Nat} {u : W8} {S N : Int} {sl mp : Value} (h : HaAt w b u S N sl mp) (hf : Fit8 S u) (hm : May8 S u) : Calls Try.prog 111 #[.pointer (some ⟨b, 0, none⟩)] w fun e w' => e = .returned (.bool true) ∧ HaAt w' b u S N sl mp ∧ Below w.heap.size w w' := by
  have H := Lib.hid h
  have c0 := h.cs.c0
  have c1 := h.cs.c1
  have c6 := h.cs.c6
  have c9 := h.cs.c9
  have c10 := h.cs.c10
  have c12 := h.cs.c12
  clear h
  obtain ⟨m1, m2, m3, m4⟩ := hm
  have hj := hf.job
  have h4 := hf.r4.1
  have h7 := hf.r7
  clear hf
  rw [hj] at c1
  rw [m1] at c10
  clear hj m1
  have hds : Hid (u.pc = 0 ∨ u.pc = 1 ∨ u.pc = 20 → decide (u.r4 < S) = true) := fun e => decide_eq_true (m3 e)
  have hdk : Hid (u.pc = 1 ∨ u.pc = 13 → decide (u.r7 < 4) = true) := fun e => decide_eq_true (by have := m4 e; omega)
  clear m3 m4
  rcases m2 with e | e | e | e | e | e | e | e | e | e
  · as_aux_lemma =>
    rw [e] at c0 hds hdk
    clear e
    go_enter Try.func111, Try.ntmps111
    go_wp2
    have k6 := Qt.cell_in c6
    have k9 := Qt.cell_in c9
    have k12 := Qt.cell_in c12
    refine Qt.below_all (by kernel_rfl) (by kernel_rfl) ?_
    iterate 22 (go_big_quiet_step (fail))
    refine wpQuiet_nil ?_
    intro w1 hb1
    have c0' := Qt.keep hb1 c0
    have H1 := Lib.hid (H.out.below hb1 H.out.lt)
    have HB := Lib.hid hb1
    clear c0 c1 c6 c9 c10 c12 k6 k9 k12 H hb1
    generalize decide (u.r4 < S) = x at *
    generalize decide (u.r7 < 4) = y at *
    obtain rfl : x = true := hds.out (by decide)
    go_wp2
    go_ret
    exact ⟨rfl, H1.out, HB.out⟩
  · as_aux_lemma =>
    rw [e] at c0 hds hdk
    clear e
    go_enter Try.func111, Try.ntmps111
    go_wp2
    have k6 := Qt.cell_in c6
    have k9 := Qt.cell_in c9
    have k12 := Qt.cell_in c12
    refine Qt.below_all (by kernel_rfl) (by kernel_rfl) ?_
    iterate 22 (go_big_quiet_step (fail))
    refine wpQuiet_nil ?_
    intro w1 hb1
    have c0' := Qt.keep hb1 c0
    have H1 := Lib.hid (H.out.below hb1 H.out.lt)
    have HB := Lib.hid hb1
    clear c0 c1 c6 c9 c10 c12 k6 k9 k12 H hb1
    generalize decide (u.r4 < S) = x at *
    generalize decide (u.r7 < 4) = y at *
    obtain rfl : x = true := hds.out (by decide)
    obtain rfl : y = true := hdk.out (by decide)
    go_wp2
    go_ret
    exact ⟨rfl, H1.out, HB.out⟩
  · as_aux_lemma =>
    rw [e] at c0 hds hdk
    clear e
    go_enter Try.func111, Try.ntmps111
    go_wp2
    have k6 := Qt.cell_in c6
    have k9 := Qt.cell_in c9
    have k12 := Qt.cell_in c12
    refine Qt.below_all (by kernel_rfl) (by kernel_rfl) ?_
    iterate 22 (go_big_quiet_step (fail))
    refine wpQuiet_nil ?_
    intro w1 hb1
    have c0' := Qt.keep hb1 c0
    have H1 := Lib.hid (H.out.below hb1 H.out.lt)
    have HB := Lib.hid hb1
    clear c0 c1 c6 c9 c10 c12 k6 k9 k12 H hb1
    generalize decide (u.r4 < S) = x at *
    generalize decide (u.r7 < 4) = y at *
    go_wp2
    go_ret
    exact ⟨rfl, H1.out, HB.out⟩
  · as_aux_lemma =>
    rw [e] at c0 hds hdk
    clear e
    go_enter Try.func111, Try.ntmps111
    go_wp2
    have k6 := Qt.cell_in c6
    have k9 := Qt.cell_in c9
    have k12 := Qt.cell_in c12
    refine Qt.below_all (by kernel_rfl) (by kernel_rfl) ?_
    iterate 22 (go_big_quiet_step (fail))
    refine wpQuiet_nil ?_
    intro w1 hb1
    have c0' := Qt.keep hb1 c0
    have H1 := Lib.hid (H.out.below hb1 H.out.lt)
    have HB := Lib.hid hb1
    clear c0 c1 c6 c9 c10 c12 k6 k9 k12 H hb1
    generalize decide (u.r4 < S) = x at *
    generalize decide (u.r7 < 4) = y at *
    go_wp2
    go_ret
    exact ⟨rfl, H1.out, HB.out⟩
  · as_aux_lemma =>
    rw [e] at c0 hds hdk
    clear e
    go_enter Try.func111, Try.ntmps111
    go_wp2
    have k6 := Qt.cell_in c6
    have k9 := Qt.cell_in c9
    have k12 := Qt.cell_in c12
    refine Qt.below_all (by kernel_rfl) (by kernel_rfl) ?_
    iterate 22 (go_big_quiet_step (fail))
    refine wpQuiet_nil ?_
    intro w1 hb1
    have c0' := Qt.keep hb1 c0
    have H1 := Lib.hid (H.out.below hb1 H.out.lt)
    have HB := Lib.hid hb1
    clear c0 c1 c6 c9 c10 c12 k6 k9 k12 H hb1
    generalize decide (u.r4 < S) = x at *
    generalize decide (u.r7 < 4) = y at *
    go_wp2
    go_ret
    exact ⟨rfl, H1.out, HB.out⟩
  · as_aux_lemma =>
    rw [e] at c0 hds hdk
    clear e
    go_enter Try.func111, Try.ntmps111
    go_wp2
    have k6 := Qt.cell_in c6
    have k9 := Qt.cell_in c9
    have k12 := Qt.cell_in c12
    refine Qt.below_all (by kernel_rfl) (by kernel_rfl) ?_
    iterate 22 (go_big_quiet_step (fail))
    refine wpQuiet_nil ?_
    intro w1 hb1
    have c0' := Qt.keep hb1 c0
    have H1 := Lib.hid (H.out.below hb1 H.out.lt)
    have HB := Lib.hid hb1
    clear c0 c1 c6 c9 c10 c12 k6 k9 k12 H hb1
    generalize decide (u.r4 < S) = x at *
    generalize decide (u.r7 < 4) = y at *
    obtain rfl : y = true := hdk.out (by decide)
    go_wp2
    go_ret
    exact ⟨rfl, H1.out, HB.out⟩
  · as_aux_lemma =>
    rw [e] at c0 hds hdk
    clear e
    go_enter Try.func111, Try.ntmps111
    go_wp2
    have k6 := Qt.cell_in c6
    have k9 := Qt.cell_in c9
    have k12 := Qt.cell_in c12
    refine Qt.below_all (by kernel_rfl) (by kernel_rfl) ?_
    iterate 22 (go_big_quiet_step (fail))
    refine wpQuiet_nil ?_
    intro w1 hb1
    have c0' := Qt.keep hb1 c0
    have H1 := Lib.hid (H.out.below hb1 H.out.lt)
    have HB := Lib.hid hb1
    clear c0 c1 c6 c9 c10 c12 k6 k9 k12 H hb1
    generalize decide (u.r4 < S) = x at *
    generalize decide (u.r7 < 4) = y at *
    obtain rfl : x = true := hds.out (by decide)
    go_wp2
    go_ret
    exact ⟨rfl, H1.out, HB.out⟩
  · as_aux_lemma =>
    rw [e] at c0 hds hdk
    clear e
    go_enter Try.func111, Try.ntmps111
    go_wp2
    have k6 := Qt.cell_in c6
    have k9 := Qt.cell_in c9
    have k12 := Qt.cell_in c12
    refine Qt.below_all (by kernel_rfl) (by kernel_rfl) ?_
    iterate 22 (go_big_quiet_step (fail))
    refine wpQuiet_nil ?_
    intro w1 hb1
    have c0' := Qt.keep hb1 c0
    have H1 := Lib.hid (H.out.below hb1 H.out.lt)
    have HB := Lib.hid hb1
    clear c0 c1 c6 c9 c10 c12 k6 k9 k12 H hb1
    generalize decide (u.r4 < S) = x at *
    generalize decide (u.r7 < 4) = y at *
    go_wp2
    go_ret
    exact ⟨rfl, H1.out, HB.out⟩
  · as_aux_lemma =>
    rw [e] at c0 hds hdk
    clear e
    go_enter Try.func111, Try.ntmps111
    go_wp2
    have k6 := Qt.cell_in c6
    have k9 := Qt.cell_in c9
    have k12 := Qt.cell_in c12
    refine Qt.below_all (by kernel_rfl) (by kernel_rfl) ?_
    iterate 22 (go_big_quiet_step (fail))
    refine wpQuiet_nil ?_
    intro w1 hb1
    have c0' := Qt.keep hb1 c0
    have H1 := Lib.hid (H.out.below hb1 H.out.lt)
    have HB := Lib.hid hb1
    clear c0 c1 c6 c9 c10 c12 k6 k9 k12 H hb1
    generalize decide (u.r4 < S) = x at *
    generalize decide (u.r7 < 4) = y at *
    go_wp2
    go_ret
    exact ⟨rfl, H1.out, HB.out⟩
  · as_aux_lemma =>
    rw [e] at c0 hds hdk
    clear e
    go_enter Try.func111, Try.ntmps111
    go_wp2
    have k6 := Qt.cell_in c6
    have k9 := Qt.cell_in c9
    have k12 := Qt.cell_in c12
    refine Qt.below_all (by kernel_rfl) (by kernel_rfl) ?_
    iterate 22 (go_big_quiet_step (fail))
    refine wpQuiet_nil ?_
    intro w1 hb1
    have c0' := Qt.keep hb1 c0
    have H1 := Lib.hid (H.out.below hb1 H.out.lt)
    have HB := Lib.hid hb1
    clear c0 c1 c6 c9 c10 c12 k6 k9 k12 H hb1
    generalize decide (u.r4 < S) = x at *
    generalize decide (u.r7 < 4) = y at *
    go_wp2
    go_ret
    exact ⟨rfl, H1.out, HB.out⟩
end Go.Proofs.Ytocepdhjkhhpfaa
