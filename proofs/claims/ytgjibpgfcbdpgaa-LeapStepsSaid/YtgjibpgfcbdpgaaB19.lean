/-
  Texts that the claims of this seat share, part 19.
-/
import Derived.Test.YtgjibpgfcbdpgaaB17
import Derived.Test.YtgjibpgfcbdpgaaB18
import Derived.Test.YtgjibpgfcbdpgaaB16
set_option linter.unusedVariables false
set_option linter.unusedSimpArgs false
namespace Go.Proofs.Ytgjibpgfcbdpgaa
set_option maxRecDepth 100000
set_option linter.unusedVariables false
set_option linter.unusedSimpArgs false
open Go.RowKit Go.Sort

theorem leap_all (n0 g b mb : Nat) (room : Int) : ∀ e, e ≤ 40 → LeapAt 42 n0 g b mb room e
  | 0, _ => leap_of n0 g b mb room 0 (anew_two n0 g b mb room)
  | e + 1, h => leap_of n0 g b mb room (e + 1) (anew_more n0 g b mb room e h (leap_all n0 g b mb room e (by omega)))
/-- Leap's answer: the exponent is from 0 to the level less 2. -/
def leapZ (room : Int) (l : List Nd) (n j : Int) : Zn := if 0 ≤ j ∧ j ≤ levI l n - 2 then leapN room (levI l n - 2).toNat j.toNat l n else (l, 0, 1)
theorem LpR.no {n0 g b mb : Nat} {room : Int} {w w' : World} {l : List Nd} {c : Int} (hc : c ≠ 0) (h : BelL n0 w w') : LpR (l, 0, c) n0 g b mb room w (.returned (.tuple #[.int .i64 0, .int .i64 c])) w' := ⟨rfl, fun h0 => absurd h0 hc, h⟩
set_option maxHeartbeats 8000000 in
theorem leapC_any {n0 g b mb : Nat} {room : Int} {l : List Nd} {w : World} (hin : LIn n0 w g b mb l room) {k e : Nat} (hk : Is l (e + 2) k) (he : e ≤ 40) (j : Int) (hj : I64 j) {jb nb : Nat} (hjb : LR w jb j) (hnb : LR w nb (k : Int)) :
    Calls Try.prog 40 #[makerL g mb, .pointer (some ⟨jb, 0, none⟩), .pointer (some ⟨nb, 0, none⟩)] w (LpR (leapZ room l (k : Int) j) n0 g b mb room w) := by
  have hn0 := hin.ix.hB
  have hal := (Below.refl w.heap.size w).alloc (Nat.le_refl _) (.cells #[.pointer (some ⟨g, 0, none⟩), .map (some mb)] 76)
  have hM : ML (w.alloc (.cells #[.pointer (some ⟨g, 0, none⟩), .map (some mb)] 76)) w.heap.size g mb := heap_new rfl
  have HI := Lib.hid (hin.below hal)
  have HM := Lib.hid hM
  have HJ := Lib.hid (hjb.below hal)
  have HN := Lib.hid (hnb.below hal)
  have HA := Lib.hid (BelL.of hal hn0)
  have hle : levI l (k : Int) = ((e + 2 : Nat) : Int) := lev_at hk
  by_cases hj0 : j < 0
  · have hz : leapZ room l (k : Int) j = (l, 0, 1) := if_neg (by omega)
    rw [hz]
    have j0 := Qt.cell_in HJ.out.c
    clear hal hM hin hjb hnb hle hk hz
    go_enter Try.func40, Try.ntmps40
    go_wp2_with fail
    generalize (w.alloc (.cells #[.pointer (some ⟨g, 0, none⟩), .map (some mb)] 76)) = w0 at *
    refine Qt.below_all (by kernel_rfl) (by kernel_rfl) ?_
    repeat (go_big_quiet_step (fail))
    refine wpQuiet_nil ?_
    intro w7 hb7
    have HB := Lib.hid (HA.out.trans (.of hb7 HI.out.ix.hB))
    clear j0 hb7
    go_wp2_with fail
    go_ret2
    exact LpR.no (by decide) HB.out
  · have HK := Lib.hid hk
    have hnn : 0 ≤ j := by omega
    obtain ⟨jn, rfl⟩ : ∃ jn : Nat, j = jn := ⟨j.toNat, by omega⟩
    obtain ⟨lev, hlev⟩ : ∃ lev : Int, lev = (e : Int) + 2 := ⟨_, rfl⟩
    have hlv := fun W (hb : Below (w.alloc (.cells #[.pointer (some ⟨g, 0, none⟩), .map (some mb)] 76)).heap.size (w.alloc (.cells #[.pointer (some ⟨g, 0, none⟩), .map (some mb)] 76)) W) => levelL_any room n0 g b mb l k hk.lt W (HI.out.below hb).ix hin.right
    rw [show (l.getD k deadN).1 = lev by rw [hk.lev, hlev]; omega] at hlv
    have hw2 : IntKind.i64.wrap (lev - 2) = lev - 2 := by rw [IntKind.wrap_i64]; omega
    obtain ⟨gt, hgt⟩ : ∃ gt, gt = decide (lev - 2 < (jn : Int)) := ⟨_, rfl⟩
    have HW2 := Lib.hid hw2
    have HLV := Lib.hid hlv
    obtain ⟨Z, hZ⟩ : ∃ Z, Z = leapZ room l (k : Int) (jn : Int) := ⟨_, rfl⟩
    rw [← hZ]
    have HZ : Hid (Z = if gt = false then leapN room e jn l (k : Int) else (l, 0, 1)) := by
      show _ = _
      rw [hZ]
      unfold leapZ
      rw [hle, hgt]
      by_cases h : jn ≤ e
      · rw [if_pos (by omega), if_pos (by simp; omega), show (((e + 2 : Nat) : Int) - 2).toNat = e by omega, Int.toNat_natCast]
      · rw [if_neg (by omega), if_neg (by simp; omega)]
    have HGT := Lib.hid hgt
    have HNG := Lib.hid (show ¬ (jn : Int) < 0 by omega)
    have HE := Lib.hid hlev
    clear hal hM hin hjb hnb hle hk hlv hw2 hgt hlev hj hj0 hZ
    go_enter Try.func40, Try.ntmps40
    go_wp2_with fail
    generalize (w.alloc (.cells #[.pointer (some ⟨g, 0, none⟩), .map (some mb)] 76)) = w0 at *
    refine region_calm_to (fun W => Below w0.heap.size w0 W) (fun (a0 a9 : Act) (w9 : World) => a9 = ((((((((((a0.put (some 6) (.int .i64 (jn : Int))).put (some 7) (.bool false)).put (some 8) (.bool false)).put (some 9) (.int .i64 (jn : Int))).put (some 10) (makerL g mb)).put (some 11) (.int .i64 (k : Int))).put (some 12) (.int .i64 lev)).put (some 13) (.int .i64 (lev - 2))).put (some 14) (.bool gt)).put (some 15) (.bool gt)) ∧ Below w0.heap.size w0 w9) (.calm 0 (.calm 1 (.calm 2 (.calm 3 (.calm 4 (.calm 5 (.only 6 (.calm 7 (.calm 8 (.calm 9 .done)))))))))) (by kernel_rfl) (by kernel_rfl) (by kernel_rfl) (by rfl) (below_drew _) ?_ ?_
    · skip
      refine ⟨_, _, .int .i64 (jn : Int), rfl, rfl, ⟨rfl, fun W hW => by have j0 := (HJ.out.below hW).c; simp only [Act.eval, execOp]; go_simp; done⟩, ?_⟩
      simp only [Act.put, List.getElem_toArray, List.getElem_cons_zero, List.getElem_cons_succ, List.setIfInBounds_toArray, List.set_cons_succ, List.set_cons_zero]
      refine ⟨_, _, .bool false, rfl, rfl, ⟨rfl, fun W hW => by have hneg := HNG.out; simp only [Act.eval, execOp]; go_simp; done⟩, ?_⟩
      simp only [Act.put, List.getElem_toArray, List.getElem_cons_zero, List.getElem_cons_succ, List.setIfInBounds_toArray, List.set_cons_succ, List.set_cons_zero]
      refine ⟨_, _, .bool false, rfl, rfl, ⟨rfl, fun W hW => by first | exact ⟨rfl, rfl⟩ | (simp only [Act.eval, execOp]; go_simp; try exact ⟨rfl, rfl⟩)⟩, ?_⟩
      simp only [Act.put, List.getElem_toArray, List.getElem_cons_zero, List.getElem_cons_succ, List.setIfInBounds_toArray, List.set_cons_succ, List.set_cons_zero]
      refine ⟨_, _, .int .i64 (jn : Int), rfl, rfl, ⟨rfl, fun W hW => by have j0 := (HJ.out.below hW).c; simp only [Act.eval, execOp]; go_simp; done⟩, ?_⟩
      simp only [Act.put, List.getElem_toArray, List.getElem_cons_zero, List.getElem_cons_succ, List.setIfInBounds_toArray, List.set_cons_succ, List.set_cons_zero]
      refine ⟨_, _, makerL g mb, rfl, rfl, ⟨rfl, fun W hW => by have m0 := (HM.out.below hW).c0; have m1 := (HM.out.below hW).c1; simp only [Act.eval, execOp]; go_simp; done⟩, ?_⟩
      simp only [Act.put, List.getElem_toArray, List.getElem_cons_zero, List.getElem_cons_succ, List.setIfInBounds_toArray, List.set_cons_succ, List.set_cons_zero]
      refine ⟨_, _, .int .i64 (k : Int), rfl, rfl, ⟨rfl, fun W hW => by have n1 := (HN.out.below hW).c; simp only [Act.eval, execOp]; go_simp; done⟩, ?_⟩
      simp only [Act.put, List.getElem_toArray, List.getElem_cons_zero, List.getElem_cons_succ, List.setIfInBounds_toArray, List.set_cons_succ, List.set_cons_zero]
      refine ⟨_, rfl, ?_⟩
      go_wp2_with fail
      refine (HLV.out _ (below_drew w0)).mono ?_
      rintro r w9 ⟨rfl, hb⟩
      have hBc := Qt.more (below_drew w0) (Nat.le_refl _) hb
      clear hb
      go_wp2_with fail
      refine ⟨rfl, hBc, ?_⟩
      refine ⟨_, _, .int .i64 (lev - 2), rfl, rfl, ⟨rfl, fun W hW => by have hw2 := HW2.out; simp only [Act.eval, execOp]; go_simp; try exact ⟨rfl, rfl⟩⟩, ?_⟩
      simp only [Act.put, List.getElem_toArray, List.getElem_cons_zero, List.getElem_cons_succ, List.setIfInBounds_toArray, List.set_cons_succ, List.set_cons_zero]
      refine ⟨_, _, .bool gt, rfl, rfl, ⟨rfl, fun W hW => by rw [HGT.out]; simp only [Act.eval, execOp]; go_simp; try exact ⟨rfl, rfl⟩⟩, ?_⟩
      simp only [Act.put, List.getElem_toArray, List.getElem_cons_zero, List.getElem_cons_succ, List.setIfInBounds_toArray, List.set_cons_succ, List.set_cons_zero]
      refine ⟨_, _, .bool gt, rfl, rfl, ⟨rfl, fun W hW => by first | exact ⟨rfl, rfl⟩ | (simp only [Act.eval, execOp]; go_simp; try exact ⟨rfl, rfl⟩)⟩, ?_⟩
      simp only [Act.put, List.getElem_toArray, List.getElem_cons_zero, List.getElem_cons_succ, List.setIfInBounds_toArray, List.set_cons_succ, List.set_cons_zero]
      refine ⟨?_, hBc⟩
      first | rfl | simp only [Act.put, List.setIfInBounds_toArray, List.set_cons_succ, List.set_cons_zero]
    · intro a9 w9 h9
      obtain ⟨rfl, hb9⟩ := h9
      simp only [Act.put, List.setIfInBounds_toArray, List.set_cons_succ, List.set_cons_zero]
      have HI9 := Lib.hid (HI.out.below hb9)
      have HA9 := Lib.hid (HA.out.trans (.of hb9 HI.out.ix.hB))
      cases gt with
      | true =>
        have hz : Z = (l, 0, 1) := by rw [HZ.out, if_neg (by decide)]
        subst hz
        clear hb9
        go_wp2_with fail
        go_ret2
        exact LpR.no (by decide) HA9.out
      | false =>
        have hz : Z = leapN room e jn l (k : Int) := by rw [HZ.out, if_pos rfl]
        have j0 := (HJ.out.below hb9).c
        have n1 := (HN.out.below hb9).c
        have m0 := (HM.out.below hb9).c0
        have m1 := (HM.out.below hb9).c1
        have hje : jn ≤ e := by have h := HGT.out; have h2 := HE.out; have h3 := of_decide_eq_false h.symm; omega
        have hlp := leap_all n0 g b mb room e he k jn l w9 HI9.out HK.out hje he
        clear hb9
        rw [← hz] at hlp
        clear hz HZ
        obtain ⟨zl, zn, ze⟩ := Z
        go_wp2_with fail
        refine hlp.mono ?_
        rintro r w2 ⟨rfl, hl2, hb2⟩
        have HB2 := Lib.hid (HA9.out.trans hb2)
        have HL2 := Lib.hid hl2
        clear hlp hl2 hb2 j0 n1 m0 m1
        go_wp2_with fail
        go_ret2
        exact ⟨rfl, HL2.out, HB2.out⟩
end Go.Proofs.Ytgjibpgfcbdpgaa
