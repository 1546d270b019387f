/-
  Texts that the claims of this seat share, part 8.
-/
import Derived.Test.YtocepdhjkhhpfaaB06
set_option linter.unusedVariables false
set_option linter.unusedSimpArgs false
namespace Go.Proofs.Ytocepdhjkhhpfaa
set_option maxRecDepth 100000
set_option linter.unusedVariables false
set_option linter.unusedSimpArgs false
open Go.RowKit Go.Sort

set_option maxHeartbeats 16000000 in
theorem stepL_b (q : Nat) (hq : q < 6) (hq3 : 3 ≤ q) (w0 : Wk) (at0 : Int) (m : List Int) (A : Option Addr) (c b : Nat) (w : World) {B : Nat} (hf : FineW w0) (hj : w0.job = jobN q) (hp : w0.pc = pcN q) (ha1 : 0 ≤ at0) (ha2 : at0 ≤ 1099511627776) (hm : ∀ x ∈ m, WdI x) (hB : B ≤ w.heap.size) (hO : Own w B (.slice A m.length c) m) (hl : m.length ≤ 1000000) (hM : MapOk w b) :
    Calls Try.prog 41 #[liV A m.length c at0 b, wkV w0] w (StepR B (.slice A m.length c) (stepW at0 m w0) w) := by
  have hacc := fun W => acc_all q hq w0 at0 hf hj hp ha1 ha2 W
  have hthen := fun x b' (hx : WdI x) W => then_all q hq w0 at0 x b' hf hj hp hx W
  have hfine := accW_fine at0 hf ha1 ha2
  have hdn := hf.done
  obtain ⟨y, hy⟩ : ∃ y, y = accW at0 w0 := ⟨_, rfl⟩
  have hsd : stepW at0 m w0 = if (doA m y).2.2.2 = 0 then ((doA m y).1, behW w0 (doA m y).2.1 (doA m y).2.2.1, 0) else (m, w0, (doA m y).2.2.2) := by rw [hy]; rfl
  rw [← hy] at hacc hfine
  clear hy hf
  obtain ⟨d, hd⟩ : ∃ d, d = stepW at0 m w0 := ⟨_, rfl⟩
  rw [← hd] at hsd ⊢
  have HSD := Lib.hid hsd
  have HM := Lib.hid hm
  have HMap := Lib.hid hM
  have HO := Lib.hid hO
  have HFI := Lib.hid hfine
  have HTH := Lib.hid hthen
  have HB := Lib.hid hB
  clear hsd hm hM hO hfine hd hthen hB
  obtain ⟨pc, job, r0, r1, r2, dn, out⟩ := w0
  simp only at hj hp hdn
  subst hj hp hdn
  have hlook := fun W (h : Below w.heap.size w W) => (mapOk_below HMap.out h).get hq
  have hn0 : ¬ at0 < 0 := by omega
  have hsf : ∀ (a : Addr) (k : Nat) (W : World), (store a (.func (.func k) #[] #[])).run Try.prog W = stored Try.prog W a (.func (.func k) #[] #[]) .plain := fun a k W => run_store _ W a _ _ rfl
  rcases (show q = 3 ∨ q = 4 ∨ q = 5 by omega) with rfl | rfl | rfl
  all_goals simp only [keyN, valN, keyW, deedV, fnK] at hlook
  all_goals simp only [jobN, pcN] at hacc HTH ⊢
  · have hl1 := hlook _ ((((Below.refl w.heap.size w).alloc (Nat.le_refl _) (.cells #[.slice A m.length c, .int .i64 at0, .map (some b)] 68)).alloc (by simp) (.cells (wkA ⟨0, 2, r0, r1, r2, false, out⟩) 39)).alloc (by simp; omega) (.cells (wkA ⟨0, 0, 0, 0, 0, false, 0⟩) 39))
    clear hlook
    go_enter Try.func41, Try.ntmps41
    go_wp2_with fail
    obtain ⟨w5, hw5, hs5, g0, g1, g2, g3, g4, hb5⟩ := five_allocs w (.cells #[.slice A m.length c, .int .i64 at0, .map (some b)] 68) (.cells (wkA ⟨0, 2, r0, r1, r2, false, out⟩) 39) (.cells (wkA ⟨0, 0, 0, 0, 0, false, 0⟩) 39) (.cells #[fnK (faN 3), fnK (ftN 3)] 93) (.cells (haA ⟨0, 2, r0, r1, r2, false, out⟩ at0) 98)
    simp only [fnK, faN, ftN, haA] at hw5 g3 g4
    rw [hw5]
    clear hw5 hl1
    have HB5 := Lib.hid hb5
    have HG := Lib.hid (And.intro g0 (And.intro g1 (And.intro g2 (And.intro g3 g4))))
    have k0 := Qt.cell_in (show w5.cell? ⟨w.heap.size, 0, none⟩ = some (.slice A m.length c) by rw [Lib.cell_of_heap g0]; rfl)
    have k1 := Qt.cell_in (show w5.cell? ⟨w.heap.size + 3, 0, none⟩ = some (.func (.func 75) #[] #[]) by rw [Lib.cell_of_heap g3]; rfl)
    have j0 := Qt.cell_in (show w5.cell? ⟨w.heap.size + 4, 0, none⟩ = some (.int .i64 0) by rw [Lib.cell_of_heap g4]; rfl)
    have j1 := Qt.cell_in (show w5.cell? ⟨w.heap.size + 4, 1, none⟩ = some (.int .i64 2) by rw [Lib.cell_of_heap g4]; rfl)
    have j2 := Qt.cell_in (show w5.cell? ⟨w.heap.size + 4, 2, none⟩ = some (.int .i64 r0) by rw [Lib.cell_of_heap g4]; rfl)
    have j3 := Qt.cell_in (show w5.cell? ⟨w.heap.size + 4, 3, none⟩ = some (.int .i64 r1) by rw [Lib.cell_of_heap g4]; rfl)
    have j4 := Qt.cell_in (show w5.cell? ⟨w.heap.size + 4, 4, none⟩ = some (.int .i64 r2) by rw [Lib.cell_of_heap g4]; rfl)
    have j5 := Qt.cell_in (show w5.cell? ⟨w.heap.size + 4, 5, none⟩ = some (.int .i64 0) by rw [Lib.cell_of_heap g4]; rfl)
    have j6 := Qt.cell_in (show w5.cell? ⟨w.heap.size + 4, 6, none⟩ = some (.int .i64 0) by rw [Lib.cell_of_heap g4]; rfl)
    have j7 := Qt.cell_in (show w5.cell? ⟨w.heap.size + 4, 7, none⟩ = some (.int .i64 0) by rw [Lib.cell_of_heap g4]; rfl)
    have j8 := Qt.cell_in (show w5.cell? ⟨w.heap.size + 4, 8, none⟩ = some (.int .i64 0) by rw [Lib.cell_of_heap g4]; rfl)
    have j9 := Qt.cell_in (show w5.cell? ⟨w.heap.size + 4, 9, none⟩ = some (.int .i64 0) by rw [Lib.cell_of_heap g4]; rfl)
    have j10 := Qt.cell_in (show w5.cell? ⟨w.heap.size + 4, 10, none⟩ = some (.bool false) by rw [Lib.cell_of_heap g4]; rfl)
    have j11 := Qt.cell_in (show w5.cell? ⟨w.heap.size + 4, 11, none⟩ = some (.int .i64 out) by rw [Lib.cell_of_heap g4]; rfl)
    have j12 := Qt.cell_in (show w5.cell? ⟨w.heap.size + 4, 12, none⟩ = some (.int .i64 at0) by rw [Lib.cell_of_heap g4]; rfl)
    have hac5 : ∀ W, Below w5.heap.size w5 W → Calls Try.prog 75 #[haV ⟨0, 2, r0, r1, r2, false, out⟩ at0] W fun e w' => e = .returned (acV y) ∧ Below W.heap.size W w' := fun W _ => hacc W
    clear hacc g0 g1 g2 g3 g4 hb5
    refine Qt.region_call 6 (by kernel_rfl) (by kernel_rfl) rfl rfl Try.func61 (by kernel_rfl) (by kernel_rfl) rfl ?_
    simp only [List.take_succ_cons, List.take_zero, List.drop_succ_cons, List.drop_zero]
    iterate 6 (go_big_quiet_step (first | (go_at_call 75; exact Qt.at_call' hac5)))
    refine wpQuiet_nil ?_
    intro w6 hb6
    have hB6 := HB5.out.size
    have hB6' := hb6.size
    have hO6 := own_next (own_next HO.out HB5.out) hb6
    have hdo := wdo_any y m A c w6 HFI.out (fun x hx => (HM.out x hx).i64) (by have := HB.out; omega) hO6 (by omega)
    clear hac5 k0 k1 j0 j1 j2 j3 j4 j5 j6 j7 j8 j9 j10 j11 j12
    simp only [List.map_toArray, List.map_cons, List.map_nil]
    show Calls Try.prog _ #[.slice A m.length c, acV y] w6 _
    refine hdo.mono ?_
    rintro e w7 ⟨rfl, hO7, hg7⟩
    clear hdo hO6
    refine ⟨_, rfl, ?_⟩
    simp only [Act.put, List.setIfInBounds_toArray, List.set_cons_succ, List.set_cons_zero]
    repeat (go_big_quiet_step (fail))
    refine wpQuiet_nil ?_
    intro w8 hb8
    have HO8 := Lib.hid (own_next hO7 hb8)
    have HG8 : Hid (∀ k o, w5.heap[k]? = some o → w.heap.size ≤ k → w8.heap[k]? = some o) := fun k o h hk => by
      have hlt := lt_heap6' h
      refine (hb8.block _ ?_).trans ((hg7.block k (by omega) ?_).trans ((hb6.block _ hlt).trans h))
      · have := hg7.size; omega
      · intro e
        have := (World.ownsRow.lt HO.out k e.symm).2
        omega
    have HW8 : Hid (w.grownBy w8 (Value.slice A m.length c).ownBlock) := ((grown_below (HB5.out.trans (hb6.mono HB5.out.size)) _).trans hg7).trans (grown_below hb8 _)
    have hs8 : w5.heap.size ≤ w8.heap.size := by have := hg7.size; have := hb8.size; omega
    obtain ⟨g0, g1, g2, g3, g4⟩ := HG.out
    have HH := Lib.hid (And.intro (HG8.out _ _ g1 (by omega)) (And.intro (HG8.out _ _ g2 (by omega)) (And.intro (HG8.out _ _ g3 (by omega)) (HG8.out _ _ g4 (by omega)))))
    obtain ⟨dA, hdA⟩ : ∃ dA, dA = doA m y := ⟨_, rfl⟩
    rw [← hdA] at HO8 HSD ⊢
    have HDW : Hid (WdI dA.2.1) := by rw [hdA]; exact (doA_wd y HM.out).2
    have HDB : Hid (dA.2.2.2 ≠ 0 → dA.1 = m) := fun h => by rw [hdA] at h ⊢; rw [doA_bad h]
    clear hdA
    clear g0 g1 g2 g3 g4 hO7 hg7 hb8 hb6 HG8 HG HB5 hB6 hB6'
    by_cases he : dA.2.2.2 = 0
    · have he1 : (dA.2.2.2 != 0) = false := by rw [he]; rfl
      obtain ⟨-, q2, q3, q4⟩ := HH.out
      have a1 : w8.cell? ⟨w.heap.size + 1 + 1 + 1, 1, none⟩ = some ((.func (.func 81) #[] #[])) := by rw [Lib.cell_of_heap q3]; rfl
      have b0 : w8.cell? ⟨w.heap.size + 1 + 1 + 1 + 1, 0, none⟩ = some (.int .i64 0) := by rw [Lib.cell_of_heap q4]; rfl
      have b1 : w8.cell? ⟨w.heap.size + 1 + 1 + 1 + 1, 1, none⟩ = some (.int .i64 2) := by rw [Lib.cell_of_heap q4]; rfl
      have b2 : w8.cell? ⟨w.heap.size + 1 + 1 + 1 + 1, 2, none⟩ = some (.int .i64 r0) := by rw [Lib.cell_of_heap q4]; rfl
      have b3 : w8.cell? ⟨w.heap.size + 1 + 1 + 1 + 1, 3, none⟩ = some (.int .i64 r1) := by rw [Lib.cell_of_heap q4]; rfl
      have b4 : w8.cell? ⟨w.heap.size + 1 + 1 + 1 + 1, 4, none⟩ = some (.int .i64 r2) := by rw [Lib.cell_of_heap q4]; rfl
      have b5 : w8.cell? ⟨w.heap.size + 1 + 1 + 1 + 1, 5, none⟩ = some (.int .i64 0) := by rw [Lib.cell_of_heap q4]; rfl
      have b6 : w8.cell? ⟨w.heap.size + 1 + 1 + 1 + 1, 6, none⟩ = some (.int .i64 0) := by rw [Lib.cell_of_heap q4]; rfl
      have b7 : w8.cell? ⟨w.heap.size + 1 + 1 + 1 + 1, 7, none⟩ = some (.int .i64 0) := by rw [Lib.cell_of_heap q4]; rfl
      have b8 : w8.cell? ⟨w.heap.size + 1 + 1 + 1 + 1, 8, none⟩ = some (.int .i64 0) := by rw [Lib.cell_of_heap q4]; rfl
      have b9 : w8.cell? ⟨w.heap.size + 1 + 1 + 1 + 1, 9, none⟩ = some (.int .i64 0) := by rw [Lib.cell_of_heap q4]; rfl
      have b10 : w8.cell? ⟨w.heap.size + 1 + 1 + 1 + 1, 10, none⟩ = some (.bool false) := by rw [Lib.cell_of_heap q4]; rfl
      have b11 : w8.cell? ⟨w.heap.size + 1 + 1 + 1 + 1, 11, none⟩ = some (.int .i64 out) := by rw [Lib.cell_of_heap q4]; rfl
      have b12 : w8.cell? ⟨w.heap.size + 1 + 1 + 1 + 1, 12, none⟩ = some (.int .i64 at0) := by rw [Lib.cell_of_heap q4]; rfl
      have hth := HTH.out dA.2.1 dA.2.2.1 HDW.out w8
      obtain ⟨u, hu⟩ : ∃ u, u = behW ⟨0, 2, r0, r1, r2, false, out⟩ dA.2.1 dA.2.2.1 := ⟨_, rfl⟩
      rw [← hu] at hth
      have HU := Lib.hid hu
      have HE := Lib.hid he
      clear hu q2 q3 q4 HTH he
      go_wp2_with fail
      refine hth.mono ?_
      rintro e w9 ⟨rfl, hb9⟩
      clear hth a1 b0 b1 b2 b3 b4 b5 b6 b7 b8 b9 b10 b11 b12
      have q2 := (hb9.block _ (lt_heap6' HH.out.2.1)).trans HH.out.2.1
      have HO9 := Lib.hid (own_next HO8.out hb9)
      have HW9 := Lib.hid (HW8.out.trans (grown_below hb9 _))
      have HQ := Lib.hid q2
      have c0 : w9.cell? ⟨w.heap.size + 1 + 1, 0, none⟩ = some (.int .i64 0) := by rw [Lib.cell_of_heap q2]; rfl
      have c1 : w9.cell? ⟨w.heap.size + 1 + 1, 1, none⟩ = some (.int .i64 0) := by rw [Lib.cell_of_heap q2]; rfl
      have c2 : w9.cell? ⟨w.heap.size + 1 + 1, 2, none⟩ = some (.int .i64 0) := by rw [Lib.cell_of_heap q2]; rfl
      have c3 : w9.cell? ⟨w.heap.size + 1 + 1, 3, none⟩ = some (.int .i64 0) := by rw [Lib.cell_of_heap q2]; rfl
      have c4 : w9.cell? ⟨w.heap.size + 1 + 1, 4, none⟩ = some (.int .i64 0) := by rw [Lib.cell_of_heap q2]; rfl
      have c5 : w9.cell? ⟨w.heap.size + 1 + 1, 5, none⟩ = some (.int .i64 0) := by rw [Lib.cell_of_heap q2]; rfl
      have c6 : w9.cell? ⟨w.heap.size + 1 + 1, 6, none⟩ = some (.int .i64 0) := by rw [Lib.cell_of_heap q2]; rfl
      have c7 : w9.cell? ⟨w.heap.size + 1 + 1, 7, none⟩ = some (.int .i64 0) := by rw [Lib.cell_of_heap q2]; rfl
      have c8 : w9.cell? ⟨w.heap.size + 1 + 1, 8, none⟩ = some (.int .i64 0) := by rw [Lib.cell_of_heap q2]; rfl
      have c9 : w9.cell? ⟨w.heap.size + 1 + 1, 9, none⟩ = some (.int .i64 0) := by rw [Lib.cell_of_heap q2]; rfl
      have c10 : w9.cell? ⟨w.heap.size + 1 + 1, 10, none⟩ = some (.bool false) := by rw [Lib.cell_of_heap q2]; rfl
      have c11 : w9.cell? ⟨w.heap.size + 1 + 1, 11, none⟩ = some (.int .i64 0) := by rw [Lib.cell_of_heap q2]; rfl
      have fz : ∀ j, w9.frozen? ⟨w.heap.size + 1 + 1, j, none⟩ = false := fun j => Lib.frozen_of_heap q2 j
      clear q2 hb9
      go_wp2_with fail
      clear c0 c1 c2 c3 c4 c5 c6 c7 c8 c9 c10 c11 fz
      obtain ⟨w10, hw10, h10, g10⟩ := set12 w9 (w.heap.size + 1 + 1) ⟨0, 0, 0, 0, 0, false, 0⟩ u 39 (0, 0) HQ.out
      rw [hw10]
      refine bodyPost_ret (results_cellT rfl _ _ (w.heap.size + 1 + 1) _ _ _ _ rfl h10 Try.underlying39 rfl (by kernel_rfl)) rfl ?_
      have hd2 := HSD.out
      rw [if_pos HE.out] at hd2
      subst hd2
      exact step_end (by rw [HU.out]; rfl) HO.out HO9.out HW9.out g10 (by omega)
    · have he1 : (dA.2.2.2 != 0) = true := by rw [bne_iff_ne]; exact he
      obtain ⟨q1, q2, -, -⟩ := HH.out
      have a0 : w8.cell? ⟨w.heap.size + 1, 0, none⟩ = some (.int .i64 0) := by rw [Lib.cell_of_heap q1]; rfl
      have a1 : w8.cell? ⟨w.heap.size + 1, 1, none⟩ = some (.int .i64 2) := by rw [Lib.cell_of_heap q1]; rfl
      have a2 : w8.cell? ⟨w.heap.size + 1, 2, none⟩ = some (.int .i64 r0) := by rw [Lib.cell_of_heap q1]; rfl
      have a3 : w8.cell? ⟨w.heap.size + 1, 3, none⟩ = some (.int .i64 r1) := by rw [Lib.cell_of_heap q1]; rfl
      have a4 : w8.cell? ⟨w.heap.size + 1, 4, none⟩ = some (.int .i64 r2) := by rw [Lib.cell_of_heap q1]; rfl
      have a5 : w8.cell? ⟨w.heap.size + 1, 5, none⟩ = some (.int .i64 0) := by rw [Lib.cell_of_heap q1]; rfl
      have a6 : w8.cell? ⟨w.heap.size + 1, 6, none⟩ = some (.int .i64 0) := by rw [Lib.cell_of_heap q1]; rfl
      have a7 : w8.cell? ⟨w.heap.size + 1, 7, none⟩ = some (.int .i64 0) := by rw [Lib.cell_of_heap q1]; rfl
      have a8 : w8.cell? ⟨w.heap.size + 1, 8, none⟩ = some (.int .i64 0) := by rw [Lib.cell_of_heap q1]; rfl
      have a9 : w8.cell? ⟨w.heap.size + 1, 9, none⟩ = some (.int .i64 0) := by rw [Lib.cell_of_heap q1]; rfl
      have a10 : w8.cell? ⟨w.heap.size + 1, 10, none⟩ = some (.bool false) := by rw [Lib.cell_of_heap q1]; rfl
      have a11 : w8.cell? ⟨w.heap.size + 1, 11, none⟩ = some (.int .i64 out) := by rw [Lib.cell_of_heap q1]; rfl
      have b0 : w8.cell? ⟨w.heap.size + 1 + 1, 0, none⟩ = some (.int .i64 0) := by rw [Lib.cell_of_heap q2]; rfl
      have b1 : w8.cell? ⟨w.heap.size + 1 + 1, 1, none⟩ = some (.int .i64 0) := by rw [Lib.cell_of_heap q2]; rfl
      have b2 : w8.cell? ⟨w.heap.size + 1 + 1, 2, none⟩ = some (.int .i64 0) := by rw [Lib.cell_of_heap q2]; rfl
      have b3 : w8.cell? ⟨w.heap.size + 1 + 1, 3, none⟩ = some (.int .i64 0) := by rw [Lib.cell_of_heap q2]; rfl
      have b4 : w8.cell? ⟨w.heap.size + 1 + 1, 4, none⟩ = some (.int .i64 0) := by rw [Lib.cell_of_heap q2]; rfl
      have b5 : w8.cell? ⟨w.heap.size + 1 + 1, 5, none⟩ = some (.int .i64 0) := by rw [Lib.cell_of_heap q2]; rfl
      have b6 : w8.cell? ⟨w.heap.size + 1 + 1, 6, none⟩ = some (.int .i64 0) := by rw [Lib.cell_of_heap q2]; rfl
      have b7 : w8.cell? ⟨w.heap.size + 1 + 1, 7, none⟩ = some (.int .i64 0) := by rw [Lib.cell_of_heap q2]; rfl
      have b8 : w8.cell? ⟨w.heap.size + 1 + 1, 8, none⟩ = some (.int .i64 0) := by rw [Lib.cell_of_heap q2]; rfl
      have b9 : w8.cell? ⟨w.heap.size + 1 + 1, 9, none⟩ = some (.int .i64 0) := by rw [Lib.cell_of_heap q2]; rfl
      have b10 : w8.cell? ⟨w.heap.size + 1 + 1, 10, none⟩ = some (.bool false) := by rw [Lib.cell_of_heap q2]; rfl
      have b11 : w8.cell? ⟨w.heap.size + 1 + 1, 11, none⟩ = some (.int .i64 0) := by rw [Lib.cell_of_heap q2]; rfl
      have fz : ∀ j, w8.frozen? ⟨w.heap.size + 1 + 1, j, none⟩ = false := fun j => Lib.frozen_of_heap q2 j
      have HE := Lib.hid he
      have HO9 : Hid (Own w8 B (.slice A m.length c) m) := by have h := HO8.out; rwa [HDB.out he] at h
      have HQ := Lib.hid q2
      clear q1 q2 HTH he
      go_wp2_with fail
      clear a0 a1 a2 a3 a4 a5 a6 a7 a8 a9 a10 a11 b0 b1 b2 b3 b4 b5 b6 b7 b8 b9 b10 b11 fz
      obtain ⟨w10, hw10, h10, g10⟩ := set12 w8 (w.heap.size + 1 + 1) ⟨0, 0, 0, 0, 0, false, 0⟩ ⟨0, 2, r0, r1, r2, false, out⟩ 39 (0, 0) HQ.out
      simp only at hw10
      rw [hw10]
      refine bodyPost_ret (results_cellT rfl _ _ (w.heap.size + 1 + 1) _ _ _ _ rfl h10 Try.underlying39 rfl (by kernel_rfl)) rfl ?_
      have hd2 := HSD.out
      rw [if_neg HE.out] at hd2
      subst hd2
      exact step_end rfl HO.out HO9.out HW8.out g10 (by omega)
  · have hl1 := hlook _ ((((Below.refl w.heap.size w).alloc (Nat.le_refl _) (.cells #[.slice A m.length c, .int .i64 at0, .map (some b)] 68)).alloc (by simp) (.cells (wkA ⟨1, 2, r0, r1, r2, false, out⟩) 39)).alloc (by simp; omega) (.cells (wkA ⟨0, 0, 0, 0, 0, false, 0⟩) 39))
    clear hlook
    go_enter Try.func41, Try.ntmps41
    go_wp2_with fail
    obtain ⟨w5, hw5, hs5, g0, g1, g2, g3, g4, hb5⟩ := five_allocs w (.cells #[.slice A m.length c, .int .i64 at0, .map (some b)] 68) (.cells (wkA ⟨1, 2, r0, r1, r2, false, out⟩) 39) (.cells (wkA ⟨0, 0, 0, 0, 0, false, 0⟩) 39) (.cells #[fnK (faN 4), fnK (ftN 4)] 93) (.cells (haA ⟨1, 2, r0, r1, r2, false, out⟩ at0) 98)
    simp only [fnK, faN, ftN, haA] at hw5 g3 g4
    rw [hw5]
    clear hw5 hl1
    have HB5 := Lib.hid hb5
    have HG := Lib.hid (And.intro g0 (And.intro g1 (And.intro g2 (And.intro g3 g4))))
    have k0 := Qt.cell_in (show w5.cell? ⟨w.heap.size, 0, none⟩ = some (.slice A m.length c) by rw [Lib.cell_of_heap g0]; rfl)
    have k1 := Qt.cell_in (show w5.cell? ⟨w.heap.size + 3, 0, none⟩ = some (.func (.func 82) #[] #[]) by rw [Lib.cell_of_heap g3]; rfl)
    have j0 := Qt.cell_in (show w5.cell? ⟨w.heap.size + 4, 0, none⟩ = some (.int .i64 1) by rw [Lib.cell_of_heap g4]; rfl)
    have j1 := Qt.cell_in (show w5.cell? ⟨w.heap.size + 4, 1, none⟩ = some (.int .i64 2) by rw [Lib.cell_of_heap g4]; rfl)
    have j2 := Qt.cell_in (show w5.cell? ⟨w.heap.size + 4, 2, none⟩ = some (.int .i64 r0) by rw [Lib.cell_of_heap g4]; rfl)
    have j3 := Qt.cell_in (show w5.cell? ⟨w.heap.size + 4, 3, none⟩ = some (.int .i64 r1) by rw [Lib.cell_of_heap g4]; rfl)
    have j4 := Qt.cell_in (show w5.cell? ⟨w.heap.size + 4, 4, none⟩ = some (.int .i64 r2) by rw [Lib.cell_of_heap g4]; rfl)
    have j5 := Qt.cell_in (show w5.cell? ⟨w.heap.size + 4, 5, none⟩ = some (.int .i64 0) by rw [Lib.cell_of_heap g4]; rfl)
    have j6 := Qt.cell_in (show w5.cell? ⟨w.heap.size + 4, 6, none⟩ = some (.int .i64 0) by rw [Lib.cell_of_heap g4]; rfl)
    have j7 := Qt.cell_in (show w5.cell? ⟨w.heap.size + 4, 7, none⟩ = some (.int .i64 0) by rw [Lib.cell_of_heap g4]; rfl)
    have j8 := Qt.cell_in (show w5.cell? ⟨w.heap.size + 4, 8, none⟩ = some (.int .i64 0) by rw [Lib.cell_of_heap g4]; rfl)
    have j9 := Qt.cell_in (show w5.cell? ⟨w.heap.size + 4, 9, none⟩ = some (.int .i64 0) by rw [Lib.cell_of_heap g4]; rfl)
    have j10 := Qt.cell_in (show w5.cell? ⟨w.heap.size + 4, 10, none⟩ = some (.bool false) by rw [Lib.cell_of_heap g4]; rfl)
    have j11 := Qt.cell_in (show w5.cell? ⟨w.heap.size + 4, 11, none⟩ = some (.int .i64 out) by rw [Lib.cell_of_heap g4]; rfl)
    have j12 := Qt.cell_in (show w5.cell? ⟨w.heap.size + 4, 12, none⟩ = some (.int .i64 at0) by rw [Lib.cell_of_heap g4]; rfl)
    have hac5 : ∀ W, Below w5.heap.size w5 W → Calls Try.prog 82 #[haV ⟨1, 2, r0, r1, r2, false, out⟩ at0] W fun e w' => e = .returned (acV y) ∧ Below W.heap.size W w' := fun W _ => hacc W
    clear hacc g0 g1 g2 g3 g4 hb5
    refine Qt.region_call 6 (by kernel_rfl) (by kernel_rfl) rfl rfl Try.func61 (by kernel_rfl) (by kernel_rfl) rfl ?_
    simp only [List.take_succ_cons, List.take_zero, List.drop_succ_cons, List.drop_zero]
    iterate 6 (go_big_quiet_step (first | (go_at_call 82; exact Qt.at_call' hac5)))
    refine wpQuiet_nil ?_
    intro w6 hb6
    have hB6 := HB5.out.size
    have hB6' := hb6.size
    have hO6 := own_next (own_next HO.out HB5.out) hb6
    have hdo := wdo_any y m A c w6 HFI.out (fun x hx => (HM.out x hx).i64) (by have := HB.out; omega) hO6 (by omega)
    clear hac5 k0 k1 j0 j1 j2 j3 j4 j5 j6 j7 j8 j9 j10 j11 j12
    simp only [List.map_toArray, List.map_cons, List.map_nil]
    show Calls Try.prog _ #[.slice A m.length c, acV y] w6 _
    refine hdo.mono ?_
    rintro e w7 ⟨rfl, hO7, hg7⟩
    clear hdo hO6
    refine ⟨_, rfl, ?_⟩
    simp only [Act.put, List.setIfInBounds_toArray, List.set_cons_succ, List.set_cons_zero]
    repeat (go_big_quiet_step (fail))
    refine wpQuiet_nil ?_
    intro w8 hb8
    have HO8 := Lib.hid (own_next hO7 hb8)
    have HG8 : Hid (∀ k o, w5.heap[k]? = some o → w.heap.size ≤ k → w8.heap[k]? = some o) := fun k o h hk => by
      have hlt := lt_heap6' h
      refine (hb8.block _ ?_).trans ((hg7.block k (by omega) ?_).trans ((hb6.block _ hlt).trans h))
      · have := hg7.size; omega
      · intro e
        have := (World.ownsRow.lt HO.out k e.symm).2
        omega
    have HW8 : Hid (w.grownBy w8 (Value.slice A m.length c).ownBlock) := ((grown_below (HB5.out.trans (hb6.mono HB5.out.size)) _).trans hg7).trans (grown_below hb8 _)
    have hs8 : w5.heap.size ≤ w8.heap.size := by have := hg7.size; have := hb8.size; omega
    obtain ⟨g0, g1, g2, g3, g4⟩ := HG.out
    have HH := Lib.hid (And.intro (HG8.out _ _ g1 (by omega)) (And.intro (HG8.out _ _ g2 (by omega)) (And.intro (HG8.out _ _ g3 (by omega)) (HG8.out _ _ g4 (by omega)))))
    obtain ⟨dA, hdA⟩ : ∃ dA, dA = doA m y := ⟨_, rfl⟩
    rw [← hdA] at HO8 HSD ⊢
    have HDW : Hid (WdI dA.2.1) := by rw [hdA]; exact (doA_wd y HM.out).2
    have HDB : Hid (dA.2.2.2 ≠ 0 → dA.1 = m) := fun h => by rw [hdA] at h ⊢; rw [doA_bad h]
    clear hdA
    clear g0 g1 g2 g3 g4 hO7 hg7 hb8 hb6 HG8 HG HB5 hB6 hB6'
    by_cases he : dA.2.2.2 = 0
    · have he1 : (dA.2.2.2 != 0) = false := by rw [he]; rfl
      obtain ⟨-, q2, q3, q4⟩ := HH.out
      have a1 : w8.cell? ⟨w.heap.size + 1 + 1 + 1, 1, none⟩ = some ((.func (.func 83) #[] #[])) := by rw [Lib.cell_of_heap q3]; rfl
      have b0 : w8.cell? ⟨w.heap.size + 1 + 1 + 1 + 1, 0, none⟩ = some (.int .i64 1) := by rw [Lib.cell_of_heap q4]; rfl
      have b1 : w8.cell? ⟨w.heap.size + 1 + 1 + 1 + 1, 1, none⟩ = some (.int .i64 2) := by rw [Lib.cell_of_heap q4]; rfl
      have b2 : w8.cell? ⟨w.heap.size + 1 + 1 + 1 + 1, 2, none⟩ = some (.int .i64 r0) := by rw [Lib.cell_of_heap q4]; rfl
      have b3 : w8.cell? ⟨w.heap.size + 1 + 1 + 1 + 1, 3, none⟩ = some (.int .i64 r1) := by rw [Lib.cell_of_heap q4]; rfl
      have b4 : w8.cell? ⟨w.heap.size + 1 + 1 + 1 + 1, 4, none⟩ = some (.int .i64 r2) := by rw [Lib.cell_of_heap q4]; rfl
      have b5 : w8.cell? ⟨w.heap.size + 1 + 1 + 1 + 1, 5, none⟩ = some (.int .i64 0) := by rw [Lib.cell_of_heap q4]; rfl
      have b6 : w8.cell? ⟨w.heap.size + 1 + 1 + 1 + 1, 6, none⟩ = some (.int .i64 0) := by rw [Lib.cell_of_heap q4]; rfl
      have b7 : w8.cell? ⟨w.heap.size + 1 + 1 + 1 + 1, 7, none⟩ = some (.int .i64 0) := by rw [Lib.cell_of_heap q4]; rfl
      have b8 : w8.cell? ⟨w.heap.size + 1 + 1 + 1 + 1, 8, none⟩ = some (.int .i64 0) := by rw [Lib.cell_of_heap q4]; rfl
      have b9 : w8.cell? ⟨w.heap.size + 1 + 1 + 1 + 1, 9, none⟩ = some (.int .i64 0) := by rw [Lib.cell_of_heap q4]; rfl
      have b10 : w8.cell? ⟨w.heap.size + 1 + 1 + 1 + 1, 10, none⟩ = some (.bool false) := by rw [Lib.cell_of_heap q4]; rfl
      have b11 : w8.cell? ⟨w.heap.size + 1 + 1 + 1 + 1, 11, none⟩ = some (.int .i64 out) := by rw [Lib.cell_of_heap q4]; rfl
      have b12 : w8.cell? ⟨w.heap.size + 1 + 1 + 1 + 1, 12, none⟩ = some (.int .i64 at0) := by rw [Lib.cell_of_heap q4]; rfl
      have hth := HTH.out dA.2.1 dA.2.2.1 HDW.out w8
      obtain ⟨u, hu⟩ : ∃ u, u = behW ⟨1, 2, r0, r1, r2, false, out⟩ dA.2.1 dA.2.2.1 := ⟨_, rfl⟩
      rw [← hu] at hth
      have HU := Lib.hid hu
      have HE := Lib.hid he
      clear hu q2 q3 q4 HTH he
      go_wp2_with fail
      refine hth.mono ?_
      rintro e w9 ⟨rfl, hb9⟩
      clear hth a1 b0 b1 b2 b3 b4 b5 b6 b7 b8 b9 b10 b11 b12
      have q2 := (hb9.block _ (lt_heap6' HH.out.2.1)).trans HH.out.2.1
      have HO9 := Lib.hid (own_next HO8.out hb9)
      have HW9 := Lib.hid (HW8.out.trans (grown_below hb9 _))
      have HQ := Lib.hid q2
      have c0 : w9.cell? ⟨w.heap.size + 1 + 1, 0, none⟩ = some (.int .i64 0) := by rw [Lib.cell_of_heap q2]; rfl
      have c1 : w9.cell? ⟨w.heap.size + 1 + 1, 1, none⟩ = some (.int .i64 0) := by rw [Lib.cell_of_heap q2]; rfl
      have c2 : w9.cell? ⟨w.heap.size + 1 + 1, 2, none⟩ = some (.int .i64 0) := by rw [Lib.cell_of_heap q2]; rfl
      have c3 : w9.cell? ⟨w.heap.size + 1 + 1, 3, none⟩ = some (.int .i64 0) := by rw [Lib.cell_of_heap q2]; rfl
      have c4 : w9.cell? ⟨w.heap.size + 1 + 1, 4, none⟩ = some (.int .i64 0) := by rw [Lib.cell_of_heap q2]; rfl
      have c5 : w9.cell? ⟨w.heap.size + 1 + 1, 5, none⟩ = some (.int .i64 0) := by rw [Lib.cell_of_heap q2]; rfl
      have c6 : w9.cell? ⟨w.heap.size + 1 + 1, 6, none⟩ = some (.int .i64 0) := by rw [Lib.cell_of_heap q2]; rfl
      have c7 : w9.cell? ⟨w.heap.size + 1 + 1, 7, none⟩ = some (.int .i64 0) := by rw [Lib.cell_of_heap q2]; rfl
      have c8 : w9.cell? ⟨w.heap.size + 1 + 1, 8, none⟩ = some (.int .i64 0) := by rw [Lib.cell_of_heap q2]; rfl
      have c9 : w9.cell? ⟨w.heap.size + 1 + 1, 9, none⟩ = some (.int .i64 0) := by rw [Lib.cell_of_heap q2]; rfl
      have c10 : w9.cell? ⟨w.heap.size + 1 + 1, 10, none⟩ = some (.bool false) := by rw [Lib.cell_of_heap q2]; rfl
      have c11 : w9.cell? ⟨w.heap.size + 1 + 1, 11, none⟩ = some (.int .i64 0) := by rw [Lib.cell_of_heap q2]; rfl
      have fz : ∀ j, w9.frozen? ⟨w.heap.size + 1 + 1, j, none⟩ = false := fun j => Lib.frozen_of_heap q2 j
      clear q2 hb9
      go_wp2_with fail
      clear c0 c1 c2 c3 c4 c5 c6 c7 c8 c9 c10 c11 fz
      obtain ⟨w10, hw10, h10, g10⟩ := set12 w9 (w.heap.size + 1 + 1) ⟨0, 0, 0, 0, 0, false, 0⟩ u 39 (0, 0) HQ.out
      rw [hw10]
      refine bodyPost_ret (results_cellT rfl _ _ (w.heap.size + 1 + 1) _ _ _ _ rfl h10 Try.underlying39 rfl (by kernel_rfl)) rfl ?_
      have hd2 := HSD.out
      rw [if_pos HE.out] at hd2
      subst hd2
      exact step_end (by rw [HU.out]; rfl) HO.out HO9.out HW9.out g10 (by omega)
    · have he1 : (dA.2.2.2 != 0) = true := by rw [bne_iff_ne]; exact he
      obtain ⟨q1, q2, -, -⟩ := HH.out
      have a0 : w8.cell? ⟨w.heap.size + 1, 0, none⟩ = some (.int .i64 1) := by rw [Lib.cell_of_heap q1]; rfl
      have a1 : w8.cell? ⟨w.heap.size + 1, 1, none⟩ = some (.int .i64 2) := by rw [Lib.cell_of_heap q1]; rfl
      have a2 : w8.cell? ⟨w.heap.size + 1, 2, none⟩ = some (.int .i64 r0) := by rw [Lib.cell_of_heap q1]; rfl
      have a3 : w8.cell? ⟨w.heap.size + 1, 3, none⟩ = some (.int .i64 r1) := by rw [Lib.cell_of_heap q1]; rfl
      have a4 : w8.cell? ⟨w.heap.size + 1, 4, none⟩ = some (.int .i64 r2) := by rw [Lib.cell_of_heap q1]; rfl
      have a5 : w8.cell? ⟨w.heap.size + 1, 5, none⟩ = some (.int .i64 0) := by rw [Lib.cell_of_heap q1]; rfl
      have a6 : w8.cell? ⟨w.heap.size + 1, 6, none⟩ = some (.int .i64 0) := by rw [Lib.cell_of_heap q1]; rfl
      have a7 : w8.cell? ⟨w.heap.size + 1, 7, none⟩ = some (.int .i64 0) := by rw [Lib.cell_of_heap q1]; rfl
      have a8 : w8.cell? ⟨w.heap.size + 1, 8, none⟩ = some (.int .i64 0) := by rw [Lib.cell_of_heap q1]; rfl
      have a9 : w8.cell? ⟨w.heap.size + 1, 9, none⟩ = some (.int .i64 0) := by rw [Lib.cell_of_heap q1]; rfl
      have a10 : w8.cell? ⟨w.heap.size + 1, 10, none⟩ = some (.bool false) := by rw [Lib.cell_of_heap q1]; rfl
      have a11 : w8.cell? ⟨w.heap.size + 1, 11, none⟩ = some (.int .i64 out) := by rw [Lib.cell_of_heap q1]; rfl
      have b0 : w8.cell? ⟨w.heap.size + 1 + 1, 0, none⟩ = some (.int .i64 0) := by rw [Lib.cell_of_heap q2]; rfl
      have b1 : w8.cell? ⟨w.heap.size + 1 + 1, 1, none⟩ = some (.int .i64 0) := by rw [Lib.cell_of_heap q2]; rfl
      have b2 : w8.cell? ⟨w.heap.size + 1 + 1, 2, none⟩ = some (.int .i64 0) := by rw [Lib.cell_of_heap q2]; rfl
      have b3 : w8.cell? ⟨w.heap.size + 1 + 1, 3, none⟩ = some (.int .i64 0) := by rw [Lib.cell_of_heap q2]; rfl
      have b4 : w8.cell? ⟨w.heap.size + 1 + 1, 4, none⟩ = some (.int .i64 0) := by rw [Lib.cell_of_heap q2]; rfl
      have b5 : w8.cell? ⟨w.heap.size + 1 + 1, 5, none⟩ = some (.int .i64 0) := by rw [Lib.cell_of_heap q2]; rfl
      have b6 : w8.cell? ⟨w.heap.size + 1 + 1, 6, none⟩ = some (.int .i64 0) := by rw [Lib.cell_of_heap q2]; rfl
      have b7 : w8.cell? ⟨w.heap.size + 1 + 1, 7, none⟩ = some (.int .i64 0) := by rw [Lib.cell_of_heap q2]; rfl
      have b8 : w8.cell? ⟨w.heap.size + 1 + 1, 8, none⟩ = some (.int .i64 0) := by rw [Lib.cell_of_heap q2]; rfl
      have b9 : w8.cell? ⟨w.heap.size + 1 + 1, 9, none⟩ = some (.int .i64 0) := by rw [Lib.cell_of_heap q2]; rfl
      have b10 : w8.cell? ⟨w.heap.size + 1 + 1, 10, none⟩ = some (.bool false) := by rw [Lib.cell_of_heap q2]; rfl
      have b11 : w8.cell? ⟨w.heap.size + 1 + 1, 11, none⟩ = some (.int .i64 0) := by rw [Lib.cell_of_heap q2]; rfl
      have fz : ∀ j, w8.frozen? ⟨w.heap.size + 1 + 1, j, none⟩ = false := fun j => Lib.frozen_of_heap q2 j
      have HE := Lib.hid he
      have HO9 : Hid (Own w8 B (.slice A m.length c) m) := by have h := HO8.out; rwa [HDB.out he] at h
      have HQ := Lib.hid q2
      clear q1 q2 HTH he
      go_wp2_with fail
      clear a0 a1 a2 a3 a4 a5 a6 a7 a8 a9 a10 a11 b0 b1 b2 b3 b4 b5 b6 b7 b8 b9 b10 b11 fz
      obtain ⟨w10, hw10, h10, g10⟩ := set12 w8 (w.heap.size + 1 + 1) ⟨0, 0, 0, 0, 0, false, 0⟩ ⟨1, 2, r0, r1, r2, false, out⟩ 39 (0, 0) HQ.out
      simp only at hw10
      rw [hw10]
      refine bodyPost_ret (results_cellT rfl _ _ (w.heap.size + 1 + 1) _ _ _ _ rfl h10 Try.underlying39 rfl (by kernel_rfl)) rfl ?_
      have hd2 := HSD.out
      rw [if_neg HE.out] at hd2
      subst hd2
      exact step_end rfl HO.out HO9.out HW8.out g10 (by omega)
  · have hl1 := hlook _ ((((Below.refl w.heap.size w).alloc (Nat.le_refl _) (.cells #[.slice A m.length c, .int .i64 at0, .map (some b)] 68)).alloc (by simp) (.cells (wkA ⟨2, 2, r0, r1, r2, false, out⟩) 39)).alloc (by simp; omega) (.cells (wkA ⟨0, 0, 0, 0, 0, false, 0⟩) 39))
    clear hlook
    go_enter Try.func41, Try.ntmps41
    go_wp2_with fail
    obtain ⟨w5, hw5, hs5, g0, g1, g2, g3, g4, hb5⟩ := five_allocs w (.cells #[.slice A m.length c, .int .i64 at0, .map (some b)] 68) (.cells (wkA ⟨2, 2, r0, r1, r2, false, out⟩) 39) (.cells (wkA ⟨0, 0, 0, 0, 0, false, 0⟩) 39) (.cells #[fnK (faN 5), fnK (ftN 5)] 93) (.cells (haA ⟨2, 2, r0, r1, r2, false, out⟩ at0) 98)
    simp only [fnK, faN, ftN, haA] at hw5 g3 g4
    rw [hw5]
    clear hw5 hl1
    have HB5 := Lib.hid hb5
    have HG := Lib.hid (And.intro g0 (And.intro g1 (And.intro g2 (And.intro g3 g4))))
    have k0 := Qt.cell_in (show w5.cell? ⟨w.heap.size, 0, none⟩ = some (.slice A m.length c) by rw [Lib.cell_of_heap g0]; rfl)
    have k1 := Qt.cell_in (show w5.cell? ⟨w.heap.size + 3, 0, none⟩ = some (.func (.func 84) #[] #[]) by rw [Lib.cell_of_heap g3]; rfl)
    have j0 := Qt.cell_in (show w5.cell? ⟨w.heap.size + 4, 0, none⟩ = some (.int .i64 2) by rw [Lib.cell_of_heap g4]; rfl)
    have j1 := Qt.cell_in (show w5.cell? ⟨w.heap.size + 4, 1, none⟩ = some (.int .i64 2) by rw [Lib.cell_of_heap g4]; rfl)
    have j2 := Qt.cell_in (show w5.cell? ⟨w.heap.size + 4, 2, none⟩ = some (.int .i64 r0) by rw [Lib.cell_of_heap g4]; rfl)
    have j3 := Qt.cell_in (show w5.cell? ⟨w.heap.size + 4, 3, none⟩ = some (.int .i64 r1) by rw [Lib.cell_of_heap g4]; rfl)
    have j4 := Qt.cell_in (show w5.cell? ⟨w.heap.size + 4, 4, none⟩ = some (.int .i64 r2) by rw [Lib.cell_of_heap g4]; rfl)
    have j5 := Qt.cell_in (show w5.cell? ⟨w.heap.size + 4, 5, none⟩ = some (.int .i64 0) by rw [Lib.cell_of_heap g4]; rfl)
    have j6 := Qt.cell_in (show w5.cell? ⟨w.heap.size + 4, 6, none⟩ = some (.int .i64 0) by rw [Lib.cell_of_heap g4]; rfl)
    have j7 := Qt.cell_in (show w5.cell? ⟨w.heap.size + 4, 7, none⟩ = some (.int .i64 0) by rw [Lib.cell_of_heap g4]; rfl)
    have j8 := Qt.cell_in (show w5.cell? ⟨w.heap.size + 4, 8, none⟩ = some (.int .i64 0) by rw [Lib.cell_of_heap g4]; rfl)
    have j9 := Qt.cell_in (show w5.cell? ⟨w.heap.size + 4, 9, none⟩ = some (.int .i64 0) by rw [Lib.cell_of_heap g4]; rfl)
    have j10 := Qt.cell_in (show w5.cell? ⟨w.heap.size + 4, 10, none⟩ = some (.bool false) by rw [Lib.cell_of_heap g4]; rfl)
    have j11 := Qt.cell_in (show w5.cell? ⟨w.heap.size + 4, 11, none⟩ = some (.int .i64 out) by rw [Lib.cell_of_heap g4]; rfl)
    have j12 := Qt.cell_in (show w5.cell? ⟨w.heap.size + 4, 12, none⟩ = some (.int .i64 at0) by rw [Lib.cell_of_heap g4]; rfl)
    have hac5 : ∀ W, Below w5.heap.size w5 W → Calls Try.prog 84 #[haV ⟨2, 2, r0, r1, r2, false, out⟩ at0] W fun e w' => e = .returned (acV y) ∧ Below W.heap.size W w' := fun W _ => hacc W
    clear hacc g0 g1 g2 g3 g4 hb5
    refine Qt.region_call 6 (by kernel_rfl) (by kernel_rfl) rfl rfl Try.func61 (by kernel_rfl) (by kernel_rfl) rfl ?_
    simp only [List.take_succ_cons, List.take_zero, List.drop_succ_cons, List.drop_zero]
    iterate 6 (go_big_quiet_step (first | (go_at_call 84; exact Qt.at_call' hac5)))
    refine wpQuiet_nil ?_
    intro w6 hb6
    have hB6 := HB5.out.size
    have hB6' := hb6.size
    have hO6 := own_next (own_next HO.out HB5.out) hb6
    have hdo := wdo_any y m A c w6 HFI.out (fun x hx => (HM.out x hx).i64) (by have := HB.out; omega) hO6 (by omega)
    clear hac5 k0 k1 j0 j1 j2 j3 j4 j5 j6 j7 j8 j9 j10 j11 j12
    simp only [List.map_toArray, List.map_cons, List.map_nil]
    show Calls Try.prog _ #[.slice A m.length c, acV y] w6 _
    refine hdo.mono ?_
    rintro e w7 ⟨rfl, hO7, hg7⟩
    clear hdo hO6
    refine ⟨_, rfl, ?_⟩
    simp only [Act.put, List.setIfInBounds_toArray, List.set_cons_succ, List.set_cons_zero]
    repeat (go_big_quiet_step (fail))
    refine wpQuiet_nil ?_
    intro w8 hb8
    have HO8 := Lib.hid (own_next hO7 hb8)
    have HG8 : Hid (∀ k o, w5.heap[k]? = some o → w.heap.size ≤ k → w8.heap[k]? = some o) := fun k o h hk => by
      have hlt := lt_heap6' h
      refine (hb8.block _ ?_).trans ((hg7.block k (by omega) ?_).trans ((hb6.block _ hlt).trans h))
      · have := hg7.size; omega
      · intro e
        have := (World.ownsRow.lt HO.out k e.symm).2
        omega
    have HW8 : Hid (w.grownBy w8 (Value.slice A m.length c).ownBlock) := ((grown_below (HB5.out.trans (hb6.mono HB5.out.size)) _).trans hg7).trans (grown_below hb8 _)
    have hs8 : w5.heap.size ≤ w8.heap.size := by have := hg7.size; have := hb8.size; omega
    obtain ⟨g0, g1, g2, g3, g4⟩ := HG.out
    have HH := Lib.hid (And.intro (HG8.out _ _ g1 (by omega)) (And.intro (HG8.out _ _ g2 (by omega)) (And.intro (HG8.out _ _ g3 (by omega)) (HG8.out _ _ g4 (by omega)))))
    obtain ⟨dA, hdA⟩ : ∃ dA, dA = doA m y := ⟨_, rfl⟩
    rw [← hdA] at HO8 HSD ⊢
    have HDW : Hid (WdI dA.2.1) := by rw [hdA]; exact (doA_wd y HM.out).2
    have HDB : Hid (dA.2.2.2 ≠ 0 → dA.1 = m) := fun h => by rw [hdA] at h ⊢; rw [doA_bad h]
    clear hdA
    clear g0 g1 g2 g3 g4 hO7 hg7 hb8 hb6 HG8 HG HB5 hB6 hB6'
    by_cases he : dA.2.2.2 = 0
    · have he1 : (dA.2.2.2 != 0) = false := by rw [he]; rfl
      obtain ⟨-, q2, q3, q4⟩ := HH.out
      have a1 : w8.cell? ⟨w.heap.size + 1 + 1 + 1, 1, none⟩ = some ((.func (.func 85) #[] #[])) := by rw [Lib.cell_of_heap q3]; rfl
      have b0 : w8.cell? ⟨w.heap.size + 1 + 1 + 1 + 1, 0, none⟩ = some (.int .i64 2) := by rw [Lib.cell_of_heap q4]; rfl
      have b1 : w8.cell? ⟨w.heap.size + 1 + 1 + 1 + 1, 1, none⟩ = some (.int .i64 2) := by rw [Lib.cell_of_heap q4]; rfl
      have b2 : w8.cell? ⟨w.heap.size + 1 + 1 + 1 + 1, 2, none⟩ = some (.int .i64 r0) := by rw [Lib.cell_of_heap q4]; rfl
      have b3 : w8.cell? ⟨w.heap.size + 1 + 1 + 1 + 1, 3, none⟩ = some (.int .i64 r1) := by rw [Lib.cell_of_heap q4]; rfl
      have b4 : w8.cell? ⟨w.heap.size + 1 + 1 + 1 + 1, 4, none⟩ = some (.int .i64 r2) := by rw [Lib.cell_of_heap q4]; rfl
      have b5 : w8.cell? ⟨w.heap.size + 1 + 1 + 1 + 1, 5, none⟩ = some (.int .i64 0) := by rw [Lib.cell_of_heap q4]; rfl
      have b6 : w8.cell? ⟨w.heap.size + 1 + 1 + 1 + 1, 6, none⟩ = some (.int .i64 0) := by rw [Lib.cell_of_heap q4]; rfl
      have b7 : w8.cell? ⟨w.heap.size + 1 + 1 + 1 + 1, 7, none⟩ = some (.int .i64 0) := by rw [Lib.cell_of_heap q4]; rfl
      have b8 : w8.cell? ⟨w.heap.size + 1 + 1 + 1 + 1, 8, none⟩ = some (.int .i64 0) := by rw [Lib.cell_of_heap q4]; rfl
      have b9 : w8.cell? ⟨w.heap.size + 1 + 1 + 1 + 1, 9, none⟩ = some (.int .i64 0) := by rw [Lib.cell_of_heap q4]; rfl
      have b10 : w8.cell? ⟨w.heap.size + 1 + 1 + 1 + 1, 10, none⟩ = some (.bool false) := by rw [Lib.cell_of_heap q4]; rfl
      have b11 : w8.cell? ⟨w.heap.size + 1 + 1 + 1 + 1, 11, none⟩ = some (.int .i64 out) := by rw [Lib.cell_of_heap q4]; rfl
      have b12 : w8.cell? ⟨w.heap.size + 1 + 1 + 1 + 1, 12, none⟩ = some (.int .i64 at0) := by rw [Lib.cell_of_heap q4]; rfl
      have hth := HTH.out dA.2.1 dA.2.2.1 HDW.out w8
      obtain ⟨u, hu⟩ : ∃ u, u = behW ⟨2, 2, r0, r1, r2, false, out⟩ dA.2.1 dA.2.2.1 := ⟨_, rfl⟩
      rw [← hu] at hth
      have HU := Lib.hid hu
      have HE := Lib.hid he
      clear hu q2 q3 q4 HTH he
      go_wp2_with fail
      refine hth.mono ?_
      rintro e w9 ⟨rfl, hb9⟩
      clear hth a1 b0 b1 b2 b3 b4 b5 b6 b7 b8 b9 b10 b11 b12
      have q2 := (hb9.block _ (lt_heap6' HH.out.2.1)).trans HH.out.2.1
      have HO9 := Lib.hid (own_next HO8.out hb9)
      have HW9 := Lib.hid (HW8.out.trans (grown_below hb9 _))
      have HQ := Lib.hid q2
      have c0 : w9.cell? ⟨w.heap.size + 1 + 1, 0, none⟩ = some (.int .i64 0) := by rw [Lib.cell_of_heap q2]; rfl
      have c1 : w9.cell? ⟨w.heap.size + 1 + 1, 1, none⟩ = some (.int .i64 0) := by rw [Lib.cell_of_heap q2]; rfl
      have c2 : w9.cell? ⟨w.heap.size + 1 + 1, 2, none⟩ = some (.int .i64 0) := by rw [Lib.cell_of_heap q2]; rfl
      have c3 : w9.cell? ⟨w.heap.size + 1 + 1, 3, none⟩ = some (.int .i64 0) := by rw [Lib.cell_of_heap q2]; rfl
      have c4 : w9.cell? ⟨w.heap.size + 1 + 1, 4, none⟩ = some (.int .i64 0) := by rw [Lib.cell_of_heap q2]; rfl
      have c5 : w9.cell? ⟨w.heap.size + 1 + 1, 5, none⟩ = some (.int .i64 0) := by rw [Lib.cell_of_heap q2]; rfl
      have c6 : w9.cell? ⟨w.heap.size + 1 + 1, 6, none⟩ = some (.int .i64 0) := by rw [Lib.cell_of_heap q2]; rfl
      have c7 : w9.cell? ⟨w.heap.size + 1 + 1, 7, none⟩ = some (.int .i64 0) := by rw [Lib.cell_of_heap q2]; rfl
      have c8 : w9.cell? ⟨w.heap.size + 1 + 1, 8, none⟩ = some (.int .i64 0) := by rw [Lib.cell_of_heap q2]; rfl
      have c9 : w9.cell? ⟨w.heap.size + 1 + 1, 9, none⟩ = some (.int .i64 0) := by rw [Lib.cell_of_heap q2]; rfl
      have c10 : w9.cell? ⟨w.heap.size + 1 + 1, 10, none⟩ = some (.bool false) := by rw [Lib.cell_of_heap q2]; rfl
      have c11 : w9.cell? ⟨w.heap.size + 1 + 1, 11, none⟩ = some (.int .i64 0) := by rw [Lib.cell_of_heap q2]; rfl
      have fz : ∀ j, w9.frozen? ⟨w.heap.size + 1 + 1, j, none⟩ = false := fun j => Lib.frozen_of_heap q2 j
      clear q2 hb9
      go_wp2_with fail
      clear c0 c1 c2 c3 c4 c5 c6 c7 c8 c9 c10 c11 fz
      obtain ⟨w10, hw10, h10, g10⟩ := set12 w9 (w.heap.size + 1 + 1) ⟨0, 0, 0, 0, 0, false, 0⟩ u 39 (0, 0) HQ.out
      rw [hw10]
      refine bodyPost_ret (results_cellT rfl _ _ (w.heap.size + 1 + 1) _ _ _ _ rfl h10 Try.underlying39 rfl (by kernel_rfl)) rfl ?_
      have hd2 := HSD.out
      rw [if_pos HE.out] at hd2
      subst hd2
      exact step_end (by rw [HU.out]; rfl) HO.out HO9.out HW9.out g10 (by omega)
    · have he1 : (dA.2.2.2 != 0) = true := by rw [bne_iff_ne]; exact he
      obtain ⟨q1, q2, -, -⟩ := HH.out
      have a0 : w8.cell? ⟨w.heap.size + 1, 0, none⟩ = some (.int .i64 2) := by rw [Lib.cell_of_heap q1]; rfl
      have a1 : w8.cell? ⟨w.heap.size + 1, 1, none⟩ = some (.int .i64 2) := by rw [Lib.cell_of_heap q1]; rfl
      have a2 : w8.cell? ⟨w.heap.size + 1, 2, none⟩ = some (.int .i64 r0) := by rw [Lib.cell_of_heap q1]; rfl
      have a3 : w8.cell? ⟨w.heap.size + 1, 3, none⟩ = some (.int .i64 r1) := by rw [Lib.cell_of_heap q1]; rfl
      have a4 : w8.cell? ⟨w.heap.size + 1, 4, none⟩ = some (.int .i64 r2) := by rw [Lib.cell_of_heap q1]; rfl
      have a5 : w8.cell? ⟨w.heap.size + 1, 5, none⟩ = some (.int .i64 0) := by rw [Lib.cell_of_heap q1]; rfl
      have a6 : w8.cell? ⟨w.heap.size + 1, 6, none⟩ = some (.int .i64 0) := by rw [Lib.cell_of_heap q1]; rfl
      have a7 : w8.cell? ⟨w.heap.size + 1, 7, none⟩ = some (.int .i64 0) := by rw [Lib.cell_of_heap q1]; rfl
      have a8 : w8.cell? ⟨w.heap.size + 1, 8, none⟩ = some (.int .i64 0) := by rw [Lib.cell_of_heap q1]; rfl
      have a9 : w8.cell? ⟨w.heap.size + 1, 9, none⟩ = some (.int .i64 0) := by rw [Lib.cell_of_heap q1]; rfl
      have a10 : w8.cell? ⟨w.heap.size + 1, 10, none⟩ = some (.bool false) := by rw [Lib.cell_of_heap q1]; rfl
      have a11 : w8.cell? ⟨w.heap.size + 1, 11, none⟩ = some (.int .i64 out) := by rw [Lib.cell_of_heap q1]; rfl
      have b0 : w8.cell? ⟨w.heap.size + 1 + 1, 0, none⟩ = some (.int .i64 0) := by rw [Lib.cell_of_heap q2]; rfl
      have b1 : w8.cell? ⟨w.heap.size + 1 + 1, 1, none⟩ = some (.int .i64 0) := by rw [Lib.cell_of_heap q2]; rfl
      have b2 : w8.cell? ⟨w.heap.size + 1 + 1, 2, none⟩ = some (.int .i64 0) := by rw [Lib.cell_of_heap q2]; rfl
      have b3 : w8.cell? ⟨w.heap.size + 1 + 1, 3, none⟩ = some (.int .i64 0) := by rw [Lib.cell_of_heap q2]; rfl
      have b4 : w8.cell? ⟨w.heap.size + 1 + 1, 4, none⟩ = some (.int .i64 0) := by rw [Lib.cell_of_heap q2]; rfl
      have b5 : w8.cell? ⟨w.heap.size + 1 + 1, 5, none⟩ = some (.int .i64 0) := by rw [Lib.cell_of_heap q2]; rfl
      have b6 : w8.cell? ⟨w.heap.size + 1 + 1, 6, none⟩ = some (.int .i64 0) := by rw [Lib.cell_of_heap q2]; rfl
      have b7 : w8.cell? ⟨w.heap.size + 1 + 1, 7, none⟩ = some (.int .i64 0) := by rw [Lib.cell_of_heap q2]; rfl
      have b8 : w8.cell? ⟨w.heap.size + 1 + 1, 8, none⟩ = some (.int .i64 0) := by rw [Lib.cell_of_heap q2]; rfl
      have b9 : w8.cell? ⟨w.heap.size + 1 + 1, 9, none⟩ = some (.int .i64 0) := by rw [Lib.cell_of_heap q2]; rfl
      have b10 : w8.cell? ⟨w.heap.size + 1 + 1, 10, none⟩ = some (.bool false) := by rw [Lib.cell_of_heap q2]; rfl
      have b11 : w8.cell? ⟨w.heap.size + 1 + 1, 11, none⟩ = some (.int .i64 0) := by rw [Lib.cell_of_heap q2]; rfl
      have fz : ∀ j, w8.frozen? ⟨w.heap.size + 1 + 1, j, none⟩ = false := fun j => Lib.frozen_of_heap q2 j
      have HE := Lib.hid he
      have HO9 : Hid (Own w8 B (.slice A m.length c) m) := by have h := HO8.out; rwa [HDB.out he] at h
      have HQ := Lib.hid q2
      clear q1 q2 HTH he
      go_wp2_with fail
      clear a0 a1 a2 a3 a4 a5 a6 a7 a8 a9 a10 a11 b0 b1 b2 b3 b4 b5 b6 b7 b8 b9 b10 b11 fz
      obtain ⟨w10, hw10, h10, g10⟩ := set12 w8 (w.heap.size + 1 + 1) ⟨0, 0, 0, 0, 0, false, 0⟩ ⟨2, 2, r0, r1, r2, false, out⟩ 39 (0, 0) HQ.out
      simp only at hw10
      rw [hw10]
      refine bodyPost_ret (results_cellT rfl _ _ (w.heap.size + 1 + 1) _ _ _ _ rfl h10 Try.underlying39 rfl (by kernel_rfl)) rfl ?_
      have hd2 := HSD.out
      rw [if_neg HE.out] at hd2
      subst hd2
      exact step_end rfl HO.out HO9.out HW8.out g10 (by omega)
end Go.Proofs.Ytocepdhjkhhpfaa
