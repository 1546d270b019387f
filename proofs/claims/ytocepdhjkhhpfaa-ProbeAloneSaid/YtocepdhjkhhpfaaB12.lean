/-
  Texts that the claims of this seat share, part 12.
-/
import Derived.Test.YtocepdhjkhhpfaaB11
set_option linter.unusedVariables false
set_option linter.unusedSimpArgs false
namespace Go.Proofs.Ytocepdhjkhhpfaa
set_option maxRecDepth 100000
set_option linter.unusedVariables false
set_option linter.unusedSimpArgs false
open Go.RowKit Go.Sort

set_option maxHeartbeats 16000000 in
theorem hStep0 {w : World} {B b g : Nat} {u0 u : W8} {S N : Int} {m : List Int} {A : Option Addr} {c : Nat} (h : StepIn w B b g u0 u S N m A c) (hpc : u.pc = 0) :
    Calls Try.prog 67 #[.pointer (some ⟨b, 0, none⟩), w8V u] w (Step8R B b g S N (.slice A m.length c) (doA m (accP S N u)).1 (behP S u (doA m (accP S N u)).2.1 (doA m (accP S N u)).2.2.1) w) := by
  have HI := Lib.hid h
  have hac := Lib.hid (And.intro trivial fun (W : World) (hv : HaAt W b u S N (.slice A m.length c) (.map (some g))) => acc_all8 0 (by decide) hv h.tab h.fit h.may h.okP hpc)
  have hth := Lib.hid (And.intro trivial fun (W : World) (hv : HaAt W b u S N (.slice A m.length c) (.map (some g))) (x : Int) (d : Bool) (hx : WdI x) => then_all8 0 (by decide) hv x d hx h.tab h.fit h.may hpc)
  have hma := Lib.hid (And.intro trivial fun (W : World) (hv : HaAt W b u S N (.slice A m.length c) (.map (some g))) => hMay_any hv h.fit h.may)
  have hfi := Lib.hid (accP_fine h.tab h.fit h.may)
  have hOK := Lib.hid h.ok
  obtain ⟨y, hy⟩ : ∃ y, y = accP S N u := ⟨_, rfl⟩
  rw [← hy] at hac hfi hOK ⊢
  have hDW := Lib.hid (doA_wd y h.wd)
  obtain ⟨d, hd⟩ : ∃ d, d = doA m y := ⟨_, rfl⟩
  rw [← hd] at hOK hDW ⊢
  have hd0 := Lib.hid hd
  obtain ⟨u1, hu1⟩ : ∃ u1, u1 = behP S u d.2.1 d.2.2.1 := ⟨_, rfl⟩
  rw [← hu1]
  have hU1 := Lib.hid hu1
  clear hu1 hd hy
  have hlt := h.hat.lt
  obtain ⟨c0, c1, c2, c3, c4, c5, c6, c7, c8, c9, c10, c11, -, -, -, -⟩ := h.hat.cs
  have fz : ∀ j, w.frozen? ⟨b, j, none⟩ = false := fun j => h.hat.fz j
  clear h
  obtain ⟨pc, job, r0, r1, r2, r3, r4, r5, r6, r7, dn, out⟩ := u
  simp only at hpc
  subst hpc
  obtain ⟨w1, hw1, H1, z1, g1⟩ := set12h w b u0 ⟨0, job, r0, r1, r2, r3, r4, r5, r6, r7, dn, out⟩ S N (.slice A m.length c) (.map (some g)) HI.out.hat
  go_enter Try.func67, Try.ntmps67
  go_wp2_with fail
  try simp only at hw1
  try rw [hw1]
  clear hw1 c0 c1 c2 c3 c4 c5 c6 c7 c8 c9 c10 c11 fz
  obtain ⟨v2, hv2, s2, x2, y2, b2⟩ := two_allocs w1 (.cells (w8A ⟨0, job, r0, r1, r2, r3, r4, r5, r6, r7, dn, out⟩) 39) (.cells (w8A zeroW8) 39)
  try simp only at hv2
  rw [hv2]
  clear hv2
  rw [z1] at s2 x2 y2 b2
  have hne := map_hand HI.out.hat HI.out.map
  have M1 := map_grown HI.out.map g1 (by simpa using hne)
  have M2 := Lib.hid (M1.below b2 (by have := M1.lt; omega))
  have H2 := H1.below b2 hlt
  have O1 : Own w1 B (.slice A m.length c) m := HI.out.own.kept g1 (by first | exact .inr (own_hand HI.out.hat HI.out.own) | skip)
  have O2 := own_next O1 (z1 ▸ b2)
  have B1 : Below B w w1 := below_grown (Below.refl B w) g1 (fun k e => by injection e with e; rw [← e]; exact HI.out.hB) (by have := HI.out.hB; omega)
  have C2 := H2.cs
  obtain ⟨C20, C21, C22, C23, C24, C25, C26, C27, C28, C29, C210, C211, C212, C213, C214, C215⟩ := C2
  have BW := Lib.hid (below_drewW v2)
  have L15 := fun (W : World) (hW : Below v2.heap.size v2 W) => (hW.cell (p := ⟨b, 15, none⟩) (by show b < _; omega)).trans C215
  have LP := fun (W : World) (hW : Below v2.heap.size v2 W) => (hW.cell (p := ⟨w.heap.size, 0, none⟩) (by show w.heap.size < _; omega)).trans (show v2.cell? ⟨w.heap.size, 0, none⟩ = some (.int .i64 0) by rw [Lib.cell_of_heap x2]; rfl)
  have LM := fun (W : World) (hW : Below v2.heap.size v2 W) => (M2.out.below hW M2.out.lt).get (q := 0) (by decide)
  simp only [pcQ, faQ, ftQ] at LM
  have HK := Lib.hid (And.intro H2 (And.intro O2 (And.intro B1 (And.intro b2 (And.intro x2 y2)))))
  clear C20 C21 C22 C23 C24 C25 C26 C27 C28 C29 C210 C211 C212 C213 C214 C215 H1 g1 hne M1 O1 O2 B1 b2 x2 y2 H2
  have HS2 := Lib.hid s2
  clear s2
  have hsf : ∀ (a : Addr) (k : Nat) (W : World), (store a (fnB k b)).run Try.prog W = stored Try.prog W a (fnB k b) .plain := fun a k W => run_store _ W a _ _ rfl
  refine region_calm_to (fun W => Below v2.heap.size v2 W) (fun (a0 a9 : Act) (w9 : World) => a9 = ((((((((((((a0.put (some 16) (.pointer (some ⟨b, 0, none⟩))).put (some 17) (.pointer (some ⟨b, 0, none⟩))).put (some 18) (.pointer (some ⟨b, 15, none⟩))).put (some 19) (.map (some g))).put (some 20) (.pointer (some ⟨w.heap.size, 0, none⟩))).put (some 21) (.int .i64 0)).put (some 22) (.tuple #[deedB 92 93 b, .bool true])).put (some 15) (.tuple #[deedB 92 93 b, .bool true])).put (some 23) (deedB 92 93 b)).put (some 24) (.bool true)).put (some 6) (.pointer (some ⟨v2.heap.size, 0, none⟩))).put (some 7) (.bool true)) ∧ w9.heap[v2.heap.size]? = some (.cells #[fnB 92 b, fnB 93 b] 127 (0, 0)) ∧ Below v2.heap.size v2 w9)
    (.calm 0 (.calm 1 (.calm 2 (.calm 3 (.calm 4 (.calm 5 (.calm 6 (.calm 7 (.calm 8 (.calm 9 (.only 10 (.only 11 (.only 12 .done))))))))))))) (by kernel_rfl) (by kernel_rfl) (by kernel_rfl) (by rfl) (below_drewW _) ?_ ?_
  · skip
    refine ⟨_, _, .pointer (some ⟨b, 0, none⟩), rfl, rfl, ⟨rfl, fun W hW => by first | exact ⟨rfl, rfl⟩ | (simp only [Act.eval, execOp]; go_simp; try exact ⟨rfl, rfl⟩)⟩, ?_⟩
    simp only [Act.put, List.getElem_toArray, List.getElem_cons_zero, List.getElem_cons_succ, List.setIfInBounds_toArray, List.set_cons_succ, List.set_cons_zero]
    refine ⟨_, _, .pointer (some ⟨b, 0, none⟩), rfl, rfl, ⟨rfl, fun W hW => by first | exact ⟨rfl, rfl⟩ | (simp only [Act.eval, execOp]; go_simp; try exact ⟨rfl, rfl⟩)⟩, ?_⟩
    simp only [Act.put, List.getElem_toArray, List.getElem_cons_zero, List.getElem_cons_succ, List.setIfInBounds_toArray, List.set_cons_succ, List.set_cons_zero]
    refine ⟨_, _, .pointer (some ⟨b, 15, none⟩), rfl, rfl, ⟨rfl, fun W hW => by first | exact ⟨rfl, rfl⟩ | (simp only [Act.eval, execOp]; go_simp; try exact ⟨rfl, rfl⟩)⟩, ?_⟩
    simp only [Act.put, List.getElem_toArray, List.getElem_cons_zero, List.getElem_cons_succ, List.setIfInBounds_toArray, List.set_cons_succ, List.set_cons_zero]
    refine ⟨_, _, .map (some g), rfl, rfl, ⟨rfl, fun W hW => by first | exact ⟨rfl, rfl⟩ | (have l := L15 W hW; simp only [Act.eval, execOp]; go_simp; try exact ⟨rfl, rfl⟩)⟩, ?_⟩
    simp only [Act.put, List.getElem_toArray, List.getElem_cons_zero, List.getElem_cons_succ, List.setIfInBounds_toArray, List.set_cons_succ, List.set_cons_zero]
    refine ⟨_, _, .pointer (some ⟨w.heap.size, 0, none⟩), rfl, rfl, ⟨rfl, fun W hW => by first | exact ⟨rfl, rfl⟩ | (simp only [Act.eval, execOp]; go_simp; try exact ⟨rfl, rfl⟩)⟩, ?_⟩
    simp only [Act.put, List.getElem_toArray, List.getElem_cons_zero, List.getElem_cons_succ, List.setIfInBounds_toArray, List.set_cons_succ, List.set_cons_zero]
    refine ⟨_, _, .int .i64 0, rfl, rfl, ⟨rfl, fun W hW => by first | exact ⟨rfl, rfl⟩ | (have l := LP W hW; simp only [Act.eval, execOp]; go_simp; try exact ⟨rfl, rfl⟩)⟩, ?_⟩
    simp only [Act.put, List.getElem_toArray, List.getElem_cons_zero, List.getElem_cons_succ, List.setIfInBounds_toArray, List.set_cons_succ, List.set_cons_zero]
    refine ⟨_, _, .tuple #[deedB 92 93 b, .bool true], rfl, rfl, ⟨rfl, fun W hW => by first | exact ⟨rfl, rfl⟩ | (have l := LM W hW; simp only [Act.eval, execOp]; go_simp; try exact ⟨rfl, rfl⟩)⟩, ?_⟩
    simp only [Act.put, List.getElem_toArray, List.getElem_cons_zero, List.getElem_cons_succ, List.setIfInBounds_toArray, List.set_cons_succ, List.set_cons_zero]
    refine ⟨_, _, .tuple #[deedB 92 93 b, .bool true], rfl, rfl, ⟨rfl, fun W hW => by first | exact ⟨rfl, rfl⟩ | (simp only [Act.eval, execOp]; go_simp; try exact ⟨rfl, rfl⟩)⟩, ?_⟩
    simp only [Act.put, List.getElem_toArray, List.getElem_cons_zero, List.getElem_cons_succ, List.setIfInBounds_toArray, List.set_cons_succ, List.set_cons_zero]
    refine ⟨_, _, deedB 92 93 b, rfl, rfl, ⟨rfl, fun W hW => by first | exact ⟨rfl, rfl⟩ | (simp only [Act.eval, execOp]; go_simp; try exact ⟨rfl, rfl⟩)⟩, ?_⟩
    simp only [Act.put, List.getElem_toArray, List.getElem_cons_zero, List.getElem_cons_succ, List.setIfInBounds_toArray, List.set_cons_succ, List.set_cons_zero]
    refine ⟨_, _, .bool true, rfl, rfl, ⟨rfl, fun W hW => by first | exact ⟨rfl, rfl⟩ | (simp only [Act.eval, execOp]; go_simp; try exact ⟨rfl, rfl⟩)⟩, ?_⟩
    simp only [Act.put, List.getElem_toArray, List.getElem_cons_zero, List.getElem_cons_succ, List.setIfInBounds_toArray, List.set_cons_succ, List.set_cons_zero]
    have hsz : v2.drew.heap.size = v2.heap.size := rfl
    have hb0 := BW.out
    generalize v2.drew = x0 at *
    refine ⟨_, rfl, ?_⟩
    go_wp2_with fail
    have hb1 := hb0.alloc (o := .cells #[.nilFunc, .nilFunc] 127) (by rw [hsz]; exact Nat.le_refl _)
    refine ⟨rfl, hb1, ?_⟩
    refine ⟨_, rfl, ?_⟩
    go_wp2_with fail
    have hb2 := hb0.alloc (o := .cells #[fnB 92 b, fnB 93 b] 127) (by rw [hsz]; exact Nat.le_refl _)
    refine ⟨rfl, hb2, ?_⟩
    refine ⟨_, rfl, ?_⟩
    go_wp2_with fail
    have hdr := heap_alloc_new x0 (.cells #[fnB 92 b, fnB 93 b] 127)
    rw [hsz] at hdr
    exact ⟨rfl, hb2, rfl, hdr, hb2⟩
  · rintro a' w5 ⟨rfl, hd5, hb5⟩
    simp only [Act.put, List.setIfInBounds_toArray, List.set_cons_succ, List.set_cons_zero]
    obtain ⟨H2, O2, B1, b2, x2, y2⟩ := HK.out
    have H5 := Lib.hid (H2.below hb5 H2.lt)
    clear LM LP L15 hsf
    go_wp2_with fail
    refine (hma.out.2 _ H5.out).mono ?_
    rintro e w6 ⟨rfl, H6, hb6⟩
    clear hma
    go_wp2_with fail
    have l2 := lt_heap6' hd5
    have d6 := (hb6.block _ l2).trans hd5
    have H6' := Lib.hid H6
    have k14 := Qt.cell_in H6.cs.c14
    have kd0 := Qt.cell_in (show w6.cell? ⟨v2.heap.size, 0, none⟩ = some (fnB 92 b) by rw [Lib.cell_of_heap d6]; rfl)
    have hac6 : ∀ W, Below w6.heap.size w6 W → Calls Try.prog 92 #[.pointer (some ⟨b, 0, none⟩)] W fun e w' => e = .returned (acV y) ∧ Below W.heap.size W w' := fun W hW => hac.out.2 W (H6'.out.below hW H6'.out.lt)
    have O6 := own_next (own_next O2 hb5) hb6
    have HX := Lib.hid (And.intro x2 (And.intro y2 (And.intro b2 (And.intro B1 (And.intro hb5 (And.intro hb6 (And.intro d6 O6)))))))
    clear O2 b2 x2 y2 B1 H2 H6 d6 hb5 hb6 hd5 H5 O6
    refine Qt.region_call 7 (by kernel_rfl) (by kernel_rfl) rfl rfl Try.func61 (by kernel_rfl) (by kernel_rfl) rfl ?_
    simp only [List.take_succ_cons, List.take_zero, List.drop_succ_cons, List.drop_zero]
    iterate 7 (go_big_quiet_step (first | (go_at_call 92; exact Qt.at_call' hac6)))
    refine wpQuiet_nil ?_
    intro w7 hb7
    clear hac6 k14 kd0
    obtain ⟨x2, y2, b2, B1, hb5, hb6, d6, O6⟩ := HX.out
    have O7 := own_next O6 hb7
    have hB7 : B ≤ w7.heap.size := by have := HI.out.hB; have := b2.size; have := hb5.size; have := hb6.size; have := hb7.size; have := HS2.out; omega
    have hdo := wdo_any y m A c w7 hfi.out (fun x hx => (HI.out.wd x hx).i64) hB7 O7 (by have := HI.out.len; omega)
    rw [← hd0.out] at hdo
    clear x2 y2 b2 B1 hb5 hb6 d6 O6 hB7
    simp only [List.map_toArray, List.map_cons, List.map_nil]
    show Calls Try.prog _ #[.slice A m.length c, acV y] w7 _
    refine hdo.mono ?_
    rintro e w8 ⟨rfl, O8, g8⟩
    clear hdo
    refine ⟨_, rfl, ?_⟩
    simp only [Act.put, List.setIfInBounds_toArray, List.set_cons_succ, List.set_cons_zero]
    repeat (go_big_quiet_step (fail))
    refine wpQuiet_nil ?_
    intro w9 hb9
    obtain ⟨x2, y2, b2, B1, hb5, hb6, d6, O6⟩ := HX.out
    have hw2 := HS2.out
    have s5 := hb5.size
    have s6 := hb6.size
    have s7 := hb7.size
    have s8 := g8.size
    have hown : ∀ k, (Value.slice A m.length c).ownBlock = some k → k < w.heap.size := fun k e => (World.ownsRow.lt HI.out.own k e).2
    have far : ∀ k o, w6.heap[k]? = some o → w.heap.size ≤ k → w9.heap[k]? = some o := fun k o h hk => by
      have l := lt_heap6' h
      exact (hb9.block _ (by omega)).trans ((g8.block k (by omega) (fun e => by have := hown k e.symm; omega)).trans ((hb7.block _ l).trans h))
    have y9 := far _ _ ((hb6.block _ (by omega)).trans ((hb5.block _ (by omega)).trans y2)) (by omega)
    have d9 := far _ _ d6 (by omega)
    have H7 := H6'.out.below hb7 H6'.out.lt
    have H8 := hat_grown H7 g8 (fun e => own_hand H7 O7 e.symm)
    have H9 := Lib.hid (H8.below hb9 H8.lt)
    have M6 := (M2.out.below hb5 M2.out.lt).below hb6 (by have := M2.out.lt; omega)
    have M7 := M6.below hb7 M6.lt
    have M8 := map_grown M7 g8 (own_map M7 O7)
    have M9 := Lib.hid (M8.below hb9 M8.lt)
    have O9 := Lib.hid (own_next O8 hb9)
    have hBw : B ≤ w.heap.size := by have := HI.out.hB; omega
    have b6 := (b2.trans (hb5.mono (by omega))).trans (hb6.mono (by omega))
    have b7 := b6.trans (hb7.mono (by omega))
    have bb7 : Below B w w7 := B1.trans ((z1 ▸ b7 : Below w.heap.size w1 w7).mono hBw)
    have BB9 := Lib.hid ((below_grown bb7 g8 (own_ge O7) (by omega)).trans (hb9.mono (by omega)))
    have HY := Lib.hid (And.intro y9 d9)
    clear x2 y2 b2 B1 hb5 hb6 d6 O6 s5 s6 s7 s8 hown far H7 H8 M6 M7 M8 b6 b7 bb7 hb7 hb9 g8 O7 O8 hw2
    have he1 : (d.2.2.2 != 0) = false := by rw [hOK.out]; rfl
    have hth9 := hth.out.2 w9 H9.out d.2.1 d.2.2.1 hDW.out.2
    rw [← hU1.out] at hth9
    have a1 : w9.cell? ⟨v2.heap.size, 1, none⟩ = some (fnB 93 b) := by rw [Lib.cell_of_heap d9]; rfl
    clear y9 d9
    go_wp2_with fail
    refine hth9.mono ?_
    rintro e w10 ⟨rfl, H10⟩
    clear hth9 hth a1
    have y10 := (H10.gr.block (w.heap.size + 1) (lt_heap6' HY.out.1) (fun e => by injection e with e; omega)).trans HY.out.1
    have HZ := Lib.hid (And.intro y10 H10)
    have hsz10 : Hid (w.heap.size + 2 ≤ w10.heap.size) := by have := lt_heap6' y10; show _ ≤ _; omega
    obtain ⟨c0, c1, c2, c3, c4, c5, c6, c7, c8, c9, c10, c11, -, -, -, -⟩ := H10.hat.cs
    have o0 : w10.cell? ⟨w.heap.size + 1, 0, none⟩ = some (.int .i64 0) := by rw [Lib.cell_of_heap y10]; rfl
    have o1 : w10.cell? ⟨w.heap.size + 1, 1, none⟩ = some (.int .i64 0) := by rw [Lib.cell_of_heap y10]; rfl
    have o2 : w10.cell? ⟨w.heap.size + 1, 2, none⟩ = some (.int .i64 0) := by rw [Lib.cell_of_heap y10]; rfl
    have o3 : w10.cell? ⟨w.heap.size + 1, 3, none⟩ = some (.int .i64 0) := by rw [Lib.cell_of_heap y10]; rfl
    have o4 : w10.cell? ⟨w.heap.size + 1, 4, none⟩ = some (.int .i64 0) := by rw [Lib.cell_of_heap y10]; rfl
    have o5 : w10.cell? ⟨w.heap.size + 1, 5, none⟩ = some (.int .i64 0) := by rw [Lib.cell_of_heap y10]; rfl
    have o6 : w10.cell? ⟨w.heap.size + 1, 6, none⟩ = some (.int .i64 0) := by rw [Lib.cell_of_heap y10]; rfl
    have o7 : w10.cell? ⟨w.heap.size + 1, 7, none⟩ = some (.int .i64 0) := by rw [Lib.cell_of_heap y10]; rfl
    have o8 : w10.cell? ⟨w.heap.size + 1, 8, none⟩ = some (.int .i64 0) := by rw [Lib.cell_of_heap y10]; rfl
    have o9 : w10.cell? ⟨w.heap.size + 1, 9, none⟩ = some (.int .i64 0) := by rw [Lib.cell_of_heap y10]; rfl
    have o10 : w10.cell? ⟨w.heap.size + 1, 10, none⟩ = some (.bool false) := by rw [Lib.cell_of_heap y10]; rfl
    have o11 : w10.cell? ⟨w.heap.size + 1, 11, none⟩ = some (.int .i64 0) := by rw [Lib.cell_of_heap y10]; rfl
    have fz : ∀ j, w10.frozen? ⟨w.heap.size + 1, j, none⟩ = false := fun j => Lib.frozen_of_heap y10 j
    clear y10 H10
    go_wp2_with fail
    clear c0 c1 c2 c3 c4 c5 c6 c7 c8 c9 c10 c11 fz o0 o1 o2 o3 o4 o5 o6 o7 o8 o9 o10 o11
    obtain ⟨y10, H10⟩ := HZ.out
    obtain ⟨w11, hw11, h11, g11⟩ := set12o w10 (w.heap.size + 1) zeroW8 u1 y10
    try rw [hw11]
    refine bodyPost_ret (results_cellT rfl _ _ (w.heap.size + 1) _ _ _ _ rfl h11 Try.underlying39 rfl (by kernel_rfl)) rfl ?_
    have hne := map_hand HI.out.hat HI.out.map
    have hown : ∀ k, (Value.slice A m.length c).ownBlock = some k → k < w.heap.size := fun k e => (World.ownsRow.lt HI.out.own k e).2
    have M10 := map_grown M9.out H10.gr (by simpa using hne)
    have O10 : Own w10 B (.slice A m.length c) d.1 := O9.out.kept H10.gr (.inr (own_hand H9.out O9.out))
    have hgl : g < w.heap.size := HI.out.map.lt
    have hBw : B ≤ w.heap.size := by have := HI.out.hB; omega
    have l9 := lt_heap6' HY.out.1
    have hz10 := hsz10.out
    have hBb := HI.out.hB
    refine ⟨rfl, hat_grown H10.hat g11 (fun e => by injection e with e; omega), map_grown M10 g11 (fun e => by injection e with e; omega), O10.kept g11 (.inr (fun e => by have := hown _ e; omega)), ?_⟩
    exact below_grown (below_grown BB9.out H10.gr (fun k e => by injection e with e; omega) (by omega)) g11 (fun k e => by injection e with e; omega) (by omega)
set_option maxHeartbeats 16000000 in
theorem hStep1 {w : World} {B b g : Nat} {u0 u : W8} {S N : Int} {m : List Int} {A : Option Addr} {c : Nat} (h : StepIn w B b g u0 u S N m A c) (hpc : u.pc = 1) :
    Calls Try.prog 67 #[.pointer (some ⟨b, 0, none⟩), w8V u] w (Step8R B b g S N (.slice A m.length c) (doA m (accP S N u)).1 (behP S u (doA m (accP S N u)).2.1 (doA m (accP S N u)).2.2.1) w) := by
  have HI := Lib.hid h
  have hac := Lib.hid (And.intro trivial fun (W : World) (hv : HaAt W b u S N (.slice A m.length c) (.map (some g))) => acc_all8 1 (by decide) hv h.tab h.fit h.may h.okP hpc)
  have hth := Lib.hid (And.intro trivial fun (W : World) (hv : HaAt W b u S N (.slice A m.length c) (.map (some g))) (x : Int) (d : Bool) (hx : WdI x) => then_all8 1 (by decide) hv x d hx h.tab h.fit h.may hpc)
  have hma := Lib.hid (And.intro trivial fun (W : World) (hv : HaAt W b u S N (.slice A m.length c) (.map (some g))) => hMay_any hv h.fit h.may)
  have hfi := Lib.hid (accP_fine h.tab h.fit h.may)
  have hOK := Lib.hid h.ok
  obtain ⟨y, hy⟩ : ∃ y, y = accP S N u := ⟨_, rfl⟩
  rw [← hy] at hac hfi hOK ⊢
  have hDW := Lib.hid (doA_wd y h.wd)
  obtain ⟨d, hd⟩ : ∃ d, d = doA m y := ⟨_, rfl⟩
  rw [← hd] at hOK hDW ⊢
  have hd0 := Lib.hid hd
  obtain ⟨u1, hu1⟩ : ∃ u1, u1 = behP S u d.2.1 d.2.2.1 := ⟨_, rfl⟩
  rw [← hu1]
  have hU1 := Lib.hid hu1
  clear hu1 hd hy
  have hlt := h.hat.lt
  obtain ⟨c0, c1, c2, c3, c4, c5, c6, c7, c8, c9, c10, c11, -, -, -, -⟩ := h.hat.cs
  have fz : ∀ j, w.frozen? ⟨b, j, none⟩ = false := fun j => h.hat.fz j
  clear h
  obtain ⟨pc, job, r0, r1, r2, r3, r4, r5, r6, r7, dn, out⟩ := u
  simp only at hpc
  subst hpc
  obtain ⟨w1, hw1, H1, z1, g1⟩ := set12h w b u0 ⟨1, job, r0, r1, r2, r3, r4, r5, r6, r7, dn, out⟩ S N (.slice A m.length c) (.map (some g)) HI.out.hat
  go_enter Try.func67, Try.ntmps67
  go_wp2_with fail
  try simp only at hw1
  try rw [hw1]
  clear hw1 c0 c1 c2 c3 c4 c5 c6 c7 c8 c9 c10 c11 fz
  obtain ⟨v2, hv2, s2, x2, y2, b2⟩ := two_allocs w1 (.cells (w8A ⟨1, job, r0, r1, r2, r3, r4, r5, r6, r7, dn, out⟩) 39) (.cells (w8A zeroW8) 39)
  try simp only at hv2
  rw [hv2]
  clear hv2
  rw [z1] at s2 x2 y2 b2
  have hne := map_hand HI.out.hat HI.out.map
  have M1 := map_grown HI.out.map g1 (by simpa using hne)
  have M2 := Lib.hid (M1.below b2 (by have := M1.lt; omega))
  have H2 := H1.below b2 hlt
  have O1 : Own w1 B (.slice A m.length c) m := HI.out.own.kept g1 (by first | exact .inr (own_hand HI.out.hat HI.out.own) | skip)
  have O2 := own_next O1 (z1 ▸ b2)
  have B1 : Below B w w1 := below_grown (Below.refl B w) g1 (fun k e => by injection e with e; rw [← e]; exact HI.out.hB) (by have := HI.out.hB; omega)
  have C2 := H2.cs
  obtain ⟨C20, C21, C22, C23, C24, C25, C26, C27, C28, C29, C210, C211, C212, C213, C214, C215⟩ := C2
  have BW := Lib.hid (below_drewW v2)
  have L15 := fun (W : World) (hW : Below v2.heap.size v2 W) => (hW.cell (p := ⟨b, 15, none⟩) (by show b < _; omega)).trans C215
  have LP := fun (W : World) (hW : Below v2.heap.size v2 W) => (hW.cell (p := ⟨w.heap.size, 0, none⟩) (by show w.heap.size < _; omega)).trans (show v2.cell? ⟨w.heap.size, 0, none⟩ = some (.int .i64 1) by rw [Lib.cell_of_heap x2]; rfl)
  have LM := fun (W : World) (hW : Below v2.heap.size v2 W) => (M2.out.below hW M2.out.lt).get (q := 1) (by decide)
  simp only [pcQ, faQ, ftQ] at LM
  have HK := Lib.hid (And.intro H2 (And.intro O2 (And.intro B1 (And.intro b2 (And.intro x2 y2)))))
  clear C20 C21 C22 C23 C24 C25 C26 C27 C28 C29 C210 C211 C212 C213 C214 C215 H1 g1 hne M1 O1 O2 B1 b2 x2 y2 H2
  have HS2 := Lib.hid s2
  clear s2
  have hsf : ∀ (a : Addr) (k : Nat) (W : World), (store a (fnB k b)).run Try.prog W = stored Try.prog W a (fnB k b) .plain := fun a k W => run_store _ W a _ _ rfl
  refine region_calm_to (fun W => Below v2.heap.size v2 W) (fun (a0 a9 : Act) (w9 : World) => a9 = ((((((((((((a0.put (some 16) (.pointer (some ⟨b, 0, none⟩))).put (some 17) (.pointer (some ⟨b, 0, none⟩))).put (some 18) (.pointer (some ⟨b, 15, none⟩))).put (some 19) (.map (some g))).put (some 20) (.pointer (some ⟨w.heap.size, 0, none⟩))).put (some 21) (.int .i64 1)).put (some 22) (.tuple #[deedB 94 95 b, .bool true])).put (some 15) (.tuple #[deedB 94 95 b, .bool true])).put (some 23) (deedB 94 95 b)).put (some 24) (.bool true)).put (some 6) (.pointer (some ⟨v2.heap.size, 0, none⟩))).put (some 7) (.bool true)) ∧ w9.heap[v2.heap.size]? = some (.cells #[fnB 94 b, fnB 95 b] 127 (0, 0)) ∧ Below v2.heap.size v2 w9)
    (.calm 0 (.calm 1 (.calm 2 (.calm 3 (.calm 4 (.calm 5 (.calm 6 (.calm 7 (.calm 8 (.calm 9 (.only 10 (.only 11 (.only 12 .done))))))))))))) (by kernel_rfl) (by kernel_rfl) (by kernel_rfl) (by rfl) (below_drewW _) ?_ ?_
  · skip
    refine ⟨_, _, .pointer (some ⟨b, 0, none⟩), rfl, rfl, ⟨rfl, fun W hW => by first | exact ⟨rfl, rfl⟩ | (simp only [Act.eval, execOp]; go_simp; try exact ⟨rfl, rfl⟩)⟩, ?_⟩
    simp only [Act.put, List.getElem_toArray, List.getElem_cons_zero, List.getElem_cons_succ, List.setIfInBounds_toArray, List.set_cons_succ, List.set_cons_zero]
    refine ⟨_, _, .pointer (some ⟨b, 0, none⟩), rfl, rfl, ⟨rfl, fun W hW => by first | exact ⟨rfl, rfl⟩ | (simp only [Act.eval, execOp]; go_simp; try exact ⟨rfl, rfl⟩)⟩, ?_⟩
    simp only [Act.put, List.getElem_toArray, List.getElem_cons_zero, List.getElem_cons_succ, List.setIfInBounds_toArray, List.set_cons_succ, List.set_cons_zero]
    refine ⟨_, _, .pointer (some ⟨b, 15, none⟩), rfl, rfl, ⟨rfl, fun W hW => by first | exact ⟨rfl, rfl⟩ | (simp only [Act.eval, execOp]; go_simp; try exact ⟨rfl, rfl⟩)⟩, ?_⟩
    simp only [Act.put, List.getElem_toArray, List.getElem_cons_zero, List.getElem_cons_succ, List.setIfInBounds_toArray, List.set_cons_succ, List.set_cons_zero]
    refine ⟨_, _, .map (some g), rfl, rfl, ⟨rfl, fun W hW => by first | exact ⟨rfl, rfl⟩ | (have l := L15 W hW; simp only [Act.eval, execOp]; go_simp; try exact ⟨rfl, rfl⟩)⟩, ?_⟩
    simp only [Act.put, List.getElem_toArray, List.getElem_cons_zero, List.getElem_cons_succ, List.setIfInBounds_toArray, List.set_cons_succ, List.set_cons_zero]
    refine ⟨_, _, .pointer (some ⟨w.heap.size, 0, none⟩), rfl, rfl, ⟨rfl, fun W hW => by first | exact ⟨rfl, rfl⟩ | (simp only [Act.eval, execOp]; go_simp; try exact ⟨rfl, rfl⟩)⟩, ?_⟩
    simp only [Act.put, List.getElem_toArray, List.getElem_cons_zero, List.getElem_cons_succ, List.setIfInBounds_toArray, List.set_cons_succ, List.set_cons_zero]
    refine ⟨_, _, .int .i64 1, rfl, rfl, ⟨rfl, fun W hW => by first | exact ⟨rfl, rfl⟩ | (have l := LP W hW; simp only [Act.eval, execOp]; go_simp; try exact ⟨rfl, rfl⟩)⟩, ?_⟩
    simp only [Act.put, List.getElem_toArray, List.getElem_cons_zero, List.getElem_cons_succ, List.setIfInBounds_toArray, List.set_cons_succ, List.set_cons_zero]
    refine ⟨_, _, .tuple #[deedB 94 95 b, .bool true], rfl, rfl, ⟨rfl, fun W hW => by first | exact ⟨rfl, rfl⟩ | (have l := LM W hW; simp only [Act.eval, execOp]; go_simp; try exact ⟨rfl, rfl⟩)⟩, ?_⟩
    simp only [Act.put, List.getElem_toArray, List.getElem_cons_zero, List.getElem_cons_succ, List.setIfInBounds_toArray, List.set_cons_succ, List.set_cons_zero]
    refine ⟨_, _, .tuple #[deedB 94 95 b, .bool true], rfl, rfl, ⟨rfl, fun W hW => by first | exact ⟨rfl, rfl⟩ | (simp only [Act.eval, execOp]; go_simp; try exact ⟨rfl, rfl⟩)⟩, ?_⟩
    simp only [Act.put, List.getElem_toArray, List.getElem_cons_zero, List.getElem_cons_succ, List.setIfInBounds_toArray, List.set_cons_succ, List.set_cons_zero]
    refine ⟨_, _, deedB 94 95 b, rfl, rfl, ⟨rfl, fun W hW => by first | exact ⟨rfl, rfl⟩ | (simp only [Act.eval, execOp]; go_simp; try exact ⟨rfl, rfl⟩)⟩, ?_⟩
    simp only [Act.put, List.getElem_toArray, List.getElem_cons_zero, List.getElem_cons_succ, List.setIfInBounds_toArray, List.set_cons_succ, List.set_cons_zero]
    refine ⟨_, _, .bool true, rfl, rfl, ⟨rfl, fun W hW => by first | exact ⟨rfl, rfl⟩ | (simp only [Act.eval, execOp]; go_simp; try exact ⟨rfl, rfl⟩)⟩, ?_⟩
    simp only [Act.put, List.getElem_toArray, List.getElem_cons_zero, List.getElem_cons_succ, List.setIfInBounds_toArray, List.set_cons_succ, List.set_cons_zero]
    have hsz : v2.drew.heap.size = v2.heap.size := rfl
    have hb0 := BW.out
    generalize v2.drew = x0 at *
    refine ⟨_, rfl, ?_⟩
    go_wp2_with fail
    have hb1 := hb0.alloc (o := .cells #[.nilFunc, .nilFunc] 127) (by rw [hsz]; exact Nat.le_refl _)
    refine ⟨rfl, hb1, ?_⟩
    refine ⟨_, rfl, ?_⟩
    go_wp2_with fail
    have hb2 := hb0.alloc (o := .cells #[fnB 94 b, fnB 95 b] 127) (by rw [hsz]; exact Nat.le_refl _)
    refine ⟨rfl, hb2, ?_⟩
    refine ⟨_, rfl, ?_⟩
    go_wp2_with fail
    have hdr := heap_alloc_new x0 (.cells #[fnB 94 b, fnB 95 b] 127)
    rw [hsz] at hdr
    exact ⟨rfl, hb2, rfl, hdr, hb2⟩
  · rintro a' w5 ⟨rfl, hd5, hb5⟩
    simp only [Act.put, List.setIfInBounds_toArray, List.set_cons_succ, List.set_cons_zero]
    obtain ⟨H2, O2, B1, b2, x2, y2⟩ := HK.out
    have H5 := Lib.hid (H2.below hb5 H2.lt)
    clear LM LP L15 hsf
    go_wp2_with fail
    refine (hma.out.2 _ H5.out).mono ?_
    rintro e w6 ⟨rfl, H6, hb6⟩
    clear hma
    go_wp2_with fail
    have l2 := lt_heap6' hd5
    have d6 := (hb6.block _ l2).trans hd5
    have H6' := Lib.hid H6
    have k14 := Qt.cell_in H6.cs.c14
    have kd0 := Qt.cell_in (show w6.cell? ⟨v2.heap.size, 0, none⟩ = some (fnB 94 b) by rw [Lib.cell_of_heap d6]; rfl)
    have hac6 : ∀ W, Below w6.heap.size w6 W → Calls Try.prog 94 #[.pointer (some ⟨b, 0, none⟩)] W fun e w' => e = .returned (acV y) ∧ Below W.heap.size W w' := fun W hW => hac.out.2 W (H6'.out.below hW H6'.out.lt)
    have O6 := own_next (own_next O2 hb5) hb6
    have HX := Lib.hid (And.intro x2 (And.intro y2 (And.intro b2 (And.intro B1 (And.intro hb5 (And.intro hb6 (And.intro d6 O6)))))))
    clear O2 b2 x2 y2 B1 H2 H6 d6 hb5 hb6 hd5 H5 O6
    refine Qt.region_call 7 (by kernel_rfl) (by kernel_rfl) rfl rfl Try.func61 (by kernel_rfl) (by kernel_rfl) rfl ?_
    simp only [List.take_succ_cons, List.take_zero, List.drop_succ_cons, List.drop_zero]
    iterate 7 (go_big_quiet_step (first | (go_at_call 94; exact Qt.at_call' hac6)))
    refine wpQuiet_nil ?_
    intro w7 hb7
    clear hac6 k14 kd0
    obtain ⟨x2, y2, b2, B1, hb5, hb6, d6, O6⟩ := HX.out
    have O7 := own_next O6 hb7
    have hB7 : B ≤ w7.heap.size := by have := HI.out.hB; have := b2.size; have := hb5.size; have := hb6.size; have := hb7.size; have := HS2.out; omega
    have hdo := wdo_any y m A c w7 hfi.out (fun x hx => (HI.out.wd x hx).i64) hB7 O7 (by have := HI.out.len; omega)
    rw [← hd0.out] at hdo
    clear x2 y2 b2 B1 hb5 hb6 d6 O6 hB7
    simp only [List.map_toArray, List.map_cons, List.map_nil]
    show Calls Try.prog _ #[.slice A m.length c, acV y] w7 _
    refine hdo.mono ?_
    rintro e w8 ⟨rfl, O8, g8⟩
    clear hdo
    refine ⟨_, rfl, ?_⟩
    simp only [Act.put, List.setIfInBounds_toArray, List.set_cons_succ, List.set_cons_zero]
    repeat (go_big_quiet_step (fail))
    refine wpQuiet_nil ?_
    intro w9 hb9
    obtain ⟨x2, y2, b2, B1, hb5, hb6, d6, O6⟩ := HX.out
    have hw2 := HS2.out
    have s5 := hb5.size
    have s6 := hb6.size
    have s7 := hb7.size
    have s8 := g8.size
    have hown : ∀ k, (Value.slice A m.length c).ownBlock = some k → k < w.heap.size := fun k e => (World.ownsRow.lt HI.out.own k e).2
    have far : ∀ k o, w6.heap[k]? = some o → w.heap.size ≤ k → w9.heap[k]? = some o := fun k o h hk => by
      have l := lt_heap6' h
      exact (hb9.block _ (by omega)).trans ((g8.block k (by omega) (fun e => by have := hown k e.symm; omega)).trans ((hb7.block _ l).trans h))
    have y9 := far _ _ ((hb6.block _ (by omega)).trans ((hb5.block _ (by omega)).trans y2)) (by omega)
    have d9 := far _ _ d6 (by omega)
    have H7 := H6'.out.below hb7 H6'.out.lt
    have H8 := hat_grown H7 g8 (fun e => own_hand H7 O7 e.symm)
    have H9 := Lib.hid (H8.below hb9 H8.lt)
    have M6 := (M2.out.below hb5 M2.out.lt).below hb6 (by have := M2.out.lt; omega)
    have M7 := M6.below hb7 M6.lt
    have M8 := map_grown M7 g8 (own_map M7 O7)
    have M9 := Lib.hid (M8.below hb9 M8.lt)
    have O9 := Lib.hid (own_next O8 hb9)
    have hBw : B ≤ w.heap.size := by have := HI.out.hB; omega
    have b6 := (b2.trans (hb5.mono (by omega))).trans (hb6.mono (by omega))
    have b7 := b6.trans (hb7.mono (by omega))
    have bb7 : Below B w w7 := B1.trans ((z1 ▸ b7 : Below w.heap.size w1 w7).mono hBw)
    have BB9 := Lib.hid ((below_grown bb7 g8 (own_ge O7) (by omega)).trans (hb9.mono (by omega)))
    have HY := Lib.hid (And.intro y9 d9)
    clear x2 y2 b2 B1 hb5 hb6 d6 O6 s5 s6 s7 s8 hown far H7 H8 M6 M7 M8 b6 b7 bb7 hb7 hb9 g8 O7 O8 hw2
    have he1 : (d.2.2.2 != 0) = false := by rw [hOK.out]; rfl
    have hth9 := hth.out.2 w9 H9.out d.2.1 d.2.2.1 hDW.out.2
    rw [← hU1.out] at hth9
    have a1 : w9.cell? ⟨v2.heap.size, 1, none⟩ = some (fnB 95 b) := by rw [Lib.cell_of_heap d9]; rfl
    clear y9 d9
    go_wp2_with fail
    refine hth9.mono ?_
    rintro e w10 ⟨rfl, H10⟩
    clear hth9 hth a1
    have y10 := (H10.gr.block (w.heap.size + 1) (lt_heap6' HY.out.1) (fun e => by injection e with e; omega)).trans HY.out.1
    have HZ := Lib.hid (And.intro y10 H10)
    have hsz10 : Hid (w.heap.size + 2 ≤ w10.heap.size) := by have := lt_heap6' y10; show _ ≤ _; omega
    obtain ⟨c0, c1, c2, c3, c4, c5, c6, c7, c8, c9, c10, c11, -, -, -, -⟩ := H10.hat.cs
    have o0 : w10.cell? ⟨w.heap.size + 1, 0, none⟩ = some (.int .i64 0) := by rw [Lib.cell_of_heap y10]; rfl
    have o1 : w10.cell? ⟨w.heap.size + 1, 1, none⟩ = some (.int .i64 0) := by rw [Lib.cell_of_heap y10]; rfl
    have o2 : w10.cell? ⟨w.heap.size + 1, 2, none⟩ = some (.int .i64 0) := by rw [Lib.cell_of_heap y10]; rfl
    have o3 : w10.cell? ⟨w.heap.size + 1, 3, none⟩ = some (.int .i64 0) := by rw [Lib.cell_of_heap y10]; rfl
    have o4 : w10.cell? ⟨w.heap.size + 1, 4, none⟩ = some (.int .i64 0) := by rw [Lib.cell_of_heap y10]; rfl
    have o5 : w10.cell? ⟨w.heap.size + 1, 5, none⟩ = some (.int .i64 0) := by rw [Lib.cell_of_heap y10]; rfl
    have o6 : w10.cell? ⟨w.heap.size + 1, 6, none⟩ = some (.int .i64 0) := by rw [Lib.cell_of_heap y10]; rfl
    have o7 : w10.cell? ⟨w.heap.size + 1, 7, none⟩ = some (.int .i64 0) := by rw [Lib.cell_of_heap y10]; rfl
    have o8 : w10.cell? ⟨w.heap.size + 1, 8, none⟩ = some (.int .i64 0) := by rw [Lib.cell_of_heap y10]; rfl
    have o9 : w10.cell? ⟨w.heap.size + 1, 9, none⟩ = some (.int .i64 0) := by rw [Lib.cell_of_heap y10]; rfl
    have o10 : w10.cell? ⟨w.heap.size + 1, 10, none⟩ = some (.bool false) := by rw [Lib.cell_of_heap y10]; rfl
    have o11 : w10.cell? ⟨w.heap.size + 1, 11, none⟩ = some (.int .i64 0) := by rw [Lib.cell_of_heap y10]; rfl
    have fz : ∀ j, w10.frozen? ⟨w.heap.size + 1, j, none⟩ = false := fun j => Lib.frozen_of_heap y10 j
    clear y10 H10
    go_wp2_with fail
    clear c0 c1 c2 c3 c4 c5 c6 c7 c8 c9 c10 c11 fz o0 o1 o2 o3 o4 o5 o6 o7 o8 o9 o10 o11
    obtain ⟨y10, H10⟩ := HZ.out
    obtain ⟨w11, hw11, h11, g11⟩ := set12o w10 (w.heap.size + 1) zeroW8 u1 y10
    try rw [hw11]
    refine bodyPost_ret (results_cellT rfl _ _ (w.heap.size + 1) _ _ _ _ rfl h11 Try.underlying39 rfl (by kernel_rfl)) rfl ?_
    have hne := map_hand HI.out.hat HI.out.map
    have hown : ∀ k, (Value.slice A m.length c).ownBlock = some k → k < w.heap.size := fun k e => (World.ownsRow.lt HI.out.own k e).2
    have M10 := map_grown M9.out H10.gr (by simpa using hne)
    have O10 : Own w10 B (.slice A m.length c) d.1 := O9.out.kept H10.gr (.inr (own_hand H9.out O9.out))
    have hgl : g < w.heap.size := HI.out.map.lt
    have hBw : B ≤ w.heap.size := by have := HI.out.hB; omega
    have l9 := lt_heap6' HY.out.1
    have hz10 := hsz10.out
    have hBb := HI.out.hB
    refine ⟨rfl, hat_grown H10.hat g11 (fun e => by injection e with e; omega), map_grown M10 g11 (fun e => by injection e with e; omega), O10.kept g11 (.inr (fun e => by have := hown _ e; omega)), ?_⟩
    exact below_grown (below_grown BB9.out H10.gr (fun k e => by injection e with e; omega) (by omega)) g11 (fun k e => by injection e with e; omega) (by omega)
set_option maxHeartbeats 16000000 in
theorem hStep2 {w : World} {B b g : Nat} {u0 u : W8} {S N : Int} {m : List Int} {A : Option Addr} {c : Nat} (h : StepIn w B b g u0 u S N m A c) (hpc : u.pc = 10) :
    Calls Try.prog 67 #[.pointer (some ⟨b, 0, none⟩), w8V u] w (Step8R B b g S N (.slice A m.length c) (doA m (accP S N u)).1 (behP S u (doA m (accP S N u)).2.1 (doA m (accP S N u)).2.2.1) w) := by
  have HI := Lib.hid h
  have hac := Lib.hid (And.intro trivial fun (W : World) (hv : HaAt W b u S N (.slice A m.length c) (.map (some g))) => acc_all8 2 (by decide) hv h.tab h.fit h.may h.okP hpc)
  have hth := Lib.hid (And.intro trivial fun (W : World) (hv : HaAt W b u S N (.slice A m.length c) (.map (some g))) (x : Int) (d : Bool) (hx : WdI x) => then_all8 2 (by decide) hv x d hx h.tab h.fit h.may hpc)
  have hma := Lib.hid (And.intro trivial fun (W : World) (hv : HaAt W b u S N (.slice A m.length c) (.map (some g))) => hMay_any hv h.fit h.may)
  have hfi := Lib.hid (accP_fine h.tab h.fit h.may)
  have hOK := Lib.hid h.ok
  obtain ⟨y, hy⟩ : ∃ y, y = accP S N u := ⟨_, rfl⟩
  rw [← hy] at hac hfi hOK ⊢
  have hDW := Lib.hid (doA_wd y h.wd)
  obtain ⟨d, hd⟩ : ∃ d, d = doA m y := ⟨_, rfl⟩
  rw [← hd] at hOK hDW ⊢
  have hd0 := Lib.hid hd
  obtain ⟨u1, hu1⟩ : ∃ u1, u1 = behP S u d.2.1 d.2.2.1 := ⟨_, rfl⟩
  rw [← hu1]
  have hU1 := Lib.hid hu1
  clear hu1 hd hy
  have hlt := h.hat.lt
  obtain ⟨c0, c1, c2, c3, c4, c5, c6, c7, c8, c9, c10, c11, -, -, -, -⟩ := h.hat.cs
  have fz : ∀ j, w.frozen? ⟨b, j, none⟩ = false := fun j => h.hat.fz j
  clear h
  obtain ⟨pc, job, r0, r1, r2, r3, r4, r5, r6, r7, dn, out⟩ := u
  simp only at hpc
  subst hpc
  obtain ⟨w1, hw1, H1, z1, g1⟩ := set12h w b u0 ⟨10, job, r0, r1, r2, r3, r4, r5, r6, r7, dn, out⟩ S N (.slice A m.length c) (.map (some g)) HI.out.hat
  go_enter Try.func67, Try.ntmps67
  go_wp2_with fail
  try simp only at hw1
  try rw [hw1]
  clear hw1 c0 c1 c2 c3 c4 c5 c6 c7 c8 c9 c10 c11 fz
  obtain ⟨v2, hv2, s2, x2, y2, b2⟩ := two_allocs w1 (.cells (w8A ⟨10, job, r0, r1, r2, r3, r4, r5, r6, r7, dn, out⟩) 39) (.cells (w8A zeroW8) 39)
  try simp only at hv2
  rw [hv2]
  clear hv2
  rw [z1] at s2 x2 y2 b2
  have hne := map_hand HI.out.hat HI.out.map
  have M1 := map_grown HI.out.map g1 (by simpa using hne)
  have M2 := Lib.hid (M1.below b2 (by have := M1.lt; omega))
  have H2 := H1.below b2 hlt
  have O1 : Own w1 B (.slice A m.length c) m := HI.out.own.kept g1 (by first | exact .inr (own_hand HI.out.hat HI.out.own) | skip)
  have O2 := own_next O1 (z1 ▸ b2)
  have B1 : Below B w w1 := below_grown (Below.refl B w) g1 (fun k e => by injection e with e; rw [← e]; exact HI.out.hB) (by have := HI.out.hB; omega)
  have C2 := H2.cs
  obtain ⟨C20, C21, C22, C23, C24, C25, C26, C27, C28, C29, C210, C211, C212, C213, C214, C215⟩ := C2
  have BW := Lib.hid (below_drewW v2)
  have L15 := fun (W : World) (hW : Below v2.heap.size v2 W) => (hW.cell (p := ⟨b, 15, none⟩) (by show b < _; omega)).trans C215
  have LP := fun (W : World) (hW : Below v2.heap.size v2 W) => (hW.cell (p := ⟨w.heap.size, 0, none⟩) (by show w.heap.size < _; omega)).trans (show v2.cell? ⟨w.heap.size, 0, none⟩ = some (.int .i64 10) by rw [Lib.cell_of_heap x2]; rfl)
  have LM := fun (W : World) (hW : Below v2.heap.size v2 W) => (M2.out.below hW M2.out.lt).get (q := 2) (by decide)
  simp only [pcQ, faQ, ftQ] at LM
  have HK := Lib.hid (And.intro H2 (And.intro O2 (And.intro B1 (And.intro b2 (And.intro x2 y2)))))
  clear C20 C21 C22 C23 C24 C25 C26 C27 C28 C29 C210 C211 C212 C213 C214 C215 H1 g1 hne M1 O1 O2 B1 b2 x2 y2 H2
  have HS2 := Lib.hid s2
  clear s2
  have hsf : ∀ (a : Addr) (k : Nat) (W : World), (store a (fnB k b)).run Try.prog W = stored Try.prog W a (fnB k b) .plain := fun a k W => run_store _ W a _ _ rfl
  refine region_calm_to (fun W => Below v2.heap.size v2 W) (fun (a0 a9 : Act) (w9 : World) => a9 = ((((((((((((a0.put (some 16) (.pointer (some ⟨b, 0, none⟩))).put (some 17) (.pointer (some ⟨b, 0, none⟩))).put (some 18) (.pointer (some ⟨b, 15, none⟩))).put (some 19) (.map (some g))).put (some 20) (.pointer (some ⟨w.heap.size, 0, none⟩))).put (some 21) (.int .i64 10)).put (some 22) (.tuple #[deedB 96 97 b, .bool true])).put (some 15) (.tuple #[deedB 96 97 b, .bool true])).put (some 23) (deedB 96 97 b)).put (some 24) (.bool true)).put (some 6) (.pointer (some ⟨v2.heap.size, 0, none⟩))).put (some 7) (.bool true)) ∧ w9.heap[v2.heap.size]? = some (.cells #[fnB 96 b, fnB 97 b] 127 (0, 0)) ∧ Below v2.heap.size v2 w9)
    (.calm 0 (.calm 1 (.calm 2 (.calm 3 (.calm 4 (.calm 5 (.calm 6 (.calm 7 (.calm 8 (.calm 9 (.only 10 (.only 11 (.only 12 .done))))))))))))) (by kernel_rfl) (by kernel_rfl) (by kernel_rfl) (by rfl) (below_drewW _) ?_ ?_
  · skip
    refine ⟨_, _, .pointer (some ⟨b, 0, none⟩), rfl, rfl, ⟨rfl, fun W hW => by first | exact ⟨rfl, rfl⟩ | (simp only [Act.eval, execOp]; go_simp; try exact ⟨rfl, rfl⟩)⟩, ?_⟩
    simp only [Act.put, List.getElem_toArray, List.getElem_cons_zero, List.getElem_cons_succ, List.setIfInBounds_toArray, List.set_cons_succ, List.set_cons_zero]
    refine ⟨_, _, .pointer (some ⟨b, 0, none⟩), rfl, rfl, ⟨rfl, fun W hW => by first | exact ⟨rfl, rfl⟩ | (simp only [Act.eval, execOp]; go_simp; try exact ⟨rfl, rfl⟩)⟩, ?_⟩
    simp only [Act.put, List.getElem_toArray, List.getElem_cons_zero, List.getElem_cons_succ, List.setIfInBounds_toArray, List.set_cons_succ, List.set_cons_zero]
    refine ⟨_, _, .pointer (some ⟨b, 15, none⟩), rfl, rfl, ⟨rfl, fun W hW => by first | exact ⟨rfl, rfl⟩ | (simp only [Act.eval, execOp]; go_simp; try exact ⟨rfl, rfl⟩)⟩, ?_⟩
    simp only [Act.put, List.getElem_toArray, List.getElem_cons_zero, List.getElem_cons_succ, List.setIfInBounds_toArray, List.set_cons_succ, List.set_cons_zero]
    refine ⟨_, _, .map (some g), rfl, rfl, ⟨rfl, fun W hW => by first | exact ⟨rfl, rfl⟩ | (have l := L15 W hW; simp only [Act.eval, execOp]; go_simp; try exact ⟨rfl, rfl⟩)⟩, ?_⟩
    simp only [Act.put, List.getElem_toArray, List.getElem_cons_zero, List.getElem_cons_succ, List.setIfInBounds_toArray, List.set_cons_succ, List.set_cons_zero]
    refine ⟨_, _, .pointer (some ⟨w.heap.size, 0, none⟩), rfl, rfl, ⟨rfl, fun W hW => by first | exact ⟨rfl, rfl⟩ | (simp only [Act.eval, execOp]; go_simp; try exact ⟨rfl, rfl⟩)⟩, ?_⟩
    simp only [Act.put, List.getElem_toArray, List.getElem_cons_zero, List.getElem_cons_succ, List.setIfInBounds_toArray, List.set_cons_succ, List.set_cons_zero]
    refine ⟨_, _, .int .i64 10, rfl, rfl, ⟨rfl, fun W hW => by first | exact ⟨rfl, rfl⟩ | (have l := LP W hW; simp only [Act.eval, execOp]; go_simp; try exact ⟨rfl, rfl⟩)⟩, ?_⟩
    simp only [Act.put, List.getElem_toArray, List.getElem_cons_zero, List.getElem_cons_succ, List.setIfInBounds_toArray, List.set_cons_succ, List.set_cons_zero]
    refine ⟨_, _, .tuple #[deedB 96 97 b, .bool true], rfl, rfl, ⟨rfl, fun W hW => by first | exact ⟨rfl, rfl⟩ | (have l := LM W hW; simp only [Act.eval, execOp]; go_simp; try exact ⟨rfl, rfl⟩)⟩, ?_⟩
    simp only [Act.put, List.getElem_toArray, List.getElem_cons_zero, List.getElem_cons_succ, List.setIfInBounds_toArray, List.set_cons_succ, List.set_cons_zero]
    refine ⟨_, _, .tuple #[deedB 96 97 b, .bool true], rfl, rfl, ⟨rfl, fun W hW => by first | exact ⟨rfl, rfl⟩ | (simp only [Act.eval, execOp]; go_simp; try exact ⟨rfl, rfl⟩)⟩, ?_⟩
    simp only [Act.put, List.getElem_toArray, List.getElem_cons_zero, List.getElem_cons_succ, List.setIfInBounds_toArray, List.set_cons_succ, List.set_cons_zero]
    refine ⟨_, _, deedB 96 97 b, rfl, rfl, ⟨rfl, fun W hW => by first | exact ⟨rfl, rfl⟩ | (simp only [Act.eval, execOp]; go_simp; try exact ⟨rfl, rfl⟩)⟩, ?_⟩
    simp only [Act.put, List.getElem_toArray, List.getElem_cons_zero, List.getElem_cons_succ, List.setIfInBounds_toArray, List.set_cons_succ, List.set_cons_zero]
    refine ⟨_, _, .bool true, rfl, rfl, ⟨rfl, fun W hW => by first | exact ⟨rfl, rfl⟩ | (simp only [Act.eval, execOp]; go_simp; try exact ⟨rfl, rfl⟩)⟩, ?_⟩
    simp only [Act.put, List.getElem_toArray, List.getElem_cons_zero, List.getElem_cons_succ, List.setIfInBounds_toArray, List.set_cons_succ, List.set_cons_zero]
    have hsz : v2.drew.heap.size = v2.heap.size := rfl
    have hb0 := BW.out
    generalize v2.drew = x0 at *
    refine ⟨_, rfl, ?_⟩
    go_wp2_with fail
    have hb1 := hb0.alloc (o := .cells #[.nilFunc, .nilFunc] 127) (by rw [hsz]; exact Nat.le_refl _)
    refine ⟨rfl, hb1, ?_⟩
    refine ⟨_, rfl, ?_⟩
    go_wp2_with fail
    have hb2 := hb0.alloc (o := .cells #[fnB 96 b, fnB 97 b] 127) (by rw [hsz]; exact Nat.le_refl _)
    refine ⟨rfl, hb2, ?_⟩
    refine ⟨_, rfl, ?_⟩
    go_wp2_with fail
    have hdr := heap_alloc_new x0 (.cells #[fnB 96 b, fnB 97 b] 127)
    rw [hsz] at hdr
    exact ⟨rfl, hb2, rfl, hdr, hb2⟩
  · rintro a' w5 ⟨rfl, hd5, hb5⟩
    simp only [Act.put, List.setIfInBounds_toArray, List.set_cons_succ, List.set_cons_zero]
    obtain ⟨H2, O2, B1, b2, x2, y2⟩ := HK.out
    have H5 := Lib.hid (H2.below hb5 H2.lt)
    clear LM LP L15 hsf
    go_wp2_with fail
    refine (hma.out.2 _ H5.out).mono ?_
    rintro e w6 ⟨rfl, H6, hb6⟩
    clear hma
    go_wp2_with fail
    have l2 := lt_heap6' hd5
    have d6 := (hb6.block _ l2).trans hd5
    have H6' := Lib.hid H6
    have k14 := Qt.cell_in H6.cs.c14
    have kd0 := Qt.cell_in (show w6.cell? ⟨v2.heap.size, 0, none⟩ = some (fnB 96 b) by rw [Lib.cell_of_heap d6]; rfl)
    have hac6 : ∀ W, Below w6.heap.size w6 W → Calls Try.prog 96 #[.pointer (some ⟨b, 0, none⟩)] W fun e w' => e = .returned (acV y) ∧ Below W.heap.size W w' := fun W hW => hac.out.2 W (H6'.out.below hW H6'.out.lt)
    have O6 := own_next (own_next O2 hb5) hb6
    have HX := Lib.hid (And.intro x2 (And.intro y2 (And.intro b2 (And.intro B1 (And.intro hb5 (And.intro hb6 (And.intro d6 O6)))))))
    clear O2 b2 x2 y2 B1 H2 H6 d6 hb5 hb6 hd5 H5 O6
    refine Qt.region_call 7 (by kernel_rfl) (by kernel_rfl) rfl rfl Try.func61 (by kernel_rfl) (by kernel_rfl) rfl ?_
    simp only [List.take_succ_cons, List.take_zero, List.drop_succ_cons, List.drop_zero]
    iterate 7 (go_big_quiet_step (first | (go_at_call 96; exact Qt.at_call' hac6)))
    refine wpQuiet_nil ?_
    intro w7 hb7
    clear hac6 k14 kd0
    obtain ⟨x2, y2, b2, B1, hb5, hb6, d6, O6⟩ := HX.out
    have O7 := own_next O6 hb7
    have hB7 : B ≤ w7.heap.size := by have := HI.out.hB; have := b2.size; have := hb5.size; have := hb6.size; have := hb7.size; have := HS2.out; omega
    have hdo := wdo_any y m A c w7 hfi.out (fun x hx => (HI.out.wd x hx).i64) hB7 O7 (by have := HI.out.len; omega)
    rw [← hd0.out] at hdo
    clear x2 y2 b2 B1 hb5 hb6 d6 O6 hB7
    simp only [List.map_toArray, List.map_cons, List.map_nil]
    show Calls Try.prog _ #[.slice A m.length c, acV y] w7 _
    refine hdo.mono ?_
    rintro e w8 ⟨rfl, O8, g8⟩
    clear hdo
    refine ⟨_, rfl, ?_⟩
    simp only [Act.put, List.setIfInBounds_toArray, List.set_cons_succ, List.set_cons_zero]
    repeat (go_big_quiet_step (fail))
    refine wpQuiet_nil ?_
    intro w9 hb9
    obtain ⟨x2, y2, b2, B1, hb5, hb6, d6, O6⟩ := HX.out
    have hw2 := HS2.out
    have s5 := hb5.size
    have s6 := hb6.size
    have s7 := hb7.size
    have s8 := g8.size
    have hown : ∀ k, (Value.slice A m.length c).ownBlock = some k → k < w.heap.size := fun k e => (World.ownsRow.lt HI.out.own k e).2
    have far : ∀ k o, w6.heap[k]? = some o → w.heap.size ≤ k → w9.heap[k]? = some o := fun k o h hk => by
      have l := lt_heap6' h
      exact (hb9.block _ (by omega)).trans ((g8.block k (by omega) (fun e => by have := hown k e.symm; omega)).trans ((hb7.block _ l).trans h))
    have y9 := far _ _ ((hb6.block _ (by omega)).trans ((hb5.block _ (by omega)).trans y2)) (by omega)
    have d9 := far _ _ d6 (by omega)
    have H7 := H6'.out.below hb7 H6'.out.lt
    have H8 := hat_grown H7 g8 (fun e => own_hand H7 O7 e.symm)
    have H9 := Lib.hid (H8.below hb9 H8.lt)
    have M6 := (M2.out.below hb5 M2.out.lt).below hb6 (by have := M2.out.lt; omega)
    have M7 := M6.below hb7 M6.lt
    have M8 := map_grown M7 g8 (own_map M7 O7)
    have M9 := Lib.hid (M8.below hb9 M8.lt)
    have O9 := Lib.hid (own_next O8 hb9)
    have hBw : B ≤ w.heap.size := by have := HI.out.hB; omega
    have b6 := (b2.trans (hb5.mono (by omega))).trans (hb6.mono (by omega))
    have b7 := b6.trans (hb7.mono (by omega))
    have bb7 : Below B w w7 := B1.trans ((z1 ▸ b7 : Below w.heap.size w1 w7).mono hBw)
    have BB9 := Lib.hid ((below_grown bb7 g8 (own_ge O7) (by omega)).trans (hb9.mono (by omega)))
    have HY := Lib.hid (And.intro y9 d9)
    clear x2 y2 b2 B1 hb5 hb6 d6 O6 s5 s6 s7 s8 hown far H7 H8 M6 M7 M8 b6 b7 bb7 hb7 hb9 g8 O7 O8 hw2
    have he1 : (d.2.2.2 != 0) = false := by rw [hOK.out]; rfl
    have hth9 := hth.out.2 w9 H9.out d.2.1 d.2.2.1 hDW.out.2
    rw [← hU1.out] at hth9
    have a1 : w9.cell? ⟨v2.heap.size, 1, none⟩ = some (fnB 97 b) := by rw [Lib.cell_of_heap d9]; rfl
    clear y9 d9
    go_wp2_with fail
    refine hth9.mono ?_
    rintro e w10 ⟨rfl, H10⟩
    clear hth9 hth a1
    have y10 := (H10.gr.block (w.heap.size + 1) (lt_heap6' HY.out.1) (fun e => by injection e with e; omega)).trans HY.out.1
    have HZ := Lib.hid (And.intro y10 H10)
    have hsz10 : Hid (w.heap.size + 2 ≤ w10.heap.size) := by have := lt_heap6' y10; show _ ≤ _; omega
    obtain ⟨c0, c1, c2, c3, c4, c5, c6, c7, c8, c9, c10, c11, -, -, -, -⟩ := H10.hat.cs
    have o0 : w10.cell? ⟨w.heap.size + 1, 0, none⟩ = some (.int .i64 0) := by rw [Lib.cell_of_heap y10]; rfl
    have o1 : w10.cell? ⟨w.heap.size + 1, 1, none⟩ = some (.int .i64 0) := by rw [Lib.cell_of_heap y10]; rfl
    have o2 : w10.cell? ⟨w.heap.size + 1, 2, none⟩ = some (.int .i64 0) := by rw [Lib.cell_of_heap y10]; rfl
    have o3 : w10.cell? ⟨w.heap.size + 1, 3, none⟩ = some (.int .i64 0) := by rw [Lib.cell_of_heap y10]; rfl
    have o4 : w10.cell? ⟨w.heap.size + 1, 4, none⟩ = some (.int .i64 0) := by rw [Lib.cell_of_heap y10]; rfl
    have o5 : w10.cell? ⟨w.heap.size + 1, 5, none⟩ = some (.int .i64 0) := by rw [Lib.cell_of_heap y10]; rfl
    have o6 : w10.cell? ⟨w.heap.size + 1, 6, none⟩ = some (.int .i64 0) := by rw [Lib.cell_of_heap y10]; rfl
    have o7 : w10.cell? ⟨w.heap.size + 1, 7, none⟩ = some (.int .i64 0) := by rw [Lib.cell_of_heap y10]; rfl
    have o8 : w10.cell? ⟨w.heap.size + 1, 8, none⟩ = some (.int .i64 0) := by rw [Lib.cell_of_heap y10]; rfl
    have o9 : w10.cell? ⟨w.heap.size + 1, 9, none⟩ = some (.int .i64 0) := by rw [Lib.cell_of_heap y10]; rfl
    have o10 : w10.cell? ⟨w.heap.size + 1, 10, none⟩ = some (.bool false) := by rw [Lib.cell_of_heap y10]; rfl
    have o11 : w10.cell? ⟨w.heap.size + 1, 11, none⟩ = some (.int .i64 0) := by rw [Lib.cell_of_heap y10]; rfl
    have fz : ∀ j, w10.frozen? ⟨w.heap.size + 1, j, none⟩ = false := fun j => Lib.frozen_of_heap y10 j
    clear y10 H10
    go_wp2_with fail
    clear c0 c1 c2 c3 c4 c5 c6 c7 c8 c9 c10 c11 fz o0 o1 o2 o3 o4 o5 o6 o7 o8 o9 o10 o11
    obtain ⟨y10, H10⟩ := HZ.out
    obtain ⟨w11, hw11, h11, g11⟩ := set12o w10 (w.heap.size + 1) zeroW8 u1 y10
    try rw [hw11]
    refine bodyPost_ret (results_cellT rfl _ _ (w.heap.size + 1) _ _ _ _ rfl h11 Try.underlying39 rfl (by kernel_rfl)) rfl ?_
    have hne := map_hand HI.out.hat HI.out.map
    have hown : ∀ k, (Value.slice A m.length c).ownBlock = some k → k < w.heap.size := fun k e => (World.ownsRow.lt HI.out.own k e).2
    have M10 := map_grown M9.out H10.gr (by simpa using hne)
    have O10 : Own w10 B (.slice A m.length c) d.1 := O9.out.kept H10.gr (.inr (own_hand H9.out O9.out))
    have hgl : g < w.heap.size := HI.out.map.lt
    have hBw : B ≤ w.heap.size := by have := HI.out.hB; omega
    have l9 := lt_heap6' HY.out.1
    have hz10 := hsz10.out
    have hBb := HI.out.hB
    refine ⟨rfl, hat_grown H10.hat g11 (fun e => by injection e with e; omega), map_grown M10 g11 (fun e => by injection e with e; omega), O10.kept g11 (.inr (fun e => by have := hown _ e; omega)), ?_⟩
    exact below_grown (below_grown BB9.out H10.gr (fun k e => by injection e with e; omega) (by omega)) g11 (fun k e => by injection e with e; omega) (by omega)
set_option maxHeartbeats 16000000 in
theorem hStep3 {w : World} {B b g : Nat} {u0 u : W8} {S N : Int} {m : List Int} {A : Option Addr} {c : Nat} (h : StepIn w B b g u0 u S N m A c) (hpc : u.pc = 11) :
    Calls Try.prog 67 #[.pointer (some ⟨b, 0, none⟩), w8V u] w (Step8R B b g S N (.slice A m.length c) (doA m (accP S N u)).1 (behP S u (doA m (accP S N u)).2.1 (doA m (accP S N u)).2.2.1) w) := by
  have HI := Lib.hid h
  have hac := Lib.hid (And.intro trivial fun (W : World) (hv : HaAt W b u S N (.slice A m.length c) (.map (some g))) => acc_all8 3 (by decide) hv h.tab h.fit h.may h.okP hpc)
  have hth := Lib.hid (And.intro trivial fun (W : World) (hv : HaAt W b u S N (.slice A m.length c) (.map (some g))) (x : Int) (d : Bool) (hx : WdI x) => then_all8 3 (by decide) hv x d hx h.tab h.fit h.may hpc)
  have hma := Lib.hid (And.intro trivial fun (W : World) (hv : HaAt W b u S N (.slice A m.length c) (.map (some g))) => hMay_any hv h.fit h.may)
  have hfi := Lib.hid (accP_fine h.tab h.fit h.may)
  have hOK := Lib.hid h.ok
  obtain ⟨y, hy⟩ : ∃ y, y = accP S N u := ⟨_, rfl⟩
  rw [← hy] at hac hfi hOK ⊢
  have hDW := Lib.hid (doA_wd y h.wd)
  obtain ⟨d, hd⟩ : ∃ d, d = doA m y := ⟨_, rfl⟩
  rw [← hd] at hOK hDW ⊢
  have hd0 := Lib.hid hd
  obtain ⟨u1, hu1⟩ : ∃ u1, u1 = behP S u d.2.1 d.2.2.1 := ⟨_, rfl⟩
  rw [← hu1]
  have hU1 := Lib.hid hu1
  clear hu1 hd hy
  have hlt := h.hat.lt
  obtain ⟨c0, c1, c2, c3, c4, c5, c6, c7, c8, c9, c10, c11, -, -, -, -⟩ := h.hat.cs
  have fz : ∀ j, w.frozen? ⟨b, j, none⟩ = false := fun j => h.hat.fz j
  clear h
  obtain ⟨pc, job, r0, r1, r2, r3, r4, r5, r6, r7, dn, out⟩ := u
  simp only at hpc
  subst hpc
  obtain ⟨w1, hw1, H1, z1, g1⟩ := set12h w b u0 ⟨11, job, r0, r1, r2, r3, r4, r5, r6, r7, dn, out⟩ S N (.slice A m.length c) (.map (some g)) HI.out.hat
  go_enter Try.func67, Try.ntmps67
  go_wp2_with fail
  try simp only at hw1
  try rw [hw1]
  clear hw1 c0 c1 c2 c3 c4 c5 c6 c7 c8 c9 c10 c11 fz
  obtain ⟨v2, hv2, s2, x2, y2, b2⟩ := two_allocs w1 (.cells (w8A ⟨11, job, r0, r1, r2, r3, r4, r5, r6, r7, dn, out⟩) 39) (.cells (w8A zeroW8) 39)
  try simp only at hv2
  rw [hv2]
  clear hv2
  rw [z1] at s2 x2 y2 b2
  have hne := map_hand HI.out.hat HI.out.map
  have M1 := map_grown HI.out.map g1 (by simpa using hne)
  have M2 := Lib.hid (M1.below b2 (by have := M1.lt; omega))
  have H2 := H1.below b2 hlt
  have O1 : Own w1 B (.slice A m.length c) m := HI.out.own.kept g1 (by first | exact .inr (own_hand HI.out.hat HI.out.own) | skip)
  have O2 := own_next O1 (z1 ▸ b2)
  have B1 : Below B w w1 := below_grown (Below.refl B w) g1 (fun k e => by injection e with e; rw [← e]; exact HI.out.hB) (by have := HI.out.hB; omega)
  have C2 := H2.cs
  obtain ⟨C20, C21, C22, C23, C24, C25, C26, C27, C28, C29, C210, C211, C212, C213, C214, C215⟩ := C2
  have BW := Lib.hid (below_drewW v2)
  have L15 := fun (W : World) (hW : Below v2.heap.size v2 W) => (hW.cell (p := ⟨b, 15, none⟩) (by show b < _; omega)).trans C215
  have LP := fun (W : World) (hW : Below v2.heap.size v2 W) => (hW.cell (p := ⟨w.heap.size, 0, none⟩) (by show w.heap.size < _; omega)).trans (show v2.cell? ⟨w.heap.size, 0, none⟩ = some (.int .i64 11) by rw [Lib.cell_of_heap x2]; rfl)
  have LM := fun (W : World) (hW : Below v2.heap.size v2 W) => (M2.out.below hW M2.out.lt).get (q := 3) (by decide)
  simp only [pcQ, faQ, ftQ] at LM
  have HK := Lib.hid (And.intro H2 (And.intro O2 (And.intro B1 (And.intro b2 (And.intro x2 y2)))))
  clear C20 C21 C22 C23 C24 C25 C26 C27 C28 C29 C210 C211 C212 C213 C214 C215 H1 g1 hne M1 O1 O2 B1 b2 x2 y2 H2
  have HS2 := Lib.hid s2
  clear s2
  have hsf : ∀ (a : Addr) (k : Nat) (W : World), (store a (fnB k b)).run Try.prog W = stored Try.prog W a (fnB k b) .plain := fun a k W => run_store _ W a _ _ rfl
  refine region_calm_to (fun W => Below v2.heap.size v2 W) (fun (a0 a9 : Act) (w9 : World) => a9 = ((((((((((((a0.put (some 16) (.pointer (some ⟨b, 0, none⟩))).put (some 17) (.pointer (some ⟨b, 0, none⟩))).put (some 18) (.pointer (some ⟨b, 15, none⟩))).put (some 19) (.map (some g))).put (some 20) (.pointer (some ⟨w.heap.size, 0, none⟩))).put (some 21) (.int .i64 11)).put (some 22) (.tuple #[deedB 98 99 b, .bool true])).put (some 15) (.tuple #[deedB 98 99 b, .bool true])).put (some 23) (deedB 98 99 b)).put (some 24) (.bool true)).put (some 6) (.pointer (some ⟨v2.heap.size, 0, none⟩))).put (some 7) (.bool true)) ∧ w9.heap[v2.heap.size]? = some (.cells #[fnB 98 b, fnB 99 b] 127 (0, 0)) ∧ Below v2.heap.size v2 w9)
    (.calm 0 (.calm 1 (.calm 2 (.calm 3 (.calm 4 (.calm 5 (.calm 6 (.calm 7 (.calm 8 (.calm 9 (.only 10 (.only 11 (.only 12 .done))))))))))))) (by kernel_rfl) (by kernel_rfl) (by kernel_rfl) (by rfl) (below_drewW _) ?_ ?_
  · skip
    refine ⟨_, _, .pointer (some ⟨b, 0, none⟩), rfl, rfl, ⟨rfl, fun W hW => by first | exact ⟨rfl, rfl⟩ | (simp only [Act.eval, execOp]; go_simp; try exact ⟨rfl, rfl⟩)⟩, ?_⟩
    simp only [Act.put, List.getElem_toArray, List.getElem_cons_zero, List.getElem_cons_succ, List.setIfInBounds_toArray, List.set_cons_succ, List.set_cons_zero]
    refine ⟨_, _, .pointer (some ⟨b, 0, none⟩), rfl, rfl, ⟨rfl, fun W hW => by first | exact ⟨rfl, rfl⟩ | (simp only [Act.eval, execOp]; go_simp; try exact ⟨rfl, rfl⟩)⟩, ?_⟩
    simp only [Act.put, List.getElem_toArray, List.getElem_cons_zero, List.getElem_cons_succ, List.setIfInBounds_toArray, List.set_cons_succ, List.set_cons_zero]
    refine ⟨_, _, .pointer (some ⟨b, 15, none⟩), rfl, rfl, ⟨rfl, fun W hW => by first | exact ⟨rfl, rfl⟩ | (simp only [Act.eval, execOp]; go_simp; try exact ⟨rfl, rfl⟩)⟩, ?_⟩
    simp only [Act.put, List.getElem_toArray, List.getElem_cons_zero, List.getElem_cons_succ, List.setIfInBounds_toArray, List.set_cons_succ, List.set_cons_zero]
    refine ⟨_, _, .map (some g), rfl, rfl, ⟨rfl, fun W hW => by first | exact ⟨rfl, rfl⟩ | (have l := L15 W hW; simp only [Act.eval, execOp]; go_simp; try exact ⟨rfl, rfl⟩)⟩, ?_⟩
    simp only [Act.put, List.getElem_toArray, List.getElem_cons_zero, List.getElem_cons_succ, List.setIfInBounds_toArray, List.set_cons_succ, List.set_cons_zero]
    refine ⟨_, _, .pointer (some ⟨w.heap.size, 0, none⟩), rfl, rfl, ⟨rfl, fun W hW => by first | exact ⟨rfl, rfl⟩ | (simp only [Act.eval, execOp]; go_simp; try exact ⟨rfl, rfl⟩)⟩, ?_⟩
    simp only [Act.put, List.getElem_toArray, List.getElem_cons_zero, List.getElem_cons_succ, List.setIfInBounds_toArray, List.set_cons_succ, List.set_cons_zero]
    refine ⟨_, _, .int .i64 11, rfl, rfl, ⟨rfl, fun W hW => by first | exact ⟨rfl, rfl⟩ | (have l := LP W hW; simp only [Act.eval, execOp]; go_simp; try exact ⟨rfl, rfl⟩)⟩, ?_⟩
    simp only [Act.put, List.getElem_toArray, List.getElem_cons_zero, List.getElem_cons_succ, List.setIfInBounds_toArray, List.set_cons_succ, List.set_cons_zero]
    refine ⟨_, _, .tuple #[deedB 98 99 b, .bool true], rfl, rfl, ⟨rfl, fun W hW => by first | exact ⟨rfl, rfl⟩ | (have l := LM W hW; simp only [Act.eval, execOp]; go_simp; try exact ⟨rfl, rfl⟩)⟩, ?_⟩
    simp only [Act.put, List.getElem_toArray, List.getElem_cons_zero, List.getElem_cons_succ, List.setIfInBounds_toArray, List.set_cons_succ, List.set_cons_zero]
    refine ⟨_, _, .tuple #[deedB 98 99 b, .bool true], rfl, rfl, ⟨rfl, fun W hW => by first | exact ⟨rfl, rfl⟩ | (simp only [Act.eval, execOp]; go_simp; try exact ⟨rfl, rfl⟩)⟩, ?_⟩
    simp only [Act.put, List.getElem_toArray, List.getElem_cons_zero, List.getElem_cons_succ, List.setIfInBounds_toArray, List.set_cons_succ, List.set_cons_zero]
    refine ⟨_, _, deedB 98 99 b, rfl, rfl, ⟨rfl, fun W hW => by first | exact ⟨rfl, rfl⟩ | (simp only [Act.eval, execOp]; go_simp; try exact ⟨rfl, rfl⟩)⟩, ?_⟩
    simp only [Act.put, List.getElem_toArray, List.getElem_cons_zero, List.getElem_cons_succ, List.setIfInBounds_toArray, List.set_cons_succ, List.set_cons_zero]
    refine ⟨_, _, .bool true, rfl, rfl, ⟨rfl, fun W hW => by first | exact ⟨rfl, rfl⟩ | (simp only [Act.eval, execOp]; go_simp; try exact ⟨rfl, rfl⟩)⟩, ?_⟩
    simp only [Act.put, List.getElem_toArray, List.getElem_cons_zero, List.getElem_cons_succ, List.setIfInBounds_toArray, List.set_cons_succ, List.set_cons_zero]
    have hsz : v2.drew.heap.size = v2.heap.size := rfl
    have hb0 := BW.out
    generalize v2.drew = x0 at *
    refine ⟨_, rfl, ?_⟩
    go_wp2_with fail
    have hb1 := hb0.alloc (o := .cells #[.nilFunc, .nilFunc] 127) (by rw [hsz]; exact Nat.le_refl _)
    refine ⟨rfl, hb1, ?_⟩
    refine ⟨_, rfl, ?_⟩
    go_wp2_with fail
    have hb2 := hb0.alloc (o := .cells #[fnB 98 b, fnB 99 b] 127) (by rw [hsz]; exact Nat.le_refl _)
    refine ⟨rfl, hb2, ?_⟩
    refine ⟨_, rfl, ?_⟩
    go_wp2_with fail
    have hdr := heap_alloc_new x0 (.cells #[fnB 98 b, fnB 99 b] 127)
    rw [hsz] at hdr
    exact ⟨rfl, hb2, rfl, hdr, hb2⟩
  · rintro a' w5 ⟨rfl, hd5, hb5⟩
    simp only [Act.put, List.setIfInBounds_toArray, List.set_cons_succ, List.set_cons_zero]
    obtain ⟨H2, O2, B1, b2, x2, y2⟩ := HK.out
    have H5 := Lib.hid (H2.below hb5 H2.lt)
    clear LM LP L15 hsf
    go_wp2_with fail
    refine (hma.out.2 _ H5.out).mono ?_
    rintro e w6 ⟨rfl, H6, hb6⟩
    clear hma
    go_wp2_with fail
    have l2 := lt_heap6' hd5
    have d6 := (hb6.block _ l2).trans hd5
    have H6' := Lib.hid H6
    have k14 := Qt.cell_in H6.cs.c14
    have kd0 := Qt.cell_in (show w6.cell? ⟨v2.heap.size, 0, none⟩ = some (fnB 98 b) by rw [Lib.cell_of_heap d6]; rfl)
    have hac6 : ∀ W, Below w6.heap.size w6 W → Calls Try.prog 98 #[.pointer (some ⟨b, 0, none⟩)] W fun e w' => e = .returned (acV y) ∧ Below W.heap.size W w' := fun W hW => hac.out.2 W (H6'.out.below hW H6'.out.lt)
    have O6 := own_next (own_next O2 hb5) hb6
    have HX := Lib.hid (And.intro x2 (And.intro y2 (And.intro b2 (And.intro B1 (And.intro hb5 (And.intro hb6 (And.intro d6 O6)))))))
    clear O2 b2 x2 y2 B1 H2 H6 d6 hb5 hb6 hd5 H5 O6
    refine Qt.region_call 7 (by kernel_rfl) (by kernel_rfl) rfl rfl Try.func61 (by kernel_rfl) (by kernel_rfl) rfl ?_
    simp only [List.take_succ_cons, List.take_zero, List.drop_succ_cons, List.drop_zero]
    iterate 7 (go_big_quiet_step (first | (go_at_call 98; exact Qt.at_call' hac6)))
    refine wpQuiet_nil ?_
    intro w7 hb7
    clear hac6 k14 kd0
    obtain ⟨x2, y2, b2, B1, hb5, hb6, d6, O6⟩ := HX.out
    have O7 := own_next O6 hb7
    have hB7 : B ≤ w7.heap.size := by have := HI.out.hB; have := b2.size; have := hb5.size; have := hb6.size; have := hb7.size; have := HS2.out; omega
    have hdo := wdo_any y m A c w7 hfi.out (fun x hx => (HI.out.wd x hx).i64) hB7 O7 (by have := HI.out.len; omega)
    rw [← hd0.out] at hdo
    clear x2 y2 b2 B1 hb5 hb6 d6 O6 hB7
    simp only [List.map_toArray, List.map_cons, List.map_nil]
    show Calls Try.prog _ #[.slice A m.length c, acV y] w7 _
    refine hdo.mono ?_
    rintro e w8 ⟨rfl, O8, g8⟩
    clear hdo
    refine ⟨_, rfl, ?_⟩
    simp only [Act.put, List.setIfInBounds_toArray, List.set_cons_succ, List.set_cons_zero]
    repeat (go_big_quiet_step (fail))
    refine wpQuiet_nil ?_
    intro w9 hb9
    obtain ⟨x2, y2, b2, B1, hb5, hb6, d6, O6⟩ := HX.out
    have hw2 := HS2.out
    have s5 := hb5.size
    have s6 := hb6.size
    have s7 := hb7.size
    have s8 := g8.size
    have hown : ∀ k, (Value.slice A m.length c).ownBlock = some k → k < w.heap.size := fun k e => (World.ownsRow.lt HI.out.own k e).2
    have far : ∀ k o, w6.heap[k]? = some o → w.heap.size ≤ k → w9.heap[k]? = some o := fun k o h hk => by
      have l := lt_heap6' h
      exact (hb9.block _ (by omega)).trans ((g8.block k (by omega) (fun e => by have := hown k e.symm; omega)).trans ((hb7.block _ l).trans h))
    have y9 := far _ _ ((hb6.block _ (by omega)).trans ((hb5.block _ (by omega)).trans y2)) (by omega)
    have d9 := far _ _ d6 (by omega)
    have H7 := H6'.out.below hb7 H6'.out.lt
    have H8 := hat_grown H7 g8 (fun e => own_hand H7 O7 e.symm)
    have H9 := Lib.hid (H8.below hb9 H8.lt)
    have M6 := (M2.out.below hb5 M2.out.lt).below hb6 (by have := M2.out.lt; omega)
    have M7 := M6.below hb7 M6.lt
    have M8 := map_grown M7 g8 (own_map M7 O7)
    have M9 := Lib.hid (M8.below hb9 M8.lt)
    have O9 := Lib.hid (own_next O8 hb9)
    have hBw : B ≤ w.heap.size := by have := HI.out.hB; omega
    have b6 := (b2.trans (hb5.mono (by omega))).trans (hb6.mono (by omega))
    have b7 := b6.trans (hb7.mono (by omega))
    have bb7 : Below B w w7 := B1.trans ((z1 ▸ b7 : Below w.heap.size w1 w7).mono hBw)
    have BB9 := Lib.hid ((below_grown bb7 g8 (own_ge O7) (by omega)).trans (hb9.mono (by omega)))
    have HY := Lib.hid (And.intro y9 d9)
    clear x2 y2 b2 B1 hb5 hb6 d6 O6 s5 s6 s7 s8 hown far H7 H8 M6 M7 M8 b6 b7 bb7 hb7 hb9 g8 O7 O8 hw2
    have he1 : (d.2.2.2 != 0) = false := by rw [hOK.out]; rfl
    have hth9 := hth.out.2 w9 H9.out d.2.1 d.2.2.1 hDW.out.2
    rw [← hU1.out] at hth9
    have a1 : w9.cell? ⟨v2.heap.size, 1, none⟩ = some (fnB 99 b) := by rw [Lib.cell_of_heap d9]; rfl
    clear y9 d9
    go_wp2_with fail
    refine hth9.mono ?_
    rintro e w10 ⟨rfl, H10⟩
    clear hth9 hth a1
    have y10 := (H10.gr.block (w.heap.size + 1) (lt_heap6' HY.out.1) (fun e => by injection e with e; omega)).trans HY.out.1
    have HZ := Lib.hid (And.intro y10 H10)
    have hsz10 : Hid (w.heap.size + 2 ≤ w10.heap.size) := by have := lt_heap6' y10; show _ ≤ _; omega
    obtain ⟨c0, c1, c2, c3, c4, c5, c6, c7, c8, c9, c10, c11, -, -, -, -⟩ := H10.hat.cs
    have o0 : w10.cell? ⟨w.heap.size + 1, 0, none⟩ = some (.int .i64 0) := by rw [Lib.cell_of_heap y10]; rfl
    have o1 : w10.cell? ⟨w.heap.size + 1, 1, none⟩ = some (.int .i64 0) := by rw [Lib.cell_of_heap y10]; rfl
    have o2 : w10.cell? ⟨w.heap.size + 1, 2, none⟩ = some (.int .i64 0) := by rw [Lib.cell_of_heap y10]; rfl
    have o3 : w10.cell? ⟨w.heap.size + 1, 3, none⟩ = some (.int .i64 0) := by rw [Lib.cell_of_heap y10]; rfl
    have o4 : w10.cell? ⟨w.heap.size + 1, 4, none⟩ = some (.int .i64 0) := by rw [Lib.cell_of_heap y10]; rfl
    have o5 : w10.cell? ⟨w.heap.size + 1, 5, none⟩ = some (.int .i64 0) := by rw [Lib.cell_of_heap y10]; rfl
    have o6 : w10.cell? ⟨w.heap.size + 1, 6, none⟩ = some (.int .i64 0) := by rw [Lib.cell_of_heap y10]; rfl
    have o7 : w10.cell? ⟨w.heap.size + 1, 7, none⟩ = some (.int .i64 0) := by rw [Lib.cell_of_heap y10]; rfl
    have o8 : w10.cell? ⟨w.heap.size + 1, 8, none⟩ = some (.int .i64 0) := by rw [Lib.cell_of_heap y10]; rfl
    have o9 : w10.cell? ⟨w.heap.size + 1, 9, none⟩ = some (.int .i64 0) := by rw [Lib.cell_of_heap y10]; rfl
    have o10 : w10.cell? ⟨w.heap.size + 1, 10, none⟩ = some (.bool false) := by rw [Lib.cell_of_heap y10]; rfl
    have o11 : w10.cell? ⟨w.heap.size + 1, 11, none⟩ = some (.int .i64 0) := by rw [Lib.cell_of_heap y10]; rfl
    have fz : ∀ j, w10.frozen? ⟨w.heap.size + 1, j, none⟩ = false := fun j => Lib.frozen_of_heap y10 j
    clear y10 H10
    go_wp2_with fail
    clear c0 c1 c2 c3 c4 c5 c6 c7 c8 c9 c10 c11 fz o0 o1 o2 o3 o4 o5 o6 o7 o8 o9 o10 o11
    obtain ⟨y10, H10⟩ := HZ.out
    obtain ⟨w11, hw11, h11, g11⟩ := set12o w10 (w.heap.size + 1) zeroW8 u1 y10
    try rw [hw11]
    refine bodyPost_ret (results_cellT rfl _ _ (w.heap.size + 1) _ _ _ _ rfl h11 Try.underlying39 rfl (by kernel_rfl)) rfl ?_
    have hne := map_hand HI.out.hat HI.out.map
    have hown : ∀ k, (Value.slice A m.length c).ownBlock = some k → k < w.heap.size := fun k e => (World.ownsRow.lt HI.out.own k e).2
    have M10 := map_grown M9.out H10.gr (by simpa using hne)
    have O10 : Own w10 B (.slice A m.length c) d.1 := O9.out.kept H10.gr (.inr (own_hand H9.out O9.out))
    have hgl : g < w.heap.size := HI.out.map.lt
    have hBw : B ≤ w.heap.size := by have := HI.out.hB; omega
    have l9 := lt_heap6' HY.out.1
    have hz10 := hsz10.out
    have hBb := HI.out.hB
    refine ⟨rfl, hat_grown H10.hat g11 (fun e => by injection e with e; omega), map_grown M10 g11 (fun e => by injection e with e; omega), O10.kept g11 (.inr (fun e => by have := hown _ e; omega)), ?_⟩
    exact below_grown (below_grown BB9.out H10.gr (fun k e => by injection e with e; omega) (by omega)) g11 (fun k e => by injection e with e; omega) (by omega)
end Go.Proofs.Ytocepdhjkhhpfaa
