/-
  ProbeKids, its walk: any four numbers may be kids.
-/
import Derived.Test.YtocepdhjkhhpfaaB17
import Derived.Test.YtocepdhjkhhpfaaB19
import Derived.LoopN
namespace Go.Proofs.Ytocepdhjkhhpfaa
set_option maxRecDepth 100000
set_option linter.unusedVariables false
set_option linter.unusedSimpArgs false
open Go.RowKit Go.Sort

/-- where there is room, one alone ends with a node, whose kids these are -/
theorem ProbeJ.room {S N c : Nat} {m : List Int} {L : List (Kd × Nat)} {F : List Nat} (h : ProbeJ S N c m L F) (hc : c ≤ 900000) (h1 : L.length < S) (h2 : L.length < N) {k : Kd} (hk : ∀ i, i < 4 → WdI (kdH k i)) :
    ∃ (m2 : List Int) (q : Nat) (v : W8) (n : Nat) (L2 : List (Kd × Nat)) (F2 : List Nat) (c2 : Nat), AloneM S N m (internW k) q m2 v ∧ q ≤ 5 * S + 9 ∧ v.done = true ∧ v.out = (n : Int) ∧ n < N ∧ kdAt S m2 n = k ∧ ProbeJ S N c2 m2 L2 F2 ∧ L2.length ≤ L.length + 1 ∧ c2 ≤ c + 1 := by
  rcases h.run hc hk with ⟨x, hx, h3, -, q, v, hq, ha, hd, ho⟩ | ⟨-, hl, -⟩ | ⟨-, -, -, n, r, i, q, v, hF, hi, hlo, hz, hq, ha, hd, ho, hJ⟩
  · exact ⟨m, q, v, x.2, L, F, c, ha, by omega, hd, ho, h.ti.putLt hx, by rw [h.pi.kids x hx, h3], h, by omega, by omega⟩
  · omega
  · have := cost_nine (m := m) (k := k) hi
    exact ⟨_, q, v, n, _, r, c + 1, ha, by omega, hd, ho, hJ.ti.putLt (x := (k, n)) (by simp), hJ.pi.kids (k, n) (by simp), hJ, by simp, Nat.le_refl _⟩
theorem pick60 (a : Int) : WdI (pickI a 1152921504606846976) := by
  have := pickI_bd a 1152921504606846976 (by decide)
  unfold WdI
  omega
theorem kd14_wd (r : Ac) : ∀ i, i < 4 → WdI (kdH (kd14 1152921504606846976 r) i) := fun i hi => by
  match i, hi with
  | 0, _ => exact pick60 _
  | 1, _ => exact pick60 _
  | 2, _ => exact pick60 _
  | 3, _ => exact pick60 _
def RgK (m : List Int) (m2 : List Int) (U : W8) (V : W8) (q : Nat) (k1 : Int) (k2 : Int) (k3 : Int) (k4 : Int) (Am : Option Addr) (cm : Nat) (w : World) (v3 : World) (a0 a9 : Act) (w9 : World) : Prop := ∃ (A9 : Option Addr) (c9 : Nat) (bb : Nat), a9 = ((((((((((((((a0.put (some 43) (.agg #[.int .i64 7, .int .i64 5])).put (some 44) (.slice Am m.length cm)).put (some 45) (.agg #[.int .i64 k1, .int .i64 k2, .int .i64 k3, .int .i64 k4])).put (some 46) (w8V U)).put (some 47) (.tuple #[.slice A9 m2.length c9, w8V V, .int .i64 q, .bool true])).put (some 42) (.tuple #[.slice A9 m2.length c9, w8V V, .int .i64 q, .bool true])).put (some 48) (.slice A9 m2.length c9)).put (some 49) (w8V V)).put (some 50) (.int .i64 q)).put (some 51) (.bool true)).put (some 10) (.pointer (some ⟨bb, 0, none⟩))).put (some 9) (.slice A9 m2.length c9)).put (some 11) (.int .i64 q)).put (some 12) (.bool true)) ∧ Own w9 w.heap.size (.slice A9 m2.length c9) m2 ∧ w9.heap[bb]? = some (.cells (w8A V) 39 (0, 0)) ∧ v3.heap.size ≤ bb ∧ Below v3.heap.size v3 w9
set_option maxHeartbeats 32000000 in
theorem probeKids_law (A : Option Addr) (raw : List Ac) (c : Nat) (w : World) (hR : NowA w A raw) (hl : raw.length ≤ 9223372036854775807) (hc : raw.length ≤ c) (hw : ∀ j, j < raw.length → Fine4A (raw.getD j deadA)) :
    Calls Try.prog 11 #[.slice A raw.length c] w fun e w' => e = .returned (.bool true) ∧ Below w.heap.size w w' := by
  have HR := Lib.hid hR
  have HW := Lib.hid hw
  have hTS : TabS ((7 : Nat) : Int) ((5 : Nat) : Int) := ⟨by decide, by decide, by decide, by decide⟩
  have hnew : ∀ W, Calls Try.prog 28 #[.agg #[.int .i64 7, .int .i64 5]] W (NumsR (newT 7 5) W) := fun W => pNew_any (S := 7) (N := 5) W hTS
  have haw := awake14_any w
  have hJ0 := probeJ_new (S := 7) (N := 5) (by decide) (by decide) (by decide)
  obtain ⟨M0, hM0⟩ : ∃ M0, M0 = newT 7 5 := ⟨_, rfl⟩
  rw [← hM0] at hnew hJ0
  have HJ0 := Lib.hid hJ0
  have HTS := Lib.hid hTS
  clear hM0 hJ0 hTS hR hw
  go_enter Try.func11, Try.ntmps11
  go_wp2_with fail
  refine haw.mono ?_
  rintro e w1 ⟨rfl, hb1⟩
  clear haw
  go_wp2_with fail
  have hT := heap_alloc_new w1 (.cells #[.int .i64 7, .int .i64 5] 50)
  have h12 := (Below.refl w1.heap.size w1).alloc (Nat.le_refl _) (.cells #[.int .i64 7, .int .i64 5] 50)
  generalize w1.alloc (.cells #[.int .i64 7, .int .i64 5] 50) = w2 at *
  have hnw := hnew w2
  clear hnew
  refine hnw.mono ?_
  rintro e w3 ⟨v0, rfl, hO0, hb3⟩
  clear hnw
  obtain ⟨A0, c0, rfl, -, -⟩ := own_slice hO0
  have hT3 := (hb3.block _ (lt_heap6' hT)).trans hT
  have hB3 := (hb1.trans (h12.mono hb1.size)).trans (hb3.mono (Nat.le_trans hb1.size h12.size))
  have hO3 := own_mono hO0 (Nat.le_trans hb1.size h12.size)
  have hTl : w.heap.size ≤ w1.heap.size := hb1.size
  obtain ⟨tb, htb⟩ : ∃ tb, tb = w1.heap.size := ⟨_, rfl⟩
  rw [← htb] at hT3 hTl ⊢
  have H3 := Lib.hid (And.intro hT3 (And.intro hB3 (And.intro hO3 hTl)))
  clear hT h12 hb1 hO0 hb3 hT3 hB3 hO3 hTl htb
  go_wp2_with fail
  go_loopw [5, 6] (fun v i wr => ∃ (Am : Option Addr) (cm k : Nat) (m : List Int), v = .slice Am m.length cm ∧ i = .int .i64 k ∧ k ≤ 5 ∧ Hid ((∃ (cc : Nat) (L : List (Kd × Nat)) (F : List Nat), ProbeJ 7 5 cc m L F ∧ L.length ≤ k ∧ cc ≤ k) ∧ Own wr w.heap.size (.slice Am m.length cm) m ∧ wr.heap[tb]? = some (.cells #[.int .i64 7, .int .i64 5] 50 (0, 0)) ∧ Below w.heap.size w wr)) (fun _ i _ => 6 - (intOf i).toNat)
  case atStart =>
    obtain ⟨hT3, hB3, hO3, hTl⟩ := H3.out
    exact ⟨A0, c0, 0, M0, rfl, rfl, by omega, (show Hid _ from ⟨⟨0, [], _, HJ0.out, Nat.le_refl _, Nat.le_refl _⟩, hO3, hT3, hB3⟩)⟩
  case round =>
    obtain ⟨Am, cm, ii, m, rfl, rfl, hi5, HH⟩ := hrel
    by_cases hlt : ii < raw.length ∧ ii < 5
    · obtain ⟨hi1, hi2⟩ := hlt
      obtain ⟨⟨cc, L, F, hJ, hL, hcc⟩, hO, hT, hB⟩ := HH.out
      obtain ⟨m2, q, V, nd, L2, F2, cc2, hal, hq, hvd, hvo, hnd, hkd, hJ2, hL2, hc2⟩ := hJ.room (by omega) (by omega) (by omega) (kd14_wd (raw.getD ii deadA))
      have hint := fun W => pIntern_any (kd14 1152921504606846976 (raw.getD ii deadA)) W
      have halo := fun (W : World) (B : Nat) (A : Option Addr) (c : Nat) (hB : B ≤ W.heap.size) (hO : Own W B (.slice A m.length c) m) => alone14_any (most := 60) W HTS.out hJ.len hal hvd (by omega) (by decide) hB hO
      have hkid := fun (W : World) (B : Nat) (A : Option Addr) (c : Nat) (hB : B ≤ W.heap.size) (hO : Own W B (.slice A m2.length c) m2) => pKids_any (n := nd) W HTS.out hJ2.len hnd hB hO
      rw [hkd] at hkid
      obtain ⟨b, off, rfl, hbl, hA4⟩ := HR.out ii hi1
      have hf := HW.out ii hi1
      generalize raw.getD ii deadA = r at *
      obtain ⟨r1, r2, r3, r4⟩ := r
      obtain ⟨f1, f2, f3, f4⟩ := hf
      try simp only at f1 f2 f3 f4
      have p1 := fun W => pick_any r1 1152921504606846976 W f1.1 f1.2 (by decide) (by decide)
      have p2 := fun W => pick_any r2 1152921504606846976 W f2.1 f2.2 (by decide) (by decide)
      have p3 := fun W => pick_any r3 1152921504606846976 W f3.1 f3.2 (by decide) (by decide)
      have p4 := fun W => pick_any r4 1152921504606846976 W f4.1 f4.2 (by decide) (by decide)
      obtain ⟨U, hU⟩ : ∃ U, U = internW (kd14 1152921504606846976 (r1, r2, r3, r4)) := ⟨_, rfl⟩
      rw [← hU] at hint halo
      obtain ⟨k1, hk1⟩ : ∃ k1, k1 = pickI r1 1152921504606846976 := ⟨_, rfl⟩
      obtain ⟨k2, hk2⟩ : ∃ k2, k2 = pickI r2 1152921504606846976 := ⟨_, rfl⟩
      obtain ⟨k3, hk3⟩ : ∃ k3, k3 = pickI r3 1152921504606846976 := ⟨_, rfl⟩
      obtain ⟨k4, hk4⟩ : ∃ k4, k4 = pickI r4 1152921504606846976 := ⟨_, rfl⟩
      have hkk : kd14 1152921504606846976 (r1, r2, r3, r4) = (k1, k2, k3, k4) := by rw [hk1, hk2, hk3, hk4]; rfl
      rw [hkk] at hint hkid
      rw [← hk1] at p1
      rw [← hk2] at p2
      rw [← hk3] at p3
      rw [← hk4] at p4
      replace hint : ∀ W, Calls Try.prog 31 #[.agg #[.int .i64 k1, .int .i64 k2, .int .i64 k3, .int .i64 k4]] W fun e w' => e = .returned (w8V U) ∧ Below W.heap.size W w' := hint
      replace hkid : ∀ (W : World) (B : Nat) (A : Option Addr) (c : Nat), B ≤ W.heap.size → Own W B (.slice A m2.length c) m2 → Calls Try.prog 32 #[.agg #[.int .i64 7, .int .i64 5], .slice A m2.length c, .int .i64 nd] W fun e w' => e = .returned (.tuple #[.agg #[.int .i64 k1, .int .i64 k2, .int .i64 k3, .int .i64 k4], .bool true]) ∧ Below W.heap.size W w' := hkid
      have hal : ∀ (W : World) (B : Nat) (A : Option Addr) (c : Nat), B ≤ W.heap.size → Own W B (.slice A m.length c) m → Calls Try.prog 30 #[.agg #[.int .i64 7, .int .i64 5], .slice A m.length c, w8V U, .int .i64 60] W (AloneR B m2 V q W) := halo
      have hA5 := hA4.below hB hbl
      have hbw : b < wr.heap.size := Nat.lt_of_lt_of_le hbl hB.size
      have a0 : ∀ o, (wr.alloc o).cell? ⟨b, off + ii * 4, none⟩ = some (.int .i64 r1) := fun o => (((Below.refl wr.heap.size wr).alloc (Nat.le_refl _) o).cell (p := ⟨b, off + ii * 4, none⟩) hbw).trans hA5.1
      have a1 : ∀ o, (wr.alloc o).cell? ⟨b, off + ii * 4 + 1, none⟩ = some (.int .i64 r2) := fun o => (((Below.refl wr.heap.size wr).alloc (Nat.le_refl _) o).cell (p := ⟨b, off + ii * 4 + 1, none⟩) hbw).trans hA5.2.1
      have a2 : ∀ o, (wr.alloc o).cell? ⟨b, off + ii * 4 + 2, none⟩ = some (.int .i64 r3) := fun o => (((Below.refl wr.heap.size wr).alloc (Nat.le_refl _) o).cell (p := ⟨b, off + ii * 4 + 2, none⟩) hbw).trans hA5.2.2.1
      have a3 : ∀ o, (wr.alloc o).cell? ⟨b, off + ii * 4 + 3, none⟩ = some (.int .i64 r4) := fun o => (((Below.refl wr.heap.size wr).alloc (Nat.le_refl _) o).cell (p := ⟨b, off + ii * 4 + 3, none⟩) hbw).trans hA5.2.2.2
      have HX := Lib.hid (And.intro hO (And.intro hT (And.intro hB (And.intro hJ2 (And.intro hL2 (And.intro hc2 (And.intro hL (And.intro hcc (And.intro hvo hi2)))))))))
      have hz1 : (ii : Int) < (raw.length : Int) := by omega
      have hz2 : (ii : Int) < 5 := by omega
      clear halo hkk hk1 hk2 hk3 hk4 hU hA5 hA4 hJ hL hcc hO hT hB hq hvd hvo hnd hkd hJ2 hL2 hc2 HH hbl f1 f2 f3 f4
      go_wp2_with fail
      refine wp_loop_rounds 5 ?_
      rw [rounds_succ]
      go_wp2_with fail
      refine (p1 _).mono ?_
      rintro e y ⟨rfl, rfl⟩
      go_wp2_with fail
      rw [rounds_succ]
      go_wp2_with fail
      refine (p2 _).mono ?_
      rintro e y ⟨rfl, rfl⟩
      go_wp2_with fail
      rw [rounds_succ]
      go_wp2_with fail
      refine (p3 _).mono ?_
      rintro e y ⟨rfl, rfl⟩
      go_wp2_with fail
      rw [rounds_succ]
      go_wp2_with fail
      refine (p4 _).mono ?_
      rintro e y ⟨rfl, rfl⟩
      go_wp2_with fail
      rw [rounds_succ]
      go_wp2_with fail
      clear a0 a1 a2 a3 p1 p2 p3 p4
      have hK := heap_alloc_new wr (.cells #[.int .i64 k1, .int .i64 k2, .int .i64 k3, .int .i64 k4] 53)
      have hr3 := (Below.refl wr.heap.size wr).alloc (Nat.le_refl _) (.cells #[.int .i64 k1, .int .i64 k2, .int .i64 k3, .int .i64 k4] 53)
      generalize wr.alloc (.cells #[.int .i64 k1, .int .i64 k2, .int .i64 k3, .int .i64 k4] 53) = v3 at *
      obtain ⟨x1, x2, x3, x4, x5, x6, x7, x8, x9, x10⟩ := HX.out
      have hO3 := own_next x1 hr3
      have hT3 := (hr3.block _ (lt_heap6' x2)).trans x2
      have hB3 := x3.trans (hr3.mono x3.size)
      have hkl : w.heap.size ≤ wr.heap.size := x3.size
      obtain ⟨kb, hkb⟩ : ∃ kb, kb = wr.heap.size := ⟨_, rfl⟩
      rw [← hkb] at hK hkl ⊢
      have HV := Lib.hid (And.intro hK (And.intro hT3 (And.intro hB3 hkl)))
      have hws : w.heap.size ≤ v3.heap.size := hB3.size
      clear x1 x2 x3 x4 x5 x6 x7 x8 x9 x10 hr3 hkb hbw
      have L0 := fun (W : World) (hW : Below v3.heap.size v3 W) => (hW.cell (p := ⟨tb, 0, none⟩) (lt_heap6' HV.out.2.1)).trans (show v3.cell? ⟨tb, 0, none⟩ = some (.int .i64 7) by rw [Lib.cell_of_heap HV.out.2.1]; rfl)
      have L1 := fun (W : World) (hW : Below v3.heap.size v3 W) => (hW.cell (p := ⟨tb, 1, none⟩) (lt_heap6' HV.out.2.1)).trans (show v3.cell? ⟨tb, 1, none⟩ = some (.int .i64 5) by rw [Lib.cell_of_heap HV.out.2.1]; rfl)
      have K0 := fun (W : World) (hW : Below v3.heap.size v3 W) => (hW.cell (p := ⟨kb, 0, none⟩) (lt_heap6' HV.out.1)).trans (show v3.cell? ⟨kb, 0, none⟩ = some (.int .i64 k1) by rw [Lib.cell_of_heap HV.out.1]; rfl)
      have K1 := fun (W : World) (hW : Below v3.heap.size v3 W) => (hW.cell (p := ⟨kb, 1, none⟩) (lt_heap6' HV.out.1)).trans (show v3.cell? ⟨kb, 1, none⟩ = some (.int .i64 k2) by rw [Lib.cell_of_heap HV.out.1]; rfl)
      have K2 := fun (W : World) (hW : Below v3.heap.size v3 W) => (hW.cell (p := ⟨kb, 2, none⟩) (lt_heap6' HV.out.1)).trans (show v3.cell? ⟨kb, 2, none⟩ = some (.int .i64 k3) by rw [Lib.cell_of_heap HV.out.1]; rfl)
      have K3 := fun (W : World) (hW : Below v3.heap.size v3 W) => (hW.cell (p := ⟨kb, 3, none⟩) (lt_heap6' HV.out.1)).trans (show v3.cell? ⟨kb, 3, none⟩ = some (.int .i64 k4) by rw [Lib.cell_of_heap HV.out.1]; rfl)
      clear hK hT3 hB3 hkl
      refine region_calm_to (fun W => Below v3.heap.size v3 W) (RgK m m2 U V q k1 k2 k3 k4 Am cm w v3)
        (.calm 0 (.calm 1 (.calm 2 (.two 3 10 (.two 4 10 (.calm 5 (.calm 6 (.calm 7 (.calm 8 (.calm 9 (.only 10 (.only 11 (.only 12 (.only 13 (.only 14 .done)))))))))) (.only 4 (.calm 5 (.calm 6 (.calm 7 (.calm 8 (.calm 9 (.only 11 (.only 12 (.only 13 (.only 14 .done))))))))))) (.only 3 (.only 4 (.calm 5 (.calm 6 (.calm 7 (.calm 8 (.calm 9 (.only 11 (.only 12 (.only 13 (.only 14 .done))))))))))))))) (by kernel_rfl) (by kernel_rfl) (by kernel_rfl) (by rfl) (below_drewW _) ?_ ?_
      · skip
        refine ⟨_, _, .agg #[.int .i64 7, .int .i64 5], rfl, rfl, ⟨rfl, fun W hW => by first | exact ⟨rfl, rfl⟩ | (have l0 := L0 W hW; have l1 := L1 W hW; simp only [Act.eval, execOp]; go_simp; try exact ⟨rfl, rfl⟩)⟩, ?_⟩
        simp only [Act.put, List.getElem_toArray, List.getElem_cons_zero, List.getElem_cons_succ, List.setIfInBounds_toArray, List.set_cons_succ, List.set_cons_zero]
        refine ⟨_, _, .slice Am m.length cm, rfl, rfl, ⟨rfl, fun W hW => by first | exact ⟨rfl, rfl⟩ | (simp only [Act.eval, execOp]; go_simp; try exact ⟨rfl, rfl⟩)⟩, ?_⟩
        simp only [Act.put, List.getElem_toArray, List.getElem_cons_zero, List.getElem_cons_succ, List.setIfInBounds_toArray, List.set_cons_succ, List.set_cons_zero]
        refine ⟨_, _, .agg #[.int .i64 k1, .int .i64 k2, .int .i64 k3, .int .i64 k4], rfl, rfl, ⟨rfl, fun W hW => by first | exact ⟨rfl, rfl⟩ | (have l0 := K0 W hW; have l1 := K1 W hW; have l2 := K2 W hW; have l3 := K3 W hW; simp only [Act.eval, execOp]; go_simp; try exact ⟨rfl, rfl⟩)⟩, ?_⟩
        simp only [Act.put, List.getElem_toArray, List.getElem_cons_zero, List.getElem_cons_succ, List.setIfInBounds_toArray, List.set_cons_succ, List.set_cons_zero]
        have hb_0 := below_drewW v3
        generalize v3.drew = y_0 at *
        have hO := own_next hO3 hb_0
        refine ⟨?_, ?_⟩
        · skip
          refine ⟨_, rfl, ?_⟩
          go_wp2_with fail
          refine (hint y_0).mono ?_
          rintro e y_1 ⟨rfl, hbx⟩
          replace hO := own_next hO hbx
          go_wp2_with fail
          have hb_1 := Qt.more hb_0 hb_0.size hbx
          clear hbx
          refine ⟨rfl, hb_1, ?_⟩
          refine ⟨?_, ?_⟩
          · skip
            refine ⟨_, rfl, ?_⟩
            go_wp2_with fail
            refine (hal y_1 w.heap.size _ _ (by have := hb_1.size; omega) hO).mono ?_
            rintro e y_2 ⟨A9, c9, rfl, hO9, hbx⟩
            clear hO
            have hO := hO9
            clear hO9
            go_wp2_with fail
            have hb_2 := Qt.more hb_1 hb_1.size hbx
            clear hbx
            refine ⟨rfl, hb_2, ?_⟩
            refine ⟨_, _, .tuple #[.slice A9 m2.length c9, w8V V, .int .i64 q, .bool true], rfl, rfl, ⟨rfl, fun W hW => by first | exact ⟨rfl, rfl⟩ | (simp only [Act.eval, execOp]; go_simp; try exact ⟨rfl, rfl⟩)⟩, ?_⟩
            simp only [Act.put, List.getElem_toArray, List.getElem_cons_zero, List.getElem_cons_succ, List.setIfInBounds_toArray, List.set_cons_succ, List.set_cons_zero]
            refine ⟨_, _, .slice A9 m2.length c9, rfl, rfl, ⟨rfl, fun W hW => by first | exact ⟨rfl, rfl⟩ | (simp only [Act.eval, execOp]; go_simp; try exact ⟨rfl, rfl⟩)⟩, ?_⟩
            simp only [Act.put, List.getElem_toArray, List.getElem_cons_zero, List.getElem_cons_succ, List.setIfInBounds_toArray, List.set_cons_succ, List.set_cons_zero]
            refine ⟨_, _, w8V V, rfl, rfl, ⟨rfl, fun W hW => by first | exact ⟨rfl, rfl⟩ | (simp only [Act.eval, execOp]; go_simp; try exact ⟨rfl, rfl⟩)⟩, ?_⟩
            simp only [Act.put, List.getElem_toArray, List.getElem_cons_zero, List.getElem_cons_succ, List.setIfInBounds_toArray, List.set_cons_succ, List.set_cons_zero]
            refine ⟨_, _, .int .i64 q, rfl, rfl, ⟨rfl, fun W hW => by first | exact ⟨rfl, rfl⟩ | (simp only [Act.eval, execOp]; go_simp; try exact ⟨rfl, rfl⟩)⟩, ?_⟩
            simp only [Act.put, List.getElem_toArray, List.getElem_cons_zero, List.getElem_cons_succ, List.setIfInBounds_toArray, List.set_cons_succ, List.set_cons_zero]
            refine ⟨_, _, .bool true, rfl, rfl, ⟨rfl, fun W hW => by first | exact ⟨rfl, rfl⟩ | (simp only [Act.eval, execOp]; go_simp; try exact ⟨rfl, rfl⟩)⟩, ?_⟩
            simp only [Act.put, List.getElem_toArray, List.getElem_cons_zero, List.getElem_cons_succ, List.setIfInBounds_toArray, List.set_cons_succ, List.set_cons_zero]
            refine ⟨_, rfl, ?_⟩
            go_wp2_with fail
            have hbx := (Below.refl y_2.heap.size y_2).alloc (Nat.le_refl _) (.cells #[.int .i64 0, .int .i64 0, .int .i64 0, .int .i64 0, .int .i64 0, .int .i64 0, .int .i64 0, .int .i64 0, .int .i64 0, .int .i64 0, .bool false, .int .i64 0] 39)
            have hbox_3 := heap_alloc_new y_2 (.cells #[.int .i64 0, .int .i64 0, .int .i64 0, .int .i64 0, .int .i64 0, .int .i64 0, .int .i64 0, .int .i64 0, .int .i64 0, .int .i64 0, .bool false, .int .i64 0] 39)
            generalize y_2.alloc (.cells #[.int .i64 0, .int .i64 0, .int .i64 0, .int .i64 0, .int .i64 0, .int .i64 0, .int .i64 0, .int .i64 0, .int .i64 0, .int .i64 0, .bool false, .int .i64 0] 39) = y_3 at *
            have hb_3 := Qt.more hb_2 hb_2.size hbx
            have hbl := hb_2.size
            obtain ⟨bb, hbb⟩ : ∃ bb, bb = y_2.heap.size := ⟨_, rfl⟩
            rw [← hbb] at hbl hbox_3 ⊢
            replace hO := own_next hO hbx
            clear hbx hbb
            refine ⟨rfl, hb_3, ?_⟩
            refine ⟨_, rfl, ?_⟩
            go_wp2_with fail
            refine ⟨rfl, hb_3, ?_⟩
            refine ⟨_, rfl, ?_⟩
            have o0 : y_3.cell? ⟨bb, 0, none⟩ = some (.int .i64 0) := by rw [Lib.cell_of_heap hbox_3]; rfl
            have o1 : y_3.cell? ⟨bb, 1, none⟩ = some (.int .i64 0) := by rw [Lib.cell_of_heap hbox_3]; rfl
            have o2 : y_3.cell? ⟨bb, 2, none⟩ = some (.int .i64 0) := by rw [Lib.cell_of_heap hbox_3]; rfl
            have o3 : y_3.cell? ⟨bb, 3, none⟩ = some (.int .i64 0) := by rw [Lib.cell_of_heap hbox_3]; rfl
            have o4 : y_3.cell? ⟨bb, 4, none⟩ = some (.int .i64 0) := by rw [Lib.cell_of_heap hbox_3]; rfl
            have o5 : y_3.cell? ⟨bb, 5, none⟩ = some (.int .i64 0) := by rw [Lib.cell_of_heap hbox_3]; rfl
            have o6 : y_3.cell? ⟨bb, 6, none⟩ = some (.int .i64 0) := by rw [Lib.cell_of_heap hbox_3]; rfl
            have o7 : y_3.cell? ⟨bb, 7, none⟩ = some (.int .i64 0) := by rw [Lib.cell_of_heap hbox_3]; rfl
            have o8 : y_3.cell? ⟨bb, 8, none⟩ = some (.int .i64 0) := by rw [Lib.cell_of_heap hbox_3]; rfl
            have o9 : y_3.cell? ⟨bb, 9, none⟩ = some (.int .i64 0) := by rw [Lib.cell_of_heap hbox_3]; rfl
            have o10 : y_3.cell? ⟨bb, 10, none⟩ = some (.bool false) := by rw [Lib.cell_of_heap hbox_3]; rfl
            have o11 : y_3.cell? ⟨bb, 11, none⟩ = some (.int .i64 0) := by rw [Lib.cell_of_heap hbox_3]; rfl
            have fz : ∀ j, y_3.frozen? ⟨bb, j, none⟩ = false := fun j => Lib.frozen_of_heap hbox_3 j
            go_wp2_with fail
            clear o0 o1 o2 o3 o4 o5 o6 o7 o8 o9 o10 o11 fz
            obtain ⟨y_4, hy, hbox_4, hg⟩ := set12o y_3 bb zeroW8 V hbox_3
            try rw [hy]
            have hb_4 := below_grown hb_3 hg (fun k e => by injection e with e; omega) hb_3.size
            replace hO := hO.kept hg (.inr (own_type hO hbox_3 (by decide)))
            clear hy hg
            refine ⟨rfl, hb_4, ?_⟩
            refine ⟨_, rfl, ?_⟩
            go_wp2_with fail
            refine ⟨rfl, hb_4, ?_⟩
            refine ⟨_, rfl, ?_⟩
            go_wp2_with fail
            refine ⟨rfl, hb_4, ?_⟩
            exact ⟨A9, c9, bb, (by simp only [Act.put, List.setIfInBounds_toArray, List.set_cons_succ, List.set_cons_zero]), hO, hbox_4, hbl, hb_4⟩
          · skip
            refine ⟨_, rfl, ?_⟩
            go_wp2_with fail
            have hbx := (Below.refl y_1.heap.size y_1).alloc (Nat.le_refl _) (.cells #[.int .i64 0, .int .i64 0, .int .i64 0, .int .i64 0, .int .i64 0, .int .i64 0, .int .i64 0, .int .i64 0, .int .i64 0, .int .i64 0, .bool false, .int .i64 0] 39)
            have hbox_2 := heap_alloc_new y_1 (.cells #[.int .i64 0, .int .i64 0, .int .i64 0, .int .i64 0, .int .i64 0, .int .i64 0, .int .i64 0, .int .i64 0, .int .i64 0, .int .i64 0, .bool false, .int .i64 0] 39)
            generalize y_1.alloc (.cells #[.int .i64 0, .int .i64 0, .int .i64 0, .int .i64 0, .int .i64 0, .int .i64 0, .int .i64 0, .int .i64 0, .int .i64 0, .int .i64 0, .bool false, .int .i64 0] 39) = y_2 at *
            have hb_2 := Qt.more hb_1 hb_1.size hbx
            have hbl := hb_1.size
            obtain ⟨bb, hbb⟩ : ∃ bb, bb = y_1.heap.size := ⟨_, rfl⟩
            rw [← hbb] at hbl hbox_2 ⊢
            replace hO := own_next hO hbx
            clear hbx hbb
            refine ⟨rfl, hb_2, ?_⟩
            refine ⟨_, rfl, ?_⟩
            go_wp2_with fail
            refine (hal y_2 w.heap.size _ _ (by have := hb_2.size; omega) hO).mono ?_
            rintro e y_3 ⟨A9, c9, rfl, hO9, hbx⟩
            clear hO
            have hO := hO9
            clear hO9
            go_wp2_with fail
            have hb_3 := Qt.more hb_2 hb_2.size hbx
            have hbox_3 := (hbx.block _ (lt_heap6' hbox_2)).trans hbox_2
            clear hbx
            refine ⟨rfl, hb_3, ?_⟩
            refine ⟨_, _, .tuple #[.slice A9 m2.length c9, w8V V, .int .i64 q, .bool true], rfl, rfl, ⟨rfl, fun W hW => by first | exact ⟨rfl, rfl⟩ | (simp only [Act.eval, execOp]; go_simp; try exact ⟨rfl, rfl⟩)⟩, ?_⟩
            simp only [Act.put, List.getElem_toArray, List.getElem_cons_zero, List.getElem_cons_succ, List.setIfInBounds_toArray, List.set_cons_succ, List.set_cons_zero]
            refine ⟨_, _, .slice A9 m2.length c9, rfl, rfl, ⟨rfl, fun W hW => by first | exact ⟨rfl, rfl⟩ | (simp only [Act.eval, execOp]; go_simp; try exact ⟨rfl, rfl⟩)⟩, ?_⟩
            simp only [Act.put, List.getElem_toArray, List.getElem_cons_zero, List.getElem_cons_succ, List.setIfInBounds_toArray, List.set_cons_succ, List.set_cons_zero]
            refine ⟨_, _, w8V V, rfl, rfl, ⟨rfl, fun W hW => by first | exact ⟨rfl, rfl⟩ | (simp only [Act.eval, execOp]; go_simp; try exact ⟨rfl, rfl⟩)⟩, ?_⟩
            simp only [Act.put, List.getElem_toArray, List.getElem_cons_zero, List.getElem_cons_succ, List.setIfInBounds_toArray, List.set_cons_succ, List.set_cons_zero]
            refine ⟨_, _, .int .i64 q, rfl, rfl, ⟨rfl, fun W hW => by first | exact ⟨rfl, rfl⟩ | (simp only [Act.eval, execOp]; go_simp; try exact ⟨rfl, rfl⟩)⟩, ?_⟩
            simp only [Act.put, List.getElem_toArray, List.getElem_cons_zero, List.getElem_cons_succ, List.setIfInBounds_toArray, List.set_cons_succ, List.set_cons_zero]
            refine ⟨_, _, .bool true, rfl, rfl, ⟨rfl, fun W hW => by first | exact ⟨rfl, rfl⟩ | (simp only [Act.eval, execOp]; go_simp; try exact ⟨rfl, rfl⟩)⟩, ?_⟩
            simp only [Act.put, List.getElem_toArray, List.getElem_cons_zero, List.getElem_cons_succ, List.setIfInBounds_toArray, List.set_cons_succ, List.set_cons_zero]
            refine ⟨_, rfl, ?_⟩
            go_wp2_with fail
            refine ⟨rfl, hb_3, ?_⟩
            refine ⟨_, rfl, ?_⟩
            have o0 : y_3.cell? ⟨bb, 0, none⟩ = some (.int .i64 0) := by rw [Lib.cell_of_heap hbox_3]; rfl
            have o1 : y_3.cell? ⟨bb, 1, none⟩ = some (.int .i64 0) := by rw [Lib.cell_of_heap hbox_3]; rfl
            have o2 : y_3.cell? ⟨bb, 2, none⟩ = some (.int .i64 0) := by rw [Lib.cell_of_heap hbox_3]; rfl
            have o3 : y_3.cell? ⟨bb, 3, none⟩ = some (.int .i64 0) := by rw [Lib.cell_of_heap hbox_3]; rfl
            have o4 : y_3.cell? ⟨bb, 4, none⟩ = some (.int .i64 0) := by rw [Lib.cell_of_heap hbox_3]; rfl
            have o5 : y_3.cell? ⟨bb, 5, none⟩ = some (.int .i64 0) := by rw [Lib.cell_of_heap hbox_3]; rfl
            have o6 : y_3.cell? ⟨bb, 6, none⟩ = some (.int .i64 0) := by rw [Lib.cell_of_heap hbox_3]; rfl
            have o7 : y_3.cell? ⟨bb, 7, none⟩ = some (.int .i64 0) := by rw [Lib.cell_of_heap hbox_3]; rfl
            have o8 : y_3.cell? ⟨bb, 8, none⟩ = some (.int .i64 0) := by rw [Lib.cell_of_heap hbox_3]; rfl
            have o9 : y_3.cell? ⟨bb, 9, none⟩ = some (.int .i64 0) := by rw [Lib.cell_of_heap hbox_3]; rfl
            have o10 : y_3.cell? ⟨bb, 10, none⟩ = some (.bool false) := by rw [Lib.cell_of_heap hbox_3]; rfl
            have o11 : y_3.cell? ⟨bb, 11, none⟩ = some (.int .i64 0) := by rw [Lib.cell_of_heap hbox_3]; rfl
            have fz : ∀ j, y_3.frozen? ⟨bb, j, none⟩ = false := fun j => Lib.frozen_of_heap hbox_3 j
            go_wp2_with fail
            clear o0 o1 o2 o3 o4 o5 o6 o7 o8 o9 o10 o11 fz
            obtain ⟨y_4, hy, hbox_4, hg⟩ := set12o y_3 bb zeroW8 V hbox_3
            try rw [hy]
            have hb_4 := below_grown hb_3 hg (fun k e => by injection e with e; omega) hb_3.size
            replace hO := hO.kept hg (.inr (own_type hO hbox_3 (by decide)))
            clear hy hg
            refine ⟨rfl, hb_4, ?_⟩
            refine ⟨_, rfl, ?_⟩
            go_wp2_with fail
            refine ⟨rfl, hb_4, ?_⟩
            refine ⟨_, rfl, ?_⟩
            go_wp2_with fail
            refine ⟨rfl, hb_4, ?_⟩
            exact ⟨A9, c9, bb, (by simp only [Act.put, List.setIfInBounds_toArray, List.set_cons_succ, List.set_cons_zero]), hO, hbox_4, hbl, hb_4⟩
        · skip
          refine ⟨_, rfl, ?_⟩
          go_wp2_with fail
          have hbx := (Below.refl y_0.heap.size y_0).alloc (Nat.le_refl _) (.cells #[.int .i64 0, .int .i64 0, .int .i64 0, .int .i64 0, .int .i64 0, .int .i64 0, .int .i64 0, .int .i64 0, .int .i64 0, .int .i64 0, .bool false, .int .i64 0] 39)
          have hbox_1 := heap_alloc_new y_0 (.cells #[.int .i64 0, .int .i64 0, .int .i64 0, .int .i64 0, .int .i64 0, .int .i64 0, .int .i64 0, .int .i64 0, .int .i64 0, .int .i64 0, .bool false, .int .i64 0] 39)
          generalize y_0.alloc (.cells #[.int .i64 0, .int .i64 0, .int .i64 0, .int .i64 0, .int .i64 0, .int .i64 0, .int .i64 0, .int .i64 0, .int .i64 0, .int .i64 0, .bool false, .int .i64 0] 39) = y_1 at *
          have hb_1 := Qt.more hb_0 hb_0.size hbx
          have hbl := hb_0.size
          obtain ⟨bb, hbb⟩ : ∃ bb, bb = y_0.heap.size := ⟨_, rfl⟩
          rw [← hbb] at hbl hbox_1 ⊢
          replace hO := own_next hO hbx
          clear hbx hbb
          refine ⟨rfl, hb_1, ?_⟩
          refine ⟨_, rfl, ?_⟩
          go_wp2_with fail
          refine (hint y_1).mono ?_
          rintro e y_2 ⟨rfl, hbx⟩
          replace hO := own_next hO hbx
          go_wp2_with fail
          have hb_2 := Qt.more hb_1 hb_1.size hbx
          have hbox_2 := (hbx.block _ (lt_heap6' hbox_1)).trans hbox_1
          clear hbx
          refine ⟨rfl, hb_2, ?_⟩
          refine ⟨_, rfl, ?_⟩
          go_wp2_with fail
          refine (hal y_2 w.heap.size _ _ (by have := hb_2.size; omega) hO).mono ?_
          rintro e y_3 ⟨A9, c9, rfl, hO9, hbx⟩
          clear hO
          have hO := hO9
          clear hO9
          go_wp2_with fail
          have hb_3 := Qt.more hb_2 hb_2.size hbx
          have hbox_3 := (hbx.block _ (lt_heap6' hbox_2)).trans hbox_2
          clear hbx
          refine ⟨rfl, hb_3, ?_⟩
          refine ⟨_, _, .tuple #[.slice A9 m2.length c9, w8V V, .int .i64 q, .bool true], rfl, rfl, ⟨rfl, fun W hW => by first | exact ⟨rfl, rfl⟩ | (simp only [Act.eval, execOp]; go_simp; try exact ⟨rfl, rfl⟩)⟩, ?_⟩
          simp only [Act.put, List.getElem_toArray, List.getElem_cons_zero, List.getElem_cons_succ, List.setIfInBounds_toArray, List.set_cons_succ, List.set_cons_zero]
          refine ⟨_, _, .slice A9 m2.length c9, rfl, rfl, ⟨rfl, fun W hW => by first | exact ⟨rfl, rfl⟩ | (simp only [Act.eval, execOp]; go_simp; try exact ⟨rfl, rfl⟩)⟩, ?_⟩
          simp only [Act.put, List.getElem_toArray, List.getElem_cons_zero, List.getElem_cons_succ, List.setIfInBounds_toArray, List.set_cons_succ, List.set_cons_zero]
          refine ⟨_, _, w8V V, rfl, rfl, ⟨rfl, fun W hW => by first | exact ⟨rfl, rfl⟩ | (simp only [Act.eval, execOp]; go_simp; try exact ⟨rfl, rfl⟩)⟩, ?_⟩
          simp only [Act.put, List.getElem_toArray, List.getElem_cons_zero, List.getElem_cons_succ, List.setIfInBounds_toArray, List.set_cons_succ, List.set_cons_zero]
          refine ⟨_, _, .int .i64 q, rfl, rfl, ⟨rfl, fun W hW => by first | exact ⟨rfl, rfl⟩ | (simp only [Act.eval, execOp]; go_simp; try exact ⟨rfl, rfl⟩)⟩, ?_⟩
          simp only [Act.put, List.getElem_toArray, List.getElem_cons_zero, List.getElem_cons_succ, List.setIfInBounds_toArray, List.set_cons_succ, List.set_cons_zero]
          refine ⟨_, _, .bool true, rfl, rfl, ⟨rfl, fun W hW => by first | exact ⟨rfl, rfl⟩ | (simp only [Act.eval, execOp]; go_simp; try exact ⟨rfl, rfl⟩)⟩, ?_⟩
          simp only [Act.put, List.getElem_toArray, List.getElem_cons_zero, List.getElem_cons_succ, List.setIfInBounds_toArray, List.set_cons_succ, List.set_cons_zero]
          refine ⟨_, rfl, ?_⟩
          go_wp2_with fail
          refine ⟨rfl, hb_3, ?_⟩
          refine ⟨_, rfl, ?_⟩
          have o0 : y_3.cell? ⟨bb, 0, none⟩ = some (.int .i64 0) := by rw [Lib.cell_of_heap hbox_3]; rfl
          have o1 : y_3.cell? ⟨bb, 1, none⟩ = some (.int .i64 0) := by rw [Lib.cell_of_heap hbox_3]; rfl
          have o2 : y_3.cell? ⟨bb, 2, none⟩ = some (.int .i64 0) := by rw [Lib.cell_of_heap hbox_3]; rfl
          have o3 : y_3.cell? ⟨bb, 3, none⟩ = some (.int .i64 0) := by rw [Lib.cell_of_heap hbox_3]; rfl
          have o4 : y_3.cell? ⟨bb, 4, none⟩ = some (.int .i64 0) := by rw [Lib.cell_of_heap hbox_3]; rfl
          have o5 : y_3.cell? ⟨bb, 5, none⟩ = some (.int .i64 0) := by rw [Lib.cell_of_heap hbox_3]; rfl
          have o6 : y_3.cell? ⟨bb, 6, none⟩ = some (.int .i64 0) := by rw [Lib.cell_of_heap hbox_3]; rfl
          have o7 : y_3.cell? ⟨bb, 7, none⟩ = some (.int .i64 0) := by rw [Lib.cell_of_heap hbox_3]; rfl
          have o8 : y_3.cell? ⟨bb, 8, none⟩ = some (.int .i64 0) := by rw [Lib.cell_of_heap hbox_3]; rfl
          have o9 : y_3.cell? ⟨bb, 9, none⟩ = some (.int .i64 0) := by rw [Lib.cell_of_heap hbox_3]; rfl
          have o10 : y_3.cell? ⟨bb, 10, none⟩ = some (.bool false) := by rw [Lib.cell_of_heap hbox_3]; rfl
          have o11 : y_3.cell? ⟨bb, 11, none⟩ = some (.int .i64 0) := by rw [Lib.cell_of_heap hbox_3]; rfl
          have fz : ∀ j, y_3.frozen? ⟨bb, j, none⟩ = false := fun j => Lib.frozen_of_heap hbox_3 j
          go_wp2_with fail
          clear o0 o1 o2 o3 o4 o5 o6 o7 o8 o9 o10 o11 fz
          obtain ⟨y_4, hy, hbox_4, hg⟩ := set12o y_3 bb zeroW8 V hbox_3
          try rw [hy]
          have hb_4 := below_grown hb_3 hg (fun k e => by injection e with e; omega) hb_3.size
          replace hO := hO.kept hg (.inr (own_type hO hbox_3 (by decide)))
          clear hy hg
          refine ⟨rfl, hb_4, ?_⟩
          refine ⟨_, rfl, ?_⟩
          go_wp2_with fail
          refine ⟨rfl, hb_4, ?_⟩
          refine ⟨_, rfl, ?_⟩
          go_wp2_with fail
          refine ⟨rfl, hb_4, ?_⟩
          exact ⟨A9, c9, bb, (by simp only [Act.put, List.setIfInBounds_toArray, List.set_cons_succ, List.set_cons_zero]), hO, hbox_4, hbl, hb_4⟩
      · rintro a' v4 ⟨A9, c9, bb, rfl, hO4, hbx, hll, hb4⟩
        simp only [Act.put, List.setIfInBounds_toArray, List.set_cons_succ, List.set_cons_zero]
        obtain ⟨hK, hT3, hB3, hkl⟩ := HV.out
        obtain ⟨x1, x2, x3, hJ2, hL2, hc2, hL, hcc, hvo, hi2⟩ := HX.out
        have hT4 := (hb4.block _ (lt_heap6' hT3)).trans hT3
        have hK4 := (hb4.block _ (lt_heap6' hK)).trans hK
        have hB4 := hB3.trans (hb4.mono hB3.size)
        have e0 : v4.cell? ⟨tb, 0, none⟩ = some (.int .i64 7) := by rw [Lib.cell_of_heap hT4]; rfl
        have e1 : v4.cell? ⟨tb, 1, none⟩ = some (.int .i64 5) := by rw [Lib.cell_of_heap hT4]; rfl
        have e2 : v4.cell? ⟨bb, 11, none⟩ = some (.int .i64 nd) := by rw [Lib.cell_of_heap hbx, ← hvo]; rfl
        have hkc := hkid v4 w.heap.size A9 c9 hB4.size hO4
        have HF := Lib.hid (And.intro hT4 (And.intro hK4 (And.intro hB4 (And.intro hO4 hbx))))
        have hnd0 : (0 : Int) ≤ (nd : Int) := Int.natCast_nonneg _
        have heqk : ∀ W, (Op.equalIn 10000 53 (.agg #[.int .i64 k1, .int .i64 k2, .int .i64 k3, .int .i64 k4]) (.agg #[.int .i64 k1, .int .i64 k2, .int .i64 k3, .int .i64 k4])).run Try.prog W = .ok true W := fun W => by
          rw [show (10000 : Nat) = 9998 + 1 + 1 from rfl, eqK_at]; simp
        clear L0 L1 K0 K1 K2 K3 hK hT3 hB3 hkl x1 x2 x3 hJ2 hL2 hc2 hL hcc hvo hi2 hT4 hK4 hB4 hO4 hbx hO3 hkid hal hint hb4
        go_wp2_with fail
        refine hkc.mono ?_
        rintro e v5 ⟨rfl, hb5⟩
        clear hkc
        obtain ⟨hT4, hK4, hB4, hO4, hbx⟩ := HF.out
        have l1 := lt_heap6' hK4
        have l2 := lt_heap6' hbx
        have h5 := hb5.size
        have kc := fun (o : Obj) => ((hb5.trans ((Below.refl v5.heap.size v5).alloc (Nat.le_refl _) o |>.mono h5)).block _ l1).trans hK4
        have bc := fun (o : Obj) => ((hb5.trans ((Below.refl v5.heap.size v5).alloc (Nat.le_refl _) o |>.mono h5)).block _ l2).trans hbx
        have k_0 : ∀ o, (v5.alloc o).cell? ⟨kb, 0, none⟩ = some (.int .i64 k1) := fun o => by rw [Lib.cell_of_heap (kc o)]; rfl
        have k_1 : ∀ o, (v5.alloc o).cell? ⟨kb, 1, none⟩ = some (.int .i64 k2) := fun o => by rw [Lib.cell_of_heap (kc o)]; rfl
        have k_2 : ∀ o, (v5.alloc o).cell? ⟨kb, 2, none⟩ = some (.int .i64 k3) := fun o => by rw [Lib.cell_of_heap (kc o)]; rfl
        have k_3 : ∀ o, (v5.alloc o).cell? ⟨kb, 3, none⟩ = some (.int .i64 k4) := fun o => by rw [Lib.cell_of_heap (kc o)]; rfl
        have b_0 : ∀ o, (v5.alloc o).cell? ⟨bb, 11, none⟩ = some (.int .i64 nd) := fun o => by
          rw [Lib.cell_of_heap (bc o), ← HX.out.2.2.2.2.2.2.2.2.1]; rfl
        have HG := Lib.hid hb5
        clear hT4 hK4 hB4 hO4 hbx l1 l2 h5 kc bc hb5 e0 e1 e2
        go_wp2_with fail
        go_roundw
        case measure => simp [intOf]; omega
        case rel =>
          obtain ⟨hT4, hK4, hB4, hO4, hbx⟩ := HF.out
          obtain ⟨x1, x2, x3, hJ2, hL2, hc2, hL, hcc, hvo, hi2⟩ := HX.out
          have hA := (Below.refl v5.heap.size v5).alloc (Nat.le_refl _) (.cells #[.int .i64 k1, .int .i64 k2, .int .i64 k3, .int .i64 k4] 53)
          have h45 := HG.out.trans (hA.mono HG.out.size)
          exact ⟨A9, c9, ii + 1, m2, rfl, by go_num, by omega, (show Hid _ from ⟨⟨cc2, L2, F2, hJ2, by omega, by omega⟩, own_next hO4 h45, (h45.block _ (lt_heap6' hT4)).trans hT4, hB4.trans (h45.mono hB4.size)⟩)⟩
    · have HE := Lib.hid HH.out.2.2.2
      clear HH
      by_cases h1 : ii < raw.length
      · have hz1 : (ii : Int) < (raw.length : Int) := by omega
        have hz2 : ¬ (ii : Int) < 5 := by omega
        clear hlt h1 hi5
        go_wp2
        go_ret
        exact ⟨rfl, HE.out⟩
      · have hz1 : ¬ (ii : Int) < (raw.length : Int) := by omega
        clear hlt h1 hi5
        go_wp2
        go_ret
        exact ⟨rfl, HE.out⟩
end Go.Proofs.Ytocepdhjkhhpfaa
