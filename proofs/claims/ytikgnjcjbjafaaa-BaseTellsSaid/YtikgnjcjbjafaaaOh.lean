/-
  The document's answers of layer 8: Centre, Step, Nine.
-/
import Derived.Test.YtikgnjcjbjafaaaJz
import Derived.Test.YtikgnjcjbjafaaaOg
import Derived.Test.YtikgnjcjbjafaaaJq
namespace Go.Proofs.Ytikgnjcjbjafaaa
set_option maxRecDepth 100000
set_option linter.unusedVariables false
set_option linter.unusedSimpArgs false
open Go.RowKit Go.Sort

theorem may_yes {l : List Nd} {room n lev : Int} (h : mayB l room n lev = true) : ∃ m : Nat, n = (m : Int) ∧ Right6 l room ∧ m < l.length ∧ lev ≤ (l.getD m deadN).1 ∧ levI l (m : Int) = (l.getD m deadN).1 := by
  unfold mayB at h
  rw [Bool.and_eq_true, decide_eq_true_eq] at h
  obtain ⟨h1, h2, h3, h4⟩ := h
  obtain ⟨m, rfl⟩ : ∃ m : Nat, n = (m : Int) := ⟨n.toNat, by omega⟩
  rw [ndAt_nat] at h4
  refine ⟨m, rfl, right_iff.1 h1, by omega, h4, ?_⟩
  unfold levI
  rw [if_pos ⟨h2, h3⟩, ndAt_nat]
theorem may_no {l : List Nd} {room n lev : Int} (h0 : 0 ≤ lev) (h : mayB l room n lev = false) (hr : right6 l room = true) : levI l n < lev := by
  unfold mayB at h
  rw [hr, Bool.true_and, decide_eq_false_iff_not] at h
  unfold levI
  by_cases hn : 0 ≤ n ∧ n < (l.length : Int)
  · rw [if_pos hn]
    have : ¬ lev ≤ (ndAt l n).1 := fun q => h ⟨hn.1, hn.2, q⟩
    omega
  · rw [if_neg hn]
    omega
theorem put_whole {l : List Nd} {room : Int} (hr : Right6 l room) (k : Kd) : grown6 l room (put6 l room k) = put6 l room k := by
  rw [grown_intern]
  unfold intern6
  rw [if_pos (right_iff.2 hr)]
theorem grown_no {l : List Nd} {room : Int} {z : List Nd × Int × Int} (h : z = (l, 0, 1)) : grown6 l room z = (l, 0, 1) := by
  subst h
  unfold grown6
  split
  · rfl
  · rfl
theorem is_of {l : List Nd} {room : Int} (hr : Right6 l room) {m : Nat} (hm : m < l.length) (h2 : 2 ≤ (l.getD m deadN).1) : ∃ e, Is l (e + 2) m := by
  refine ⟨((l.getD m deadN).1 - 2).toNat, hm, ?_⟩
  omega
theorem centre8_no {l : List Nd} {room n : Int} (h : mayB l room n 2 = false) : centre8 l room n = (l, 0, 1) := by
  unfold centre8
  by_cases hr : right6 l room = true
  · refine grown_no ?_
    unfold centreZ
    rw [if_pos (may_no (by decide) h hr)]
  · unfold grown6
    rw [if_neg hr]
theorem centre8_yes {l : List Nd} {room : Int} {m : Nat} (hr : Right6 l room) (h2 : ¬ levI l (m : Int) < 2) : centre8 l room (m : Int) = put6 l room (sqK l m 1 1) := by
  unfold centre8 centreZ
  rw [if_neg h2, Int.toNat_natCast]
  exact put_whole hr _
theorem step8_no {l : List Nd} {room n : Int} (h : mayB l room n 2 = false ∨ ¬ levI l n = 2) : step8 l room n = (l, 0, 1) := by
  unfold step8
  by_cases hr : right6 l room = true
  · refine grown_no ?_
    unfold stepZ
    rw [if_neg]
    rcases h with h | h
    · have := may_no (by decide) h hr; omega
    · exact h
  · unfold grown6
    rw [if_neg hr]
theorem step8_yes {l : List Nd} {room : Int} {m : Nat} (hr : Right6 l room) (h2 : levI l (m : Int) = 2) : step8 l room (m : Int) = put6 l room (stepK l m) := by
  unfold step8 stepZ
  rw [if_pos h2, Int.toNat_natCast]
  exact put_whole hr _
theorem nine8_no {l : List Nd} {room n : Int} (h : mayB l room n 2 = false) : nine8 l room n = (l, fun _ => 0, 1) := by
  unfold nine8 grown9
  by_cases hr : right6 l room = true
  · rw [if_pos hr]
    unfold nineZ
    rw [if_pos (may_no (by decide) h hr)]
    rfl
  · rw [if_neg hr]
theorem nine8_yes {l : List Nd} {room : Int} {m : Nat} (hr : Right6 l room) (h2 : ¬ levI l (m : Int) < 2) : nine8 l room (m : Int) = allZ room l m := by
  unfold nine8 grown9 nineZ allZ
  rw [if_pos (right_iff.2 hr), if_neg h2, Int.toNat_natCast]
  by_cases h : (nineTo room l m 9).2.2 = 0
  · rw [if_pos h, if_pos h]
  · rw [if_neg h, if_neg h, if_neg h]
set_option maxHeartbeats 16000000 in
theorem refCentre8_any (A : Option Addr) (l : List Nd) (c : Nat) (room n : Int) (w : World) (hR : RdN w w.heap.size A l) (hl : l.length ≤ 1000000) (hc : l.length ≤ c) (hw : ∀ i, i < l.length → -9223372036854775808 ≤ (l.getD i deadN).1 ∧ (l.getD i deadN).1 ≤ 9223372036854775807) :
    Calls Try.prog 30 #[storeV A l.length c room, .int .i64 n] w (PutR (centre8 l room n) room w) := by
  have HE := Lib.hid (e7_0 hR hc room)
  have hmay := refMay_any A l c room n 2 _ HE.out.st.rd hl hw
  have s0 := HE.out.s0
  have s1 := HE.out.s1
  cases hb : mayB l room n 2 with
  | false =>
    rw [hb] at hmay
    rw [centre8_no hb]
    unfold storeV at hmay ⊢
    clear hR hw hb
    go_enter Try.func30, Try.ntmps30
    go_wp2_with fail
    refine hmay.mono ?_
    generalize (w.alloc (.cells #[.slice A l.length c, .int .i64 room] 27)).alloc (.cells #[.slice none 0 0, .int .i64 0] 27) = wx at *
    rintro r w2 ⟨rfl, hb2⟩
    have HD := Lib.hid (HE.out.below hb2)
    have t0 := HD.out.s0
    have t1 := HD.out.s1
    have r0 := HD.out.r0
    have r1 := HD.out.r1
    have fr0 := HD.out.free 0
    have fr1 := HD.out.free 1
    have HT := Lib.hid (HD.out.told HD.out.st.rd (.slice A l.length c) (.int .i64 room))
    clear hmay HE HD hb2 s0 s1
    go_wp2_with fail
    clear r0 r1 fr0 fr1 t0 t1
    refine bodyPost_ret (results_cell3 rfl _ _ _ _ _ _ _ rfl HT.out.1 Try.underlying27 rfl (by kernel_rfl)) rfl ?_
    exact ⟨_, rfl, ⟨A, c, rfl, hc, HT.out.2.2⟩, HT.out.2.1⟩
  | true =>
    rw [hb] at hmay
    obtain ⟨m, rfl, hr, hm, hlv, hlI⟩ := may_yes hb
    obtain ⟨e, hIs⟩ := is_of hr hm hlv
    rw [centre8_yes hr (by omega)]
    have hmid := fun W (hW : RdN W W.heap.size A l) => refMiddle_any hr A c W hIs hW hc
    generalize put6 l room (sqK l m 1 1) = z at *
    unfold storeV at hmay hmid ⊢
    have HM := Lib.hid hmid
    clear hR hw hb hmid hIs hlv hlI hr
    go_enter Try.func30, Try.ntmps30
    go_wp2_with fail
    refine hmay.mono ?_
    generalize (w.alloc (.cells #[.slice A l.length c, .int .i64 room] 27)).alloc (.cells #[.slice none 0 0, .int .i64 0] 27) = wx at *
    rintro r w2 ⟨rfl, hb2⟩
    have HD2 := Lib.hid (HE.out.below hb2)
    have t0 := HD2.out.s0
    have t1 := HD2.out.s1
    have hcall := HM.out w2 HD2.out.st.rd
    clear hmay HE hb2 s0 s1 HM
    go_wp2_with fail
    refine hcall.mono ?_
    rintro e w5 ⟨v9, rfl, ⟨A2, c2, rfl, hc2, hR2⟩, hb5⟩
    have HD := Lib.hid (HD2.out.below hb5)
    have r0 := HD.out.r0
    have r1 := HD.out.r1
    have fr0 := HD.out.free 0
    have fr1 := HD.out.free 1
    have HT := Lib.hid (HD.out.told hR2 (.slice A2 z.1.length c2) (.int .i64 room))
    clear hcall hb5 hR2 HD HD2 t0 t1
    go_wp2_with fail
    clear r0 r1 fr0 fr1
    refine bodyPost_ret (results_cell3 rfl _ _ _ _ _ _ _ rfl HT.out.1 Try.underlying27 rfl (by kernel_rfl)) rfl ?_
    exact ⟨_, rfl, ⟨A2, c2, rfl, hc2, HT.out.2.2⟩, HT.out.2.1⟩
set_option maxHeartbeats 16000000 in
theorem refStep8_any (A : Option Addr) (l : List Nd) (c : Nat) (room n : Int) (w : World) (hR : RdN w w.heap.size A l) (hl : l.length ≤ 1000000) (hc : l.length ≤ c) (hw : ∀ i, i < l.length → -9223372036854775808 ≤ (l.getD i deadN).1 ∧ (l.getD i deadN).1 ≤ 9223372036854775807) :
    Calls Try.prog 32 #[storeV A l.length c room, .int .i64 n] w (PutR (step8 l room n) room w) := by
  have HE := Lib.hid (e7_0 hR hc room)
  have hmay := refMay_any A l c room n 2 _ HE.out.st.rd hl hw
  have s0 := HE.out.s0
  have s1 := HE.out.s1
  cases hb : mayB l room n 2 with
  | false =>
    rw [hb] at hmay
    rw [step8_no (.inl hb)]
    unfold storeV at hmay ⊢
    clear hR hw hb
    go_enter Try.func32, Try.ntmps32
    go_wp2_with fail
    refine hmay.mono ?_
    generalize (w.alloc (.cells #[.slice A l.length c, .int .i64 room] 27)).alloc (.cells #[.slice none 0 0, .int .i64 0] 27) = wx at *
    rintro r w2 ⟨rfl, hb2⟩
    have HD := Lib.hid (HE.out.below hb2)
    have t0 := HD.out.s0
    have t1 := HD.out.s1
    have r0 := HD.out.r0
    have r1 := HD.out.r1
    have fr0 := HD.out.free 0
    have fr1 := HD.out.free 1
    have HT := Lib.hid (HD.out.told HD.out.st.rd (.slice A l.length c) (.int .i64 room))
    clear hmay HE HD hb2 s0 s1
    go_wp2_with fail
    clear r0 r1 fr0 fr1 t0 t1
    refine bodyPost_ret (results_cell3 rfl _ _ _ _ _ _ _ rfl HT.out.1 Try.underlying27 rfl (by kernel_rfl)) rfl ?_
    exact ⟨_, rfl, ⟨A, c, rfl, hc, HT.out.2.2⟩, HT.out.2.1⟩
  | true =>
    rw [hb] at hmay
    obtain ⟨m, rfl, hr, hm, hlv, hlI⟩ := may_yes hb
    obtain ⟨b0, off, rfl, hbB, hcell⟩ := hR.at_ (by omega)
    have x0 := (hcell m hm).1
    have hmz : (m : Int) < (l.length : Int) := by omega
    have HX := Lib.hid x0
    by_cases h2 : (l.getD m deadN).1 = 2
    · have hIs : Is l 2 m := ⟨hm, by rw [h2]; rfl⟩
      rw [step8_yes hr (by omega)]
      have hone := fun W (hW : RdN W W.heap.size (some ⟨b0, off, none⟩) l) => refOne_any hr (some ⟨b0, off, none⟩) c W hIs hW hc
      generalize put6 l room (stepK l m) = z at *
      unfold storeV at hmay hone ⊢
      rw [h2] at HX
      have HM := Lib.hid hone
      clear hR hw hb hone hIs hlv hlI hr h2 x0 hcell
      go_enter Try.func32, Try.ntmps32
      go_wp2_with fail
      refine hmay.mono ?_
      generalize (w.alloc (.cells #[.slice (some ⟨b0, off, none⟩) l.length c, .int .i64 room] 27)).alloc (.cells #[.slice none 0 0, .int .i64 0] 27) = wx at *
      rintro r w2 ⟨rfl, hb2⟩
      have HD2 := Lib.hid (HE.out.below hb2)
      have t0 := HD2.out.s0
      have t1 := HD2.out.s1
      have y0 := Qt.keep HD2.out.bel HX.out
      have hcall := HM.out w2 HD2.out.st.rd
      clear hmay HE hb2 s0 s1 HM
      go_wp2_with fail
      refine hcall.mono ?_
      rintro e w5 ⟨v9, rfl, ⟨A2, c2, rfl, hc2, hR2⟩, hb5⟩
      have HD := Lib.hid (HD2.out.below hb5)
      have r0 := HD.out.r0
      have r1 := HD.out.r1
      have fr0 := HD.out.free 0
      have fr1 := HD.out.free 1
      have HT := Lib.hid (HD.out.told hR2 (.slice A2 z.1.length c2) (.int .i64 room))
      clear hcall hb5 hR2 HD HD2 t0 t1 y0
      go_wp2_with fail
      clear r0 r1 fr0 fr1
      refine bodyPost_ret (results_cell3 rfl _ _ _ _ _ _ _ rfl HT.out.1 Try.underlying27 rfl (by kernel_rfl)) rfl ?_
      exact ⟨_, rfl, ⟨A2, c2, rfl, hc2, HT.out.2.2⟩, HT.out.2.1⟩
    · rw [step8_no (.inr (by omega))]
      unfold storeV at hmay ⊢
      have hd2 : decide ((l.getD m deadN).1 = 2) = false := decide_eq_false h2
      clear hR hw hb hlv hlI hr x0 hcell
      generalize (l.getD m deadN).1 = lv at *
      go_enter Try.func32, Try.ntmps32
      go_wp2_with fail
      refine hmay.mono ?_
      generalize (w.alloc (.cells #[.slice (some ⟨b0, off, none⟩) l.length c, .int .i64 room] 27)).alloc (.cells #[.slice none 0 0, .int .i64 0] 27) = wx at *
      rintro r w2 ⟨rfl, hb2⟩
      have HD := Lib.hid (HE.out.below hb2)
      have t0 := HD.out.s0
      have t1 := HD.out.s1
      have y0 := Qt.keep HD.out.bel HX.out
      have r0 := HD.out.r0
      have r1 := HD.out.r1
      have fr0 := HD.out.free 0
      have fr1 := HD.out.free 1
      have HT := Lib.hid (HD.out.told HD.out.st.rd (.slice (some ⟨b0, off, none⟩) l.length c) (.int .i64 room))
      clear hmay HE HD hb2 s0 s1
      go_wp2_with fail
      clear r0 r1 fr0 fr1 t0 t1 y0
      refine bodyPost_ret (results_cell3 rfl _ _ _ _ _ _ _ rfl HT.out.1 Try.underlying27 rfl (by kernel_rfl)) rfl ?_
      exact ⟨_, rfl, ⟨_, c, rfl, hc, HT.out.2.2⟩, HT.out.2.1⟩
set_option maxHeartbeats 16000000 in
theorem refNine8_any (A : Option Addr) (l : List Nd) (c : Nat) (room n : Int) (w : World) (hR : RdN w w.heap.size A l) (hl : l.length ≤ 1000000) (hc : l.length ≤ c) (hw : ∀ i, i < l.length → -9223372036854775808 ≤ (l.getD i deadN).1 ∧ (l.getD i deadN).1 ≤ 9223372036854775807) :
    Calls Try.prog 34 #[storeV A l.length c room, .int .i64 n] w (Nin8 (nine8 l room n) room w) := by
  have hE0 := e8_0 w A l.length c room
  have HE := Lib.hid hE0
  have hmay := refMay_any A l c room n 2 _ ((hR.below hE0.bel (Nat.le_refl _)).more hE0.bel.size) hl hw
  have s0 := hE0.s0
  have s1 := hE0.s1
  have HRR := Lib.hid hR
  cases hb : mayB l room n 2 with
  | false =>
    rw [hb] at hmay
    rw [nine8_no hb]
    unfold storeV at hmay ⊢
    clear hR hw hb hE0
    go_enter Try.func34, Try.ntmps34
    go_wp2_with fail
    refine hmay.mono ?_
    generalize ((w.alloc (.cells #[.slice A l.length c, .int .i64 room] 27)).alloc (.cells #[.slice none 0 0, .int .i64 0] 27)).alloc (.cells #[.int .i64 0, .int .i64 0, .int .i64 0, .int .i64 0, .int .i64 0, .int .i64 0, .int .i64 0, .int .i64 0, .int .i64 0] 61) = wx at *
    rintro r w2 ⟨rfl, hb2⟩
    have hE9 := HE.out.below hb2
    have t0 := hE9.s0
    have t1 := hE9.s1
    have r0 := hE9.r0
    have r1 := hE9.r1
    have f0 := hE9.free 0
    have f1 := hE9.free 1
    have n0 := hE9.row.c (p := 0) (by decide)
    have k0 := hE9.row.f 0
    have n1 := hE9.row.c (p := 1) (by decide)
    have k1 := hE9.row.f 1
    have n2 := hE9.row.c (p := 2) (by decide)
    have k2 := hE9.row.f 2
    have n3 := hE9.row.c (p := 3) (by decide)
    have k3 := hE9.row.f 3
    have n4 := hE9.row.c (p := 4) (by decide)
    have k4 := hE9.row.f 4
    have n5 := hE9.row.c (p := 5) (by decide)
    have k5 := hE9.row.f 5
    have n6 := hE9.row.c (p := 6) (by decide)
    have k6 := hE9.row.f 6
    have n7 := hE9.row.c (p := 7) (by decide)
    have k7 := hE9.row.f 7
    have n8 := hE9.row.c (p := 8) (by decide)
    have k8 := hE9.row.f 8
    have hoff : RdOff (fun q => w.heap.size ≤ q) w2 w.heap.size A l := fun j hj => by
      obtain ⟨b, off, e, hlt, h0⟩ := (HRR.out.below hE9.bel (Nat.le_refl _)) j hj
      exact ⟨b, off, e, by omega, hlt, h0⟩
    have HT := Lib.hid (f9_told (C := fun W => RdOff (fun q => w.heap.size ≤ q) W w.heap.size A l) (B := w.heap.size) ⟨hE9.res, hE9.row, hE9.bel, hE9.bel.size, hoff⟩ (fun W b j x hb h => h.set (by rcases hb with rfl | rfl <;> omega) x) (.slice A l.length c) (.int .i64 room) 0 0 0 0 0 0 0 0 0)
    clear hmay HE hE9 hb2 s0 s1 hoff
    go_wp2_with fail
    refine bodyPost_ret (results_cells rfl _ _ _ _ _ _ _ _ _ _ _ _ rfl rfl HT.out.res HT.out.row Try.underlying27 rfl (by kernel_rfl) Try.underlying61 rfl (by kernel_rfl)) rfl ?_
    exact ⟨A, c, rfl, hc, HT.out.c.rdN.more HT.out.lo, HT.out.bel⟩
  | true =>
    rw [hb] at hmay
    obtain ⟨m, rfl, hr, hm, hlv, hlI⟩ := may_yes hb
    obtain ⟨e, hIs⟩ := is_of hr hm hlv
    rw [nine8_yes hr (by omega)]
    have hall := fun W (hW : RdN W W.heap.size A l) => refAll_any hr A c W hIs hW hc
    have hz2 : 2 ≤ (allZ room l m).1.length := by
      unfold allZ
      split
      · exact (nineTo_right hr (n := m) 9).two
      · exact hr.two
    generalize allZ room l m = z at *
    unfold storeV at hmay hall ⊢
    have HM := Lib.hid hall
    clear hR hw hb hall hIs hlv hlI hr hE0
    go_enter Try.func34, Try.ntmps34
    go_wp2_with fail
    refine hmay.mono ?_
    generalize ((w.alloc (.cells #[.slice A l.length c, .int .i64 room] 27)).alloc (.cells #[.slice none 0 0, .int .i64 0] 27)).alloc (.cells #[.int .i64 0, .int .i64 0, .int .i64 0, .int .i64 0, .int .i64 0, .int .i64 0, .int .i64 0, .int .i64 0, .int .i64 0] 61) = wx at *
    rintro r w2 ⟨rfl, hb2⟩
    have hE2 := HE.out.below hb2
    have HE2 := Lib.hid hE2
    have t0 := hE2.s0
    have t1 := hE2.s1
    have hcall := HM.out w2 ((HRR.out.below hE2.bel (Nat.le_refl _)).more hE2.bel.size)
    clear hmay HE hb2 s0 s1 HM hE2
    go_wp2_with fail
    refine hcall.mono ?_
    obtain ⟨zl, f, ze⟩ := z
    dsimp only at hz2
    rintro e w5 ⟨A2, c2, rfl, hc2, hR2, hb5⟩
    dsimp only at hc2 hR2
    have hE9 := HE2.out.below hb5
    have r0 := hE9.r0
    have r1 := hE9.r1
    have f0 := hE9.free 0
    have f1 := hE9.free 1
    have n0 := hE9.row.c (p := 0) (by decide)
    have k0 := hE9.row.f 0
    have n1 := hE9.row.c (p := 1) (by decide)
    have k1 := hE9.row.f 1
    have n2 := hE9.row.c (p := 2) (by decide)
    have k2 := hE9.row.f 2
    have n3 := hE9.row.c (p := 3) (by decide)
    have k3 := hE9.row.f 3
    have n4 := hE9.row.c (p := 4) (by decide)
    have k4 := hE9.row.f 4
    have n5 := hE9.row.c (p := 5) (by decide)
    have k5 := hE9.row.f 5
    have n6 := hE9.row.c (p := 6) (by decide)
    have k6 := hE9.row.f 6
    have n7 := hE9.row.c (p := 7) (by decide)
    have k7 := hE9.row.f 7
    have n8 := hE9.row.c (p := 8) (by decide)
    have k8 := hE9.row.f 8
    have hoff := RdN.off9 (P := fun q => q = w.heap.size + 1 ∨ q = w.heap.size + 2) hR2 hz2 (fun q hq => by
      rcases hq with rfl | rfl
      · exact ⟨_, _, _, hE9.res, Nat.le_of_ble_eq_true rfl⟩
      · exact ⟨_, _, _, hE9.row, Nat.le_of_ble_eq_true rfl⟩)
    have HT := Lib.hid (f9_told (C := fun W => RdOff (fun q => q = w.heap.size + 1 ∨ q = w.heap.size + 2) W w5.heap.size A2 zl) (B := w5.heap.size) ⟨hE9.res, hE9.row, hE9.bel, Nat.le_refl _, hoff⟩ (fun W b j x hb h => h.set hb x) (.slice A2 zl.length c2) (.int .i64 room) (f 0) (f 1) (f 2) (f 3) (f 4) (f 5) (f 6) (f 7) (f 8))
    clear hcall hb5 hR2 hE9 HE2 t0 t1 hoff
    go_wp2_with fail
    refine bodyPost_ret (results_cells rfl _ _ _ _ _ _ _ _ _ _ _ _ rfl rfl HT.out.res HT.out.row Try.underlying27 rfl (by kernel_rfl) Try.underlying61 rfl (by kernel_rfl)) rfl ?_
    exact ⟨A2, c2, rfl, hc2, HT.out.c.rdN.more HT.out.lo, HT.out.bel⟩
end Go.Proofs.Ytikgnjcjbjafaaa
