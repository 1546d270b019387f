/-
  Texts that the claims of this seat share, part 24.
-/
import Derived.Test.YtmmaeikeafemaaaGreatB23
import Derived.Test.YtmmaeikeafemaaaGreatB20
set_option linter.unusedVariables false
set_option linter.unusedSimpArgs false
namespace Go.Proofs.YtmmaeikeafemaaaGreat
set_option maxRecDepth 100000
set_option linter.unusedVariables false
set_option linter.unusedSimpArgs false
open Go.RowKit Go.Sort

set_option maxHeartbeats 16000000 in
theorem refGrow7_any (A : Option Addr) (l : List Nd) (c : Nat) (room n : Int) (w : World) (hR : RdN w w.heap.size A l) (hl : l.length ≤ 1000000) (hc : l.length ≤ c) (hw : ∀ i, i < l.length → -9223372036854775808 ≤ (l.getD i deadN).1 ∧ (l.getD i deadN).1 ≤ 9223372036854775807) :
    Calls Tryz.prog 16 #[storeV A l.length c room, .int .i64 n] w (PutR (grow7 l room n) room w) := by
  have hal0 := Below.refl w.heap.size w
  have hal1 := hal0.alloc hal0.size (.cells #[.slice A l.length c, .int .i64 room] 26)
  have hz1 : (w.alloc (.cells #[.slice A l.length c, .int .i64 room] 26)).heap.size = w.heap.size + 1 := by simp
  have hal2 := hal1.alloc hal1.size (.cells #[.slice none 0 0, .int .i64 0] 26)
  have hG0 : WrAt w ((w.alloc (.cells #[.slice A l.length c, .int .i64 room] 26)).alloc (.cells #[.slice none 0 0, .int .i64 0] 26)) A l.length c room (w.heap.size + 1) := ⟨heap_old (heap_new rfl), heap_new hz1, hal2, by omega⟩
  have hmay := refMay7_any A l c room n _ ((hR.below hG0.bel (Nat.le_refl _)).more hG0.bel.size) hl hw
  have s0 := hG0.s0
  have s1 := hG0.s1
  have HG := Lib.hid hG0
  have HRR := Lib.hid hR
  clear hal0 hal1 hal2 hz1
  cases hb : (right6 l room && hasB l n) with
  | false =>
    rw [hb] at hmay
    have hz : grow7 l room n = (l, 0, 1) := by
      unfold grow7 grown6
      by_cases hr : right6 l room = true
      · rw [if_pos hr]
        rw [hr, Bool.true_and] at hb
        unfold growZ
        rw [hb, if_neg (by simp)]
        rfl
      · rw [if_neg hr]
    rw [hz]
    unfold storeV at hmay ⊢
    clear hz hR hw hb hG0
    go_enter Tryz.func16, Tryz.ntmps16
    go_wp2_with fail
    refine hmay.mono ?_
    rintro r w1 ⟨rfl, hb1⟩
    have hD := HG.out.below hb1
    have t0 := hD.s0
    have t1 := hD.s1
    have r0 := hD.r0
    have r1 := hD.r1
    have fr0 := hD.free 0
    have fr1 := hD.free 1
    have HT := Lib.hid (hD.told (.slice A l.length c) (.int .i64 room))
    have HN := Lib.hid (rdN_told (u := .slice A l.length c) (v := .int .i64 room) ((HRR.out.below hD.bel (Nat.le_refl _)).more hD.bel.size) hD.res)
    clear hb1 hmay s0 s1 HG hD
    go_wp2_with fail
    clear r0 r1 fr0 fr1 t0 t1
    refine bodyPost_ret (results_cell3 rfl _ _ _ _ _ _ _ rfl HT.out.1 Tryz.underlying26 rfl (by kernel_rfl)) rfl ?_
    exact ⟨_, rfl, ⟨A, c, rfl, hc, HN.out.more (by simp [World.setCell])⟩, HT.out.2⟩
  | true =>
    rw [hb] at hmay
    obtain ⟨hr0, hh⟩ := Bool.and_eq_true_iff.1 hb
    have hr := right_iff.1 hr0
    have hhs := hh
    unfold hasB at hh
    rw [decide_eq_true_eq] at hh
    obtain ⟨h1, h2, h3⟩ := hh
    obtain ⟨m, rfl⟩ : ∃ m : Nat, n = (m : Int) := ⟨n.toNat, by omega⟩
    rw [ndAt_nat] at h3
    have hbd := right_bd hr m (by omega)
    obtain ⟨e, he⟩ : ∃ e : Nat, (l.getD m deadN).1 = (e : Int) + 1 := ⟨((l.getD m deadN).1 - 1).toNat, by omega⟩
    have hIs : Is l (e + 1) m := ⟨by omega, by rw [he]; omega⟩
    have hz : grow7 l room (m : Int) = if 42 ≤ (e : Int) + 1 then (l, 0, 1) else grown6 l room (growC room l m e) := by
      unfold grow7 growZ
      rw [hhs, ndAt_nat, he, show ((e : Int) + 1).toNat - 1 = e by omega, Int.toNat_natCast]
      by_cases h42 : 42 ≤ (e : Int) + 1
      · rw [if_pos h42, if_neg (by simp; omega)]
        unfold grown6
        rw [if_pos hr0]; rfl
      · rw [if_neg h42, if_pos (by simp; omega)]
    obtain ⟨b0, off, rfl, hbB, hcell⟩ := hR.at_ (by omega)
    have x0 := (hcell m (by omega)).1
    rw [he] at x0
    have HX := Lib.hid x0
    have hmz : (m : Int) < (l.length : Int) := by omega
    have hel : (e : Int) ≤ 41 := by omega
    have hla := fun (h42 : ¬ 42 ≤ (e : Int) + 1) W (hR' : RdN W W.heap.size (some ⟨b0, off, none⟩) l) => refLarger_any hr (some ⟨b0, off, none⟩) c (e := e) (n := m) W (by omega) hIs hR' hc
    have HLA := Lib.hid hla
    rw [hz]
    clear hz hR hw hb hG0 hcell x0 hIs hla h1 h2 h3 hbd he hhs hr0 hr hbB hl
    by_cases h42 : 42 ≤ (e : Int) + 1
    · rw [if_pos h42]
      unfold storeV at hmay ⊢
      go_enter Tryz.func16, Tryz.ntmps16
      go_wp2_with fail
      refine hmay.mono ?_
      rintro r w1 ⟨rfl, hb1⟩
      have hD := HG.out.below hb1
      have t0 := hD.s0
      have t1 := hD.s1
      have r0 := hD.r0
      have r1 := hD.r1
      have fr0 := hD.free 0
      have fr1 := hD.free 1
      have y0 := Qt.keep hD.bel HX.out
      have HT := Lib.hid (hD.told (.slice (some ⟨b0, off, none⟩) l.length c) (.int .i64 room))
      have HN := Lib.hid (rdN_told (u := .slice (some ⟨b0, off, none⟩) l.length c) (v := .int .i64 room) ((HRR.out.below hD.bel (Nat.le_refl _)).more hD.bel.size) hD.res)
      clear hb1 hmay s0 s1 HG hD HX HLA
      go_wp2_with fail
      clear r0 r1 fr0 fr1 t0 t1 y0
      refine bodyPost_ret (results_cell3 rfl _ _ _ _ _ _ _ rfl HT.out.1 Tryz.underlying26 rfl (by kernel_rfl)) rfl ?_
      exact ⟨_, rfl, ⟨_, c, rfl, hc, HN.out.more (by simp [World.setCell])⟩, HT.out.2⟩
    · rw [if_neg h42]
      have hla := HLA.out h42
      unfold PutR at hla
      generalize grown6 l room (growC room l m e) = z at *
      obtain ⟨zl, zn, ze⟩ := z
      dsimp only at hla
      have HL := Lib.hid hla
      unfold storeV at hmay ⊢
      clear hla HLA
      go_enter Tryz.func16, Tryz.ntmps16
      go_wp2_with fail
      refine hmay.mono ?_
      rintro r w1 ⟨rfl, hb1⟩
      have hD := HG.out.below hb1
      have t0 := hD.s0
      have t1 := hD.s1
      have y0 := Qt.keep hD.bel HX.out
      have hdr : Below w.heap.size w w1.drew := Qt.more hD.bel hD.bel.size (below_drew w1)
      have hc1 := HL.out w1 ((HRR.out.below hD.bel (Nat.le_refl _)).more hD.bel.size)
      have hc2 := HL.out w1.drew ((HRR.out.below hdr (Nat.le_refl _)).more hdr.size)
      unfold storeV at hc1 hc2
      have HD := Lib.hid hD
      have HDD := Lib.hid (hD.below (below_drew w1))
      clear hb1 hmay s0 s1 HG HX HL hD hdr
      go_wp2_with fail
      first | refine hc2.mono ?_ | refine hc1.mono ?_
      rintro r w2 ⟨v, rfl, ⟨B, d, rfl, hd, hN⟩, hb2⟩
      have hD := by first | exact HDD.out.below hb2 | exact HD.out.below hb2
      have r0 := hD.r0
      have r1 := hD.r1
      have fr0 := hD.free 0
      have fr1 := hD.free 1
      have HT := Lib.hid (hD.told (.slice B zl.length d) (.int .i64 room))
      have HN := Lib.hid (rdN_told (u := .slice B zl.length d) (v := .int .i64 room) hN hD.res)
      clear t0 t1 y0 hc1 hc2 hb2 hD hN
      go_wp2_with fail
      clear r0 r1 fr0 fr1
      refine bodyPost_ret (results_cell3 rfl _ _ _ _ _ _ _ rfl HT.out.1 Tryz.underlying26 rfl (by kernel_rfl)) rfl ?_
      exact ⟨_, rfl, ⟨B, d, rfl, hd, HN.out.more (by simp [World.setCell])⟩, HT.out.2⟩
end Go.Proofs.YtmmaeikeafemaaaGreat
