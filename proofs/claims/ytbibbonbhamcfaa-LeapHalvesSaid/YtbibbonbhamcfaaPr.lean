/-
  LeapHalves: a leap of a node whose exponent is the level less 2 is two leaps, one behind the other, of half as much.
-/
import Derived.Test.YtbibbonbhamcfaaB27
import Derived.Test.YtbibbonbhamcfaaB14
import Derived.Test.YtbibbonbhamcfaaB13
import Derived.Test.YtbibbonbhamcfaaB21
import Derived.Test.YtbibbonbhamcfaaB24
import Derived.Test.YtbibbonbhamcfaaB20
import Derived.Test.YtbibbonbhamcfaaB08
import Derived.Test.YtbibbonbhamcfaaB10
namespace Go.Proofs.Ytbibbonbhamcfaa
set_option maxRecDepth 100000
set_option linter.unusedVariables false
set_option linter.unusedSimpArgs false
open Go.RowKit Go.Sort

/-- a set of what stands in the middle -/
theorem about_set {c : List Nd} {R : Int} {e p : Nat} {F : Pic} (h : Sf c R e p F) (he : e ≤ 4) : ∃ X, Cel.ofR (about7 c e p) = (0, X) ∧ X.length ≤ 2000 ∧ Cel.Rises X ∧ ∀ q, q ∈ X ↔ insideB e q = true ∧ F q = true := by
  have hf := about_few c e p
  have he4 : e = 0 ∨ e = 1 ∨ e = 2 ∨ e = 3 ∨ e = 4 := by omega
  have hp : (2 : Int) ^ e ≤ 16 := by rcases he4 with rfl | rfl | rfl | rfl | rfl <;> decide
  have hf4 : 4 ^ (e + 1) ≤ 2000 := by rcases he4 with rfl | rfl | rfl | rfl | rfl <;> decide
  have hin : ∀ j, j < (about7 c e p).length → Cel.inB ((about7 c e p).getD j (0, 0)) = true := fun j hj => by
    have hm := ((h.about _).1 (Cel.getD_mem hj)).1
    generalize (about7 c e p).getD j (0, 0) = q at *
    obtain ⟨a, b⟩ := q
    have := in_iff.1 hm
    unfold Cel.inB
    simp only
    exact decide_eq_true (by omega)
  have hl : (Cel.setL (about7 c e p)).length ≤ 2000 := Nat.le_trans (Cel.length_setL _) (by omega)
  refine ⟨Cel.setL (about7 c e p), by rw [Cel.ofR_in hin, if_neg (by omega)], hl, Cel.rises_setL _, fun q => ?_⟩
  rw [Cel.mem_setL, h.about]
theorem crop_rises {half : Int} {l : List (Int × Int)} (h : Cel.Rises l) : Cel.Rises (cropC9 half l) := List.Pairwise.filter _ h
theorem crop_mem {half : Int} {l : List (Int × Int)} (q : Int × Int) : q ∈ cropC9 half l ↔ q ∈ l ∧ (-half ≤ q.1 ∧ q.1 < half ∧ -half ≤ q.2 ∧ q.2 < half) := by
  unfold cropC9 cropB9
  rw [List.mem_filter, decide_eq_true_iff]
theorem mk_few {R : Int} (hR : R = 9000) {raw : List (Int × Int)} {k : Nat} (hk : k ≤ 40) : ∃ m n, MkK R (galTo raw k) 4 m n := by
  have h1 := galTo_right raw (show k ≤ 60 by omega)
  have hl := galTo_len raw k
  exact mk_known (by omega) (by omega) (by decide) h1.1 (h1.2 4 (by decide)) (by omega)
set_option maxHeartbeats 16000000 in
theorem leapHalves_law (B : Option Addr) (raw : List (Int × Int)) (d : Nat) (w : World) (hB : RdC w w.heap.size B raw) (hBl : raw.length ≤ 9223372036854775807) (hBc : raw.length ≤ d) (hBw : ∀ p ∈ raw, Cel.I64 p.1 ∧ Cel.I64 p.2) :
    Calls Try.prog 9 #[.slice B raw.length d] w fun e w' => e = .returned (.bool true) ∧ Below w.heap.size w w' := by
  have HB := Lib.hid hB
  have HW := Lib.hid hBw
  clear hB hBw
  go_enter Try.func9, Try.ntmps9
  go_wp2_with fail
  refine (awake9_any w).mono ?_
  rintro r w1 ⟨rfl, hb1⟩
  have HB1 := Lib.hid hb1
  clear hb1
  go_wp2_with fail
  go_loopw [4, 5] (fun v u wr => ∃ (k : Nat) (A1 : Option Addr) (c1 : Nat), k ≤ 40 ∧ k ≤ raw.length ∧ u = .int .i64 k ∧ v = .slice A1 (galTo raw k).length c1 ∧ (galTo raw k).length ≤ c1 ∧ Hid (RdC wr wr.heap.size A1 (galTo raw k) ∧ Below w1.heap.size w1 wr)) (fun _ u _ => 40 - (intOf u).toNat)
  case atStart => exact ⟨0, none, 0, Nat.zero_le _, Nat.zero_le _, rfl, rfl, Nat.le_refl _, (show Hid _ from ⟨Cel.Rd.nil _ _ _, Below.refl _ _⟩)⟩
  case round =>
    obtain ⟨k, A1, c1, hk40, hkl, rfl, rfl, hc1, HH⟩ := hrel
    have hsl := galTo_len raw k
    by_cases hgo : k < raw.length ∧ k < 40
    · obtain ⟨hlt, h40⟩ := hgo
      have hltz : (k : Int) < (raw.length : Int) := by omega
      have h40z : (k : Int) < 40 := by omega
      have hst := galTo_succ hlt
      obtain ⟨hx1, hx2⟩ := HW.out _ (Cel.getD_mem hlt)
      obtain ⟨b, off, rfl, hbB, hcell⟩ := Cel.Rd.at_ HB.out (by omega)
      obtain ⟨k0, k1⟩ := hcell k hlt
      generalize raw.getD k (0, 0) = xy at *
      obtain ⟨x, y⟩ := xy
      simp only at hx1 hx2 hst k0 k1
      have hbw := HB1.out.trans (HH.out.2.mono HB1.out.size)
      have q0 := Qt.cell_in (Qt.keep hbw k0)
      have q1 := Qt.cell_in (Qt.keep hbw k1)
      have hp1 := pickI_bd x 16 (by decide)
      have hp2 := pickI_bd y 16 (by decide)
      have HST := Lib.hid hst
      have HX := Lib.hid (And.intro hx1 hx2)
      generalize galTo raw k = S at *
      have hwx : IntKind.i64.wrap (pickI x 16 - 8) = pickI x 16 - 8 := by rw [IntKind.wrap_i64]; omega
      have hwy : IntKind.i64.wrap (pickI y 16 - 8) = pickI y 16 - 8 := by rw [IntKind.wrap_i64]; omega
      clear hcell k0 k1 hst hbw hx1 hx2
      go_wp2_with fail
      refine Qt.below_tail 16 (by kernel_rfl) (by kernel_rfl) ?_
      simp only [List.take_succ_cons, List.take_zero, List.drop_succ_cons, List.drop_zero]
      repeat (go_big_quiet_step (first
        | (go_at_call_of 14 x; exact Qt.at_same fun _ _ => pick9_any x 16 _ HX.out.1.1 HX.out.1.2 (by omega) (by omega))
        | (go_at_call_of 14 y; exact Qt.at_same fun _ _ => pick9_any y 16 _ HX.out.2.1 HX.out.2.2 (by omega) (by omega))))
      refine wpQuiet_nil ?_
      intro w2 hb2
      have HR2 := (Cel.Rd.below HH.out.1 hb2 (Nat.le_refl _)).more hb2.size
      have hp := Cel.put_any A1 S c1 (pickI x 16 - 8, pickI y 16 - 8) w2 HR2 (by omega) hc1
      rw [← HST.out] at hp
      have HB2 := Lib.hid (Qt.more HH.out.2 HH.out.2.size hb2)
      clear HR2 hb2 q0 q1 hwx hwy
      go_wp2_with (go_at_call 24; refine hp.mono ?_; rintro e w3 ⟨v3, rfl, hown3, hb3⟩)
      obtain ⟨A3, c3, rfl, hc3, hR3⟩ := Cel.Own.rd hown3
      have HN : Hid (RdC w3 w3.heap.size A3 (galTo raw (k + 1)) ∧ Below w1.heap.size w1 w3) := ⟨hR3, Qt.more HB2.out HB2.out.size hb3⟩
      clear hp hown3 hR3 hb3
      go_wp2_with fail
      go_roundw
      case measure => simp [intOf]; omega
      case rel => exact ⟨k + 1, A3, c3, by omega, by omega, by go_num, rfl, hc3, HN⟩
    · have hex : ((k : Int) < (raw.length : Int) ∧ ¬ (k : Int) < 40) ∨ ¬ (k : Int) < (raw.length : Int) := by omega
      obtain ⟨R, hR⟩ : ∃ R : Int, R = 9000 := ⟨_, rfl⟩
      obtain ⟨m, n, hmk⟩ := mk_few hR (raw := raw) hk40
      obtain ⟨a, p1, e1, b, p2, e2, hk⟩ := hal_known hmk.sq
      have HMK := Lib.hid hmk
      have HK := Lib.hid hk
      have HRV := Lib.hid hR
      have HB2 := Lib.hid (HB1.out.trans (HH.out.2.mono HB1.out.size))
      have HRS := Lib.hid HH.out.1
      have hnew := fun W => refNew6_any 9000 W
      have hnl : newL 9000 = new6 := by decide
      have hnr : newRoom 9000 = R := by rw [hR]; decide
      rw [hnl, hnr] at hnew
      generalize galTo raw k = S at *
      clear hmk hk hR HH hnl hnr hgo HB HW HB1
      rcases hex with ⟨hz, hz40⟩ | hz
      all_goals
        go_wp2_with fail
        refine (hnew _).mono ?_
        intro r w3 h
        obtain ⟨A3, c3, rfl, hcap3, N3, hb3⟩ := storeR_box h
        have HRS3 := Lib.hid ((Cel.Rd.below HRS.out hb3 (Nat.le_refl _)).more hb3.size)
        have HB3 := Lib.hid (Qt.more HB2.out HB2.out.size hb3)
        have hc := refMake7_any A3 new6 c3 R A1 S c1 5 w3 N3 (by decide) hcap3 (lev_bd (new_right (room := R) (by have := HRV.out; omega) (by have := HRV.out; omega))) HRS3.out (by omega) hc1
        rw [show (5 : Int) = ((4 : Nat) : Int) + 1 by decide, HMK.out.make] at hc
        rw [show ((4 : Nat) : Int) + 1 = 5 by decide] at hc
        unfold storeV at hc
        clear h hb3 hnew HB2 HRS N3
        go_wp2_with fail
        refine hc.mono ?_
        intro r w4 h
        obtain ⟨A4, c4, rfl, hcap4, N4, hb4⟩ := putR_box h
        have hal := (Below.refl w4.heap.size w4).alloc (Nat.le_refl _) (.cells #[.slice A4 m.length c4, .int .i64 R] 26)
        have hb' := Qt.more (B := w3.heap.size) hb4 hb4.size hal
        have HS4 := Lib.hid (stB_new N4 hcap4 R)
        have HB4 := Lib.hid (Qt.more HB3.out HB3.out.size hb')
        have hml := right_len HMK.out.sq.right
        clear h hc hb4 hb' N4 hal HB3 HRS3
        have s0 := HS4.out.s0
        have s1 := HS4.out.s1
        go_wp2_with fail
        clear s0 s1
        generalize (w4.alloc (.cells #[.slice A4 m.length c4, .int .i64 R] 26)) = v4 at *
        generalize w4.heap.size = b4 at *
        have hc := leap9_any A4 m c4 R n 3 v4 ⟨by decide, by decide⟩ HS4.out.rd (by omega) hcap4 (lev_bd HMK.out.sq.right)
        rw [HK.out.z1] at hc
        unfold storeV at hc
        refine hc.mono ?_
        intro r w5 h
        obtain ⟨A5, c5, rfl, hcap5, N5, hb5⟩ := putR_box h
        have hal := (Below.refl w5.heap.size w5).alloc (Nat.le_refl _) (.cells #[.slice A5 a.length c5, .int .i64 R] 26)
        have hb' := Qt.more (B := v4.heap.size) hb5 hb5.size hal
        have HS5 := Lib.hid (stB_new N5 hcap5 R)
        have HB5 := Lib.hid (Qt.more HB4.out HB4.out.size hb')
        have hal5 := right_len HK.out.ra
        clear h hc hb5 hb' N5 hal HB4 HS4
        have s0 := HS5.out.s0
        have s1 := HS5.out.s1
        go_wp2_with fail
        clear s0 s1
        generalize (w5.alloc (.cells #[.slice A5 a.length c5, .int .i64 R] 26)) = v5 at *
        generalize w5.heap.size = b5 at *
        have hc := leap9_any A5 a c5 R n 2 v5 ⟨by decide, by decide⟩ HS5.out.rd (by omega) hcap5 (lev_bd HK.out.ra)
        rw [HK.out.z2] at hc
        unfold storeV at hc
        refine hc.mono ?_
        intro r w6 h
        obtain ⟨A6, c6, rfl, hcap6, N6, hb6⟩ := putR_box h
        have hal := (Below.refl w6.heap.size w6).alloc (Nat.le_refl _) (.cells #[.slice A6 b.length c6, .int .i64 R] 26)
        have hb' := Qt.more (B := v5.heap.size) hb6 hb6.size hal
        have HS6 := Lib.hid (stB_new N6 hcap6 R)
        have HB6 := Lib.hid (Qt.more HB5.out HB5.out.size hb')
        have hal6 := right_len HK.out.rb
        clear h hc hb6 hb' N6 hal HB5 HS5
        have s0 := HS6.out.s0
        have s1 := HS6.out.s1
        rcases HK.out.a1 with ⟨h1, h1p⟩ | ⟨h1, _⟩
        · subst h1
          rcases HK.out.a2 with ⟨h2, h2p⟩ | ⟨h2, _⟩
          all_goals
            subst h2
            go_wp2_with fail
            go_ret
            exact ⟨rfl, HB6.out⟩
        subst h1
        rcases HK.out.a2 with ⟨h2, h2p⟩ | ⟨h2, _⟩
        · subst h2
          go_wp2_with fail
          go_ret
          exact ⟨rfl, HB6.out⟩
        subst h2
        obtain ⟨c, p3, e3, hk3⟩ := hal_more HK.out
        have HL := Lib.hid hk3
        clear hk3
        go_wp2_with fail
        clear s0 s1
        generalize (w6.alloc (.cells #[.slice A6 b.length c6, .int .i64 R] 26)) = v6 at *
        generalize w6.heap.size = b6 at *
        have hc := leap9_any A6 b c6 R p2 2 v6 ⟨by decide, by decide⟩ HS6.out.rd (by omega) hcap6 (lev_bd HK.out.rb)
        rw [HL.out.z3] at hc
        unfold storeV at hc
        refine hc.mono ?_
        intro r w7 h
        obtain ⟨A7, c7, rfl, hcap7, N7, hb7⟩ := putR_box h
        have hal := (Below.refl w7.heap.size w7).alloc (Nat.le_refl _) (.cells #[.slice A7 c.length c7, .int .i64 R] 26)
        have hb' := Qt.more (B := v6.heap.size) hb7 hb7.size hal
        have HS7 := Lib.hid (stB_new N7 hcap7 R)
        have HB7 := Lib.hid (Qt.more HB6.out HB6.out.size hb')
        have hal7 := right_len HL.out.rc
        have hlt1 : p1 < c.length := HL.out.w3.is.lt
        have hlt1z : ¬ (c.length : Int) ≤ (p1 : Int) := by omega
        have hlt1y : (p1 : Int) < (c.length : Int) := by omega
        clear h hc hb7 hb' N7 hal HB6 HS6
        obtain ⟨qb, ob, hA7, hqb, _⟩ := HS7.out.nd (Nat.lt_of_le_of_lt (Nat.zero_le _) hlt1)
        subst hA7
        have s0 := HS7.out.s0
        have s1 := HS7.out.s1
        rcases HL.out.a3 with ⟨h3, h3p⟩ | ⟨h3, h3s⟩
        · subst h3
          go_wp2_with fail
          go_ret
          exact ⟨rfl, HB7.out⟩
        subst h3
        have hlt3 : p3 < c.length := h3s.is.lt
        have hlt3z : ¬ (c.length : Int) ≤ (p3 : Int) := by omega
        have hlt3y : (p3 : Int) < (c.length : Int) := by omega
        have H3 := Lib.hid h3s
        clear h3s hqb
        go_wp2_with fail
        clear s0 s1
        generalize (w7.alloc (.cells #[.slice (some ⟨qb, ob, none⟩) c.length c7, .int .i64 R] 26)) = v7 at *
        generalize w7.heap.size = b7 at *
        have hc := refOf7_any c HL.out.rc (some ⟨qb, ob, none⟩) c7 R 3 p1 v7 (by decide) HL.out.w3.is HS7.out.rd (by have := about_few c 3 p1; omega)
        unfold storeV at hc
        obtain ⟨X, hX1, hX2, hX3, hX4⟩ := about_set HL.out.w3 (by decide)
        obtain ⟨Y, hY1, hY2, hY3, hY4⟩ := about_set H3.out (by decide)
        have hfl1 := about_few c 3 p1
        have hfl3 := about_few c 2 p3
        have hXY : cropC9 4 X = Y := Cel.rises_ext (crop_rises hX3) hY3 fun q => by
          rw [crop_mem, hX4, hY4]
          obtain ⟨x, y⟩ := q
          rw [in_iff, in_iff, show (2 : Int) ^ 3 = 8 from rfl, show (2 : Int) ^ 2 = 4 from rfl]
          constructor
          · rintro ⟨⟨_, h1⟩, h2⟩; exact ⟨h2, h1⟩
          · rintro ⟨h1, h2⟩; exact ⟨⟨by omega, h2⟩, h1⟩
        have HXY := Lib.hid (And.intro hXY (And.intro hX1 hY1))
        clear hX3 hX4 hY3 hY4 hXY hX1 hY1
        refine hc.mono ?_
        rintro r w8 ⟨A8, c8, rfl, hc8, hR8, hb8⟩
        have HS8 := Lib.hid (HS7.out.below hb8)
        have HB8 := Lib.hid (Qt.more HB7.out HB7.out.size hb8)
        have hc := Cel.refOf_any A8 (about7 c 3 p1) c8 w8 hR8 (by omega) hc8
        rw [HXY.out.2.1] at hc
        clear hb8 hR8 HS7 HB7
        go_wp2_with fail
        refine hc.mono ?_
        rintro r w9 ⟨v9, rfl, ⟨A9, c9, rfl, hc9, hR9⟩, hb9⟩
        dsimp only at hR9 hc9
        have HS9 := Lib.hid (HS8.out.below hb9)
        have HB9 := Lib.hid (Qt.more HB8.out HB8.out.size hb9)
        have HX9 := Lib.hid hR9
        clear hc hb9 hR9 HS8 HB8
        have s0 := HS9.out.s0
        have s1 := HS9.out.s1
        go_wp2_with fail
        clear s0 s1
        have hc := refOf7_any c HL.out.rc (some ⟨qb, ob, none⟩) c7 R 2 p3 w9 (by decide) H3.out.is HS9.out.rd (by omega)
        unfold storeV at hc
        refine hc.mono ?_
        rintro r w10 ⟨A10, c10, rfl, hc10, hR10, hb10⟩
        have HS10 := Lib.hid (HS9.out.below hb10)
        have HB10 := Lib.hid (Qt.more HB9.out HB9.out.size hb10)
        have HX10 := Lib.hid ((Cel.Rd.below HX9.out hb10 (Nat.le_refl _)).more hb10.size)
        have hc := Cel.refOf_any A10 (about7 c 2 p3) c10 w10 hR10 (by omega) hc10
        rw [HXY.out.2.2] at hc
        clear hb10 hR10 HS9 HB9 HX9
        go_wp2_with fail
        refine hc.mono ?_
        rintro r w11 ⟨v11, rfl, ⟨A11, c11, rfl, hc11, hR11⟩, hb11⟩
        dsimp only at hR11 hc11
        have HS11 := Lib.hid (HS10.out.below hb11)
        have HB11 := Lib.hid (Qt.more HB10.out HB10.out.size hb11)
        have HX11 := Lib.hid ((Cel.Rd.below HX10.out hb11 (Nat.le_refl _)).more hb11.size)
        have HY11 := Lib.hid hR11
        have hcr := crop9_any A9 X c9 4 w11 HX11.out (by omega) (by decide)
        rw [HXY.out.1] at hcr
        have s0 := HS11.out.s0
        have s1 := HS11.out.s1
        have x1 := (HS11.out.node hlt1).1
        rw [HL.out.w3.is.lev] at x1
        have x3 := (HS11.out.node hlt3).1
        rw [H3.out.is.lev] at x3
        rw [show (((3 + 1 : Nat)) : Int) = 4 from rfl] at x1
        rw [show (((2 + 1 : Nat)) : Int) = 3 from rfl] at x3
        clear hc hb11 hR11 HS10 HB10 HX10
        go_wp2_with fail
        refine hcr.mono ?_
        rintro r w12 ⟨v12, rfl, ho12, hb12⟩
        obtain ⟨A12, c12, rfl, hc12, hR12⟩ := Cel.Own.rd ho12
        have HB12 := Lib.hid (Qt.more HB11.out HB11.out.size hb12)
        have hsm := Cel.same_holds (c := c12) (c' := c11) hR12 ((Cel.Rd.below HY11.out hb12 (Nat.le_refl _)).more hb12.size) (by omega)
        rw [decide_eq_true rfl] at hsm
        clear hcr ho12 hb12 hR12 s0 s1 x1 x3 HB11 HS11
        go_wp2_with fail
        refine hsm.mono ?_
        rintro r w13 ⟨rfl, hb13⟩
        have HB13 := Lib.hid (Qt.more HB12.out HB12.out.size hb13)
        clear hsm hb13
        go_wp2_with fail
        go_ret
        exact ⟨rfl, HB13.out⟩
end Go.Proofs.Ytbibbonbhamcfaa
