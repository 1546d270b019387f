/-
  The law SquareBack.
-/
import Derived.Test.YtcmdhochofoohaaB14
import Derived.Test.YtcmdhochofoohaaRo
namespace Go.Proofs.Ytcmdhochofoohaa
set_option maxRecDepth 100000
set_option linter.unusedVariables false
set_option linter.unusedSimpArgs false
open Go.RowKit Go.Sort

theorem pick7_any (c n : Int) (w : World) (h1 : -9223372036854775808 ≤ c) (h2 : c ≤ 9223372036854775807) (hn : 1 ≤ n) (hn2 : n ≤ 9223372036854775807) :
    Calls Try.prog 30 #[.int .i64 c, .int .i64 n] w fun e w' => e = .returned (.int .i64 (pickI c n)) ∧ w = w' := by
  generalize hr : pickI c n = r
  have HR := Lib.hid hr
  clear hr
  go_enter Try.func30, Try.ntmps30
  go_wp2
  all_goals go_ret
  all_goals refine ⟨?_, rfl⟩
  all_goals (refine Qt.ret_int ?_; rw [← HR.out]; unfold pickI)
  · rw [if_pos (by assumption), ← Int.neg_tmod, Int.tmod_eq_emod_of_nonneg (by omega)]
  · rw [if_neg (by omega)]
theorem lev_bd {l : List Nd} {room : Int} (h : Right6 l room) : ∀ i, i < l.length → -9223372036854775808 ≤ (l.getD i deadN).1 ∧ (l.getD i deadN).1 ≤ 9223372036854775807 := fun i hi => by
  by_cases h2 : 2 ≤ i
  · have hf := fits_iff.1 (h.fits i h2 hi)
    have h3 := hf.lo
    have h4 := hf.hi
    omega
  · have := (level_zero h hi).2 (by omega)
    omega
theorem raw_set (raw : List (Int × Int)) : Cel.rightB (Cel.rawSet raw) = true ∧ (Cel.rawSet raw).length ≤ 60 ∧ ∀ e, 3 ≤ e → ∀ s ∈ Cel.rawSet raw, insideB e s = true := by
  have hm : ∀ s ∈ Cel.rawSet raw, -8 ≤ s.1 ∧ s.1 ≤ 7 ∧ -8 ≤ s.2 ∧ s.2 ≤ 7 := fun s hs => Cel.rawTo_bd ((Cel.mem_setL _ _).1 hs)
  have hl : (Cel.rawSet raw).length ≤ 60 := Nat.le_trans (Cel.length_setL _) (Cel.length_rawTo raw 60)
  refine ⟨(Cel.rightB_iff _).2 ⟨by omega, fun s hs => ?_, Cel.rises_setL _⟩, hl, fun e he s hs => ?_⟩
  · have := hm s hs
    unfold Cel.inB
    exact decide_eq_true (by omega)
  · have := hm s hs
    have hp : (8 : Int) ≤ 2 ^ e := by
      obtain ⟨d, rfl⟩ : ∃ d, e = 3 + d := ⟨e - 3, by omega⟩
      rw [Int.pow_add]
      have := pow_pos7 d
      generalize (2 : Int) ^ d = P at *
      show 8 ≤ 8 * P
      omega
    unfold insideB
    exact decide_eq_true (by omega)
set_option maxHeartbeats 16000000 in
set_option maxRecDepth 100000 in
theorem squareBack_law (room : Int) (A : Option Addr) (raw : List Raw5) (c : Nat) (B : Option Addr) (rs : List (Int × Int)) (d : Nat) (C : Option Addr) (ro : List (Int × Int)) (f : Nat) (lev : Int) (w : World) (hI : I64 room) (hR : RdR w w.heap.size A raw) (hl : raw.length ≤ 9223372036854775807) (hF : ∀ j, j < raw.length → Fine5 (raw.getD j dead5))
    (hB : RdC w w.heap.size B rs) (hBl : rs.length ≤ 9223372036854775807) (hBc : rs.length ≤ d) (hBw : ∀ p ∈ rs, Cel.I64 p.1 ∧ Cel.I64 p.2)
    (hC : RdC w w.heap.size C ro) (hCl : ro.length ≤ 9223372036854775807) (hCc : ro.length ≤ f) (hCw : ∀ p ∈ ro, Cel.I64 p.1 ∧ Cel.I64 p.2) (hL : I64 lev) :
    Calls Try.prog 5 #[.int .i64 room, .slice A raw.length c, .slice B rs.length d, .slice C ro.length f, .int .i64 lev] w fun e w' => e = .returned (.bool true) ∧ Below w.heap.size w w' := by
  obtain ⟨hS, hSl⟩ := store_right room raw
  have hpb := pick6_bd room 60 (by decide)
  have hst := fun W hR' => store6_any A raw c room W hR' hl hI hF
  obtain ⟨R, hRR⟩ : ∃ R, R = 2 + pick6 room 60 := ⟨_, rfl⟩
  rw [← hRR] at hS hst
  obtain ⟨l, hll⟩ : ∃ l, l = store6 room raw := ⟨_, rfl⟩
  rw [← hll] at hS hst hSl
  have hS' : Right6 l (R + 900) := hS.more (by have := hS.len; omega) (by omega) (by omega)
  have hset1 := fun W hW => Cel.set_any B rs d W hW hBl hBc hBw
  have hset2 := fun W hW => Cel.set_any C ro f W hW hCl hCc hCw
  obtain ⟨hS1, hS2, hS3⟩ := raw_set rs
  obtain ⟨hT1, hT2, hT3⟩ := raw_set ro
  obtain ⟨S, hSS⟩ : ∃ S, S = Cel.rawSet rs := ⟨_, rfl⟩
  obtain ⟨T, hTT⟩ : ∃ T, T = Cel.rawSet ro := ⟨_, rfl⟩
  rw [← hSS] at hset1 hS1 hS2 hS3
  rw [← hTT] at hset2 hT1 hT2 hT3
  have hpk := fun W => pick7_any lev 4 W hL.1 hL.2 (by decide) (by decide)
  have hq := pickI_bd lev 4 (by decide)
  obtain ⟨q, hqq⟩ : ∃ q, q = pickI lev 4 := ⟨_, rfl⟩
  rw [← hqq] at hpk hq
  obtain ⟨e, he, he6⟩ : ∃ e : Nat, 4 + q = (e : Int) + 1 ∧ 3 ≤ e ∧ e ≤ 6 := ⟨(q + 3).toNat, by omega, by omega, by omega⟩
  have hb1 : S.length * (e + 1) ≤ 60 * 7 := Nat.mul_le_mul hS2 (by omega)
  have hb2 : T.length * (e + 1) ≤ 60 * 7 := Nat.mul_le_mul hT2 (by omega)
  have h2l := hS.two
  obtain ⟨m1, n, ma, mg, msq, mlen⟩ := make_ok (l := l) (room := R + 900) (e := e) hS' (by omega) hS1 (hS3 e he6.1) (by omega)
  obtain ⟨m2, p, na, ng, nsq, nlen⟩ := make_ok (l := m1) (room := R + 900) (e := e) msq.right (by omega) hT1 (hT3 e he6.1) (by omega)
  have msq2 := msq.grows ng nsq.right
  have oa := msq2.again
  have hc1 := msq2.cells
  have hc2 := nsq.cells
  have hiff := msq2.iff nsq
  have hright := right_iff.2 nsq.right
  have hlv := lev_bd nsq.right
  have HLV := Lib.hid hlv
  clear hlv
  rw [← he] at ma na oa
  have hRb : R + 900 ≤ 2000 ∧ 0 ≤ R := by omega
  have HIFF := Lib.hid hiff
  have HLEN := Lib.hid (show l.length ≤ 1000000 ∧ m1.length ≤ 1000000 ∧ m2.length ≤ 1000000 ∧ S.length ≤ 60 ∧ T.length ≤ 60 by omega)
  have HMA := Lib.hid ma
  have HNA := Lib.hid na
  have HOA := Lib.hid oa
  have HC1 := Lib.hid hc1
  have HC2 := Lib.hid hc2
  have HRT := Lib.hid hright
  have HSQ := Lib.hid nsq
  have HR0 := Lib.hid hR
  have HRS := Lib.hid hB
  have HRO := Lib.hid hC
  clear hiff ma na oa hc1 hc2 hright nsq msq msq2 hS' hS hSl hpb hRR hll hI hF hR hB hC hS1 hS2 hS3 hT1 hT2 hT3 hSS hTT hqq hb1 hb2 h2l mg ng mlen nlen he he6 hBw hCw hL hBl hCl
  go_enter Try.func5, Try.ntmps5
  go_wp2_with fail
  refine (awake7_any w).mono ?_
  rintro e w1 ⟨rfl, hb1⟩
  have hst1 := hst w1 ((HR0.out.below hb1 (Nat.le_refl _)).more hb1.size)
  have HRS1 := Lib.hid ((HRS.out.below hb1 (Nat.le_refl _)).more hb1.size)
  have HRO1 := Lib.hid ((HRO.out.below hb1 (Nat.le_refl _)).more hb1.size)
  have HB1 := Lib.hid hb1
  clear hst HR0 HRS HRO hb1
  go_wp2_with fail
  refine hst1.mono ?_
  intro e w2 h
  obtain ⟨A2, c2, rfl, hcap2, N2, hb2⟩ := storeR_box h
  have hal := (Below.refl w2.heap.size w2).alloc (Nat.le_refl _) (.cells #[.slice A2 l.length c2, .int .i64 (R + 900)] 25)
  have hb' := Qt.more (B := w1.heap.size) hb2 hb2.size hal
  have HS2 := Lib.hid (stB_new N2 hcap2 (R + 900))
  have HRS2 := Lib.hid ((HRS1.out.below hb' (Nat.le_refl _)).more hb'.size)
  have HRO2 := Lib.hid ((HRO1.out.below hb' (Nat.le_refl _)).more hb'.size)
  have HB2 := Lib.hid (Qt.more HB1.out HB1.out.size hb')
  clear h hst1 hb2 hb' HB1 HRS1 HRO1 N2 hal
  go_wp2_with fail
  generalize (w2.alloc (.cells #[.slice A2 l.length c2, .int .i64 (R + 900)] 25)) = v2 at *
  generalize w2.heap.size = b2 at *
  refine (hset1 v2 HRS2.out).mono ?_
  rintro e w3 ⟨_, rfl, ⟨A3, c3, rfl, hcap3, N3⟩, hb3⟩
  have HX3 := Lib.hid N3
  have HS3 := Lib.hid (HS2.out.below hb3)
  have HRO3 := Lib.hid ((HRO2.out.below hb3 (Nat.le_refl _)).more hb3.size)
  have HB3 := Lib.hid (Qt.more HB2.out HB2.out.size hb3)
  clear N3 hb3 HS2 HRO2 HB2 HRS2 hset1
  go_wp2_with fail
  refine (hset2 w3 HRO3.out).mono ?_
  rintro e w4 ⟨_, rfl, ⟨A4, c4, rfl, hcap4, N4⟩, hb4⟩
  have HY4 := Lib.hid N4
  have HX4 := Lib.hid ((HX3.out.below hb4 (Nat.le_refl _)).more hb4.size)
  have HS4 := Lib.hid (HS3.out.below hb4)
  have HB4 := Lib.hid (Qt.more HB3.out HB3.out.size hb4)
  clear N4 hb4 HS3 HX3 HB3 HRO3 hset2
  go_wp2_with fail
  refine (hpk w4).mono ?_
  rintro e _ ⟨rfl, rfl⟩
  have s0 := HS4.out.s0
  have s1 := HS4.out.s1
  clear hpk
  go_wp2_with fail
  have hc2 := make7_any A2 l c2 (R + 900) A3 S c3 (4 + q) w4 HS4.out.rd HLEN.out.1 hcap2 HX4.out (by have := HLEN.out; omega) hcap3
  rw [HMA.out] at hc2
  unfold storeV at hc2
  clear s0 s1
  refine hc2.mono ?_
  intro e w5 h
  obtain ⟨A5, c5, rfl, hcap5, N, hb⟩ := putR_box h
  have hal := (Below.refl w5.heap.size w5).alloc (Nat.le_refl _) (.cells #[.slice A5 m1.length c5, .int .i64 (R + 900)] 25)
  have hb' := Qt.more (B := w4.heap.size) hb hb.size hal
  have HA5 := Lib.hid (stB_new N hcap5 (R + 900))
  have HX5 := Lib.hid ((HX4.out.below hb' (Nat.le_refl _)).more hb'.size)
  have HY5 := Lib.hid ((HY4.out.below hb' (Nat.le_refl _)).more hb'.size)
  have HB5 := Lib.hid (Qt.more HB4.out HB4.out.size hb')
  clear h hc2 hb hb' hal N HX4 HY4 HB4 HS4 HMA
  go_wp2_with fail
  generalize (w5.alloc (.cells #[.slice A5 m1.length c5, .int .i64 (R + 900)] 25)) = v5 at *
  generalize w5.heap.size = b5 at *
  have hc2 := make7_any A5 m1 c5 (R + 900) A4 T c4 (4 + q) v5 HA5.out.rd HLEN.out.2.1 hcap5 HY5.out (by have := HLEN.out; omega) hcap4
  rw [HNA.out] at hc2
  unfold storeV at hc2
  refine hc2.mono ?_
  intro e w6 h
  obtain ⟨A6, c6, rfl, hcap6, N, hb⟩ := putR_box h
  have hal := (Below.refl w6.heap.size w6).alloc (Nat.le_refl _) (.cells #[.slice A6 m2.length c6, .int .i64 (R + 900)] 25)
  have hb' := Qt.more (B := v5.heap.size) hb hb.size hal
  have HD6 := Lib.hid (stB_new N hcap6 (R + 900))
  have HX6 := Lib.hid ((HX5.out.below hb' (Nat.le_refl _)).more hb'.size)
  have HY6 := Lib.hid ((HY5.out.below hb' (Nat.le_refl _)).more hb'.size)
  have HB6 := Lib.hid (Qt.more HB5.out HB5.out.size hb')
  clear h hc2 hb hb' hal N HX5 HY5 HB5 HA5 HNA
  go_wp2_with fail
  generalize (w6.alloc (.cells #[.slice A6 m2.length c6, .int .i64 (R + 900)] 25)) = v6 at *
  generalize w6.heap.size = b6 at *
  have hc2 := make7_any A6 m2 c6 (R + 900) A3 S c3 (4 + q) v6 HD6.out.rd HLEN.out.2.2.1 hcap6 HX6.out (by have := HLEN.out; omega) hcap3
  rw [HOA.out] at hc2
  unfold storeV at hc2
  refine hc2.mono ?_
  intro e w7 h
  obtain ⟨A7, c7, rfl, hcap7, N, hb⟩ := putR_box h
  have hal := (Below.refl w7.heap.size w7).alloc (Nat.le_refl _) (.cells #[.slice A7 m2.length c7, .int .i64 (R + 900)] 25)
  have hb' := Qt.more (B := v6.heap.size) hb hb.size hal
  have HE7 := Lib.hid (stB_new N hcap7 (R + 900))
  have HD7 := Lib.hid (HD6.out.below hb')
  have HX7 := Lib.hid ((HX6.out.below hb' (Nat.le_refl _)).more hb'.size)
  have HY7 := Lib.hid ((HY6.out.below hb' (Nat.le_refl _)).more hb'.size)
  have HB7 := Lib.hid (Qt.more HB6.out HB6.out.size hb')
  clear h hc2 hb hb' hal N HX6 HY6 HB6 HD6 HOA
  go_wp2_with fail
  generalize (w7.alloc (.cells #[.slice A7 m2.length c7, .int .i64 (R + 900)] 25)) = v7 at *
  generalize w7.heap.size = b7 at *
  have hc2 := cells7_any A7 m2 c7 (R + 900) (n : Int) v7 HE7.out.rd HLEN.out.2.2.1 hcap7
  rw [HC1.out] at hc2
  unfold storeV at hc2
  refine hc2.mono ?_
  intro e w8 h
  obtain ⟨A8, c8, rfl, hcap8, hN, hb⟩ := h
  have HU8 := Lib.hid hN
  have HE8 := Lib.hid (HE7.out.below hb)
  have HD8 := Lib.hid (HD7.out.below hb)
  have HX8 := Lib.hid ((HX7.out.below hb (Nat.le_refl _)).more hb.size)
  have HY8 := Lib.hid ((HY7.out.below hb (Nat.le_refl _)).more hb.size)
  have HB8 := Lib.hid (Qt.more HB7.out HB7.out.size hb)
  have s0 := HE8.out.s0
  have s1 := HE8.out.s1
  clear hc2 hb hN HX7 HY7 HB7 HD7 HE7 HC1
  go_wp2_with fail
  have hc2 := cells7_any A7 m2 c7 (R + 900) (p : Int) w8 HE8.out.rd HLEN.out.2.2.1 hcap7
  rw [HC2.out] at hc2
  unfold storeV at hc2
  clear s0 s1
  refine hc2.mono ?_
  intro e w9 h
  obtain ⟨A9, c9, rfl, hcap9, hN, hb⟩ := h
  have HV9 := Lib.hid hN
  have HU9 := Lib.hid ((HU8.out.below hb (Nat.le_refl _)).more hb.size)
  have HE9 := Lib.hid (HE8.out.below hb)
  have HD9 := Lib.hid (HD8.out.below hb)
  have HX9 := Lib.hid ((HX8.out.below hb (Nat.le_refl _)).more hb.size)
  have HY9 := Lib.hid ((HY8.out.below hb (Nat.le_refl _)).more hb.size)
  have HB9 := Lib.hid (Qt.more HB8.out HB8.out.size hb)
  have s0 := HE9.out.s0
  have s1 := HE9.out.s1
  have t0 := HD9.out.s0
  have t1 := HD9.out.s1
  clear hc2 hb hN HX8 HY8 HB8 HD8 HE8 HU8 HC2
  simp only at hcap8 hcap9 HU9 HV9
  have hnp : decide ((n : Int) = (p : Int)) = decide (S = T) := by
    have := HIFF.out
    by_cases hST : S = T
    · rw [decide_eq_true hST, decide_eq_true (by rw [this.2 hST])]
    · rw [decide_eq_false hST, decide_eq_false fun hh => hST (this.1 (by omega))]
  obtain ⟨bb, hbb⟩ : ∃ bb, decide (S = T) = bb := ⟨_, rfl⟩
  rw [hbb] at hnp
  have HBB := Lib.hid hbb
  clear hbb
  have hsm := refSame6_any A6 m2 c6 (R + 900) A7 m2 c7 (R + 900) w9 HD9.out.rd HE9.out.rd HLEN.out.2.2.1 HLEN.out.2.2.1
  rw [decide_eq_true (⟨rfl, rfl⟩ : R + 900 = R + 900 ∧ m2 = m2)] at hsm
  unfold storeV at hsm
  go_wp2_with fail
  refine hsm.mono ?_
  rintro e wa ⟨rfl, hb⟩
  have HUa := Lib.hid ((HU9.out.below hb (Nat.le_refl _)).more hb.size)
  have HVa := Lib.hid ((HV9.out.below hb (Nat.le_refl _)).more hb.size)
  have HEa := Lib.hid (HE9.out.below hb)
  have HXa := Lib.hid ((HX9.out.below hb (Nat.le_refl _)).more hb.size)
  have HYa := Lib.hid ((HY9.out.below hb (Nat.le_refl _)).more hb.size)
  have HBa := Lib.hid (Qt.more HB9.out HB9.out.size hb)
  have hsm := Cel.same_holds (c := c8) (c' := c3) HUa.out HXa.out (by have := HLEN.out; omega)
  rw [decide_eq_true rfl] at hsm
  clear hb HB9 HU9 HV9 HE9 HX9 HY9 HD9 s0 s1 t0 t1
  go_wp2_with fail
  refine hsm.mono ?_
  rintro e wb ⟨rfl, hb⟩
  have HVb := Lib.hid ((HVa.out.below hb (Nat.le_refl _)).more hb.size)
  have HEb := Lib.hid (HEa.out.below hb)
  have HXb := Lib.hid ((HXa.out.below hb (Nat.le_refl _)).more hb.size)
  have HYb := Lib.hid ((HYa.out.below hb (Nat.le_refl _)).more hb.size)
  have HBb := Lib.hid (Qt.more HBa.out HBa.out.size hb)
  have hsm := Cel.same_holds (c := c9) (c' := c4) HVb.out HYb.out (by have := HLEN.out; omega)
  rw [decide_eq_true rfl] at hsm
  clear hb HBa HUa HVa HEa HXa HYa
  go_wp2_with fail
  refine hsm.mono ?_
  rintro e wc ⟨rfl, hb⟩
  have HEc := Lib.hid (HEb.out.below hb)
  have HXc := Lib.hid ((HXb.out.below hb (Nat.le_refl _)).more hb.size)
  have HYc := Lib.hid ((HYb.out.below hb (Nat.le_refl _)).more hb.size)
  have HBc := Lib.hid (Qt.more HBb.out HBb.out.size hb)
  have hsm := Cel.same_holds (c := c3) (c' := c4) HXc.out HYc.out (by have := HLEN.out; omega)
  rw [HBB.out] at hsm
  clear hb HBb HVb HEb HXb HYb
  have hr := fun W hW => refRight6_any A7 m2 c7 (R + 900) W hW HLEN.out.2.2.1 HLV.out
  rw [HRT.out] at hr
  unfold storeV at hr
  cases bb
  all_goals
    first
      | replace hnp : (n : Int) = (p : Int) := of_decide_eq_true hnp
        obtain rfl : n = p := by omega
        clear hnp
      | replace hnp : ¬ (n : Int) = (p : Int) := of_decide_eq_false hnp
    go_wp2_with fail
    refine hsm.mono ?_
    rintro e wd ⟨rfl, hb⟩
    have HEd := Lib.hid (HEc.out.below hb)
    have HBd := Lib.hid (Qt.more HBc.out HBc.out.size hb)
    have s0 := HEd.out.s0
    have s1 := HEd.out.s1
    clear hb HBc HEc HXc HYc hsm
    go_wp2_with fail
    refine (hr wd HEd.out.rd).mono ?_
    rintro e wf ⟨rfl, hb⟩
    have HB := Lib.hid (Qt.more HBd.out HBd.out.size hb)
    clear hb s0 s1 hr HBd
    go_wp2_with fail
    go_ret
    first
      | exact ⟨rfl, HB.out⟩
      | (refine ⟨?_, HB.out⟩
         have hx : ((n : Int) == (p : Int)) = false := by simpa using hnp
         show Ending.returned (.bool (!((n : Int) == (p : Int)))) = _
         rw [hx]
         rfl)
end Go.Proofs.Ytcmdhochofoohaa
