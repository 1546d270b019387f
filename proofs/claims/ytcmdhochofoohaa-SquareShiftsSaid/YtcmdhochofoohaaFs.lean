/-
  The law SquareShifts.
-/
import Derived.Test.YtcmdhochofoohaaFr
import Derived.Test.YtcmdhochofoohaaTv
import Derived.Test.YtcmdhochofoohaaGc
namespace Go.Proofs.Ytcmdhochofoohaa
set_option maxRecDepth 100000
set_option linter.unusedVariables false
set_option linter.unusedSimpArgs false
open Go.RowKit Go.Sort

set_option maxHeartbeats 16000000 in
set_option maxRecDepth 100000 in
theorem squareShifts_law (room : Int) (A : Option Addr) (raw : List Raw5) (c : Nat) (B : Option Addr) (rs : List (Int × Int)) (d : Nat) (which : Int) (w : World) (hI : I64 room) (hR : RdR w w.heap.size A raw) (hl : raw.length ≤ 9223372036854775807) (hF : ∀ j, j < raw.length → Fine5 (raw.getD j dead5))
    (hB : RdC w w.heap.size B rs) (hBl : rs.length ≤ 9223372036854775807) (hBc : rs.length ≤ d) (hBw : ∀ p ∈ rs, Cel.I64 p.1 ∧ Cel.I64 p.2) (hL : I64 which) :
    Calls Try.prog 8 #[.int .i64 room, .slice A raw.length c, .slice B rs.length d, .int .i64 which] w fun e w' => e = .returned (.bool true) ∧ Below w.heap.size w w' := by
  obtain ⟨hS, hSl⟩ := store_right room raw
  have hpb := pick6_bd room 60 (by decide)
  have hst := fun W hR' => store6_any A raw c room W hR' hl hI hF
  obtain ⟨R, hRR⟩ : ∃ R, R = 2 + pick6 room 60 := ⟨_, rfl⟩
  rw [← hRR] at hS hst
  obtain ⟨l, hll⟩ : ∃ l, l = store6 room raw := ⟨_, rfl⟩
  rw [← hll] at hS hst hSl
  have hS' : Right6 l (R + 900) := hS.more (by have := hS.len; omega) (by omega) (by omega)
  have hset1 := fun W hW => Cel.set_any B rs d W hW hBl hBc hBw
  obtain ⟨hS1, hS2, hS3⟩ := raw_set rs
  obtain ⟨S, hSS⟩ : ∃ S, S = Cel.rawSet rs := ⟨_, rfl⟩
  rw [← hSS] at hset1 hS1 hS2 hS3
  have hpk := fun W => pick7_any which 4 W hL.1 hL.2 (by decide) (by decide)
  have hq := pickI_bd which 4 (by decide)
  obtain ⟨q, hqq⟩ : ∃ q, q = pickI which 4 := ⟨_, rfl⟩
  rw [← hqq] at hpk hq
  obtain ⟨k, hk4, hkq⟩ : ∃ k : Nat, k < 4 ∧ q = (k : Int) := ⟨q.toNat, by omega, by omega⟩
  subst hkq
  obtain ⟨hF1, hF2, hF3⟩ := far_set hk4 hS1 (hS3 3 (by decide))
  have hFl := Cel.length_shL (farX k) (farY k) S
  have hsh : Cel.shiftR S (farX k) (farY k) = (0, Cel.shL (farX k) (farY k) S) := by unfold Cel.shiftR; rw [if_pos hS1, if_pos hF3]
  have hxy : (k = 0 ∧ farX k = -8 ∧ farY k = -8) ∨ (k = 1 ∧ farX k = 8 ∧ farY k = -8) ∨ (k = 2 ∧ farX k = -8 ∧ farY k = 8) ∨ (k = 3 ∧ farX k = 8 ∧ farY k = 8) := by
    rcases (by omega : k = 0 ∨ k = 1 ∨ k = 2 ∨ k = 3) with rfl | rfl | rfl | rfl <;> simp [farX, farY]
  have h2l := hS.two
  obtain ⟨m1, n, ma, mg, msq, mlen⟩ := make_ok (l := l) (room := R + 900) (e := 3) hS' (by decide) hS1 (hS3 3 (by decide)) (by omega)
  obtain ⟨m2, p, na, ng, nsq, nlen⟩ := make_ok (l := m1) (room := R + 900) (e := 4) msq.right (by decide) hF1 hF2 (by omega)
  obtain ⟨hq1, hq2⟩ := Sq.quarter hk4 hS1 (hS3 3 (by decide)) nsq
  have hn := hq1.one (msq.grows ng nsq.right)
  have hpop := nsq.pop
  rw [hFl] at hpop
  have hkc := fun i (hi : i < 4) => kid_cast nsq.right nsq.is hi
  have hplt := nsq.is.lt
  replace ma : make7 l (R + 900) S 4 = (m1, (n : Int), 0) := ma
  replace na : make7 m1 (R + 900) (Cel.shL (farX k) (farY k) S) 5 = (m2, (p : Int), 0) := na
  have hlen : l.length ≤ 1000000 ∧ m1.length ≤ 1000000 ∧ m2.length ≤ 1000000 ∧ S.length ≤ 60 := by omega
  have hrsh := fun A3 c3 W hW hc => Cel.refShift_any A3 S c3 (farX k) (farY k) W hW (by omega) hc (by unfold Cel.I64; omega) (by unfold Cel.I64; omega)
  rw [hsh] at hrsh
  have hms := make7_any
  obtain ⟨F, hFF⟩ : ∃ F, F = Cel.shL (farX k) (farY k) S := ⟨_, rfl⟩
  rw [← hFF] at na hrsh hFl
  obtain ⟨dx, hdx⟩ : ∃ dx, dx = farX k := ⟨_, rfl⟩
  obtain ⟨dy, hdy⟩ : ∃ dy, dy = farY k := ⟨_, rfl⟩
  rw [← hdx, ← hdy] at hrsh hxy
  have hRb : R + 900 ≤ 2000 ∧ 0 ≤ R := by omega
  have hpl : (p : Int) < m2.length := by omega
  have HPL := Lib.hid hpl
  have HFL := Lib.hid hFl
  have HLEN := Lib.hid hlen
  have HMA := Lib.hid ma
  have HNA := Lib.hid na
  have HPOP := Lib.hid hpop
  have HKC := Lib.hid hkc
  have HN := Lib.hid hn
  have HQ1 := Lib.hid hq1.is.lt
  have HQ2 := Lib.hid hq2
  have HPT := Lib.hid hplt
  have HXY := Lib.hid hxy
  have HRSH := Lib.hid hrsh
  have HR0 := Lib.hid hR
  have HRS := Lib.hid hB
  clear hpl hFl hlen ma na hpop hkc hn hq1 hq2 hplt hxy hrsh hms nsq msq hS' hS hSl hpb hRR hll hI hF hR hB hS1 hS2 hS3 hSS hqq h2l mg ng mlen nlen hBw hL hBl hF1 hF2 hF3 hsh hdx hdy hFF hq hk4
  go_enter Try.func8, Try.ntmps8
  go_wp2_with fail
  refine (awake7_any w).mono ?_
  rintro e w1 ⟨rfl, hb1⟩
  have hst1 := hst w1 ((HR0.out.below hb1 (Nat.le_refl _)).more hb1.size)
  have HRS1 := Lib.hid ((HRS.out.below hb1 (Nat.le_refl _)).more hb1.size)
  have HB1 := Lib.hid hb1
  clear hst HR0 HRS hb1
  go_wp2_with fail
  refine hst1.mono ?_
  intro e w2 h
  obtain ⟨A2, c2, rfl, hcap2, N2, hb2⟩ := storeR_box h
  have hal := (Below.refl w2.heap.size w2).alloc (Nat.le_refl _) (.cells #[.slice A2 l.length c2, .int .i64 (R + 900)] 25)
  have hb' := Qt.more (B := w1.heap.size) hb2 hb2.size hal
  have HS2 := Lib.hid (stB_new N2 hcap2 (R + 900))
  have HRS2 := Lib.hid ((HRS1.out.below hb' (Nat.le_refl _)).more hb'.size)
  have HB2 := Lib.hid (Qt.more HB1.out HB1.out.size hb')
  clear h hst1 hb2 hb' HB1 HRS1 N2 hal
  go_wp2_with fail
  generalize (w2.alloc (.cells #[.slice A2 l.length c2, .int .i64 (R + 900)] 25)) = v2 at *
  generalize w2.heap.size = b2 at *
  refine (hset1 v2 HRS2.out).mono ?_
  rintro e w3 ⟨_, rfl, ⟨A3, c3, rfl, hcap3, N3⟩, hb3⟩
  have HX3 := Lib.hid N3
  have HS3 := Lib.hid (HS2.out.below hb3)
  have HB3 := Lib.hid (Qt.more HB2.out HB2.out.size hb3)
  clear N3 hb3 HS2 HB2 HRS2 hset1
  go_wp2_with fail
  refine (hpk w3).mono ?_
  rintro e _ ⟨rfl, rfl⟩
  clear hpk
  have hsh := HRSH.out A3 c3 w3 HX3.out hcap3
  clear HRSH
  rcases HXY.out with ⟨rfl, rfl, rfl⟩ | ⟨rfl, rfl, rfl⟩ | ⟨rfl, rfl, rfl⟩ | ⟨rfl, rfl, rfl⟩
  all_goals
    clear HXY
    go_wp2_with fail
    refine hsh.mono ?_
    rintro e w4 ⟨_, rfl, ⟨A4, c4, rfl, hcap4, N4⟩, hb4⟩
    have HY4 := Lib.hid N4
    have HX4 := Lib.hid ((HX3.out.below hb4 (Nat.le_refl _)).more hb4.size)
    have HS4 := Lib.hid (HS3.out.below hb4)
    have HB4 := Lib.hid (Qt.more HB3.out HB3.out.size hb4)
    have s0 := HS4.out.s0
    have s1 := HS4.out.s1
    clear N4 hb4 HS3 HB3 HX3 hsh
    simp only at hcap4 HY4
    go_wp2_with fail
    have hc2 := make7_any A2 l c2 (R + 900) A3 S c3 4 w4 HS4.out.rd HLEN.out.1 hcap2 HX4.out (by have := HLEN.out; omega) hcap3
    rw [HMA.out] at hc2
    unfold storeV at hc2
    clear s0 s1
    refine hc2.mono ?_
    intro e w5 h
    obtain ⟨A5, c5, rfl, hcap5, N, hb⟩ := putR_box h
    have hal := (Below.refl w5.heap.size w5).alloc (Nat.le_refl _) (.cells #[.slice A5 m1.length c5, .int .i64 (R + 900)] 25)
    have hb' := Qt.more (B := w4.heap.size) hb hb.size hal
    have HA5 := Lib.hid (stB_new N hcap5 (R + 900))
    have HY5 := Lib.hid ((HY4.out.below hb' (Nat.le_refl _)).more hb'.size)
    have HB5 := Lib.hid (Qt.more HB4.out HB4.out.size hb')
    clear h hc2 hb hb' hal N HX4 HY4 HB4 HS4 HMA
    go_wp2_with fail
    generalize (w5.alloc (.cells #[.slice A5 m1.length c5, .int .i64 (R + 900)] 25)) = v5 at *
    generalize w5.heap.size = b5 at *
    have hc2 := make7_any A5 m1 c5 (R + 900) A4 F c4 5 v5 HA5.out.rd HLEN.out.2.1 hcap5 HY5.out (by have := HLEN.out; have := HFL.out; omega) hcap4
    rw [HNA.out] at hc2
    unfold storeV at hc2
    refine hc2.mono ?_
    intro e w6 h
    obtain ⟨A6, c6, rfl, hcap6, N, hb⟩ := putR_box h
    have hal := (Below.refl w6.heap.size w6).alloc (Nat.le_refl _) (.cells #[.slice A6 m2.length c6, .int .i64 (R + 900)] 25)
    have hb' := Qt.more (B := v5.heap.size) hb hb.size hal
    have HD6 := Lib.hid (stB_new N hcap6 (R + 900))
    have HB6 := Lib.hid (Qt.more HB5.out HB5.out.size hb')
    have hbo := fun o => Qt.more (B := v5.heap.size) hb hb.size ((Below.refl w6.heap.size w6).alloc (Nat.le_refl _) o)
    have s0o := fun o => heap_alloc_new w6 o
    have hpl : decide (m2.length ≤ p) = false := decide_eq_false (by have := HPT.out; omega)
    clear h hc2 hb hb' hal N HY5 HB5 HA5 HNA hbo s0o
    go_wp2_with fail
    generalize (w6.alloc (.cells #[.slice A6 m2.length c6, .int .i64 (R + 900)] 25)) = v6 at *
    generalize w6.heap.size = b6 at *
    go_loopw [21, 22] (fun i x wr => ∃ j : Nat, j ≤ 4 ∧ i = .int .i64 j ∧ Hid (Below v6.heap.size v6 wr)) (fun i _ _ => 4 - (intOf i).toNat)
    case atStart => exact ⟨0, by decide, rfl, Below.refl _ _⟩
    case round =>
      obtain ⟨j, hj, rfl, HH⟩ := hrel
      have hp2 := HPT.out
      obtain ⟨qb, ob, rfl, hqb, hnd⟩ := HD6.out.nd (by omega)
      have s0 := (HD6.out.below HH.out).s0
      obtain ⟨_, z1, z2, z3, z4, z5⟩ := hnd p hp2
      have k0 := HKC.out 0 (by decide)
      have k1 := HKC.out 1 (by decide)
      have k2 := HKC.out 2 (by decide)
      have k3 := HKC.out 3 (by decide)
      have e0 : (m2.getD p deadN).2.1.1 = _ := k0
      have e1 : (m2.getD p deadN).2.1.2.1 = _ := k1
      have e2 : (m2.getD p deadN).2.1.2.2.1 = _ := k2
      have e3 : (m2.getD p deadN).2.1.2.2.2 = _ := k3
      rw [e0] at z1
      rw [e1] at z2
      rw [e2] at z3
      rw [e3] at z4
      rw [HPOP.out] at z5
      replace z1 := Qt.keep HH.out z1
      replace z2 := Qt.keep HH.out z2
      replace z3 := Qt.keep HH.out z3
      replace z4 := Qt.keep HH.out z4
      replace z5 := Qt.keep HH.out z5
      have hdead : ∀ r, r < m2.length → (m2.getD r deadN).2.2 = 0 → wr.cell? ⟨qb, ob + r * 6 + 5, none⟩ = some (.int .i64 0) := fun r hr hr0 => by
        have h5 := (hnd r hr).2.2.2.2.2
        rw [hr0] at h5
        exact Qt.keep HH.out h5
      have HDEAD := Lib.hid hdead
      have hn := HN.out
      clear hnd hdead k0 k1 k2 k3 e0 e1 e2 e3
      by_cases hlt : j < 4
      · have hx := Decidable.or_iff_not_imp_left.2 (HQ2.out j hlt)
        have hj4 : j = 0 ∨ j = 1 ∨ j = 2 ∨ j = 3 := by omega
        rcases hx with hx | ⟨hr, hr0⟩
        · subst hx
          clear hj4
          go_wp2_with fail
          refine ⟨?_, ?_⟩
          · first | exact ⟨1, by decide, rfl, HH.out⟩ | exact ⟨2, by decide, rfl, HH.out⟩ | exact ⟨3, by decide, rfl, HH.out⟩ | exact ⟨4, by decide, rfl, HH.out⟩
          · first | (simp [intOf]; done) | (simp [intOf]; omega)
        · have hy := HDEAD.out _ hr hr0
          have hrz : decide (m2.length ≤ kidN m2 p j) = false := decide_eq_false (by omega)
          clear hr0
          rcases hj4 with rfl | rfl | rfl | rfl
          all_goals
            go_wp2_with fail
            refine ⟨?_, ?_⟩
            · first | exact ⟨1, by decide, rfl, HH.out⟩ | exact ⟨2, by decide, rfl, HH.out⟩ | exact ⟨3, by decide, rfl, HH.out⟩ | exact ⟨4, by decide, rfl, HH.out⟩
            · first | (simp [intOf]; done) | (simp [intOf]; omega)
      · obtain rfl : j = 4 := by omega
        have HB := Lib.hid (Qt.more HB6.out HB6.out.size HH.out)
        clear hn z1 z2 z3 z4 HB6
        go_wp2_with fail
        go_ret
        exact ⟨rfl, HB.out⟩
end Go.Proofs.Ytcmdhochofoohaa
