/-
  The law NodePops.
-/
import Derived.Test.YtdlkeginnmhecaaRq
namespace Go.Proofs.Ytdlkeginnmhecaa
set_option linter.unusedVariables false
set_option linter.unusedSimpArgs false
open Go.RowKit Go.Sort

theorem kd_nat {l : List Nd} {k : Kd} (h : Fit4 l k) {i : Nat} (hi : i < 4) : ∃ n : Nat, kd k i = (n : Int) ∧ n < l.length := by
  obtain ⟨h1, h2, _⟩ := h.kid i hi
  exact ⟨(kd k i).toNat, by omega, by omega⟩
/-- so many of the four are another's -/
def mixT (k t : Kd) (n : Nat) : Kd := (if 0 < n then t.1 else k.1, if 1 < n then t.2.1 else k.2.1, if 2 < n then t.2.2.1 else k.2.2.1, if 3 < n then t.2.2.2 else k.2.2.2)
theorem turn_kd {p : Nat} (hp : p < 4) {j : Nat} (hj : j < 4) (k : Kd) : kd (turnK k p) j = kd k ((j + p) % 4) := by
  match p, hp, j, hj with
  | 0, _, 0, _ => rfl
  | 0, _, 1, _ => rfl
  | 0, _, 2, _ => rfl
  | 0, _, 3, _ => rfl
  | 1, _, 0, _ => rfl
  | 1, _, 1, _ => rfl
  | 1, _, 2, _ => rfl
  | 1, _, 3, _ => rfl
  | 2, _, 0, _ => rfl
  | 2, _, 1, _ => rfl
  | 2, _, 2, _ => rfl
  | 2, _, 3, _ => rfl
  | 3, _, 0, _ => rfl
  | 3, _, 1, _ => rfl
  | 3, _, 2, _ => rfl
  | 3, _, 3, _ => rfl
theorem KdB.c_ {w : World} {b : Nat} {k : Kd} (h : KdB w b k) {j : Nat} (hj : j < 4) : w.cell? ⟨b, j, none⟩ = some (.int .i64 (kd k j)) := by
  match j, hj with
  | 0, _ => exact h.c0
  | 1, _ => exact h.c1
  | 2, _ => exact h.c2
  | 3, _ => exact h.c3
theorem mix_set {w : World} {g : Nat} {k t : Kd} {j : Nat} (hj : j < 4) (h : KdB w g (mixT k t j)) : KdB (w.setCell ⟨g, j, none⟩ (.int .i64 (kd t j))) g (mixT k t (j + 1)) := by
  have h := h.row
  refine ⟨?_⟩
  match j, hj with
  | 0, _ => simp [World.setCell, Array.getElem?_modify, h, mixT, kd]
  | 1, _ => simp [World.setCell, Array.getElem?_modify, h, mixT, kd]
  | 2, _ => simp [World.setCell, Array.getElem?_modify, h, mixT, kd]
  | 3, _ => simp [World.setCell, Array.getElem?_modify, h, mixT, kd]
theorem mix_0 (k t : Kd) : mixT k t 0 = k := rfl
theorem mix_4 (k t : Kd) : mixT k t 4 = t := rfl
set_option maxHeartbeats 16000000 in
set_option maxRecDepth 100000 in
theorem nodePops_law (room : Int) (A : Option Addr) (raw : List Raw5) (c : Nat) (r : Raw5) (by_ : Int) (w : World) (hI : I64 room) (hR : RdR w w.heap.size A raw) (hl : raw.length ≤ 9223372036854775807) (hF : ∀ j, j < raw.length → Fine5 (raw.getD j dead5)) (hr : Fine5 r) (hby : I64 by_) :
    Calls Try.prog 8 #[.int .i64 room, .slice A raw.length c, rawV r, .int .i64 by_] w fun e w' => e = .returned (.bool true) ∧ Below w.heap.size w w' := by
  obtain ⟨hS, hSl⟩ := store_right room raw
  have hpb := pick6_bd room 60 (by decide)
  have hst := fun W hR' => store6_any A raw c room W hR' hl hI hF
  obtain ⟨R, hRR⟩ : ∃ R, R = 2 + pick6 room 60 := ⟨_, rfl⟩
  rw [← hRR] at hS hst
  obtain ⟨l, hll⟩ : ∃ l, l = store6 room raw := ⟨_, rfl⟩
  rw [← hll] at hS hst hSl
  have hkf := kids_fit hS (by omega) r
  have hkd := fun A2 c2 W hW => kids6_any A2 l c2 (R + 2) r W hW (by omega) hr
  obtain ⟨k, hk⟩ : ∃ k, k = kids6 l r := ⟨_, rfl⟩
  rw [← hk] at hkf hkd
  have hS' : Right6 l (R + 2) := hS.more (by have := hS.len; omega) (by omega) (by omega)
  have hp4 := pick6_bd by_ 4 (by decide)
  have hk4 := fun W => pick_nat by_ 4 W hby (by decide) (by decide)
  obtain ⟨p, hp⟩ : ∃ p, p = (pickI by_ 4).toNat := ⟨_, rfl⟩
  rw [← hp] at hk4
  have hp3 : p < 4 := by rw [hp]; have : pickI by_ 4 = pick6 by_ 4 := rfl; omega
  obtain ⟨l1, l2, n, m, hcase⟩ := pops hS' hkf p (by have := hS.len; omega)
  have hbd := right_bd hS
  have h2l := hS.two
  have hRb : R + 2 ≤ 1000 ∧ 0 ≤ R := by omega
  have HKF := Lib.hid hkf
  have HBD := Lib.hid hbd
  have HC := Lib.hid hcase
  have HS := Lib.hid hS
  have HSl := Lib.hid hSl
  have HRR := Lib.hid hR
  have heql := eqlK
  unfold rawV
  unfold storeV kidsV rawV at hkd
  clear hcase hS hSl hR hpb hRR hll hI hF hk hkf hr hp hp4 hS' hby hbd
  go_enter Try.func8, Try.ntmps8
  go_wp2_with fail
  have hal := (Below.refl w.heap.size w).alloc (Nat.le_refl _) (.cells #[.int .i64 r.1, .int .i64 r.2.1, .int .i64 r.2.2.1, .int .i64 r.2.2.2.1, .int .i64 r.2.2.2.2] 27)
  have HQ := Lib.hid (rawB_new (w := w) r)
  have HB := Lib.hid hal
  have HR1 := Lib.hid ((HRR.out.below hal (Nat.le_refl _)).more hal.size)
  clear HRR hal
  generalize (w.alloc (.cells #[.int .i64 r.1, .int .i64 r.2.1, .int .i64 r.2.2.1, .int .i64 r.2.2.2.1, .int .i64 r.2.2.2.2] 27)) = v0 at *
  generalize hb0 : w.heap.size = b0 at *
  refine (awake6_any v0).mono ?_
  rintro e w1 ⟨rfl, hb1⟩
  have hst1 := hst w1 ((HR1.out.below hb1 (Nat.le_refl _)).more hb1.size)
  have HQ1 := Lib.hid (HQ.out.below hb1)
  have HB1 := Lib.hid (Qt.more HB.out (hb0 ▸ HB.out.size) hb1)
  clear hst HR1 HQ HB hb1
  go_wp2_with fail
  refine hst1.mono ?_
  intro e w2 h
  obtain ⟨A2, c2, rfl, hcap2, N2, hb2⟩ := storeR_box h
  have hal := (Below.refl w2.heap.size w2).alloc (Nat.le_refl _) (.cells #[.slice A2 l.length c2, .int .i64 (R + 2)] 25)
  have HS2 := Lib.hid (stB_new N2 hcap2 (R + 2))
  have u1 := (stB_new N2 hcap2 R).s1
  have u2 := (stB_new N2 hcap2 R).f1
  have HQ2 := Lib.hid ((HQ1.out.below hb2).below hal)
  have hB2 := Qt.more HB1.out (hb0 ▸ HB1.out.size) hb2
  have HB2 := Lib.hid (Qt.more hB2 (hb0 ▸ hB2.size) hal)
  have c0 := HQ2.out.c0
  have c1 := HQ2.out.c1
  have c2' := HQ2.out.c2
  have c3 := HQ2.out.c3
  have c4 := HQ2.out.c4
  clear h hst1 hb2 HB1 HQ1 N2 hal hB2
  go_wp2_with fail
  clear u1 u2
  generalize (w2.alloc (.cells #[.slice A2 l.length c2, .int .i64 (R + 2)] 25)) = v2 at *
  generalize w2.heap.size = b2 at *
  have hkd2 := hkd A2 c2 v2 HS2.out.rd
  refine hkd2.mono ?_
  rintro e w3 ⟨rfl, hb3⟩
  clear c0 c1 c2' c3 c4 hkd hkd2
  have hal := (Below.refl w3.heap.size w3).alloc (Nat.le_refl _) (.cells #[.int .i64 k.1, .int .i64 k.2.1, .int .i64 k.2.2.1, .int .i64 k.2.2.2] 26)
  have HK3 := Lib.hid (kdB_new (w := w3) k)
  have HS3 := Lib.hid ((HS2.out.below hb3).below hal)
  have hB3 := Qt.more HB2.out (hb0 ▸ HB2.out.size) hb3
  have HB3 := Lib.hid (Qt.more hB3 (hb0 ▸ hB3.size) hal)
  clear hb3 HB2 HQ2 HS2 hal hB3
  have y0o := fun o => (HK3.out.below ((Below.refl _ (w3.alloc (.cells #[.int .i64 k.1, .int .i64 k.2.1, .int .i64 k.2.2.1, .int .i64 k.2.2.2] 26))).alloc (Nat.le_refl _) o))
  have hKn := kdB_new (w := (w3.alloc (.cells #[.int .i64 k.1, .int .i64 k.2.1, .int .i64 k.2.2.1, .int .i64 k.2.2.2] 26))) k
  have hsz3 : (w3.alloc (.cells #[.int .i64 k.1, .int .i64 k.2.1, .int .i64 k.2.2.1, .int .i64 k.2.2.2] 26)).heap.size = w3.heap.size + 1 := by simp
  have hTn := hKn
  rw [hsz3] at hTn
  have HT := Lib.hid hTn
  clear y0o hKn hTn
  have HB4 := Lib.hid ((Below.refl (w3.alloc (.cells #[.int .i64 k.1, .int .i64 k.2.1, .int .i64 k.2.2.1, .int .i64 k.2.2.2] 26)).heap.size (w3.alloc (.cells #[.int .i64 k.1, .int .i64 k.2.1, .int .i64 k.2.2.1, .int .i64 k.2.2.2] 26))).alloc (Nat.le_refl _) (.cells #[.int .i64 k.1, .int .i64 k.2.1, .int .i64 k.2.2.1, .int .i64 k.2.2.2] 26))
  obtain ⟨T, hT⟩ : ∃ T, T = turnK k p := ⟨_, rfl⟩
  have hTk := fun j (hj : j < 4) => turn_kd hp3 hj k
  rw [← hT] at HC hTk
  have HTk := Lib.hid hTk
  clear hT hTk
  go_wp2_with fail
  generalize ((w3.alloc (.cells #[.int .i64 k.1, .int .i64 k.2.1, .int .i64 k.2.2.1, .int .i64 k.2.2.2] 26)).alloc (.cells #[.int .i64 k.1, .int .i64 k.2.1, .int .i64 k.2.2.1, .int .i64 k.2.2.2] 26)) = v4 at *
  generalize (w3.alloc (.cells #[.int .i64 k.1, .int .i64 k.2.1, .int .i64 k.2.2.1, .int .i64 k.2.2.2] 26)) = v3 at *
  generalize w3.heap.size = b3 at *
  generalize b3 + 1 = b4 at *
  go_loopw [13] (fun i wr => ∃ j : Nat, j ≤ 4 ∧ i = .int .i64 j ∧ Hid (KdB wr b4 (mixT k T j) ∧ Below v3.heap.size v3 wr)) (fun i _ => 4 - (intOf i).toNat)
  case atStart => exact ⟨0, by decide, rfl, HT.out, HB4.out⟩
  case round =>
    obtain ⟨j, hj, rfl, HH⟩ := hrel
    by_cases hlt : j < 4
    · have H := Lib.hid HH.out.1
      have HB := Lib.hid HH.out.2
      have k0 := (HK3.out.below HB.out).c0
      have k1 := (HK3.out.below HB.out).c1
      have k2 := (HK3.out.below HB.out).c2
      have k3 := (HK3.out.below HB.out).c3
      have t0 := H.out.c_ hlt
      have f0 := Lib.frozen_of_heap H.out.row j
      have HX : Hid (KdB (wr.setCell ⟨b4, j, none⟩ (.int .i64 (kd k ((j + p) % 4)))) b4 (mixT k T (j + 1))) := by
        have hh := mix_set (t := T) hlt H.out
        rw [HTk.out j hlt] at hh
        exact hh
      have HBX : Hid (Below v3.heap.size v3 (wr.setCell ⟨b4, j, none⟩ (.int .i64 (kd k ((j + p) % 4))))) := HB.out.setCell (p := ⟨b4, j, none⟩) (by show v3.heap.size ≤ b4; omega) _
      clear HH HB HC
      have hj4 : j = 0 ∨ j = 1 ∨ j = 2 ∨ j = 3 := by omega
      have hp4 : p = 0 ∨ p = 1 ∨ p = 2 ∨ p = 3 := by omega
      rcases hj4 with rfl | rfl | rfl | rfl <;> rcases hp4 with rfl | rfl | rfl | rfl <;>
        (go_wp2_with fail
         refine (hk4 _).mono ?_
         rintro e w' ⟨rfl, rfl⟩
         go_wp2_with fail
         go_roundw
         case measure => first | (simp [intOf]; done) | (simp [intOf]; omega)
         case rel => exact ⟨_, by decide, rfl, HX.out, HBX.out⟩)
    · obtain rfl : j = 4 := by omega
      have HTw : KdB wr b4 T := HH.out.1
      have HBw := HH.out.2
      have HSw := HS3.out.below HBw
      have HKw := HK3.out.below HBw
      have hBw := Qt.more HB3.out (hb0 ▸ HB3.out.size) HBw
      have s0 := HSw.s0
      have s1 := HSw.s1
      have k0 := HKw.c0
      have k1 := HKw.c1
      have k2 := HKw.c2
      have k3 := HKw.c3
      have hin := nodeIntern_any A2 l c2 (R + 2) k wr HSw.rd (by have := HSl.out; omega) hcap2
      rw [HC.out.one] at hin
      unfold storeV kidsV at hin
      have HSw := Lib.hid HSw
      have HKw := Lib.hid HKw
      have HTw := Lib.hid HTw
      have hBw := Lib.hid hBw
      clear HH HBw HB3 HS3 HK3 HT HB4
      go_wp2_with fail
      clear s0 s1 k0 k1 k2 k3
      refine hin.mono ?_
      intro e w6 h
      obtain ⟨A6, c6, rfl, hcap6, N6, hb6⟩ := putR_box h
      have hal := (Below.refl w6.heap.size w6).alloc (Nat.le_refl _) (.cells #[.slice A6 l1.length c6, .int .i64 (R + 2)] 25)
      have HS6 := Lib.hid (stB_new N6 hcap6 (R + 2))
      have HSs6 := Lib.hid ((HSw.out.below hb6).below hal)
      have HK6 := Lib.hid ((HKw.out.below hb6).below hal)
      have HT6 := Lib.hid ((HTw.out.below hb6).below hal)
      have hB6 := Qt.more hBw.out (hb0 ▸ hBw.out.size) hb6
      have HB6 := Lib.hid (Qt.more hB6 (hb0 ▸ hB6.size) hal)
      have t0 := HT6.out.c0
      have t1 := HT6.out.c1
      have t2 := HT6.out.c2
      have t3 := HT6.out.c3
      clear h hin hb6 hal hB6 hBw HSw HKw HTw N6
      go_wp2_with fail
      clear t0 t1 t2 t3
      generalize (w6.alloc (.cells #[.slice A6 l1.length c6, .int .i64 (R + 2)] 25)) = v6 at *
      generalize w6.heap.size = b6 at *
      have hin := nodeIntern_any A6 l1 c6 (R + 2) T v6 HS6.out.rd (by have := HC.out.r1.small; omega) hcap6
      rw [HC.out.two] at hin
      unfold storeV kidsV at hin
      refine hin.mono ?_
      intro e w7 h
      obtain ⟨A7, c7, rfl, hcap7, N7, hb7⟩ := putR_box h
      have hal := (Below.refl w7.heap.size w7).alloc (Nat.le_refl _) (.cells #[.slice A7 l2.length c7, .int .i64 (R + 2)] 25)
      have HS7 := Lib.hid (stB_new N7 hcap7 (R + 2))
      have HSs7 := Lib.hid ((HSs6.out.below hb7).below hal)
      have HK7 := Lib.hid ((HK6.out.below hb7).below hal)
      have HT7 := Lib.hid ((HT6.out.below hb7).below hal)
      have hB7 := Qt.more HB6.out (hb0 ▸ HB6.out.size) hb7
      have HB7 := Lib.hid (Qt.more hB7 (hb0 ▸ hB7.size) hal)
      have hn := HC.out.n_
      have hm := HC.out.m_
      have hnz : (n : Int) < (l2.length : Int) := by omega
      have hmz : (m : Int) < (l2.length : Int) := by omega
      clear h hin hb7 hal hB7 HB6 HSs6 HK6 HT6 HS6 N7
      go_wp2_with fail
      generalize (w7.alloc (.cells #[.slice A7 l2.length c7, .int .i64 (R + 2)] 25)) = v7 at *
      generalize w7.heap.size = b7 at *
      obtain ⟨q2, o2, rfl, hq2, hnd⟩ := HSs7.out.nd (by omega)
      have HN := Lib.hid hnd
      clear hnd
      go_loopw [20, 21] (fun sm i wr => ∃ j : Nat, j ≤ 4 ∧ i = .int .i64 j ∧ sm = .int .i64 (popTo l k j) ∧ Hid (Below v7.heap.size v7 wr)) (fun _ i _ => 4 - (intOf i).toNat)
      case atStart => exact ⟨0, by decide, rfl, rfl, Below.refl _ _⟩
      case round =>
        obtain ⟨j, hj, rfl, rfl, HB⟩ := hrel
        by_cases hlt : j < 4
        · obtain ⟨nj, hnj, hnl⟩ := kd_nat HKF.out hlt
          have hltz : (j : Int) < 4 := by omega
          have x0 := (HK7.out.below HB.out).c_ hlt
          rw [hnj] at x0
          have x1 := Qt.keep HB.out (HN.out nj hnl).2.2.2.2.2
          have x2 := (HSs7.out.below HB.out).s0
          have hstep : popTo l k (j + 1) = min (popTo l k j + (l.getD nj deadN).2.2) 4611686018427387903 := by
            show min (popTo l k j + (ndAt l (kd k j)).2.2) 4611686018427387903 = _
            rw [hnj, ndAt_nat]
          have hpos : ∀ i, i < 4 → 0 ≤ (ndAt l (kd k i)).2.2 := fun i hi => by
            obtain ⟨ni, hni, hil⟩ := kd_nat HKF.out hi
            rw [hni, ndAt_nat]
            exact (HBD.out ni hil).2.2.1
          have hsb := popTo_bd hpos j (by omega)
          have hpb := (HBD.out nj hnl).2.2
          have HST := Lib.hid hstep
          generalize popTo l k j = sm at *
          generalize (l.getD nj deadN).2.2 = pp at *
          have d1 : decide ((nj : Int) < 0) = false := decide_eq_false (by omega)
          have d2 : decide (l.length ≤ nj) = false := decide_eq_false (by omega)
          have hb0' : (0:Int) ≤ sm + pp ∧ sm + pp ≤ 9223372036854775806 := by omega
          have q0 := Qt.cell_in x0
          have q1 := Qt.cell_in x1
          have q2' := Qt.cell_in x2
          clear hpos hstep x0 x1 hnj
          go_wp2_with fail
          refine Qt.below_all (by kernel_rfl) (by kernel_rfl) ?_
          repeat (go_big_quiet_step (fail))
          refine wpQuiet_nil ?_
          intro w8 hb8
          have HB8 := Lib.hid (Qt.more HB.out HB.out.size hb8)
          clear q0 q1 q2' hb8 x2
          go_wp2_with fail
          go_roundw
          case measure => simp [intOf]; omega
          case rel => exact ⟨j + 1, by omega, by go_num, by rw [HST.out], HB8.out⟩
        · obtain rfl : j = 4 := by omega
          have HBf := Lib.hid (Qt.more HB7.out (hb0 ▸ HB7.out.size) HB.out)
          obtain ⟨q7, o7, rfl, hq7, hnd⟩ := HS7.out.nd (by omega)
          have x0 := Qt.keep HB.out (hnd n hn).1
          have x5 := Qt.keep HB.out (hnd n hn).2.2.2.2.2
          have y0 := Qt.keep HB.out (hnd m hm).1
          have y5 := Qt.keep HB.out (hnd m hm).2.2.2.2.2
          rw [HC.out.pn] at x5
          rw [HC.out.pm] at y5
          rw [HC.out.lev] at x0
          generalize (l2.getD m deadN).1 = lv at *
          generalize popTo l k 4 = sm at *
          have d1 : decide ((n : Int) < 0) = false := decide_eq_false (by omega)
          have d2 : decide (l2.length ≤ n) = false := decide_eq_false (by omega)
          have d3 : decide ((m : Int) < 0) = false := decide_eq_false (by omega)
          have d4 : decide (l2.length ≤ m) = false := decide_eq_false (by omega)
          have p0 := Qt.cell_in x0
          have p1 := Qt.cell_in x5
          have p2 := Qt.cell_in y0
          have p3 := Qt.cell_in y5
          have p4 := Qt.cell_in (HS7.out.below HB.out).s0
          have a0 := Qt.cell_in (HK7.out.below HB.out).c0
          have a1 := Qt.cell_in (HK7.out.below HB.out).c1
          have a2 := Qt.cell_in (HK7.out.below HB.out).c2
          have a3 := Qt.cell_in (HK7.out.below HB.out).c3
          have t0 := Qt.cell_in (HT7.out.below HB.out).c0
          have t1 := Qt.cell_in (HT7.out.below HB.out).c1
          have t2 := Qt.cell_in (HT7.out.below HB.out).c2
          have t3 := Qt.cell_in (HT7.out.below HB.out).c3
          have hsame := HC.out.same
          have he := fun W => heql k T W
          clear hnd x0 x5 y0 y5 hn hm heql HB
          by_cases hnm : n = m
          · have hkT := hsame.1 hnm
            rw [decide_eq_true hkT] at he
            subst hkT
            subst hnm
            clear hsame
            go_wp2_with fail
            refine Qt.below_all (by kernel_rfl) (by kernel_rfl) ?_
            try simp only [List.append_eq, List.cons_append, List.nil_append]
            iterate 46 (go_big_quiet_step (fail))
            refine wpQuiet_nil ?_
            intro w8 hb8
            have hB8 := Qt.more HBf.out (hb0 ▸ HBf.out.size) hb8
            go_wp2_with fail
            go_ret
            first
              | exact ⟨rfl, hB8⟩
              | exact ⟨rfl, hb0 ▸ hB8⟩
          · have hkT : ¬ k = T := fun e => hnm (hsame.2 e)
            rw [decide_eq_false hkT] at he
            have hz1 : ((n : Int) == (m : Int)) = false := beq_eq_false_iff_ne.2 (by omega)
            clear hsame
            go_wp2_with fail
            refine Qt.below_all (by kernel_rfl) (by kernel_rfl) ?_
            try simp only [List.append_eq, List.cons_append, List.nil_append]
            iterate 46 (go_big_quiet_step (fail))
            refine wpQuiet_nil ?_
            intro w8 hb8
            have hB8 := Qt.more HBf.out (hb0 ▸ HBf.out.size) hb8
            go_wp2_with fail
            go_ret
            first
              | exact ⟨rfl, hB8⟩
              | exact ⟨rfl, hb0 ▸ hB8⟩
end Go.Proofs.Ytdlkeginnmhecaa
