/-
  The law SquareGrows.
-/
import Derived.Test.YtikgnjcjbjafaaaKc
namespace Go.Proofs.Ytikgnjcjbjafaaa
set_option maxRecDepth 100000
set_option linter.unusedVariables false
set_option linter.unusedSimpArgs false
open Go.RowKit Go.Sort

theorem boxA_has {S : List (Int × Int)} {v : Value} {r : Bool} (hS : Cel.rightB S = true) (h : Cel.boxA S = (v, r)) : r = decide (0 < S.length) := by
  unfold Cel.boxA at h
  by_cases h0 : 0 < S.length
  · rw [if_pos ⟨h0, hS⟩] at h
    injection h with _ h
    rw [← h, decide_eq_true h0]
  · rw [if_neg (fun q => h0 q.1)] at h
    injection h with _ h
    rw [← h, decide_eq_false h0]
/-- a node grown so many times -/
structure GrnAt (R : Int) (e : Nat) (S : List (Int × Int)) (i : Nat) (m : List Nd) (p : Nat) (t : Nat) : Prop where
  sq : Sq m R (e + i) p S
  emp : ∃ x, Emp m t x
  thi : t ≤ e + 1 + i
  len : (m.length : Int) ≤ R - 380 + 5 * (i : Int) + t
theorem GrnAt.next {R : Int} {e : Nat} {S : List (Int × Int)} {i : Nat} {m : List Nd} {p t : Nat} (h : GrnAt R e S i m p t) (he : e ≤ 6) (hi : i < 19) : ∃ m' p' t', grow7 m R p = (m', ((p' : Nat) : Int), 0) ∧ GrnAt R e S (i + 1) m' p' t' := by
  have h1 := h.len
  have h2 := h.thi
  obtain ⟨m', p', e1, g, sq, em, len⟩ := h.sq.grow (by omega) h.emp (by omega) (by omega)
  exact ⟨m', p', max t (e + i), e1, sq, em, by omega, by omega⟩
set_option maxHeartbeats 16000000 in
theorem squareGrows_law (room : Int) (A : Option Addr) (raw : List Raw5) (c : Nat) (B : Option Addr) (rs : List (Int × Int)) (d : Nat) (lev times : Int) (w : World) (hI : I64 room) (hR : RdR w w.heap.size A raw) (hl : raw.length ≤ 9223372036854775807) (hF : ∀ j, j < raw.length → Fine5 (raw.getD j dead5))
    (hB : RdC w w.heap.size B rs) (hBl : rs.length ≤ 9223372036854775807) (hBc : rs.length ≤ d) (hBw : ∀ p ∈ rs, Cel.I64 p.1 ∧ Cel.I64 p.2) (hL : I64 lev) (hT : I64 times) :
    Calls Try.prog 4 #[.int .i64 room, .slice A raw.length c, .slice B rs.length d, .int .i64 lev, .int .i64 times] w fun e w' => e = .returned (.bool true) ∧ Below w.heap.size w w' := by
  obtain ⟨R0, m0, n, e, t, HL⟩ := square_ok room raw rs lev
  have hsq := fun W hR' hB' => square7_any HL A c B d W hI hR' hl hF hB' hBl hBc hBw hL
  have hpk := fun W => pick7_any times 20 W hT.1 hT.2 (by decide) (by decide)
  have hq := pickI_bd times 20 (by decide)
  obtain ⟨q, hqq⟩ : ∃ q, q = pickI times 20 := ⟨_, rfl⟩
  rw [← hqq] at hpk hq
  obtain ⟨N, hN⟩ : ∃ N : Nat, q = (N : Int) := ⟨q.toNat, by omega⟩
  subst hN
  have hN20 : N < 20 := by omega
  have hrl := HL.rlo
  have hrh := HL.rhi
  have hw300 : IntKind.i64.wrap (R0 + 300) = R0 + 300 := by rw [IntKind.wrap_i64]; omega
  obtain ⟨R, hRR⟩ : ∃ R, R = R0 + 300 := ⟨_, rfl⟩
  have hG0 : GrnAt R e (Cel.rawSet rs) 0 m0 n t := ⟨⟨HL.sq.right.more (by have := HL.len; have := HL.thi; have := HL.ehi; omega) (by omega) (by omega), HL.sq.is, HL.sq.low, HL.sq.set, HL.sq.ins, HL.sq.alive⟩, HL.emp, by have := HL.thi; omega, by have := HL.len; omega⟩
  have hm6 : m0.length ≤ 1000000 := by have := HL.few; omega
  have hS60 := HL.set60
  have hnl := HL.sq.is.lt
  have hpop := HL.sq.pop
  have hlev := HL.sq.is.lev
  have he6 := HL.ehi
  obtain ⟨S, hSS⟩ : ∃ S, S = Cel.rawSet rs := ⟨_, rfl⟩
  rw [← hSS] at hS60 hpop hG0
  have hcel := hG0.sq.cells
  obtain ⟨bx, bY, bu, bv, br, hb7, hbA⟩ := hG0.sq.box2
  have hbr := boxA_has hG0.sq.set hbA
  have HR := Lib.hid hR
  have HB := Lib.hid hB
  have HSQ := Lib.hid hsq
  have HLEN := Lib.hid (show m0.length ≤ 1000000 ∧ S.length ≤ 60 ∧ 0 < m0.length ∧ R ≤ 900 ∧ e ≤ 6 from ⟨hm6, hS60, by omega, by omega, he6⟩)
  have HC := Lib.hid hcel
  have HB7 := Lib.hid hb7
  have HBA := Lib.hid hbA
  have HBR := Lib.hid hbr
  have HPOP := Lib.hid hpop
  have HLV := Lib.hid hlev
  have HG0 := Lib.hid hG0
  have HNL := Lib.hid hnl
  have hnz : (n : Int) < (m0.length : Int) := by omega
  replace hw300 : IntKind.i64.wrap (R0 + 300) = R := hw300.trans hRR.symm
  clear hsq hR hB hcel hb7 hbA hbr hpop hlev hG0 HL hSS hI hF hBw hL hl hBl hm6 hS60 hnl he6 hT hqq hq hrl hrh hRR
  go_enter Try.func4, Try.ntmps4
  go_wp2_with fail
  refine (awake7_any w).mono ?_
  rintro r w1 ⟨rfl, hb1⟩
  have HB1 := Lib.hid hb1
  have hs1 := HSQ.out w1 ((HR.out.below hb1 (Nat.le_refl _)).more hb1.size) ((Cel.Rd.below HB.out hb1 (Nat.le_refl _)).more hb1.size)
  clear HR HB HSQ hb1
  go_wp2_with fail
  refine hs1.mono ?_
  rintro r w2 ⟨A2, c2, rfl, hcap2, N2, hb2⟩
  have hal := (Below.refl w2.heap.size w2).alloc (Nat.le_refl _) (.cells #[.slice A2 m0.length c2, .int .i64 R] 27)
  have hb' := Qt.more (B := w1.heap.size) hb2 hb2.size hal
  have HS2 := Lib.hid (stB_new N2 hcap2 R)
  have HB2 := Lib.hid (Qt.more HB1.out HB1.out.size hb')
  have s0 := HS2.out.s0
  have s1 := HS2.out.s1
  clear hs1 hb2 hb' HB1 N2 hal
  go_wp2_with fail
  clear hw300
  generalize (w2.alloc (.cells #[.slice A2 m0.length c2, .int .i64 R] 27)) = v2 at *
  generalize w2.heap.size = b2 at *
  have hc := cells7_any A2 m0 c2 R n v2 HS2.out.rd HLEN.out.1 hcap2
  rw [HC.out] at hc
  unfold storeV at hc
  refine hc.mono ?_
  intro r w3 h
  obtain ⟨A3, c3, rfl, hcap3, hC3, hb3⟩ := h
  simp only at hcap3 hC3
  have HX3 := Lib.hid hC3
  have HS3 := Lib.hid (HS2.out.below hb3)
  have HB3 := Lib.hid (Qt.more HB2.out HB2.out.size hb3)
  clear s0 s1 hc hb3 hC3 HS2 HB2
  have s0 := HS3.out.s0
  have s1 := HS3.out.s1
  go_wp2_with fail
  have hc := box7_any A2 m0 c2 R n w3 HS3.out.rd HLEN.out.1 hcap2
  rw [HB7.out] at hc
  unfold storeV BoxR at hc
  refine hc.mono ?_
  rintro r w4 ⟨rfl, hb4⟩
  have hal := (Below.refl w4.heap.size w4).alloc (Nat.le_refl _) (.cells #[.int .i64 bx, .int .i64 bY, .int .i64 bu, .int .i64 bv] 47)
  have hb' := Qt.more (B := w3.heap.size) hb4 hb4.size hal
  have HBX4 := Lib.hid (show BxB (w4.alloc (.cells #[.int .i64 bx, .int .i64 bY, .int .i64 bu, .int .i64 bv] 47)) w4.heap.size bx bY bu bv from heap_alloc_new w4 _)
  have HX4 := Lib.hid ((Cel.Rd.below HX3.out hb' (Nat.le_refl _)).more hb'.size)
  have HS4 := Lib.hid (HS3.out.below hb')
  have HB4 := Lib.hid (Qt.more HB3.out HB3.out.size hb')
  clear s0 s1 hc hb4 hb' hal HX3 HS3 HB3
  go_wp2_with fail
  generalize (w4.alloc (.cells #[.int .i64 bx, .int .i64 bY, .int .i64 bu, .int .i64 bv] 47)) = v4 at *
  generalize w4.heap.size = b4 at *
  have hc := Cel.refBox_give (n := S.length) (c := c3) HBA.out HX4.out rfl hcap3 (by have := HLEN.out; omega)
  refine hc.mono ?_
  rintro r w5 ⟨rfl, hb5⟩
  have hal := (Below.refl w5.heap.size w5).alloc (Nat.le_refl _) (.cells #[.int .i64 bx, .int .i64 bY, .int .i64 bu, .int .i64 bv] 47)
  have hb' := Qt.more (B := v4.heap.size) hb5 hb5.size hal
  have HP5 := Lib.hid (show BxB (w5.alloc (.cells #[.int .i64 bx, .int .i64 bY, .int .i64 bu, .int .i64 bv] 47)) w5.heap.size bx bY bu bv from heap_alloc_new w5 _)
  have HBX5 := Lib.hid (HBX4.out.below hb')
  have HX5 := Lib.hid ((Cel.Rd.below HX4.out hb' (Nat.le_refl _)).more hb'.size)
  have HS5 := Lib.hid (HS4.out.below hb')
  have HB5 := Lib.hid (Qt.more HB4.out HB4.out.size hb')
  have s0 := fun o => ((HS4.out.below hb5).below ((Below.refl w5.heap.size w5).alloc (Nat.le_refl _) o)).s0
  have s1 := fun o => ((HS4.out.below hb5).below ((Below.refl w5.heap.size w5).alloc (Nat.le_refl _) o)).s1
  have hsz5 : (w5.alloc (.cells #[.int .i64 bx, .int .i64 bY, .int .i64 bu, .int .i64 bv] 47)).heap.size = w5.heap.size + 1 := by simp
  clear hc hb5 hb' hal HBX4 HX4 HS4 HB4
  go_wp2_with fail
  clear s0 s1
  have hal := (Below.refl (w5.alloc (.cells #[.int .i64 bx, .int .i64 bY, .int .i64 bu, .int .i64 bv] 47)).heap.size (w5.alloc (.cells #[.int .i64 bx, .int .i64 bY, .int .i64 bu, .int .i64 bv] 47))).alloc (Nat.le_refl _) (.cells #[.slice A2 m0.length c2, .int .i64 R] 27)
  have HA5 := Lib.hid (show StB ((w5.alloc (.cells #[.int .i64 bx, .int .i64 bY, .int .i64 bu, .int .i64 bv] 47)).alloc (.cells #[.slice A2 m0.length c2, .int .i64 R] 27)) (w5.heap.size + 1) A2 m0 c2 R from by rw [← hsz5]; exact stB_new HS5.out.rd HS5.out.cap R)
  have HAL := Lib.hid hal
  clear hal
  generalize hv6 : ((w5.alloc (.cells #[.int .i64 bx, .int .i64 bY, .int .i64 bu, .int .i64 bv] 47)).alloc (.cells #[.slice A2 m0.length c2, .int .i64 R] 27)) = v6 at *
  clear hv6
  rw [hsz5] at HAL
  generalize (w5.alloc (.cells #[.int .i64 bx, .int .i64 bY, .int .i64 bu, .int .i64 bv] 47)) = v5 at *
  obtain ⟨ab, hab⟩ : ∃ ab, ab = w5.heap.size + 1 := ⟨_, rfl⟩
  rw [← hab] at hsz5 HAL HA5 ⊢
  generalize w5.heap.size = b5 at *
  clear hab
  go_loopw [21, 22] (fun mm u wr => ∃ (i : Nat) (m : List Nd) (p t : Nat) (A : Option Addr) (c : Nat), i ≤ N ∧ u = .int .i64 i ∧ mm = .int .i64 (p : Int) ∧ Hid (Below ab v5 wr ∧ StB wr ab A m c R ∧ GrnAt R e S i m p t)) (fun _ u _ => N - (intOf u).toNat)
  case atStart => exact ⟨0, m0, n, t, A2, c2, Nat.zero_le _, rfl, rfl, HAL.out, HA5.out, HG0.out⟩
  case round =>
    obtain ⟨i, m, p, t', A, c, hi, rfl, rfl, HH⟩ := hrel
    have hpw := hpk wr
    have hi20 : i ≤ 19 := by omega
    by_cases hlt : i < N
    · have hltz : (i : Int) < (N : Int) := by omega
      obtain ⟨m', p', t2, hgr, hG⟩ := HH.out.2.2.next HLEN.out.2.2.2.2 (by omega)
      have hfew : m.length ≤ 1000000 := by have := HH.out.2.2.len; have := HH.out.2.2.thi; have := HLEN.out; omega
      have hc := grow7_any A m c R p wr HH.out.2.1.rd hfew HH.out.2.1.cap
      rw [hgr] at hc
      unfold storeV at hc
      have a0 := HH.out.2.1.s0
      have a1 := HH.out.2.1.s1
      have HG := Lib.hid hG
      have HHH := Lib.hid HH.out
      clear hgr hG HH hfew
      go_wp2_with fail
      refine hpw.mono ?_
      rintro r _ ⟨rfl, rfl⟩
      clear hpw
      go_wp2_with fail
      refine hc.mono ?_
      intro r w6 h
      obtain ⟨A6, c6, rfl, hcap6, N6, hb6⟩ := putR_box h
      have hal := (Below.refl w6.heap.size w6).alloc (Nat.le_refl _) (.cells #[.slice A6 m'.length c6, .int .i64 R] 27)
      have hb' := Qt.more (B := wr.heap.size) hb6 hb6.size hal
      have HC6 := Lib.hid (stB_new N6 hcap6 R)
      have HA6 := Lib.hid (HHH.out.2.1.below hb')
      have hbv : Below ab v5 (w6.alloc (.cells #[.slice A6 m'.length c6, .int .i64 R] 27)) := HHH.out.1.trans (hb'.mono (by have := lt_heap6 HHH.out.2.1.row; omega))
      have HBV := Lib.hid hbv
      have HS6 := Lib.hid (show StB (w6.alloc (.cells #[.slice A6 m'.length c6, .int .i64 R] 27)) b2 A2 m0 c2 R from HS5.out.below (by rw [hsz5]; exact hbv))
      clear h hc hb6 hb' hal N6 a0 a1 hbv
      go_wp2_with fail
      generalize (w6.alloc (.cells #[.slice A6 m'.length c6, .int .i64 R] 27)) = v6 at *
      generalize w6.heap.size = b6 at *
      obtain ⟨q2, o2, hA2, hq2, hnd⟩ := HS6.out.nd HLEN.out.2.2.1
      have y0 := (hnd n HNL.out).1
      have y5 := (hnd n HNL.out).2.2.2.2.2
      rw [HPOP.out] at y5
      rw [HLV.out, show (((e + 1 : Nat)) : Int) = (e : Int) + 1 by omega] at y0
      have hpl := HG.out.sq.is.lt
      obtain ⟨q6, o6, hA6, hq6, hnd6⟩ := HC6.out.nd (by omega)
      have z0 := (hnd6 p' hpl).1
      have z5 := (hnd6 p' hpl).2.2.2.2.2
      rw [HG.out.sq.pop] at z5
      rw [HG.out.sq.is.lev, show (((e + (i + 1) + 1 : Nat)) : Int) = (e : Int) + 1 + (i : Int) + 1 by omega] at z0
      have hpz : (p' : Int) < (m'.length : Int) := by omega
      have hpd : decide (m'.length ≤ p') = false := decide_eq_false (by omega)
      have hpd0 : decide ((p' : Int) < 0) = false := decide_eq_false (by omega)
      have he6 := HLEN.out.2.2.2.2
      have k0 := Qt.cell_in HC6.out.s0
      have k1 := Qt.cell_in HS6.out.s0
      have k2 := Qt.cell_in y0
      have k3 := Qt.cell_in y5
      have k4 := Qt.cell_in z0
      have k5 := Qt.cell_in z5
      subst hA2
      subst hA6
      have hw1 : IntKind.i64.wrap ((e : Int) + 1 + (i : Int)) = (e : Int) + 1 + (i : Int) := by rw [IntKind.wrap_i64]; omega
      have hw2 : IntKind.i64.wrap ((e : Int) + 1 + (i : Int) + 1) = (e : Int) + 1 + (i : Int) + 1 := by rw [IntKind.wrap_i64]; omega
      have hw3 : IntKind.i64.wrap ((i : Int) + 1) = (i : Int) + 1 := by rw [IntKind.wrap_i64]; omega
      have hd0 : decide (((e : Int) + 1 + (i : Int) + 1) = ((e : Int) + 1 + (i : Int) + 1)) = true := decide_eq_true rfl
      clear hnd hnd6 hq2 hq6 y0 y5 z0 z5
      refine Qt.below_all (by kernel_rfl) (by kernel_rfl) ?_
      iterate 42 (go_big_quiet_step (fail))
      refine wpQuiet_nil ?_
      intro w7 hb7
      have HA7 := Lib.hid (HA6.out.below hb7)
      have HC7 := Lib.hid (HC6.out.below hb7)
      have HV7 := Lib.hid (HBV.out.trans (hb7.mono (by have := lt_heap6 HA6.out.row; omega)))
      clear k0 k1 k2 k3 k4 k5 hb7 hd0 hpd hpd0
      have c0 := HC7.out.s0
      have c1 := HC7.out.s1
      have a0 := HA7.out.s0
      have a1 := HA7.out.s1
      have f0 := HA7.out.f0
      have f1 := HA7.out.f1
      have HP := Lib.hid (stB_put (room := R) HA7.out.row HC7.out.rd hcap6)
      have HVV := Lib.hid ((HV7.out.setCell (p := ⟨ab, 0, none⟩) (Nat.le_refl _) (.slice (some ⟨q6, o6, none⟩) m'.length c6)).setCell (p := ⟨ab, 1, none⟩) (Nat.le_refl _) (.int .i64 R))
      clear HA6 HC6 HBV HS6 HA7 HC7 HV7 HHH
      go_wp2_with fail
      go_roundw
      case measure => simp [intOf]; omega
      case rel => exact ⟨i + 1, m', p', t2, _, c6, by omega, by go_num, rfl, HVV.out, HP.out, HG.out⟩
    · obtain rfl : i = N := by omega
      have hltz : ¬ (i : Int) < (i : Int) := by omega
      have hfew : m.length ≤ 1000000 := by have := HH.out.2.2.len; have := HH.out.2.2.thi; have := HLEN.out; omega
      have hcel := HH.out.2.2.sq.cells
      obtain ⟨cx, cY, cu, cv, cr, hc7, hcA⟩ := HH.out.2.2.sq.box2
      rw [HBA.out] at hcA
      injection hcA with hA1 hA2
      injection hA1 with hA1
      have hA3 := congrArg Array.toList hA1
      simp only [List.cons.injEq, Value.int.injEq, true_and, and_true] at hA3
      obtain ⟨rfl, rfl, rfl, rfl⟩ := hA3
      subst hA2
      have hc := cells7_any A m c R p wr HH.out.2.1.rd hfew HH.out.2.1.cap
      rw [hcel] at hc
      have a0 := HH.out.2.1.s0
      have a1 := HH.out.2.1.s1
      have HHH := Lib.hid HH.out
      have HC7 := Lib.hid hc7
      clear hA1 hcel hc7 HH
      unfold storeV at hc
      go_wp2_with fail
      refine hpw.mono ?_
      rintro r _ ⟨rfl, rfl⟩
      clear hpw
      go_wp2_with fail
      refine hc.mono ?_
      intro r w6 h
      obtain ⟨A6, c6, rfl, hcap6, hC6, hb6⟩ := h
      simp only at hcap6 hC6
      have HX6 := Lib.hid hC6
      have HA6 := Lib.hid (HHH.out.2.1.below hb6)
      have HBV6 := Lib.hid (HHH.out.1.trans (hb6.mono (by have := lt_heap6 HHH.out.2.1.row; omega)))
      clear hc hb6 hC6 a0 a1
      have a0 := HA6.out.s0
      have a1 := HA6.out.s1
      have hc := box7_any A m c R p w6 HA6.out.rd hfew HA6.out.cap
      rw [HC7.out] at hc
      unfold storeV BoxR at hc
      go_wp2_with fail
      refine hc.mono ?_
      rintro r w7 ⟨rfl, hb7⟩
      have hal := (Below.refl w7.heap.size w7).alloc (Nat.le_refl _) (.cells #[.int .i64 bx, .int .i64 bY, .int .i64 bu, .int .i64 bv] 47)
      have hb' := Qt.more (B := w6.heap.size) hb7 hb7.size hal
      have HD7 := Lib.hid (show BxB (w7.alloc (.cells #[.int .i64 bx, .int .i64 bY, .int .i64 bu, .int .i64 bv] 47)) w7.heap.size bx bY bu bv from heap_alloc_new w7 _)
      have HX7 := Lib.hid ((Cel.Rd.below HX6.out hb' (Nat.le_refl _)).more hb'.size)
      have HBV7 := Lib.hid (HBV6.out.trans (hb'.mono (by have := lt_heap6 HA6.out.row; omega)))
      have hv5 : ab = v5.heap.size := hsz5.symm
      have HXl := Lib.hid ((Cel.Rd.below HX5.out (hv5 ▸ HBV7.out) (Nat.le_refl _)).more (by have := HBV7.out.size; exact (hv5 ▸ HBV7.out : Below v5.heap.size v5 _).size))
      clear hc hb7 hb' hal a0 a1 HX6 HA6 HBV6 HHH
      generalize hgv7 : (w7.alloc (.cells #[.int .i64 bx, .int .i64 bY, .int .i64 bu, .int .i64 bv] 47)) = v7 at *
      generalize hgb7 : w7.heap.size = b7 at *
      dsimp only [boxV]
      go_wp2_with fail
      clear hgv7 hgb7
      have hsm := fun W (hW : Below v7.heap.size v7 W) => Cel.same_holds (w := W) (c := c6) (c' := c3) ((Cel.Rd.below HX7.out hW (Nat.le_refl _)).more hW.size) ((Cel.Rd.below HXl.out hW (Nat.le_refl _)).more hW.size) (by have := HLEN.out; omega)
      rw [decide_eq_true rfl] at hsm
      go_wp2_with fail
      refine (hsm v7 (Below.refl _ _)).mono ?_
      rintro r w8 ⟨rfl, hb8⟩
      have HB8 := Lib.hid (HBV7.out.trans (hb8.mono (by have := HBV7.out.size; have := lt_heap6 HD7.out; omega)))
      have hbv8 : Below v5.heap.size v5 w8 := hv5 ▸ HB8.out
      have HBX8 := Lib.hid (HBX5.out.below hbv8)
      have HP8 := Lib.hid (HP5.out.below hbv8)
      have HD8 := Lib.hid (HD7.out.below hb8)
      have HBF := Lib.hid (Qt.more HB5.out HB5.out.size hbv8)
      have b0 := HBX8.out.s0
      have b1 := HBX8.out.s1
      have b2' := HBX8.out.s2
      have b3 := HBX8.out.s3
      have p0 := HP8.out.s0
      have p1 := HP8.out.s1
      have p2 := HP8.out.s2
      have p3 := HP8.out.s3
      have e0 := HD8.out.s0
      have e1 := HD8.out.s1
      have e2 := HD8.out.s2
      have e3 := HD8.out.s3
      have heq := fun W => eqlBox bx bY bu bv W
      have hbr := HBR.out
      clear hsm hb8 hbv8 HB8 HBX8 HP8 HD8 HX7 HXl HD7 HBV7 hv5
      by_cases hS0 : 0 < S.length
      · rw [decide_eq_true hS0] at hbr
        subst hbr
        have hz : (0 : Int) < (S.length : Int) := by omega
        go_wp2_with fail
        go_ret
        exact ⟨rfl, HBF.out⟩
      · rw [decide_eq_false hS0] at hbr
        subst hbr
        have hz : ¬ (0 : Int) < (S.length : Int) := by omega
        go_wp2_with fail
        go_ret
        exact ⟨rfl, HBF.out⟩
end Go.Proofs.Ytikgnjcjbjafaaa
