/-
  LeapTrims: a trimmed node stands for the same set, is of the least level that there can be, and is trimmed; grown it is trimmed again to the same one.
-/
import Derived.Test.YtklccoodfhejbaaB29
import Derived.Test.YtklccoodfhejbaaB18
import Derived.Test.YtklccoodfhejbaaB16
import Derived.Test.YtklccoodfhejbaaB24
import Derived.Test.YtklccoodfhejbaaB27
import Derived.Test.YtklccoodfhejbaaB22
import Derived.Test.YtklccoodfhejbaaB11
import Derived.Test.YtklccoodfhejbaaB23
import Derived.Test.YtklccoodfhejbaaB13
import Derived.Test.YtklccoodfhejbaaB31
import Derived.Test.YtklccoodfhejbaaB30
namespace Go.Proofs.Ytklccoodfhejbaa
set_option maxRecDepth 100000
set_option linter.unusedVariables false
set_option linter.unusedSimpArgs false
open Go.RowKit Go.Sort

theorem ofR_about9 {l : List Nd} {room : Int} {e n : Nat} {S : List (Int × Int)} (h : Sq l room e n S) : Cel.ofR (about7 l e n) = (0, S) := by
  have h3 := (Cel.rightB_iff _).1 h.set
  have e1 : Cel.setL (about7 l e n) = S := Cel.rises_ext (Cel.rises_setL _) h3.2.2 fun y => (Cel.mem_setL _ y).trans (h.flat y)
  rw [Cel.ofR_in fun j hj => h3.2.1 _ ((h.flat _).1 (Cel.getD_mem hj)), e1, if_neg (by omega)]
/-- a node grown so many times, the first one beside it -/
structure TrI (R : Int) (e : Nat) (S : List (Int × Int)) (n : Nat) (i : Nat) (m : List Nd) (p : Nat) (t : Nat) : Prop where
  sq : Sq m R (e + i) p S
  sn : Sq m R e n S
  emp : ∃ x, Emp m t x
  thi : t ≤ e + 1 + i
  len : (m.length : Int) ≤ R - 380 + 5 * (i : Int) + t
theorem TrI.next {R : Int} {e : Nat} {S : List (Int × Int)} {n i : Nat} {m : List Nd} {p t : Nat} (h : TrI R e S n i m p t) (he : e ≤ 6) (hi : i < 19) : ∃ m' p' t', grow7 m R p = (m', ((p' : Nat) : Int), 0) ∧ TrI R e S n (i + 1) m' p' t' := by
  have h1 := h.len
  have h2 := h.thi
  obtain ⟨m', p', e1, g, sq, em, len⟩ := h.sq.grow (by omega) h.emp (by omega) (by omega)
  exact ⟨m', p', max t (e + i), e1, sq, h.sn.grows g sq.right, em, by omega, by omega⟩
theorem TrI.all {R : Int} {e : Nat} {S : List (Int × Int)} {n i : Nat} {m : List Nd} {p t : Nat} (h : TrI R e S n i m p t) (h2 : 2 ≤ e) (he : e ≤ 4) (hi : i ≤ 8) : ∃ a j c e1, TrmK R S m p n a j c e1 ∧ e1 ≤ 3 := by
  have h1 := h.len
  have h3 := h.thi
  obtain ⟨E, hE⟩ : ∃ E, e + i = E + 1 := ⟨e + i - 1, by omega⟩
  obtain ⟨f, hf⟩ : ∃ f, e = f + 1 := ⟨e - 1, by omega⟩
  have hs := h.sq
  have hn := h.sn
  rw [hE] at hs
  have hn' := hn
  rw [hf] at hn'
  obtain ⟨a, j, c, e1, hk⟩ := trm_all hs hn' (by omega) (by omega) (by omega)
  refine ⟨a, j, c, e1, hk, ?_⟩
  rcases hk.least with h0 | h0
  · omega
  · by_cases hc : e1 ≤ 3
    · exact hc
    · exfalso
      refine h0 fun x y hxy => decide_eq_false fun hm => hxy ?_
      exact in_iff.1 (inside_more (show e ≤ e1 by omega) (hn.ins _ hm))
set_option maxHeartbeats 16000000 in
theorem leapTrims_law (room : Int) (A : Option Addr) (nodes : List Raw5) (c : Nat) (B : Option Addr) (raw : List (Int × Int)) (d : Nat) (lev times : Int) (w : World) (hI : I64 room) (hR : RdR w w.heap.size A nodes) (hl : nodes.length ≤ 9223372036854775807) (hF : ∀ j, j < nodes.length → Fine5 (nodes.getD j dead5))
    (hB : RdC w w.heap.size B raw) (hBl : raw.length ≤ 9223372036854775807) (hBc : raw.length ≤ d) (hBw : ∀ p ∈ raw, Cel.I64 p.1 ∧ Cel.I64 p.2) (hL : I64 lev) (hT : I64 times) :
    Calls Try.prog 8 #[.int .i64 room, .slice A nodes.length c, .slice B raw.length d, .int .i64 lev, .int .i64 times] w fun e w' => e = .returned (.bool true) ∧ Below w.heap.size w w' := by
  obtain ⟨Q, R0, l0, S, m0, n, e, t, HL⟩ := field_ok room nodes raw lev
  have hfd := fun W hR' hB' => field_any HL A c B d W hI hR' hl hF hB' hBl hBc hBw hL
  have hpk := fun W => pick9_any times 9 W hT.1 hT.2 (by decide) (by decide)
  have hq := pickI_bd times 9 (by decide)
  obtain ⟨N, hN⟩ : ∃ N : Nat, (N : Int) = pickI times 9 := ⟨(pickI times 9).toNat, by omega⟩
  rw [← hN] at hpk hq
  have hN8 : N ≤ 8 := by omega
  obtain ⟨R, hRR⟩ : ∃ R, R = R0 + 300 := ⟨_, rfl⟩
  have hq1 := HL.r_
  have hq2 := HL.qlo
  have hq3 := HL.qhi
  have hw300 : IntKind.i64.wrap (R0 + 300) = R := by rw [IntKind.wrap_i64]; omega
  have hlen := HL.len
  have hright : Right6 m0 R := HL.sq.right.more (by omega) (by omega) (by omega)
  have hG0 : TrI R e S n 0 m0 n t := ⟨⟨hright, HL.sq.is, HL.sq.low, HL.sq.set, HL.sq.ins, HL.sq.alive⟩, ⟨hright, HL.sq.is, HL.sq.low, HL.sq.set, HL.sq.ins, HL.sq.alive⟩, HL.emp, by have := HL.thi; omega, by omega⟩
  have he2 := HL.elo
  have he4 := HL.ehi
  have hsl := HL.slen
  have HR := Lib.hid hR
  have HB := Lib.hid hB
  have HFD := Lib.hid hfd
  have HG0 := Lib.hid hG0
  have HE := Lib.hid (And.intro he2 (And.intro he4 (show m0.length ≤ 167 ∧ S.length ≤ 30 ∧ R ≤ 961 ∧ 0 ≤ R ∧ N ≤ 8 from ⟨hlen, hsl, by omega, by omega, hN8⟩)))
  have hr0 : R0 = R - 300 := by omega
  have hRb : 0 ≤ R0 ∧ R0 ≤ 700 := by omega
  clear hfd hR hB hG0 HL hI hF hBw hL hl hBl hT hq hq1 hq2 hq3 hlen hright he2 he4 hsl hN8 hN hr0 hRR
  go_enter Try.func8, Try.ntmps8
  go_wp2_with fail
  refine (awake9_any w).mono ?_
  rintro r w1 ⟨rfl, hb1⟩
  have HB1 := Lib.hid hb1
  have hs1 := HFD.out w1 ((HR.out.below hb1 (Nat.le_refl _)).more hb1.size) ((Cel.Rd.below HB.out hb1 (Nat.le_refl _)).more hb1.size)
  clear HR HB HFD hb1
  go_wp2_with fail
  refine hs1.mono ?_
  rintro r w2 ⟨A2, c2, rfl, hcap2, N2, hb2⟩
  have hal := (Below.refl w2.heap.size w2).alloc (Nat.le_refl _) (.cells #[.slice A2 m0.length c2, .int .i64 R] 26)
  have hb' := Qt.more (B := w1.heap.size) hb2 hb2.size hal
  have HS2 := Lib.hid (stB_new N2 hcap2 R)
  have HB2 := Lib.hid (Qt.more HB1.out HB1.out.size hb')
  have s0 := HS2.out.s0
  have s1 := HS2.out.s1
  clear hs1 hb2 hb' HB1 N2 hal
  go_wp2_with fail
  clear hw300 hRb
  generalize (w2.alloc (.cells #[.slice A2 m0.length c2, .int .i64 R] 26)) = v2 at *
  generalize w2.heap.size = b2 at *
  have hc := refOf7_any m0 HG0.out.sn.right A2 c2 R e n v2 (by have := HE.out; omega) HG0.out.sn.is HS2.out.rd (by have := about_few m0 e n; have h4 : 4 ^ (e + 1) ≤ 4 ^ 5 := Nat.pow_le_pow_right (by decide) (by have := HE.out; omega); omega)
  unfold storeV at hc
  refine hc.mono ?_
  rintro r w3 ⟨A3, c3, rfl, hc3, hR3, hb3⟩
  have HS3 := Lib.hid (HS2.out.below hb3)
  have HB3 := Lib.hid (Qt.more HB2.out HB2.out.size hb3)
  have hc := Cel.refOf_any A3 (about7 m0 e n) c3 w3 hR3 (by have := about_few m0 e n; have h4 : 4 ^ (e + 1) ≤ 4 ^ 5 := Nat.pow_le_pow_right (by decide) (by have := HE.out; omega); omega) hc3
  rw [ofR_about9 HG0.out.sn] at hc
  clear s0 s1 hb3 hR3 HS2 HB2
  go_wp2_with fail
  refine hc.mono ?_
  rintro r w4 ⟨v4, rfl, ⟨A4, c4, rfl, hc4, hR4⟩, hb4⟩
  dsimp only at hR4 hc4
  have HS4 := Lib.hid (HS3.out.below hb4)
  have HB4 := Lib.hid (Qt.more HB3.out HB3.out.size hb4)
  have HX4 := Lib.hid hR4
  clear hc hb4 hR4 HS3 HB3
  have s0 := HS4.out.s0
  have s1 := HS4.out.s1
  have hal := (Below.refl w4.heap.size w4).alloc (Nat.le_refl _) (.cells #[.slice A2 m0.length c2, .int .i64 R] 26)
  have HA5 := Lib.hid (stB_new HS4.out.rd HS4.out.cap R)
  have HAL := Lib.hid hal
  clear hal
  go_wp2_with fail
  clear s0 s1
  generalize hv5 : w4.alloc (.cells #[.slice A2 m0.length c2, .int .i64 R] 26) = v5 at *
  obtain ⟨ab, hab⟩ : ∃ ab, ab = w4.heap.size := ⟨_, rfl⟩
  rw [← hab] at HA5 HAL ⊢
  have HAB := Lib.hid hab
  clear hab hv5
  go_loopw [17, 18] (fun mm u wr => ∃ (i : Nat) (m : List Nd) (p t : Nat) (A : Option Addr) (c : Nat), i ≤ N ∧ u = .int .i64 i ∧ mm = .int .i64 (p : Int) ∧ Hid (Below ab v5 wr ∧ StB wr ab A m c R ∧ TrI R e S n i m p t)) (fun _ u _ => N - (intOf u).toNat)
  case atStart => exact ⟨0, m0, n, t, A2, c2, Nat.zero_le _, rfl, rfl, (show Hid _ from ⟨Below.refl _ _, HA5.out, HG0.out⟩)⟩
  case round =>
    obtain ⟨i, m, p, t', A, c, hi, rfl, rfl, HH⟩ := hrel
    have hpw := hpk wr
    have hfew : m.length ≤ 1000000 := by have := right_len HH.out.2.2.sq.right; omega
    by_cases hlt : i < N
    · have hltz : (i : Int) < (N : Int) := by omega
      obtain ⟨m', p', t2, hgr, hG⟩ := HH.out.2.2.next (by have := HE.out; omega) (by have := HE.out; omega)
      have hc := refGrow7_any A m c R p wr HH.out.2.1.rd hfew HH.out.2.1.cap (lev_bd HH.out.2.2.sq.right)
      rw [hgr] at hc
      unfold storeV at hc
      have a0 := HH.out.2.1.s0
      have a1 := HH.out.2.1.s1
      have HG := Lib.hid hG
      have HHH := Lib.hid HH.out
      have hib : (i : Int) ≤ 100 := by have := HE.out; omega
      clear hgr hG HH hfew
      go_wp2_with fail
      refine hpw.mono ?_
      rintro r _ ⟨rfl, rfl⟩
      clear hpw
      go_wp2_with fail
      refine hc.mono ?_
      intro r w6 h
      obtain ⟨A6, c6, rfl, hcap6, N6, hb6⟩ := putR_box h
      have hal := (Below.refl w6.heap.size w6).alloc (Nat.le_refl _) (.cells #[.slice A6 m'.length c6, .int .i64 R] 26)
      have hb' := Qt.more (B := wr.heap.size) hb6 hb6.size hal
      have hC6 := stB_new N6 hcap6 R
      have hA6 := HHH.out.2.1.below hb'
      have hbv : Below ab v5 (w6.alloc (.cells #[.slice A6 m'.length c6, .int .i64 R] 26)) := HHH.out.1.trans (hb'.mono (by have := lt_heap6 HHH.out.2.1.row; omega))
      obtain ⟨v6, hv6⟩ : ∃ v6, w6.alloc (.cells #[.slice A6 m'.length c6, .int .i64 R] 26) = v6 := ⟨_, rfl⟩
      rw [hv6] at hC6 hA6 hbv
      clear h hc hb6 hb' hal N6 a0 a1
      have HV6 := Lib.hid hv6
      have c0 := hC6.s0
      have c1 := hC6.s1
      have a0 := hA6.s0
      have a1 := hA6.s1
      have f0 := hA6.f0
      have f1 := hA6.f1
      have HP := Lib.hid (stB_put (room := R) hA6.row hC6.rd hcap6)
      have HVV := Lib.hid ((hbv.setCell (p := ⟨ab, 0, none⟩) (Nat.le_refl _) (.slice A6 m'.length c6)).setCell (p := ⟨ab, 1, none⟩) (Nat.le_refl _) (.int .i64 R))
      clear hv6 hC6 hA6 hbv HHH
      go_wp2_with (rw [HV6.out])
      go_roundw
      case measure => simp [intOf]; omega
      case rel => exact ⟨i + 1, m', p', t2, A6, c6, by omega, by go_num, rfl, (show Hid _ from ⟨HVV.out, HP.out, HG.out⟩)⟩
    · obtain rfl : i = N := by omega
      have hltz : ¬ (i : Int) < (i : Int) := by omega
      obtain ⟨a, j, cc, e1, hK, he3⟩ := HH.out.2.2.all HE.out.1 HE.out.2.1 HE.out.2.2.2.2.2.2
      have hc := trim9_any A m c R p wr HH.out.2.1.rd hfew HH.out.2.1.cap (lev_bd HH.out.2.2.sq.right)
      rw [hK.t1] at hc
      unfold storeV at hc
      have HK := Lib.hid hK
      have a0 := HH.out.2.1.s0
      have a1 := HH.out.2.1.s1
      have HBV := Lib.hid HH.out.1
      have HWR := Lib.hid HH.out.2.1
      clear hK HH hfew
      go_wp2_with fail
      refine hpw.mono ?_
      rintro r _ ⟨rfl, rfl⟩
      clear hpw
      go_wp2_with fail
      refine hc.mono ?_
      intro r w7 h
      obtain ⟨A7, c7, rfl, hcap7, N7, hb7⟩ := putR_box h
      have hal := (Below.refl w7.heap.size w7).alloc (Nat.le_refl _) (.cells #[.slice A7 a.length c7, .int .i64 R] 26)
      have hb' := Qt.more (B := wr.heap.size) hb7 hb7.size hal
      have HS7 := Lib.hid (stB_new N7 hcap7 R)
      have HB7 := Lib.hid hb'
      have hal7 := right_len HK.out.ra
      have hcl7 := right_len HK.out.rc
      clear h hc hb7 hb' N7 hal a0 a1
      have s0 := HS7.out.s0
      have s1 := HS7.out.s1
      go_wp2_with fail
      clear s0 s1
      generalize (w7.alloc (.cells #[.slice A7 a.length c7, .int .i64 R] 26)) = v7 at *
      generalize w7.heap.size = b7 at *
      have hc := trim9_any A7 a c7 R j v7 HS7.out.rd (by omega) hcap7 (lev_bd HK.out.ra)
      rw [HK.out.t2] at hc
      unfold storeV at hc
      refine hc.mono ?_
      intro r w8 h
      obtain ⟨A8, c8, rfl, hcap8, N8, hb8⟩ := putR_box h
      have hal := (Below.refl w8.heap.size w8).alloc (Nat.le_refl _) (.cells #[.slice A8 a.length c8, .int .i64 R] 26)
      have hb' := Qt.more (B := v7.heap.size) hb8 hb8.size hal
      have HS8 := Lib.hid (stB_new N8 hcap8 R)
      have HT8 := Lib.hid (HS7.out.below hb')
      have HB8 := Lib.hid (Qt.more HB7.out HB7.out.size hb')
      clear h hc hb8 hb' N8 hal HS7 HB7
      have s0 := HT8.out.s0
      have s1 := HT8.out.s1
      go_wp2_with fail
      clear s0 s1
      generalize (w8.alloc (.cells #[.slice A8 a.length c8, .int .i64 R] 26)) = v8 at *
      generalize w8.heap.size = b8 at *
      have hc := trim9_any A7 a c7 R n v8 HT8.out.rd (by omega) hcap7 (lev_bd HK.out.ra)
      rw [HK.out.t3] at hc
      unfold storeV at hc
      refine hc.mono ?_
      intro r w9 h
      obtain ⟨A9, c9, rfl, hcap9, N9, hb9⟩ := putR_box h
      have hal := (Below.refl w9.heap.size w9).alloc (Nat.le_refl _) (.cells #[.slice A9 cc.length c9, .int .i64 R] 26)
      have hb' := Qt.more (B := v8.heap.size) hb9 hb9.size hal
      have HS9 := Lib.hid (stB_new N9 hcap9 R)
      have HT9 := Lib.hid (HT8.out.below hb')
      have HU9 := Lib.hid (HS8.out.below hb')
      have HB9 := Lib.hid (Qt.more HB8.out HB8.out.size hb')
      have hjl : j < a.length := HK.out.sq.is.lt
      have hjz : ¬ (a.length : Int) ≤ (j : Int) := by omega
      have hjy : (j : Int) < (a.length : Int) := by omega
      clear h hc hb9 hb' N9 hal HT8 HS8 HB8
      obtain ⟨q7, o7, hA7, hq7, _⟩ := HT9.out.nd (Nat.lt_of_le_of_lt (Nat.zero_le _) hjl)
      subst hA7
      have s0 := HT9.out.s0
      have s1 := HT9.out.s1
      have x0 := (HT9.out.node hjl).1
      rw [HK.out.sq.is.lev, show (((e1 + 1 + 1 : Nat)) : Int) = (e1 : Int) + 2 by omega] at x0
      have hl2 : ¬ (e1 : Int) + 2 < 2 := by omega
      clear hq7
      go_wp2_with fail
      clear s0 s1 x0
      have h4 : Below ab w4 wr := HAL.out.trans HBV.out
      rw [HAB.out] at h4
      generalize (w9.alloc (.cells #[.slice A9 cc.length c9, .int .i64 R] 26)) = v9 at *
      generalize w9.heap.size = b9 at *
      have hab5 : (about7 a (e1 + 1) j).length ≤ 1024 := by
        have h1 := about_few a (e1 + 1) j
        have h2 : 4 ^ (e1 + 1 + 1) ≤ 4 ^ 5 := Nat.pow_le_pow_right (by decide) (by omega)
        exact Nat.le_trans h1 h2
      have hc := refOf7_any a HK.out.ra (some ⟨q7, o7, none⟩) c7 R (e1 + 1) j v9 (by omega) HK.out.sq.is HT9.out.rd (by omega)
      unfold storeV at hc
      have HX9 := Lib.hid (Qt.more h4 h4.size HB9.out)
      clear h4
      refine hc.mono ?_
      rintro r w10 ⟨A10, c10, rfl, hc10, hR10, hb10⟩
      have hc := Cel.refOf_any A10 (about7 a (e1 + 1) j) c10 w10 hR10 (by omega) hc10
      rw [ofR_about9 HK.out.sq] at hc
      have HB10 := Lib.hid hb10
      clear hb10 hR10
      go_wp2_with fail
      refine hc.mono ?_
      rintro r w11 ⟨v11, rfl, ⟨A11, c11, rfl, hc11, hR11⟩, hb11⟩
      dsimp only at hR11 hc11
      have hb911 := Qt.more HB10.out HB10.out.size hb11
      have HT11 := Lib.hid (HT9.out.below hb911)
      have HU11 := Lib.hid (HU9.out.below hb911)
      have HS11 := Lib.hid (HS9.out.below hb911)
      have HX11 := Lib.hid (Qt.more HX9.out HX9.out.size hb911)
      have HY11 := Lib.hid hR11
      clear hc hb11 hb911 hR11 HT9 HU9 HS9 HX9 HB10 HB9 hab5
      have s0 := HT11.out.s0
      have s1 := HT11.out.s1
      have x0 := (HT11.out.node hjl).1
      rw [HK.out.sq.is.lev, show (((e1 + 1 + 1 : Nat)) : Int) = (e1 : Int) + 2 by omega] at x0
      go_wp2_with fail
      clear s0 s1 x0 hl2
      have HXS := Lib.hid ((Cel.Rd.below HX4.out HX11.out (Nat.le_refl _)).more HX11.out.size)
      have hS30 : S.length ≤ 30 := HE.out.2.2.2.1
      go_loopw [34, 35] (fun lv u wr => ∃ (x E : Nat), x ≤ S.length ∧ 1 ≤ E ∧ E ≤ e1 + 1 ∧ u = .int .i64 x ∧ lv = .int .i64 ((E : Int) + 1) ∧ Hid (Below w11.heap.size w11 wr ∧ (∀ y, y < x → insideB E (S.getD y (0, 0)) = true) ∧ (E = 1 ∨ ∃ s ∈ S, insideB (E - 1) s = false))) (fun _ u _ => S.length - (intOf u).toNat)
      case atStart => exact ⟨0, 1, Nat.zero_le _, Nat.le_refl _, by omega, rfl, rfl, (show Hid _ from ⟨Below.refl _ _, fun y hy => absurd hy (Nat.not_lt_zero y), .inl rfl⟩)⟩
      case round =>
        obtain ⟨x, E, hx, hE1, hE2, rfl, rfl, HQ⟩ := hrel
        by_cases hxl : x < S.length
        · have hxz : (x : Int) < (S.length : Int) := by omega
          obtain ⟨qb, ob, hA4, hqb, hcell⟩ := Cel.Rd.at_ HXS.out (by omega)
          subst hA4
          obtain ⟨k0, k1⟩ := hcell x hxl
          have hmem : S.getD x (0, 0) ∈ S := Cel.getD_mem hxl
          have hins := HK.out.sq.ins _ hmem
          have hbd := (Cel.rightB_iff _).1 HK.out.sq.set
          have hIB := hbd.2.1 _ hmem
          generalize hsx : S.getD x (0, 0) = s at *
          obtain ⟨sx, sy⟩ := s
          simp only at k0 k1
          have hI64 : I64 sx ∧ I64 sy := by
            unfold Cel.inB at hIB
            have := of_decide_eq_true hIB
            simp only at this
            unfold I64
            omega
          have HC := Lib.hid (And.intro k0 (And.intro k1 hI64))
          have HM := Lib.hid (And.intro hmem (And.intro hins hsx))
          have HWX := Lib.hid HQ.out
          clear hcell k0 k1 hmem hins hbd hIB hsx hqb hI64 HQ
          go_wp2_with fail
          go_loopw [34] (fun lv wr2 => ∃ E2 : Nat, 1 ≤ E2 ∧ E2 ≤ e1 + 1 ∧ lv = .int .i64 ((E2 : Int) + 1) ∧ Hid (Below w11.heap.size w11 wr2 ∧ (∀ y, y < x → insideB E2 (S.getD y (0, 0)) = true) ∧ (E2 = 1 ∨ ∃ s ∈ S, insideB (E2 - 1) s = false))) (fun lv _ => e1 + 5 - (intOf lv).toNat)
          case atStart => exact ⟨E, hE1, hE2, rfl, HWX.out⟩
          case round =>
            obtain ⟨E2, hF1, hF2, rfl, HR2⟩ := hrel
            have k0 := Qt.keep HR2.out.1 HC.out.1
            have k1 := Qt.keep HR2.out.1 HC.out.2.1
            have hin := refIn7_any E2 (by omega) (sx, sy) HC.out.2.2.1 HC.out.2.2.2 wr
            unfold cellV at hin
            simp only at hin
            have hEb : (E2 : Int) ≤ 50 := by omega
            by_cases hb : insideB E2 (sx, sy) = true
            · rw [hb] at hin
              have HB2 := Lib.hid hb
              clear hb
              go_wp2_with fail
              refine hin.mono ?_
              rintro r w12 ⟨rfl, hb12⟩
              have HN := Lib.hid (Qt.more HR2.out.1 HR2.out.1.size hb12)
              clear hin hb12 k0 k1
              go_wp2_with fail
              go_roundw
              case measure => simp [intOf]; omega
              case rel =>
                refine ⟨x + 1, E2, by omega, hF1, hF2, by go_num, rfl, (show Hid _ from ⟨HN.out, fun y hy => ?_, HR2.out.2.2⟩)⟩
                by_cases hyx : y < x
                · exact HR2.out.2.1 y hyx
                · obtain rfl : y = x := by omega
                  rw [HM.out.2.2]
                  exact HB2.out
            · have hbf : insideB E2 (sx, sy) = false := by
                cases h : insideB E2 (sx, sy) with
                | true => exact absurd h hb
                | false => rfl
              have hlt2 : E2 < e1 + 1 := by
                by_cases h : E2 < e1 + 1
                · exact h
                · exact absurd (inside_more (show e1 + 1 ≤ E2 by omega) HM.out.2.1) hb
              rw [hbf] at hin
              have HB2 := Lib.hid hbf
              clear hb hbf
              go_wp2_with fail
              refine hin.mono ?_
              rintro r w12 ⟨rfl, hb12⟩
              have HN := Lib.hid (Qt.more HR2.out.1 HR2.out.1.size hb12)
              clear hin hb12 k0 k1
              go_wp2_with fail
              go_roundw
              case measure => simp [intOf]; omega
              case rel =>
                refine ⟨E2 + 1, by omega, by omega, by go_num, (show Hid _ from ⟨HN.out, fun y hy => inside_more (Nat.le_succ E2) (HR2.out.2.1 y hy), .inr ⟨(sx, sy), HM.out.1, ?_⟩⟩)⟩
                rw [Nat.add_sub_cancel]
                exact HB2.out
        · obtain hxe : x = S.length := by omega
          have hxz : ¬ (x : Int) < (S.length : Int) := by omega
          have hLe : E + 1 = e1 + 2 := least_end HK.out.sq.ins HK.out.least (by omega) (fun s hs => by
            obtain ⟨y, hy, rfl⟩ := List.mem_iff_getElem.1 hs
            have h9 := HQ.out.2.1 y (by omega)
            rw [List.getD_eq_getElem?_getD, List.getElem?_eq_getElem hy] at h9
            rw [Nat.add_sub_cancel]
            exact h9) (by
            rcases HQ.out.2.2 with h9 | ⟨s, hs, h9⟩
            · exact .inl (by omega)
            · exact .inr ⟨s, hs, by rw [show E + 1 - 2 = E - 1 by omega]; exact h9⟩)
          have hv : (((e1 : Int) + 2) == ((E : Int) + 1)) = true := by rw [beq_iff_eq]; omega
          have hsm6 := refSame6_any (some ⟨q7, o7, none⟩) a c7 R A8 a c8 R wr (HT11.out.below HQ.out.1).rd (HU11.out.below HQ.out.1).rd (by omega) (by omega)
          rw [decide_eq_true (show R = R ∧ a = a from ⟨rfl, rfl⟩)] at hsm6
          unfold storeV at hsm6
          have s0 := (HT11.out.below HQ.out.1).s0
          have s1 := (HT11.out.below HQ.out.1).s1
          have u0 := (HU11.out.below HQ.out.1).s0
          have u1 := (HU11.out.below HQ.out.1).s1
          have HBQ := Lib.hid HQ.out.1
          clear hxe hLe HQ
          go_wp2_with fail
          refine hsm6.mono ?_
          rintro r w12 ⟨rfl, hb12⟩
          have HB12 := Lib.hid (Qt.more HBQ.out HBQ.out.size hb12)
          clear hsm6 hb12 s0 s1 u0 u1
          have hrt := refRight6_any A9 cc c9 R w12 (HS11.out.below HB12.out).rd (by omega) (lev_bd HK.out.rc)
          rw [right_iff.2 HK.out.rc] at hrt
          unfold storeV at hrt
          have r0 := (HS11.out.below HB12.out).s0
          have r1 := (HS11.out.below HB12.out).s1
          go_wp2_with fail
          refine hrt.mono ?_
          rintro r w13 ⟨rfl, hb13⟩
          have HB13 := Lib.hid (Qt.more HB12.out HB12.out.size hb13)
          clear hrt hb13 r0 r1
          have hsm := Cel.same_holds (c := c11) (c' := c4) ((Cel.Rd.below HY11.out HB13.out (Nat.le_refl _)).more HB13.out.size) ((Cel.Rd.below HXS.out HB13.out (Nat.le_refl _)).more HB13.out.size) (by omega)
          rw [decide_eq_true rfl] at hsm
          go_wp2_with fail
          refine hsm.mono ?_
          rintro r w14 ⟨rfl, hb14⟩
          have HF : Hid (Below w.heap.size w w14) := by
            have h1 := Qt.more HB4.out HB4.out.size HX11.out
            have h2 := Qt.more h1 h1.size HB13.out
            exact Qt.more h2 h2.size hb14
          clear hsm hb14
          go_wp2_with fail
          go_ret
          exact ⟨rfl, HF.out⟩
end Go.Proofs.Ytklccoodfhejbaa
