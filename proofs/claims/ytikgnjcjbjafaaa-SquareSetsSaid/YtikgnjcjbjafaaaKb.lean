/-
  The law SquareSets.
-/
import Derived.Test.YtikgnjcjbjafaaaKa
import Derived.Test.YtikgnjcjbjafaaaB24
namespace Go.Proofs.Ytikgnjcjbjafaaa
set_option maxRecDepth 100000
set_option linter.unusedVariables false
set_option linter.unusedSimpArgs false
open Go.RowKit Go.Sort

theorem rdC_app {w : World} {B : Nat} {A : Option Addr} {l : List (Int × Int)} (h : Cel.Reads w (.slice A l.length B) l) : RdC w w.heap.size A l := by
  obtain ⟨A', c', e, hc, h⟩ := h
  injection e with e1 e2 e3
  subst e1
  exact h
/-- What SquareSets goes through. -/
structure SetsL (R : Int) (m : List Nd) (n : Nat) (S : List (Int × Int)) (k : Int × Int) (al : Bool) (m1 : List Nd) (p : Nat) (T : List (Int × Int)) : Prop where
  set1 : set7 m R n k al = (m1, (p : Int), 0)
  get1 : get7 m R n k = (decide (k ∈ S), 0)
  get2 : get7 m1 R p k = (al, 0)
  set2 : set7 m1 R p k (decide (k ∈ S)) = (m1, (n : Int), 0)
  cel1 : cells7 m R n = (S, 0)
  cel2 : cells7 m1 R p = (T, 0)
  wth : Cel.withR S k al = (0, T)
  iff : p = n ↔ decide (k ∈ S) = al
  has : Cel.hasB S k = decide (k ∈ S)
  few : m1.length ≤ 1000000
  tlen : T.length ≤ 100
theorem sets_ok {room : Int} {raw : List Raw5} {rs : List (Int × Int)} {lev R : Int} {m : List Nd} {n e t : Nat} (HL : SqL room raw rs lev R m n e t) (k : Int × Int) (hk : -8 ≤ k.1 ∧ k.1 ≤ 7 ∧ -8 ≤ k.2 ∧ k.2 ≤ 7) (al : Bool) :
    ∃ m1 p T, SetsL R m n (Cel.rawSet rs) k al m1 p T := by
  have hp8 : (8 : Int) ≤ 2 ^ e := by
    have := pow_le7 HL.elo
    rw [show (2 : Int) ^ 3 = 8 from rfl] at this
    exact this
  have hins : insideB e k = true := by unfold insideB; exact decide_eq_true (by omega)
  have hinb : Cel.inB k = true := by unfold Cel.inB; exact decide_eq_true (by omega)
  have hSl := HL.set60
  obtain ⟨m1, p, e1, g, sq, len⟩ := HL.sq.put hins hinb (by omega) al (by have := HL.len; have := HL.thi; have := HL.ehi; omega)
  have hn := HL.sq.grows g sq.right
  have hg1 := HL.sq.get k
  have hg2 := sq.get k
  rw [hins, Bool.true_and] at hg1 hg2
  have hmem := fun y => set_mem (S := Cel.rawSet rs) (c := k) al y
  have hal : decide (k ∈ (if al = true then Cel.putL k (Cel.rawSet rs) else Cel.outL k (Cel.rawSet rs))) = al := by
    rw [Bool.eq_iff_iff, decide_eq_true_iff, hmem k, if_pos rfl]
  rw [hal] at hg2
  have hback := hn.back sq hins (decide (k ∈ Cel.rawSet rs)) (fun y => by
    by_cases h : y = k
    · rw [if_pos h, h, decide_eq_true_iff]
    · rw [if_neg h, hmem y, if_neg h])
  refine ⟨m1, p, _, ⟨e1, hg1, hg2, hback, HL.sq.cells, sq.cells, ?_, ?_, ?_, by have := HL.few; have := HL.ehi; omega, ?_⟩⟩
  · unfold Cel.withR
    rw [if_pos HL.sq.set, if_pos hinb]
  · rw [sq.iff hn]
    constructor
    · intro h
      rw [Bool.eq_iff_iff, decide_eq_true_iff, ← h, hmem k, if_pos rfl]
    · intro h
      refine Cel.rises_ext ((Cel.rightB_iff _).1 sq.set).2.2 ((Cel.rightB_iff _).1 HL.sq.set).2.2 fun y => ?_
      rw [hmem y]
      by_cases hy : y = k
      · rw [if_pos hy, hy, ← h, decide_eq_true_iff]
      · rw [if_neg hy]
  · rw [Bool.eq_iff_iff, Cel.hasB_iff, decide_eq_true_iff]
  · cases al with
    | true => rw [if_pos rfl]; have := Cel.length_putL_le k (Cel.rawSet rs); omega
    | false => rw [if_neg (by decide)]; have : (Cel.outL k (Cel.rawSet rs)).length ≤ (Cel.rawSet rs).length := List.length_filter_le _ _; omega
set_option maxHeartbeats 16000000 in
theorem squareSets_law (room : Int) (A : Option Addr) (raw : List Raw5) (c : Nat) (B : Option Addr) (rs : List (Int × Int)) (d : Nat) (lev x0 y0 : Int) (al : Bool) (w : World) (hI : I64 room) (hR : RdR w w.heap.size A raw) (hl : raw.length ≤ 9223372036854775807) (hF : ∀ j, j < raw.length → Fine5 (raw.getD j dead5))
    (hB : RdC w w.heap.size B rs) (hBl : rs.length ≤ 9223372036854775807) (hBc : rs.length ≤ d) (hBw : ∀ p ∈ rs, Cel.I64 p.1 ∧ Cel.I64 p.2) (hL : I64 lev) (hX : I64 x0) (hY : I64 y0) :
    Calls Try.prog 3 #[.int .i64 room, .slice A raw.length c, .slice B rs.length d, .int .i64 lev, .int .i64 x0, .int .i64 y0, .bool al] w fun e w' => e = .returned (.bool true) ∧ Below w.heap.size w w' := by
  obtain ⟨R, m, n, e, t, HL⟩ := square_ok room raw rs lev
  have hsq := fun W hR' hB' => square7_any HL A c B d W hI hR' hl hF hB' hBl hBc hBw hL
  have hpx := fun W => pick7_any x0 16 W hX.1 hX.2 (by decide) (by decide)
  have hpy := fun W => pick7_any y0 16 W hY.1 hY.2 (by decide) (by decide)
  have hqx := pickI_bd x0 16 (by decide)
  have hqy := pickI_bd y0 16 (by decide)
  generalize pickI x0 16 = qx at *
  generalize pickI y0 16 = qy at *
  have hwx : IntKind.i64.wrap (qx - 8) = qx - 8 := by rw [IntKind.wrap_i64]; omega
  have hwy : IntKind.i64.wrap (qy - 8) = qy - 8 := by rw [IntKind.wrap_i64]; omega
  obtain ⟨x, hx⟩ : ∃ x, x = qx - 8 := ⟨_, rfl⟩
  obtain ⟨y, hy⟩ : ∃ y, y = qy - 8 := ⟨_, rfl⟩
  obtain ⟨m1, p, T, HS⟩ := sets_ok HL (x, y) (by simp only; omega) al
  have hm6 : m.length ≤ 1000000 := by have := HL.few; omega
  have hS60 := HL.set60
  have hkx : I64 x ∧ I64 y := by unfold I64; omega
  replace hwx : IntKind.i64.wrap (qx - 8) = x := hwx.trans hx.symm
  replace hwy : IntKind.i64.wrap (qy - 8) = y := hwy.trans hy.symm
  have HK := Lib.hid hkx
  have HSS := Lib.hid HS
  have HR := Lib.hid hR
  have HB := Lib.hid hB
  have HSQ := Lib.hid hsq
  have hnl := HL.sq.is.lt
  have HLEN := Lib.hid (show m.length ≤ 1000000 ∧ (Cel.rawSet rs).length ≤ 60 ∧ 0 < m.length from ⟨hm6, hS60, by omega⟩)
  obtain ⟨S, hSS⟩ : ∃ S, S = Cel.rawSet rs := ⟨_, rfl⟩
  rw [← hSS] at HSS HLEN
  clear hsq hR hB HS HL hSS hI hF hBw hL hl hBl hX hY hqx hqy hx hy hm6 hS60 hkx hnl
  go_enter Try.func3, Try.ntmps3
  go_wp2_with fail
  refine (awake7_any w).mono ?_
  rintro r w1 ⟨rfl, hb1⟩
  have HB1 := Lib.hid hb1
  have hs1 := HSQ.out w1 ((HR.out.below hb1 (Nat.le_refl _)).more hb1.size) ((Cel.Rd.below HB.out hb1 (Nat.le_refl _)).more hb1.size)
  clear HR HB HSQ hb1
  go_wp2_with fail
  refine hs1.mono ?_
  rintro r w2 ⟨A2, c2, rfl, hcap2, N2, hb2⟩
  have hal := (Below.refl w2.heap.size w2).alloc (Nat.le_refl _) (.cells #[.slice A2 m.length c2, .int .i64 R] 27)
  have hb' := Qt.more (B := w1.heap.size) hb2 hb2.size hal
  have HS2 := Lib.hid (stB_new N2 hcap2 R)
  have HB2 := Lib.hid (Qt.more HB1.out HB1.out.size hb')
  clear hs1 hb2 hb' HB1 N2 hal
  go_wp2_with fail
  generalize (w2.alloc (.cells #[.slice A2 m.length c2, .int .i64 R] 27)) = v2 at *
  generalize w2.heap.size = b2 at *
  refine (hpx v2).mono ?_
  rintro r _ ⟨rfl, rfl⟩
  go_wp2_with fail
  refine (hpy v2).mono ?_
  rintro r _ ⟨rfl, rfl⟩
  have hal := (Below.refl v2.heap.size v2).alloc (Nat.le_refl _) (.cells #[.int .i64 x, .int .i64 y] 32)
  have HC2 := Lib.hid (show ClB (v2.alloc (.cells #[.int .i64 x, .int .i64 y] 32)) v2.heap.size (x, y) from clB_new (w := v2) (x, y))
  have HS3 := Lib.hid (HS2.out.below hal)
  have HB3 := Lib.hid (Qt.more HB2.out HB2.out.size hal)
  have s0 := HS3.out.s0
  have s1 := HS3.out.s1
  have k0 := HC2.out.c0
  have k1 := HC2.out.c1
  dsimp only at k0 k1
  clear hpx hpy HS2 HB2 hal
  go_wp2_with fail
  clear hwx hwy
  generalize (v2.alloc (.cells #[.int .i64 x, .int .i64 y] 32)) = v3 at *
  generalize v2.heap.size = cb at *
  have hc := get7_any A2 m c2 R n (x, y) v3 HS3.out.rd HLEN.out.1 hcap2 HK.out.1 HK.out.2
  rw [HSS.out.get1] at hc
  unfold storeV cellV at hc
  obtain ⟨bw, hbw⟩ : ∃ bw, bw = decide ((x, y) ∈ S) := ⟨_, rfl⟩
  rw [← hbw] at hc
  refine hc.mono ?_
  rintro r w4 ⟨rfl, hb4⟩
  have HS4 := Lib.hid (HS3.out.below hb4)
  have HC4 := Lib.hid (HC2.out.below hb4)
  have HB4 := Lib.hid (Qt.more HB3.out HB3.out.size hb4)
  have HBW := Lib.hid hbw
  clear s0 s1 k0 k1 hc hb4 HS3 HC2 HB3 hbw
  have s0 := HS4.out.s0
  have s1 := HS4.out.s1
  have k0 := HC4.out.c0
  have k1 := HC4.out.c1
  dsimp only at k0 k1
  go_wp2_with fail
  have hc := set7_any A2 m c2 R n (x, y) al w4 HS4.out.rd HLEN.out.1 hcap2 HK.out.1 HK.out.2
  rw [HSS.out.set1] at hc
  unfold storeV cellV at hc
  refine hc.mono ?_
  intro r w5 h
  obtain ⟨A5, c5, rfl, hcap5, N5, hb5⟩ := putR_box h
  have hal := (Below.refl w5.heap.size w5).alloc (Nat.le_refl _) (.cells #[.slice A5 m1.length c5, .int .i64 R] 27)
  have hb' := Qt.more (B := w4.heap.size) hb5 hb5.size hal
  have HA5 := Lib.hid (stB_new N5 hcap5 R)
  have HS5 := Lib.hid (HS4.out.below hb')
  have HC5 := Lib.hid (HC4.out.below hb')
  have HB5 := Lib.hid (Qt.more HB4.out HB4.out.size hb')
  clear s0 s1 k0 k1 hc h hb5 hb' hal N5 HS4 HC4 HB4
  have s0 := HS5.out.s0
  have s1 := HS5.out.s1
  have a0 := HA5.out.s0
  have a1 := HA5.out.s1
  have k0 := HC5.out.c0
  have k1 := HC5.out.c1
  dsimp only at k0 k1
  go_wp2_with fail
  generalize (w5.alloc (.cells #[.slice A5 m1.length c5, .int .i64 R] 27)) = v5 at *
  generalize w5.heap.size = b5 at *
  have hc := get7_any A5 m1 c5 R p (x, y) v5 HA5.out.rd HSS.out.few hcap5 HK.out.1 HK.out.2
  rw [HSS.out.get2] at hc
  unfold storeV cellV at hc
  refine hc.mono ?_
  rintro r w6 ⟨rfl, hb6⟩
  have HA6 := Lib.hid (HA5.out.below hb6)
  have HS6 := Lib.hid (HS5.out.below hb6)
  have HC6 := Lib.hid (HC5.out.below hb6)
  have HB6 := Lib.hid (Qt.more HB5.out HB5.out.size hb6)
  clear s0 s1 a0 a1 k0 k1 hc hb6 HS5 HA5 HC5 HB5
  have s0 := HS6.out.s0
  have s1 := HS6.out.s1
  have a0 := HA6.out.s0
  have a1 := HA6.out.s1
  have k0 := HC6.out.c0
  have k1 := HC6.out.c1
  dsimp only at k0 k1
  go_wp2_with fail
  have hc := set7_any A5 m1 c5 R p (x, y) bw w6 HA6.out.rd HSS.out.few hcap5 HK.out.1 HK.out.2
  rw [HBW.out, HSS.out.set2, ← HBW.out] at hc
  unfold storeV cellV at hc
  refine hc.mono ?_
  intro r w7 h
  obtain ⟨A7, c7, rfl, hcap7, N7, hb7⟩ := putR_box h
  have hal := (Below.refl w7.heap.size w7).alloc (Nat.le_refl _) (.cells #[.slice A7 m1.length c7, .int .i64 R] 27)
  have hb' := Qt.more (B := w6.heap.size) hb7 hb7.size hal
  have HE7 := Lib.hid (stB_new N7 hcap7 R)
  have HS7 := Lib.hid (HS6.out.below hb')
  have HA7 := Lib.hid (HA6.out.below hb')
  have HC7 := Lib.hid (HC6.out.below hb')
  have HB7 := Lib.hid (Qt.more HB6.out HB6.out.size hb')
  clear s0 s1 a0 a1 k0 k1 hc h hb7 hb' hal N7 HS6 HA6 HC6 HB6
  have s0 := HS7.out.s0
  have s1 := HS7.out.s1
  go_wp2_with fail
  generalize (w7.alloc (.cells #[.slice A7 m1.length c7, .int .i64 R] 27)) = v7 at *
  generalize w7.heap.size = b7 at *
  have hc := cells7_any A2 m c2 R n v7 HS7.out.rd HLEN.out.1 hcap2
  rw [HSS.out.cel1] at hc
  unfold storeV at hc
  refine hc.mono ?_
  intro r w8 h
  obtain ⟨A8, c8, rfl, hcap8, hC8, hb8⟩ := h
  simp only at hcap8 hC8
  have HX8 := Lib.hid hC8
  have HE8 := Lib.hid (HE7.out.below hb8)
  have HA8 := Lib.hid (HA7.out.below hb8)
  have HC8 := Lib.hid (HC7.out.below hb8)
  have HB8 := Lib.hid (Qt.more HB7.out HB7.out.size hb8)
  clear s0 s1 hc hb8 hC8 HS7 HE7 HA7 HC7 HB7
  have a0 := HA8.out.s0
  have a1 := HA8.out.s1
  go_wp2_with fail
  have hc := cells7_any A5 m1 c5 R p w8 HA8.out.rd HSS.out.few hcap5
  rw [HSS.out.cel2] at hc
  unfold storeV at hc
  refine hc.mono ?_
  intro r w9 h
  obtain ⟨A9, c9, rfl, hcap9, hC9, hb9⟩ := h
  simp only at hcap9 hC9
  have HY9 := Lib.hid hC9
  have HX9 := Lib.hid ((HX8.out.below hb9 (Nat.le_refl _)).more hb9.size)
  have HE9 := Lib.hid (HE8.out.below hb9)
  have HA9 := Lib.hid (HA8.out.below hb9)
  have HC9 := Lib.hid (HC8.out.below hb9)
  have HB9 := Lib.hid (Qt.more HB8.out HB8.out.size hb9)
  clear a0 a1 hc hb9 hC9 HX8 HE8 HA8 HC8 HB8
  have k0 := HC9.out.c0
  have k1 := HC9.out.c1
  dsimp only at k0 k1
  go_wp2_with fail
  have hc := (Cel.refWith_any A8 S c8 (x, y) al w9 HX9.out (by have := HLEN.out; omega) hcap8).mono fun e w' h => h.gives
  rw [HSS.out.wth] at hc
  refine hc.mono ?_
  intro r wa h
  obtain ⟨Aa, ca, rfl, hcapa, hCa, hba⟩ := h
  simp only at hcapa hCa
  have HZa := Lib.hid (show RdC wa wa.heap.size Aa T from hCa.out)
  have HYa := Lib.hid ((HY9.out.below hba (Nat.le_refl _)).more hba.size)
  have HXa := Lib.hid ((HX9.out.below hba (Nat.le_refl _)).more hba.size)
  have HEa := Lib.hid (HE9.out.below hba)
  have HAa := Lib.hid (HA9.out.below hba)
  have HCa := Lib.hid (HC9.out.below hba)
  have HBa := Lib.hid (Qt.more HB9.out HB9.out.size hba)
  clear k0 k1 hc hba hCa HY9 HX9 HE9 HA9 HC9 HB9
  have hsm := refSame6_any A7 m1 c7 R A5 m1 c5 R wa HEa.out.rd HAa.out.rd HSS.out.few HSS.out.few
  rw [decide_eq_true (⟨rfl, rfl⟩ : R = R ∧ m1 = m1)] at hsm
  unfold storeV at hsm
  have e0 := HEa.out.s0
  have e1 := HEa.out.s1
  have a0 := HAa.out.s0
  have a1 := HAa.out.s1
  go_wp2_with fail
  refine hsm.mono ?_
  rintro r wb ⟨rfl, hbb⟩
  have HZb := Lib.hid ((HZa.out.below hbb (Nat.le_refl _)).more hbb.size)
  have HYb := Lib.hid ((HYa.out.below hbb (Nat.le_refl _)).more hbb.size)
  have HXb := Lib.hid ((HXa.out.below hbb (Nat.le_refl _)).more hbb.size)
  have HCb := Lib.hid (HCa.out.below hbb)
  have HBb := Lib.hid (Qt.more HBa.out HBa.out.size hbb)
  have hsm2 := Cel.same_holds (c := c9) (c' := ca) HYb.out HZb.out (by have := HSS.out.tlen; omega)
  rw [decide_eq_true rfl] at hsm2
  clear e0 e1 a0 a1 hsm hbb HZa HYa HXa HEa HAa HCa HBa
  go_wp2_with fail
  refine hsm2.mono ?_
  rintro r wc ⟨rfl, hbc⟩
  have HXc := Lib.hid ((HXb.out.below hbc (Nat.le_refl _)).more hbc.size)
  have HCc := Lib.hid (HCb.out.below hbc)
  have HBc := Lib.hid (Qt.more HBb.out HBb.out.size hbc)
  have hhs := Cel.refHas_any A8 S c8 (x, y) wc HXc.out (by have := HLEN.out; omega) hcap8
  rw [HSS.out.has, ← HBW.out] at hhs
  have k0 := HCc.out.c0
  have k1 := HCc.out.c1
  dsimp only at k0 k1
  clear hsm2 hbc HZb HYb HXb HCb HBb
  have hiff := HSS.out.iff
  rw [← HBW.out] at hiff
  have hpn : (p : Int) = (n : Int) ↔ bw = al := by rw [← hiff]; omega
  clear hiff
  cases bw <;> cases al
  all_goals
    first
      | (replace hpn : (p : Int) = (n : Int) := hpn.2 rfl
         obtain rfl : p = n := by omega
         clear hpn)
      | (have hpn2 : ¬ (p : Int) = (n : Int) := fun q => absurd (hpn.1 q) (by decide)
         have hpn3 : ((p : Int) == (n : Int)) = false := beq_eq_false_iff_ne.2 hpn2
         clear hpn)
    go_wp2_with fail
    refine hhs.mono ?_
    rintro r wd ⟨rfl, hbd⟩
    have HBd := Lib.hid (Qt.more HBc.out HBc.out.size hbd)
    clear k0 k1 hhs hbd HXc HCc HBc
    go_wp2_with fail
    go_ret
    exact ⟨rfl, HBd.out⟩
end Go.Proofs.Ytikgnjcjbjafaaa
