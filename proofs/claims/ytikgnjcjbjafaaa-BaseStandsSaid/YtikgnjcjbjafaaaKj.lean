/-
  The law BaseStands.
-/
import Derived.Test.YtikgnjcjbjafaaaJv
import Derived.Test.YtikgnjcjbjafaaaKf
namespace Go.Proofs.Ytikgnjcjbjafaaa
set_option maxRecDepth 100000
set_option linter.unusedVariables false
set_option linter.unusedSimpArgs false
open Go.RowKit Go.Sort

set_option maxHeartbeats 16000000 in
theorem baseStands_law (room : Int) (A : Option Addr) (raw : List Raw5) (c : Nat) (B : Option Addr) (rs : List (Int × Int)) (d : Nat) (lev : Int) (w : World) (hI : I64 room) (hR : RdR w w.heap.size A raw) (hl : raw.length ≤ 9223372036854775807) (hF : ∀ j, j < raw.length → Fine5 (raw.getD j dead5))
    (hB : RdC w w.heap.size B rs) (hBl : rs.length ≤ 9223372036854775807) (hBc : rs.length ≤ d) (hBw : ∀ p ∈ rs, Cel.I64 p.1 ∧ Cel.I64 p.2) (hL : I64 lev) :
    Calls Try.prog 8 #[.int .i64 room, .slice A raw.length c, .slice B rs.length d, .int .i64 lev] w fun e w' => e = .returned (.bool true) ∧ Below w.heap.size w w' := by
  obtain ⟨R0, m0, n, e, t, HL⟩ := square_ok room raw rs lev
  have hsq := fun W hR' hB' => square7_any HL A c B d W hI hR' hl hF hB' hBl hBc hBw hL
  have hrl := HL.rlo
  have hrh := HL.rhi
  have hw100 : IntKind.i64.wrap (R0 + 100) = R0 + 100 := by rw [IntKind.wrap_i64]; omega
  obtain ⟨R, hRR⟩ : ∃ R, R = R0 + 100 := ⟨_, rfl⟩
  replace hw100 : IntKind.i64.wrap (R0 + 100) = R := hw100.trans hRR.symm
  obtain ⟨a, b, m, k, f, p, hk⟩ := stands_known HL hRR
  have HK := Lib.hid hk
  have hnl : n < m0.length := hk.sq0.is.lt
  have hnz : (n : Int) < (m0.length : Int) := by omega
  have hmz : (m : Int) < (a.length : Int) := by have := hk.ltm; omega
  have hmd : decide (a.length ≤ m) = false := decide_eq_false (by have := hk.ltm; omega)
  have HR := Lib.hid hR
  have HB := Lib.hid hB
  have HSQ := Lib.hid hsq
  generalize Cel.rawSet rs = S at *
  clear hsq hR hB HL hI hF hBw hL hl hBl hrl hrh hRR hk
  go_enter Try.func8, Try.ntmps8
  go_wp2_with fail
  refine (awake8_any w).mono ?_
  rintro r w1 ⟨rfl, hb1⟩
  have HB1 := Lib.hid hb1
  have hs1 := HSQ.out w1 ((HR.out.below hb1 (Nat.le_refl _)).more hb1.size) ((Cel.Rd.below HB.out hb1 (Nat.le_refl _)).more hb1.size)
  clear HR HB HSQ hb1
  go_wp2_with fail
  refine hs1.mono ?_
  rintro r w2 ⟨A2, c2, rfl, hcap2, N2, hb2⟩
  have hal := (Below.refl w2.heap.size w2).alloc (Nat.le_refl _) (.cells #[.slice A2 m0.length c2, .int .i64 R] 27)
  have hb' := Qt.more (B := w1.heap.size) hb2 hb2.size hal
  have HS2 := Lib.hid (stB_new N2 hcap2 R)
  have HB2 := Lib.hid (Qt.more HB1.out HB1.out.size hb')
  have s0 := HS2.out.s0
  have s1 := HS2.out.s1
  clear hs1 hb2 hb' HB1 N2 hal
  go_wp2_with fail
  clear hw100 s0 s1
  generalize (w2.alloc (.cells #[.slice A2 m0.length c2, .int .i64 R] 27)) = v2 at *
  generalize w2.heap.size = b2 at *
  have hc := refOf7_any m0 HK.out.sq0.right A2 c2 R (k + 1) n v2 (by have := HK.out.hi; omega) HK.out.sq0.is HS2.out.rd (by have := HK.out.flat; omega)
  unfold storeV at hc
  refine hc.mono ?_
  rintro r w3 ⟨A3, c3, rfl, hc3, hR3, hb3⟩
  have HF3 := Lib.hid hR3
  have HS3 := Lib.hid (HS2.out.below hb3)
  have HB3 := Lib.hid (Qt.more HB2.out HB2.out.size hb3)
  obtain ⟨qs, os, hA2, hqs, _⟩ := HS2.out.nd (Nat.lt_of_le_of_lt (Nat.zero_le _) hnl)
  subst hA2
  have hFl := HK.out.flat
  have hFb := about_bd HK.out.sq0
  have hFc := crop_about HK.out.sq0
  generalize about7 m0 (k + 1) n = F at *
  have HFB := Lib.hid hFb
  have HFC := Lib.hid hFc
  clear hc hb3 HS2 HB2 hR3 hqs hFb hFc
  have s0 := HS3.out.s0
  have s1 := HS3.out.s1
  have x0 := (HS3.out.node hnl).1
  rw [HK.out.levn] at x0
  have hadd : (k : Int) + 2 - 2 = (k : Int) := by omega
  have hwk : IntKind.i64.wrap ((k : Int)) = (k : Int) := by rw [IntKind.wrap_i64]; have := HK.out.hi; omega
  obtain ⟨hp1, hp2⟩ := pow_bd7 (e := k) (by have := HK.out.hi; omega)
  have hk60 : (k : Int) ≤ 60 := by have := HK.out.hi; omega
  go_wp2_with fail
  have hc := centre8_any (some ⟨qs, os, none⟩) m0 c2 R n w3 HS3.out.rd HK.out.few0 hcap2
  rw [HK.out.cen] at hc
  unfold storeV at hc
  clear s0 s1 x0
  refine hc.mono ?_
  intro r w4 h
  obtain ⟨A4, c4, rfl, hcap4, N4, hb4⟩ := putR_box h
  have hal := (Below.refl w4.heap.size w4).alloc (Nat.le_refl _) (.cells #[.slice A4 a.length c4, .int .i64 R] 27)
  have hb' := Qt.more (B := w3.heap.size) hb4 hb4.size hal
  have HC4 := Lib.hid (stB_new N4 hcap4 R)
  have HS4 := Lib.hid (HS3.out.below hb')
  have HF4 := Lib.hid ((Cel.Rd.below HF3.out hb' (Nat.le_refl _)).more hb'.size)
  have HB4 := Lib.hid (Qt.more HB3.out HB3.out.size hb')
  clear h hc hb4 hb' N4 hal HS3 HF3 HB3
  have s0 := HC4.out.s0
  have s1 := HC4.out.s1
  go_wp2_with fail
  clear s0 s1
  generalize (w4.alloc (.cells #[.slice A4 a.length c4, .int .i64 R] 27)) = v4 at *
  generalize w4.heap.size = b4 at *
  have hc := nine8_any A4 a c4 R n v4 HC4.out.rd HK.out.few1 hcap4
  rw [HK.out.nin] at hc
  unfold storeV at hc
  refine hc.mono ?_
  rintro r w5 ⟨A5, c5, rfl, hcap5, N5, hb5⟩
  simp only at hcap5 N5
  have hal := (Below.refl w5.heap.size w5).alloc (Nat.le_refl _) (.cells #[.slice A5 b.length c5, .int .i64 R] 27)
  have hal2 := hal.alloc hal.size (.cells #[.int .i64 (f 0), .int .i64 (f 1), .int .i64 (f 2), .int .i64 (f 3), .int .i64 (f 4), .int .i64 (f 5), .int .i64 (f 6), .int .i64 (f 7), .int .i64 (f 8)] 61)
  have hb' := Qt.more (B := v4.heap.size) hb5 hb5.size hal2
  have HD5 := Lib.hid ((stB_new N5 hcap5 R).below ((Below.refl _ _).alloc (Nat.le_refl _) (.cells #[.int .i64 (f 0), .int .i64 (f 1), .int .i64 (f 2), .int .i64 (f 3), .int .i64 (f 4), .int .i64 (f 5), .int .i64 (f 6), .int .i64 (f 7), .int .i64 (f 8)] 61)))
  have hsz : (w5.alloc (.cells #[.slice A5 b.length c5, .int .i64 R] 27)).heap.size = w5.heap.size + 1 := by simp
  have HN5 := Lib.hid (show N9 ((w5.alloc (.cells #[.slice A5 b.length c5, .int .i64 R] 27)).alloc (.cells #[.int .i64 (f 0), .int .i64 (f 1), .int .i64 (f 2), .int .i64 (f 3), .int .i64 (f 4), .int .i64 (f 5), .int .i64 (f 6), .int .i64 (f 7), .int .i64 (f 8)] 61)) (w5.heap.size + 1) f from heap_new hsz)
  have HS5 := Lib.hid (HS4.out.below hb')
  have HC5 := Lib.hid (HC4.out.below hb')
  have HF5 := Lib.hid ((Cel.Rd.below HF4.out hb' (Nat.le_refl _)).more hb'.size)
  have HB5 := Lib.hid (Qt.more HB4.out HB4.out.size hb')
  clear hc hb5 hb' N5 hal hal2 hsz HS4 HC4 HF4 HB4
  go_wp2_with fail
  generalize ((w5.alloc (.cells #[.slice A5 b.length c5, .int .i64 R] 27)).alloc (.cells #[.int .i64 (f 0), .int .i64 (f 1), .int .i64 (f 2), .int .i64 (f 3), .int .i64 (f 4), .int .i64 (f 5), .int .i64 (f 6), .int .i64 (f 7), .int .i64 (f 8)] 61)) = v5 at *
  generalize w5.heap.size = b5 at *
  obtain ⟨qa, oa, hA4, hqa, _⟩ := HC5.out.nd (Nat.lt_of_le_of_lt (Nat.zero_le _) HK.out.ltm)
  subst hA4
  have s0 := Qt.cell_in HS5.out.s0
  have x0 := (HS5.out.node hnl).1
  rw [HK.out.levn] at x0
  have x0 := Qt.cell_in x0
  have c0 := Qt.cell_in HC5.out.s0
  have y0 := (HC5.out.node HK.out.ltm).1
  rw [HK.out.levm] at y0
  have y0 := Qt.cell_in y0
  have n4 := HN5.out.c (p := 4) (by decide)
  rw [HK.out.mid] at n4
  have n4 := Qt.cell_in n4
  have d0 := Qt.cell_in HD5.out.s0
  have d1 := Qt.cell_in HD5.out.s1
  have hsub : (k : Int) + 2 - 1 = (k : Int) + 1 := by omega
  have hwk1 : IntKind.i64.wrap ((k : Int) + 1) = (k : Int) + 1 := by rw [IntKind.wrap_i64]; have := HK.out.hi; omega
  have e1 : decide ((k : Int) + 1 = (k : Int) + 1) = true := decide_eq_true rfl
  have e2 : decide ((m : Int) = (m : Int)) = true := decide_eq_true rfl
  refine Qt.below_tail 37 (by kernel_rfl) (by kernel_rfl) ?_
  simp only [List.take_succ_cons, List.take_zero, List.drop_succ_cons, List.drop_zero]
  iterate 37 (go_big_quiet_step (fail))
  refine wpQuiet_nil ?_
  intro w6 hb6
  clear s0 x0 c0 y0 n4 d0 d1
  have HS6 := Lib.hid (HS5.out.below hb6)
  have HD6 := Lib.hid (HD5.out.below hb6)
  have HN6 := Lib.hid (HN5.out.below hb6)
  have HF6 := Lib.hid ((Cel.Rd.below HF5.out hb6 (Nat.le_refl _)).more hb6.size)
  have HB6 := Lib.hid (Qt.more HB5.out HB5.out.size hb6)
  have hc := refRight6_any A5 b c5 R w6 HD6.out.rd HK.out.few2 (lev_bd (HK.out.part 0 (by decide)).right)
  rw [right_iff.2 (HK.out.part 0 (by decide)).right] at hc
  unfold storeV at hc
  clear HS5 HD5 HN5 HF5 HB5 HC5 hb6
  go_wp2_with fail
  refine hc.mono ?_
  rintro r w7 ⟨rfl, hb7⟩
  have HS7 := Lib.hid (HS6.out.below hb7)
  have HD7 := Lib.hid (HD6.out.below hb7)
  have HN7 := Lib.hid (HN6.out.below hb7)
  have HF7 := Lib.hid ((Cel.Rd.below HF6.out hb7 (Nat.le_refl _)).more hb7.size)
  have HB7 := Lib.hid (Qt.more HB6.out HB6.out.size hb7)
  clear HS6 HD6 HN6 HF6 HB6 hb7 hc
  go_wp2_with fail
  go_loopw [20] (fun u wr => ∃ i : Nat, i ≤ 9 ∧ u = .int .i64 i ∧ Hid (Below w7.heap.size w7 wr)) (fun u _ => 9 - (intOf u).toNat)
  case atStart => exact ⟨0, Nat.zero_le _, rfl, Below.refl _ _⟩
  case round =>
    obtain ⟨i, hi, rfl, HH⟩ := hrel
    by_cases hlt : i < 9
    · have hltz : (i : Int) < 9 := by omega
      have hpl := HK.out.ltp i hlt
      obtain ⟨qb, ob, hA5, hqb, _⟩ := HD7.out.nd (Nat.lt_of_le_of_lt (Nat.zero_le _) hpl)
      subst hA5
      have hfi := HK.out.fp i hlt
      have hlv := HK.out.levp i hlt
      have hpt := HK.out.part i hlt
      generalize p i = q at *
      have s0 := Qt.cell_in (HS7.out.below HH.out).s0
      have x0 := ((HS7.out.below HH.out).node hnl).1
      rw [HK.out.levn] at x0
      have x0 := Qt.cell_in x0
      have d0 := Qt.cell_in (HD7.out.below HH.out).s0
      have y0 := ((HD7.out.below HH.out).node hpl).1
      rw [hlv] at y0
      have y0 := Qt.cell_in y0
      have n0 := (HN7.out.below HH.out).c (p := i) hlt
      rw [hfi] at n0
      have n0 := Qt.cell_in n0
      have hqz : (q : Int) < (b.length : Int) := by omega
      have hqd : decide (b.length ≤ q) = false := decide_eq_false (by omega)
      have hqn : decide ((q : Int) < 0) = false := decide_eq_false (by omega)
      have HW := Lib.hid HH.out
      have HPT := Lib.hid hpt
      clear HH hpt hqb
      go_wp2_with fail
      refine Qt.below_all (by kernel_rfl) (by kernel_rfl) ?_
      iterate 31 (go_big_quiet_step (fail))
      refine wpQuiet_nil ?_
      intro w8 hb8
      clear s0 x0 d0 y0 n0
      have HW8 := Lib.hid (Qt.more HW.out HW.out.size hb8)
      have HF8 := Lib.hid ((Cel.Rd.below HF7.out HW8.out (Nat.le_refl _)).more HW8.out.size)
      obtain ⟨dx, hdx⟩ : ∃ u : Int, u = ((i : Int) % 3 - 1) * 2 ^ k := ⟨_, rfl⟩
      obtain ⟨dy, hdy⟩ : ∃ u : Int, u = ((i : Int) / 3 - 1) * 2 ^ k := ⟨_, rfl⟩
      have hpx : (((i % 3 : Nat) : Int) - 1) * 2 ^ k = dx := by rw [hdx, show ((i % 3 : Nat) : Int) = (i : Int) % 3 from by omega]
      have hpy : (((i / 3 : Nat) : Int) - 1) * 2 ^ k = dy := by rw [hdy, show ((i / 3 : Nat) : Int) = (i : Int) / 3 from by omega]
      rw [hpx, hpy] at HPT
      have hbx : -(2 ^ k) ≤ dx ∧ dx ≤ 2 ^ k ∧ -(2 ^ k) ≤ dy ∧ dy ≤ 2 ^ k := by
        rw [← hpx, ← hpy]
        clear hpx hpy hdx hdy
        generalize (2 : Int) ^ k = P at *
        rcases (by omega : i = 0 ∨ i = 1 ∨ i = 2 ∨ i = 3 ∨ i = 4 ∨ i = 5 ∨ i = 6 ∨ i = 7 ∨ i = 8) with rfl | rfl | rfl | rfl | rfl | rfl | rfl | rfl | rfl <;> simp <;> omega
      have hwd : IntKind.i64.wrap dx = dx ∧ IntKind.i64.wrap dy = dy := by
        rw [IntKind.wrap_i64, IntKind.wrap_i64]
        clear hpx hpy hdx hdy
        generalize (2 : Int) ^ k = P at *
        omega
      have hwx : IntKind.i64.wrap (((i : Int) % 3 - 1) * 2 ^ k) = dx := by rw [← hdx]; exact hwd.1
      have hwy : IntKind.i64.wrap (((i : Int) / 3 - 1) * 2 ^ k) = dy := by rw [← hdy]; exact hwd.2
      have hcr := crop_set A3 F c3 dx dy k w8 HF8.out (by omega) hc3 (by have := HK.out.hi; omega) HFB.out (by clear hpx hpy hdx hdy hwx hwy; generalize (2 : Int) ^ k = P at *; omega)
      rw [HFC.out dx dy k] at hcr
      have hVl : (cropL S dx dy k).length ≤ 2000 := ((Cel.rightB_iff _).1 HPT.out.set).1
      have HV0 := Lib.hid (ofR_about HPT.out)
      have hG := HPT.out.len
      generalize cropL S dx dy k = V at *
      clear hb8 HW hdx hdy hpx hpy hwd hbx
      go_wp2_with fail
      refine hcr.mono ?_
      rintro r x9 ⟨A9, c9, rfl, hc9, hR9, hb9⟩
      have HW9 := Lib.hid (Qt.more HW8.out HW8.out.size hb9)
      have HV9 := Lib.hid hR9
      have HD9 := Lib.hid (HD7.out.below HW9.out)
      have n0 := (HN7.out.below HW9.out).c (p := i) hlt
      rw [hfi] at n0
      have hn0 := fun W (hW : Below x9.heap.size x9 W) => Qt.keep hW n0
      have hO := fun W (hW : Below x9.heap.size x9 W) => refOf7_any b HPT.out.right (some ⟨qb, ob, none⟩) c5 R k q W (by have := HK.out.hi; omega) HPT.out.is ((HD9.out.below hW).rd) (by omega)
      unfold storeV at hO
      generalize about7 b k q = G at *
      have hG9 : G.length ≤ 900000 := by omega
      clear hcr hR9 hb9 HW8 HF8 hwx hwy n0 hG
      go_wp2_with fail
      refine region_calm_to (fun W => Below x9.heap.size x9 W) (fun (a0 a9 : Act) (w9 : World) => ∃ (A10 : Option Addr) (c10 : Nat) (A11 : Option Addr) (c11 : Nat), a9 = (((((((((((a0.put (some 151) (.agg #[.slice (some ⟨qb, ob, none⟩) b.length c5, .int .i64 R])).put (some 152) (.int .i64 (i : Int))).put (some 153) (.pointer (some ⟨b5 + 1, i, none⟩))).put (some 154) (.int .i64 (q : Int))).put (some 155) (.slice A10 G.length c10)).put (some 156) (.tuple #[.slice A11 V.length c11, .int .i64 0])).put (some 150) (.tuple #[.slice A11 V.length c11, .int .i64 0])).put (some 157) (.slice A11 V.length c11)).put (some 158) (.int .i64 0)).put (some 22) (.slice A11 V.length c11)).put (some 23) (.int .i64 0)) ∧ (V.length ≤ c11 ∧ RdC w9 w9.heap.size A11 V ∧ Below x9.heap.size x9 w9)) (.calm 0 (.calm 1 (.calm 2 (.calm 3 (.only 4 (.only 5 (.calm 6 (.calm 7 (.calm 8 (.calm 9 (.calm 10 .done))))))))))) (by kernel_rfl) (by kernel_rfl) (by kernel_rfl) (by rfl) (below_drew x9) ?_ ?_
      · skip
        refine ⟨_, _, (.agg #[.slice (some ⟨qb, ob, none⟩) b.length c5, .int .i64 R]), rfl, rfl, ⟨rfl, fun W hW => by have s0 := (HD9.out.below hW).s0; have s1 := (HD9.out.below hW).s1; simp only [execOp]; go_simp; done⟩, ?_⟩
        simp only [Act.put, List.getElem_toArray, List.getElem_cons_zero, List.getElem_cons_succ, List.setIfInBounds_toArray, List.set_cons_succ, List.set_cons_zero]
        refine ⟨_, _, (.int .i64 (i : Int)), rfl, rfl, ⟨rfl, fun W hW => by first | exact ⟨rfl, rfl⟩ | (simp only [Act.eval, execOp]; go_simp; try exact ⟨rfl, rfl⟩)⟩, ?_⟩
        simp only [Act.put, List.getElem_toArray, List.getElem_cons_zero, List.getElem_cons_succ, List.setIfInBounds_toArray, List.set_cons_succ, List.set_cons_zero]
        refine ⟨_, _, (.pointer (some ⟨b5 + 1, i, none⟩)), rfl, rfl, ⟨rfl, fun W hW => by first | exact ⟨rfl, rfl⟩ | (simp only [Act.eval, execOp]; go_simp; try exact ⟨rfl, rfl⟩)⟩, ?_⟩
        simp only [Act.put, List.getElem_toArray, List.getElem_cons_zero, List.getElem_cons_succ, List.setIfInBounds_toArray, List.set_cons_succ, List.set_cons_zero]
        refine ⟨_, _, (.int .i64 (q : Int)), rfl, rfl, ⟨rfl, fun W hW => by have s0 := hn0 W hW; simp only [execOp]; go_simp; done⟩, ?_⟩
        simp only [Act.put, List.getElem_toArray, List.getElem_cons_zero, List.getElem_cons_succ, List.setIfInBounds_toArray, List.set_cons_succ, List.set_cons_zero]
        refine ⟨_, rfl, ?_⟩
        go_wp2_with fail
        refine (hO _ (below_drew x9)).mono ?_
        rintro r w10 ⟨A10, c10, rfl, hc10, hR10, hb10⟩
        have hC1 := Qt.more (below_drew x9) (Nat.le_refl _) hb10
        have hC := hC1
        go_wp2_with fail
        refine ⟨rfl, hC, ?_⟩
        refine ⟨_, rfl, ?_⟩
        go_wp2_with fail
        have hcc := Cel.refOf_any A10 G c10 w10 hR10 hG9 hc10
        rw [HV0.out] at hcc
        refine hcc.mono ?_
        rintro r w11 ⟨v11, rfl, ⟨A11, c11, rfl, hc11, hR11⟩, hb11⟩
        dsimp only at hc11 hR11
        have hC := Qt.more hC1 hC1.size hb11
        have hC2 := hC
        go_wp2_with fail
        refine ⟨rfl, hC, ?_⟩
        refine ⟨_, _, (.tuple #[.slice A11 V.length c11, .int .i64 0]), rfl, rfl, ⟨rfl, fun W hW => by first | exact ⟨rfl, rfl⟩ | (simp only [Act.eval, execOp]; go_simp; try exact ⟨rfl, rfl⟩)⟩, ?_⟩
        simp only [Act.put, List.getElem_toArray, List.getElem_cons_zero, List.getElem_cons_succ, List.setIfInBounds_toArray, List.set_cons_succ, List.set_cons_zero]
        refine ⟨_, _, (.slice A11 V.length c11), rfl, rfl, ⟨rfl, fun W hW => by first | exact ⟨rfl, rfl⟩ | (simp only [Act.eval, execOp]; go_simp; try exact ⟨rfl, rfl⟩)⟩, ?_⟩
        simp only [Act.put, List.getElem_toArray, List.getElem_cons_zero, List.getElem_cons_succ, List.setIfInBounds_toArray, List.set_cons_succ, List.set_cons_zero]
        refine ⟨_, _, (.int .i64 0), rfl, rfl, ⟨rfl, fun W hW => by first | exact ⟨rfl, rfl⟩ | (simp only [Act.eval, execOp]; go_simp; try exact ⟨rfl, rfl⟩)⟩, ?_⟩
        simp only [Act.put, List.getElem_toArray, List.getElem_cons_zero, List.getElem_cons_succ, List.setIfInBounds_toArray, List.set_cons_succ, List.set_cons_zero]
        refine ⟨_, _, (.slice A11 V.length c11), rfl, rfl, ⟨rfl, fun W hW => by first | exact ⟨rfl, rfl⟩ | (simp only [Act.eval, execOp]; go_simp; try exact ⟨rfl, rfl⟩)⟩, ?_⟩
        simp only [Act.put, List.getElem_toArray, List.getElem_cons_zero, List.getElem_cons_succ, List.setIfInBounds_toArray, List.set_cons_succ, List.set_cons_zero]
        refine ⟨_, _, (.int .i64 0), rfl, rfl, ⟨rfl, fun W hW => by first | exact ⟨rfl, rfl⟩ | (simp only [Act.eval, execOp]; go_simp; try exact ⟨rfl, rfl⟩)⟩, ?_⟩
        simp only [Act.put, List.getElem_toArray, List.getElem_cons_zero, List.getElem_cons_succ, List.setIfInBounds_toArray, List.set_cons_succ, List.set_cons_zero]
        refine ⟨A10, c10, A11, c11, ?_, hc11, hR11, hC2⟩
        first | rfl | simp only [Act.put, List.getElem_toArray, List.getElem_cons_zero, List.getElem_cons_succ, List.setIfInBounds_toArray, List.set_cons_succ, List.set_cons_zero]
      rintro a9 w12 ⟨A10, c10, A11, c11, rfl, hc11, hR11, hb12⟩
      simp only [Act.put, List.setIfInBounds_toArray, List.set_cons_succ, List.set_cons_zero]
      have HW12 := Lib.hid (Qt.more HW9.out HW9.out.size hb12)
      have hsm := Cel.same_holds (c := c11) (c' := c9) hR11 ((Cel.Rd.below HV9.out hb12 (Nat.le_refl _)).more hb12.size) (by omega)
      rw [decide_eq_true rfl] at hsm
      clear hO hn0 hR11 hb12 HV9 HW9 HD9
      go_wp2_with fail
      refine hsm.mono ?_
      rintro r w13 ⟨rfl, hb13⟩
      have HW13 := Lib.hid (Qt.more HW12.out HW12.out.size hb13)
      clear hsm hb13 HW12
      go_wp2_with fail
      go_roundw
      case measure => simp [intOf]; omega
      case rel => exact ⟨i + 1, by omega, by go_num, HW13.out⟩
    · obtain rfl : i = 9 := by omega
      have hltz : ¬ ((9 : Nat) : Int) < 9 := by decide
      have HBF := Lib.hid (Qt.more HB7.out HB7.out.size HH.out)
      clear HH
      go_wp2_with fail
      go_ret
      exact ⟨rfl, HBF.out⟩
end Go.Proofs.Ytikgnjcjbjafaaa
