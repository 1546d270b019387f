/-
  The law BaseTwice.
-/
import Derived.Test.YtikgnjcjbjafaaaJq
namespace Go.Proofs.Ytikgnjcjbjafaaa
set_option maxRecDepth 100000
set_option linter.unusedVariables false
set_option linter.unusedSimpArgs false
open Go.RowKit Go.Sort

theorem getD_mem8 {l : List (Int × Int)} {i : Nat} (h : i < l.length) : l.getD i (0, 0) ∈ l := by
  rw [List.getD_eq_getElem?_getD, List.getElem?_eq_getElem h]
  exact List.getElem_mem h
theorem eql9 (f : Nat → Int) (w : World) : (binOp .eql 61 (.agg #[.int .i64 (f 0), .int .i64 (f 1), .int .i64 (f 2), .int .i64 (f 3), .int .i64 (f 4), .int .i64 (f 5), .int .i64 (f 6), .int .i64 (f 7), .int .i64 (f 8)]) (.agg #[.int .i64 (f 0), .int .i64 (f 1), .int .i64 (f 2), .int .i64 (f 3), .int .i64 (f 4), .int .i64 (f 5), .int .i64 (f 6), .int .i64 (f 7), .int .i64 (f 8)])).run Try.prog w = .ok (.bool true) w := by
  have u3 := Try.underlying3
  have a3 := Try.isAgg3
  have z3 := Try.sizeOf3
  rw [run_eql_struct, show (10000 : Nat) = 9998 + 1 + 1 from rfl, Op.equalIn]
  simp only [Sem.run_bind, run_underlying Try.underlying61, Result.andThen_ok]
  simp only [Std.Legacy.Range.forIn_eq_forIn_range', Std.Legacy.Range.size, Nat.sub_zero, Nat.add_sub_cancel, Nat.div_one, List.range'_succ, List.range'_zero, List.forIn_cons, List.forIn_nil]
  go_simp
set_option maxHeartbeats 16000000 in
theorem baseTwice_law (room : Int) (A : Option Addr) (raw : List Raw5) (c : Nat) (B : Option Addr) (rs : List (Int × Int)) (d : Nat) (lev : Int) (Cs : Option Addr) (sm : List (Int × Int)) (cs : Nat) (w : World) (hI : I64 room) (hR : RdR w w.heap.size A raw) (hl : raw.length ≤ 9223372036854775807) (hF : ∀ j, j < raw.length → Fine5 (raw.getD j dead5))
    (hB : RdC w w.heap.size B rs) (hBl : rs.length ≤ 9223372036854775807) (hBc : rs.length ≤ d) (hBw : ∀ p ∈ rs, Cel.I64 p.1 ∧ Cel.I64 p.2) (hL : I64 lev)
    (hC : RdC w w.heap.size Cs sm) (hCl : sm.length ≤ 9223372036854775807) (hCc : sm.length ≤ cs) (hCw : ∀ p ∈ sm, Cel.I64 p.1 ∧ Cel.I64 p.2) :
    Calls Try.prog 11 #[.int .i64 room, .slice A raw.length c, .slice B rs.length d, .int .i64 lev, .slice Cs sm.length cs] w fun e w' => e = .returned (.bool true) ∧ Below w.heap.size w w' := by
  obtain ⟨R0, m0, n, e, t, HL⟩ := square_ok room raw rs lev
  have hsq := fun W hR' hB' => square7_any HL A c B d W hI hR' hl hF hB' hBl hBc hBw hL
  have hrl := HL.rlo
  have hrh := HL.rhi
  have hw100 : IntKind.i64.wrap (R0 + 200) = R0 + 200 := by rw [IntKind.wrap_i64]; omega
  obtain ⟨R, hRR⟩ : ∃ R, R = R0 + 200 := ⟨_, rfl⟩
  have HL := Lib.hid HL
  have hm6 : m0.length ≤ 1000000 := by have := HL.out.few; omega
  have HR := Lib.hid hR
  have HB := Lib.hid hB
  have HC := Lib.hid hC
  have HCW := Lib.hid hCw
  have HSQ := Lib.hid hsq
  have HRR := Lib.hid hRR
  replace hw100 : IntKind.i64.wrap (R0 + 200) = R := hw100.trans hRR.symm
  clear hsq hR hB hC hCw hI hF hBw hL hl hBl hrl hrh hRR
  go_enter Try.func11, Try.ntmps11
  go_wp2_with fail
  refine (awake8_any w).mono ?_
  rintro r w1 ⟨rfl, hb1⟩
  have HB1 := Lib.hid hb1
  have hs1 := HSQ.out w1 ((HR.out.below hb1 (Nat.le_refl _)).more hb1.size) ((Cel.Rd.below HB.out hb1 (Nat.le_refl _)).more hb1.size)
  clear HR HB HSQ hb1
  go_wp2_with fail
  refine hs1.mono ?_
  rintro r w2 ⟨A2, c2, rfl, hcap2, N2, hb2⟩
  have hal := (Below.refl w2.heap.size w2).alloc (Nat.le_refl _) (.cells #[.slice A2 m0.length c2, .int .i64 R] 27)
  have hb' := Qt.more (B := w1.heap.size) hb2 hb2.size hal
  have HS2 := Lib.hid (stB_new N2 hcap2 R)
  have HB2 := Lib.hid (Qt.more HB1.out HB1.out.size hb')
  have HCS := Lib.hid ((Cel.Rd.below HC.out HB2.out (Nat.le_refl _)).more HB2.out.size)
  have s0 := HS2.out.s0
  have s1 := HS2.out.s1
  clear hs1 hb2 hb' HB1 N2 hal HC
  go_wp2_with fail
  clear hw100 s0 s1
  generalize (w2.alloc (.cells #[.slice A2 m0.length c2, .int .i64 R] 27)) = v2 at *
  generalize w2.heap.size = b2 at *
  go_loopw [14, 15] (fun v u wr => ∃ (i : Nat) (A1 : Option Addr) (c1 : Nat), i ≤ 16 ∧ i ≤ sm.length ∧ u = .int .i64 i ∧ v = .slice A1 (smTo sm i).length c1 ∧ (smTo sm i).length ≤ c1 ∧ Hid (RdC wr wr.heap.size A1 (smTo sm i) ∧ Below v2.heap.size v2 wr)) (fun _ u _ => 16 - (intOf u).toNat)
  case atStart => exact ⟨0, none, 0, Nat.zero_le _, Nat.zero_le _, rfl, rfl, Nat.le_refl _, Cel.Rd.nil _ _ _, Below.refl _ _⟩
  case round =>
    obtain ⟨i, A1, c1, hi, his, rfl, rfl, hc1, HH⟩ := hrel
    have hsl := smTo_len sm i
    by_cases hgo : i < sm.length ∧ i < 16
    · obtain ⟨hlt, h16⟩ := hgo
      have hltz : (i : Int) < (sm.length : Int) := by omega
      have h16z : (i : Int) < 16 := by omega
      have hst := smTo_succ hlt
      obtain ⟨S, hSS⟩ : ∃ S, S = smTo sm i := ⟨_, rfl⟩
      rw [← hSS] at hst hsl hc1 HH ⊢
      obtain ⟨hx1, hx2⟩ := HCW.out _ (getD_mem8 hlt)
      obtain ⟨q3, o3, hA3, hq3, hcell⟩ := Cel.Rd.at_ (Cel.Rd.below HCS.out HH.out.2 (Nat.le_refl _)) (by omega)
      obtain ⟨k0, k1⟩ := hcell i hlt
      have hp1 := fun W => pick8_any (sm.getD i (0, 0)).1 4 W hx1.1 hx1.2 (by decide) (by decide)
      have hp2 := fun W => pick8_any (sm.getD i (0, 0)).2 4 W hx2.1 hx2.2 (by decide) (by decide)
      have hq1 := pickI_bd (sm.getD i (0, 0)).1 4 (by decide)
      have hq2 := pickI_bd (sm.getD i (0, 0)).2 4 (by decide)
      unfold smC at hst
      generalize sm.getD i (0, 0) = xy at *
      obtain ⟨x, y⟩ := xy
      simp only at hp1 hp2 hq1 hq2 hst k0 k1
      generalize pickI x 4 = qx at *
      generalize pickI y 4 = qy at *
      subst hA3
      have hwx : IntKind.i64.wrap (qx - 2) = qx - 2 := by rw [IntKind.wrap_i64]; omega
      have hwy : IntKind.i64.wrap (qy - 2) = qy - 2 := by rw [IntKind.wrap_i64]; omega
      have hRd := (Cel.Rd.below HH.out.1 (below_drew wr) (Nat.le_refl _)).more (below_drew wr).size
      have hk0 := fun W (hW : Below wr.heap.size wr W) => Qt.keep hW k0
      have hk1 := fun W (hW : Below wr.heap.size wr W) => Qt.keep hW k1
      have HW := Lib.hid HH.out.2
      have HST := Lib.hid hst
      clear hcell k0 k1 hq3 hx1 hx2 hst HH hSS
      go_wp2_with fail
      refine region_calm_to (fun W => Below wr.heap.size wr W) (fun (a0 a9 : Act) (w9 : World) => ∃ (A9 : Option Addr) (c9 : Nat), a9 = ((((((((((((((((((a0.put (some 60) (.slice A1 S.length c1)).put (some 61) (.slice (some ⟨q3, o3, none⟩) sm.length cs)).put (some 62) (.int .i64 (i : Int))).put (some 63) (.pointer (some ⟨q3, o3 + i * 2, none⟩))).put (some 64) (.pointer (some ⟨q3, o3 + i * 2, none⟩))).put (some 65) (.int .i64 x)).put (some 68) (.slice (some ⟨q3, o3, none⟩) sm.length cs)).put (some 69) (.int .i64 (i : Int))).put (some 70) (.pointer (some ⟨q3, o3 + i * 2, none⟩))).put (some 71) (.pointer (some ⟨q3, o3 + i * 2 + 1, none⟩))).put (some 72) (.int .i64 y)).put (some 66) (.int .i64 qx)).put (some 67) (.int .i64 (qx - 2))).put (some 73) (.int .i64 qy)).put (some 74) (.int .i64 (qy - 2))).put (some 75) (.agg #[.int .i64 (qx - 2), .int .i64 (qy - 2)])).put (some 76) (.slice A9 (Cel.putL (qx - 2, qy - 2) S).length c9)).put (some 14) (.slice A9 (Cel.putL (qx - 2, qy - 2) S).length c9)) ∧ ((Cel.putL (qx - 2, qy - 2) S).length ≤ c9 ∧ RdC w9 w9.heap.size A9 (Cel.putL (qx - 2, qy - 2) S) ∧ Below wr.heap.size wr w9)) (.calm 0 (.calm 1 (.calm 2 (.calm 3 (.calm 4 (.calm 5 (.calm 8 (.calm 9 (.calm 10 (.calm 11 (.calm 12 (.only 6 (.calm 7 (.only 13 (.calm 14 (.calm 15 (.only 16 (.calm 17 .done)))))))))))))))))) (by kernel_rfl) (by kernel_rfl) (by kernel_rfl) (by rfl) (below_drew wr) ?_ ?_
      · skip
        refine ⟨_, _, (.slice A1 S.length c1), rfl, rfl, ⟨rfl, fun W hW => by first | exact ⟨rfl, rfl⟩ | (simp only [Act.eval, execOp]; go_simp; try exact ⟨rfl, rfl⟩)⟩, ?_⟩
        simp only [Act.put, List.getElem_toArray, List.getElem_cons_zero, List.getElem_cons_succ, List.setIfInBounds_toArray, List.set_cons_succ, List.set_cons_zero]
        refine ⟨_, _, (.slice (some ⟨q3, o3, none⟩) sm.length cs), rfl, rfl, ⟨rfl, fun W hW => by first | exact ⟨rfl, rfl⟩ | (simp only [Act.eval, execOp]; go_simp; try exact ⟨rfl, rfl⟩)⟩, ?_⟩
        simp only [Act.put, List.getElem_toArray, List.getElem_cons_zero, List.getElem_cons_succ, List.setIfInBounds_toArray, List.set_cons_succ, List.set_cons_zero]
        refine ⟨_, _, (.int .i64 (i : Int)), rfl, rfl, ⟨rfl, fun W hW => by first | exact ⟨rfl, rfl⟩ | (simp only [Act.eval, execOp]; go_simp; try exact ⟨rfl, rfl⟩)⟩, ?_⟩
        simp only [Act.put, List.getElem_toArray, List.getElem_cons_zero, List.getElem_cons_succ, List.setIfInBounds_toArray, List.set_cons_succ, List.set_cons_zero]
        refine ⟨_, _, (.pointer (some ⟨q3, o3 + i * 2, none⟩)), rfl, rfl, ⟨rfl, fun W hW => by first | exact ⟨rfl, rfl⟩ | (simp only [Act.eval, execOp]; go_simp; try exact ⟨rfl, rfl⟩)⟩, ?_⟩
        simp only [Act.put, List.getElem_toArray, List.getElem_cons_zero, List.getElem_cons_succ, List.setIfInBounds_toArray, List.set_cons_succ, List.set_cons_zero]
        refine ⟨_, _, (.pointer (some ⟨q3, o3 + i * 2, none⟩)), rfl, rfl, ⟨rfl, fun W hW => by first | exact ⟨rfl, rfl⟩ | (simp only [Act.eval, execOp]; go_simp; try exact ⟨rfl, rfl⟩)⟩, ?_⟩
        simp only [Act.put, List.getElem_toArray, List.getElem_cons_zero, List.getElem_cons_succ, List.setIfInBounds_toArray, List.set_cons_succ, List.set_cons_zero]
        refine ⟨_, _, (.int .i64 x), rfl, rfl, ⟨rfl, fun W hW => by have s0 := hk0 W hW; simp only [execOp]; go_simp; done⟩, ?_⟩
        simp only [Act.put, List.getElem_toArray, List.getElem_cons_zero, List.getElem_cons_succ, List.setIfInBounds_toArray, List.set_cons_succ, List.set_cons_zero]
        refine ⟨_, _, (.slice (some ⟨q3, o3, none⟩) sm.length cs), rfl, rfl, ⟨rfl, fun W hW => by first | exact ⟨rfl, rfl⟩ | (simp only [Act.eval, execOp]; go_simp; try exact ⟨rfl, rfl⟩)⟩, ?_⟩
        simp only [Act.put, List.getElem_toArray, List.getElem_cons_zero, List.getElem_cons_succ, List.setIfInBounds_toArray, List.set_cons_succ, List.set_cons_zero]
        refine ⟨_, _, (.int .i64 (i : Int)), rfl, rfl, ⟨rfl, fun W hW => by first | exact ⟨rfl, rfl⟩ | (simp only [Act.eval, execOp]; go_simp; try exact ⟨rfl, rfl⟩)⟩, ?_⟩
        simp only [Act.put, List.getElem_toArray, List.getElem_cons_zero, List.getElem_cons_succ, List.setIfInBounds_toArray, List.set_cons_succ, List.set_cons_zero]
        refine ⟨_, _, (.pointer (some ⟨q3, o3 + i * 2, none⟩)), rfl, rfl, ⟨rfl, fun W hW => by first | exact ⟨rfl, rfl⟩ | (simp only [Act.eval, execOp]; go_simp; try exact ⟨rfl, rfl⟩)⟩, ?_⟩
        simp only [Act.put, List.getElem_toArray, List.getElem_cons_zero, List.getElem_cons_succ, List.setIfInBounds_toArray, List.set_cons_succ, List.set_cons_zero]
        refine ⟨_, _, (.pointer (some ⟨q3, o3 + i * 2 + 1, none⟩)), rfl, rfl, ⟨rfl, fun W hW => by first | exact ⟨rfl, rfl⟩ | (simp only [Act.eval, execOp]; go_simp; try exact ⟨rfl, rfl⟩)⟩, ?_⟩
        simp only [Act.put, List.getElem_toArray, List.getElem_cons_zero, List.getElem_cons_succ, List.setIfInBounds_toArray, List.set_cons_succ, List.set_cons_zero]
        refine ⟨_, _, (.int .i64 y), rfl, rfl, ⟨rfl, fun W hW => by have s1 := hk1 W hW; simp only [execOp]; go_simp; done⟩, ?_⟩
        simp only [Act.put, List.getElem_toArray, List.getElem_cons_zero, List.getElem_cons_succ, List.setIfInBounds_toArray, List.set_cons_succ, List.set_cons_zero]
        refine ⟨_, rfl, ?_⟩
        go_wp2_with fail
        refine (hp1 _).mono ?_
        rintro r _ ⟨rfl, rfl⟩
        have hC := below_drew wr
        go_wp2_with fail
        refine ⟨rfl, hC, ?_⟩
        refine ⟨_, _, (.int .i64 (qx - 2)), rfl, rfl, ⟨rfl, fun W hW => by first | exact ⟨rfl, rfl⟩ | (simp only [Act.eval, execOp]; go_simp; try exact ⟨rfl, rfl⟩)⟩, ?_⟩
        simp only [Act.put, List.getElem_toArray, List.getElem_cons_zero, List.getElem_cons_succ, List.setIfInBounds_toArray, List.set_cons_succ, List.set_cons_zero]
        refine ⟨_, rfl, ?_⟩
        go_wp2_with fail
        refine (hp2 _).mono ?_
        rintro r _ ⟨rfl, rfl⟩
        have hC := below_drew wr
        go_wp2_with fail
        refine ⟨rfl, hC, ?_⟩
        refine ⟨_, _, (.int .i64 (qy - 2)), rfl, rfl, ⟨rfl, fun W hW => by first | exact ⟨rfl, rfl⟩ | (simp only [Act.eval, execOp]; go_simp; try exact ⟨rfl, rfl⟩)⟩, ?_⟩
        simp only [Act.put, List.getElem_toArray, List.getElem_cons_zero, List.getElem_cons_succ, List.setIfInBounds_toArray, List.set_cons_succ, List.set_cons_zero]
        refine ⟨_, _, (.agg #[.int .i64 (qx - 2), .int .i64 (qy - 2)]), rfl, rfl, ⟨rfl, fun W hW => by first | exact ⟨rfl, rfl⟩ | (simp only [Act.eval, execOp]; go_simp; try exact ⟨rfl, rfl⟩)⟩, ?_⟩
        simp only [Act.put, List.getElem_toArray, List.getElem_cons_zero, List.getElem_cons_succ, List.setIfInBounds_toArray, List.set_cons_succ, List.set_cons_zero]
        refine ⟨_, rfl, ?_⟩
        go_wp2_with fail
        refine (Cel.put_any A1 S c1 (qx - 2, qy - 2) _ hRd (by omega) hc1).mono ?_
        rintro r w8 ⟨v9, rfl, hown, hb8⟩
        obtain ⟨A9, c9, rfl, hc9, hR9⟩ := Cel.Own.rd hown
        have hC := Qt.more (below_drew wr) (Nat.le_refl _) hb8
        have hC8 := hC
        go_wp2_with fail
        refine ⟨rfl, hC, ?_⟩
        refine ⟨_, _, (.slice A9 (Cel.putL (qx - 2, qy - 2) S).length c9), rfl, rfl, ⟨rfl, fun W hW => by first | exact ⟨rfl, rfl⟩ | (simp only [Act.eval, execOp]; go_simp; try exact ⟨rfl, rfl⟩)⟩, ?_⟩
        simp only [Act.put, List.getElem_toArray, List.getElem_cons_zero, List.getElem_cons_succ, List.setIfInBounds_toArray, List.set_cons_succ, List.set_cons_zero]
        refine ⟨A9, c9, ?_, hc9, hR9, hC8⟩
        first | rfl | simp only [Act.put, List.getElem_toArray, List.getElem_cons_zero, List.getElem_cons_succ, List.setIfInBounds_toArray, List.set_cons_succ, List.set_cons_zero]
      rintro a9 w9 ⟨A9, c9, rfl, hc9, hR9, hb9⟩
      simp only [Act.put, List.setIfInBounds_toArray, List.set_cons_succ, List.set_cons_zero]
      have HN := Lib.hid (Qt.more HW.out HW.out.size hb9)
      have HR9 := Lib.hid hR9
      clear hp1 hp2 hk0 hk1 hwx hwy hRd hb9 hR9 HW
      go_wp2_with fail
      go_roundw
      case measure => simp [intOf]; omega
      case rel => exact ⟨i + 1, A9, c9, by omega, by omega, by go_num, by rw [HST.out], by rw [HST.out]; exact hc9, by rw [HST.out]; exact HR9.out, HN.out⟩
    · have hexit : ((i : Int) < (sm.length : Int) → ¬ (i : Int) < 16) := by omega
      have hS1 := smTo_right (rs := sm) hi
      have hS2 := smTo_in (rs := sm) (i := i)
      have hS3 : (smTo sm i).length ≤ 16 := by omega
      generalize smTo sm i = S at *
      clear hsl
      by_cases hz : (i : Int) < (sm.length : Int)
      · have h16z : ¬ (i : Int) < 16 := hexit hz
        clear hexit
        have HX := Lib.hid HH.out.1
        have HS := Lib.hid (HS2.out.below HH.out.2)
        have HB3 := Lib.hid (Qt.more HB2.out HB2.out.size HH.out.2)
        obtain ⟨m1, a, cc, two, k, q, f, f2, hk⟩ := twice_known HL.out HRR.out hS1 hS2 hS3
        have HK := Lib.hid hk
        have hlb := lev_bd HL.out.sq.right
        have HLB := Lib.hid hlb
        have s0 := HS.out.s0
        have s1 := HS.out.s1
        have hc := refMake7_any A2 m0 c2 R A1 S c1 2 wr HS.out.rd hm6 hcap2 HLB.out HX.out (by omega) hc1
        rw [HK.out.make] at hc
        unfold storeV at hc
        clear hk hlb HL HRR HH HB2 HCS HCW hS1 hS2 hS3
        go_wp2_with fail
        refine hc.mono ?_
        intro r w3 h
        obtain ⟨A3, c3, rfl, hcap3, N3, hb3⟩ := putR_box h
        have hal := (Below.refl w3.heap.size w3).alloc (Nat.le_refl _) (.cells #[.slice A3 m1.length c3, .int .i64 R] 27)
        have hb' := Qt.more (B := wr.heap.size) hb3 hb3.size hal
        have HT3 := Lib.hid (stB_new N3 hcap3 R)
        have HBa := Lib.hid (Qt.more HB3.out HB3.out.size hb')
        clear h hc hb3 hb' N3 hal s0 s1 HS HX HB3
        have s0 := HT3.out.s0
        have s1 := HT3.out.s1
        go_wp2_with fail
        generalize (w3.alloc (.cells #[.slice A3 m1.length c3, .int .i64 R] 27)) = v3 at *
        generalize w3.heap.size = b3 at *
        have hc := nine8_any A3 m1 c3 R n v3 HT3.out.rd HK.out.few1 hcap3
        rw [HK.out.nine] at hc
        unfold storeV at hc
        clear s0 s1
        refine hc.mono ?_
        rintro r w4 ⟨A4, c4, rfl, hcap4, N4, hb4⟩
        simp only at hcap4 N4
        have hal := (Below.refl w4.heap.size w4).alloc (Nat.le_refl _) (.cells #[.slice A4 a.length c4, .int .i64 R] 27)
        have hal2 := hal.alloc hal.size (.cells #[.int .i64 (f 0), .int .i64 (f 1), .int .i64 (f 2), .int .i64 (f 3), .int .i64 (f 4), .int .i64 (f 5), .int .i64 (f 6), .int .i64 (f 7), .int .i64 (f 8)] 61)
        have hb' := Qt.more (B := v3.heap.size) hb4 hb4.size hal2
        have HA4 := Lib.hid ((stB_new N4 hcap4 R).below ((Below.refl _ _).alloc (Nat.le_refl _) (.cells #[.int .i64 (f 0), .int .i64 (f 1), .int .i64 (f 2), .int .i64 (f 3), .int .i64 (f 4), .int .i64 (f 5), .int .i64 (f 6), .int .i64 (f 7), .int .i64 (f 8)] 61)))
        have hsz : (w4.alloc (.cells #[.slice A4 a.length c4, .int .i64 R] 27)).heap.size = w4.heap.size + 1 := by simp
        have HF4 := Lib.hid (show N9 ((w4.alloc (.cells #[.slice A4 a.length c4, .int .i64 R] 27)).alloc (.cells #[.int .i64 (f 0), .int .i64 (f 1), .int .i64 (f 2), .int .i64 (f 3), .int .i64 (f 4), .int .i64 (f 5), .int .i64 (f 6), .int .i64 (f 7), .int .i64 (f 8)] 61)) (w4.heap.size + 1) f from heap_new hsz)
        have HBb := Lib.hid (Qt.more HBa.out HBa.out.size hb')
        clear hc hb4 hb' N4 hal hal2 hsz HT3 HBa
        have s0 := HA4.out.s0
        have s1 := HA4.out.s1
        go_wp2_with fail
        generalize ((w4.alloc (.cells #[.slice A4 a.length c4, .int .i64 R] 27)).alloc (.cells #[.int .i64 (f 0), .int .i64 (f 1), .int .i64 (f 2), .int .i64 (f 3), .int .i64 (f 4), .int .i64 (f 5), .int .i64 (f 6), .int .i64 (f 7), .int .i64 (f 8)] 61)) = v4 at *
        generalize w4.heap.size = b4 at *
        have hc := centre8_any A4 a c4 R n v4 HA4.out.rd HK.out.few2 hcap4
        rw [HK.out.mid] at hc
        unfold storeV at hc
        clear s0 s1
        refine hc.mono ?_
        intro r w5 h
        obtain ⟨A5, c5, rfl, hcap5, N5, hb5⟩ := putR_box h
        have hal := (Below.refl w5.heap.size w5).alloc (Nat.le_refl _) (.cells #[.slice A5 a.length c5, .int .i64 R] 27)
        have hb' := Qt.more (B := v4.heap.size) hb5 hb5.size hal
        have HD5 := Lib.hid (stB_new N5 hcap5 R)
        have HA5 := Lib.hid (HA4.out.below hb')
        have HF5 := Lib.hid (HF4.out.below hb')
        have HBc := Lib.hid (Qt.more HBb.out HBb.out.size hb')
        clear h hc hb5 hb' N5 hal HA4 HF4 HBb
        have s0 := HD5.out.s0
        have s1 := HD5.out.s1
        go_wp2_with fail
        generalize (w5.alloc (.cells #[.slice A5 a.length c5, .int .i64 R] 27)) = v5 at *
        generalize w5.heap.size = b5 at *
        have hc := step8_any A5 a c5 R two v5 HD5.out.rd HK.out.few2 hcap5
        rw [HK.out.step] at hc
        unfold storeV at hc
        clear s0 s1
        refine hc.mono ?_
        intro r w6 h
        obtain ⟨A6, c6, rfl, hcap6, N6, hb6⟩ := putR_box h
        have hal := (Below.refl w6.heap.size w6).alloc (Nat.le_refl _) (.cells #[.slice A6 cc.length c6, .int .i64 R] 27)
        have hb' := Qt.more (B := v5.heap.size) hb6 hb6.size hal
        have HE6 := Lib.hid (stB_new N6 hcap6 R)
        have HA6 := Lib.hid (HA5.out.below hb')
        have HF6 := Lib.hid (HF5.out.below hb')
        have HD6 := Lib.hid (HD5.out.below hb')
        have HBd := Lib.hid (Qt.more HBc.out HBc.out.size hb')
        clear h hc hb6 hb' N6 hal HA5 HF5 HD5 HBc
        have s0 := HE6.out.s0
        have s1 := HE6.out.s1
        go_wp2_with fail
        generalize (w6.alloc (.cells #[.slice A6 cc.length c6, .int .i64 R] 27)) = v6 at *
        generalize w6.heap.size = b6 at *
        have hc := nine8_any A6 cc c6 R n v6 HE6.out.rd HK.out.few3 hcap6
        rw [HK.out.nine2] at hc
        unfold storeV Nin8 at hc
        simp only [HK.out.same] at hc
        clear s0 s1
        refine hc.mono ?_
        rintro r w7 ⟨A7, c7, rfl, hcap7, N7, hb7⟩
        have hal := (Below.refl w7.heap.size w7).alloc (Nat.le_refl _) (.cells #[.slice A7 cc.length c7, .int .i64 R] 27)
        have hal2 := hal.alloc hal.size (.cells #[.int .i64 (f 0), .int .i64 (f 1), .int .i64 (f 2), .int .i64 (f 3), .int .i64 (f 4), .int .i64 (f 5), .int .i64 (f 6), .int .i64 (f 7), .int .i64 (f 8)] 61)
        have hb' := Qt.more (B := v6.heap.size) hb7 hb7.size hal2
        have HG7 := Lib.hid ((stB_new N7 hcap7 R).below ((Below.refl _ _).alloc (Nat.le_refl _) (.cells #[.int .i64 (f 0), .int .i64 (f 1), .int .i64 (f 2), .int .i64 (f 3), .int .i64 (f 4), .int .i64 (f 5), .int .i64 (f 6), .int .i64 (f 7), .int .i64 (f 8)] 61)))
        have hsz : (w7.alloc (.cells #[.slice A7 cc.length c7, .int .i64 R] 27)).heap.size = w7.heap.size + 1 := by simp
        have HI7 := Lib.hid (show N9 ((w7.alloc (.cells #[.slice A7 cc.length c7, .int .i64 R] 27)).alloc (.cells #[.int .i64 (f 0), .int .i64 (f 1), .int .i64 (f 2), .int .i64 (f 3), .int .i64 (f 4), .int .i64 (f 5), .int .i64 (f 6), .int .i64 (f 7), .int .i64 (f 8)] 61)) (w7.heap.size + 1) f from heap_new hsz)
        have HA7 := Lib.hid (HA6.out.below hb')
        have HF7 := Lib.hid (HF6.out.below hb')
        have HD7 := Lib.hid (HD6.out.below hb')
        have HE7 := Lib.hid (HE6.out.below hb')
        have HBe := Lib.hid (Qt.more HBd.out HBd.out.size hb')
        clear hc hb7 hb' N7 hal hal2 hsz HA6 HF6 HD6 HE6 HBd
        have s0 := HG7.out.s0
        have s1 := HG7.out.s1
        go_wp2_with fail
        generalize ((w7.alloc (.cells #[.slice A7 cc.length c7, .int .i64 R] 27)).alloc (.cells #[.int .i64 (f 0), .int .i64 (f 1), .int .i64 (f 2), .int .i64 (f 3), .int .i64 (f 4), .int .i64 (f 5), .int .i64 (f 6), .int .i64 (f 7), .int .i64 (f 8)] 61)) = v7 at *
        generalize w7.heap.size = b7 at *
        have hc := centre8_any A7 cc c7 R n v7 HG7.out.rd HK.out.few3 hcap7
        rw [HK.out.mid2] at hc
        unfold storeV at hc
        clear s0 s1
        refine hc.mono ?_
        intro r w8 h
        obtain ⟨A8, c8, rfl, hcap8, N8, hb8⟩ := putR_box h
        have hal := (Below.refl w8.heap.size w8).alloc (Nat.le_refl _) (.cells #[.slice A8 cc.length c8, .int .i64 R] 27)
        have hb' := Qt.more (B := v7.heap.size) hb8 hb8.size hal
        have HJ8 := Lib.hid (stB_new N8 hcap8 R)
        have HA8 := Lib.hid (HA7.out.below hb')
        have HF8 := Lib.hid (HF7.out.below hb')
        have HD8 := Lib.hid (HD7.out.below hb')
        have HE8 := Lib.hid (HE7.out.below hb')
        have HI8 := Lib.hid (HI7.out.below hb')
        have HBf := Lib.hid (Qt.more HBe.out HBe.out.size hb')
        clear h hc hb8 hb' N8 hal HA7 HF7 HD7 HE7 HI7 HBe HG7
        have s0 := HJ8.out.s0
        have s1 := HJ8.out.s1
        go_wp2_with fail
        generalize (w8.alloc (.cells #[.slice A8 cc.length c8, .int .i64 R] 27)) = v8 at *
        generalize w8.heap.size = b8 at *
        have hc := step8_any A8 cc c8 R two v8 HJ8.out.rd HK.out.few3 hcap8
        rw [HK.out.step2] at hc
        unfold storeV at hc
        clear s0 s1
        refine hc.mono ?_
        intro r w9 h
        obtain ⟨A9, c9, rfl, hcap9, N9', hb9⟩ := putR_box h
        have hal := (Below.refl w9.heap.size w9).alloc (Nat.le_refl _) (.cells #[.slice A9 cc.length c9, .int .i64 R] 27)
        have hb' := Qt.more (B := v8.heap.size) hb9 hb9.size hal
        have HV9 := Lib.hid (stB_new N9' hcap9 R)
        have HA9 := Lib.hid (HA8.out.below hb')
        have HF9 := Lib.hid (HF8.out.below hb')
        have HD9 := Lib.hid (HD8.out.below hb')
        have HE9 := Lib.hid (HE8.out.below hb')
        have HI9 := Lib.hid (HI8.out.below hb')
        have HBg := Lib.hid (Qt.more HBf.out HBf.out.size hb')
        clear h hc hb9 hb' N9' hal HA8 HF8 HD8 HE8 HI8 HBf HJ8
        have e0 := HE9.out.s0
        have e1 := HE9.out.s1
        have g0 := HV9.out.s0
        have g1 := HV9.out.s1
        have x0 := HF9.out.c (p := 0) (by decide)
        have y0 := HI9.out.c (p := 0) (by decide)
        have x1 := HF9.out.c (p := 1) (by decide)
        have y1 := HI9.out.c (p := 1) (by decide)
        have x2 := HF9.out.c (p := 2) (by decide)
        have y2 := HI9.out.c (p := 2) (by decide)
        have x3 := HF9.out.c (p := 3) (by decide)
        have y3 := HI9.out.c (p := 3) (by decide)
        have x4 := HF9.out.c (p := 4) (by decide)
        have y4 := HI9.out.c (p := 4) (by decide)
        have x5 := HF9.out.c (p := 5) (by decide)
        have y5 := HI9.out.c (p := 5) (by decide)
        have x6 := HF9.out.c (p := 6) (by decide)
        have y6 := HI9.out.c (p := 6) (by decide)
        have x7 := HF9.out.c (p := 7) (by decide)
        have y7 := HI9.out.c (p := 7) (by decide)
        have x8 := HF9.out.c (p := 8) (by decide)
        have y8 := HI9.out.c (p := 8) (by decide)
        have heq := fun W => eql9 f W
        have hsm := refSame6_any A6 cc c6 R A9 cc c9 R _ HE9.out.rd HV9.out.rd HK.out.few3 HK.out.few3
        rw [decide_eq_true (⟨rfl, rfl⟩ : R = R ∧ cc = cc)] at hsm
        unfold storeV at hsm
        go_wp2_with fail
        clear heq e0 e1 g0 g1 x0 y0 x1 y1 x2 y2 x3 y3 x4 y4 x5 y5 x6 y6 x7 y7 x8 y8
        refine hsm.mono ?_
        rintro r w10 ⟨rfl, hb10⟩
        have HAx := Lib.hid (HA9.out.below hb10)
        have HDx := Lib.hid (HD9.out.below hb10)
        have HBx := Lib.hid (Qt.more HBg.out HBg.out.size hb10)
        have a0 := HAx.out.s0
        have a1 := HAx.out.s1
        have d0 := HDx.out.s0
        have d1 := HDx.out.s1
        have hsm := refSame6_any A4 a c4 R A5 a c5 R w10 HAx.out.rd HDx.out.rd HK.out.few2 HK.out.few2
        rw [decide_eq_true (⟨rfl, rfl⟩ : R = R ∧ a = a)] at hsm
        unfold storeV at hsm
        clear HA9 HD9 HE9 HF9 HI9 HV9 HBg hb10
        go_wp2_with fail
        refine hsm.mono ?_
        rintro r w11 ⟨rfl, hb11⟩
        have HBy := Lib.hid (Qt.more HBx.out HBx.out.size hb11)
        clear hsm hb11 a0 a1 d0 d1 HAx HDx HBx
        go_wp2_with fail
        go_ret
        exact ⟨rfl, HBy.out⟩
      · clear hexit
        have HX := Lib.hid HH.out.1
        have HS := Lib.hid (HS2.out.below HH.out.2)
        have HB3 := Lib.hid (Qt.more HB2.out HB2.out.size HH.out.2)
        obtain ⟨m1, a, cc, two, k, q, f, f2, hk⟩ := twice_known HL.out HRR.out hS1 hS2 hS3
        have HK := Lib.hid hk
        have hlb := lev_bd HL.out.sq.right
        have HLB := Lib.hid hlb
        have s0 := HS.out.s0
        have s1 := HS.out.s1
        have hc := refMake7_any A2 m0 c2 R A1 S c1 2 wr HS.out.rd hm6 hcap2 HLB.out HX.out (by omega) hc1
        rw [HK.out.make] at hc
        unfold storeV at hc
        clear hk hlb HL HRR HH HB2 HCS HCW hS1 hS2 hS3
        go_wp2_with fail
        refine hc.mono ?_
        intro r w3 h
        obtain ⟨A3, c3, rfl, hcap3, N3, hb3⟩ := putR_box h
        have hal := (Below.refl w3.heap.size w3).alloc (Nat.le_refl _) (.cells #[.slice A3 m1.length c3, .int .i64 R] 27)
        have hb' := Qt.more (B := wr.heap.size) hb3 hb3.size hal
        have HT3 := Lib.hid (stB_new N3 hcap3 R)
        have HBa := Lib.hid (Qt.more HB3.out HB3.out.size hb')
        clear h hc hb3 hb' N3 hal s0 s1 HS HX HB3
        have s0 := HT3.out.s0
        have s1 := HT3.out.s1
        go_wp2_with fail
        generalize (w3.alloc (.cells #[.slice A3 m1.length c3, .int .i64 R] 27)) = v3 at *
        generalize w3.heap.size = b3 at *
        have hc := nine8_any A3 m1 c3 R n v3 HT3.out.rd HK.out.few1 hcap3
        rw [HK.out.nine] at hc
        unfold storeV at hc
        clear s0 s1
        refine hc.mono ?_
        rintro r w4 ⟨A4, c4, rfl, hcap4, N4, hb4⟩
        simp only at hcap4 N4
        have hal := (Below.refl w4.heap.size w4).alloc (Nat.le_refl _) (.cells #[.slice A4 a.length c4, .int .i64 R] 27)
        have hal2 := hal.alloc hal.size (.cells #[.int .i64 (f 0), .int .i64 (f 1), .int .i64 (f 2), .int .i64 (f 3), .int .i64 (f 4), .int .i64 (f 5), .int .i64 (f 6), .int .i64 (f 7), .int .i64 (f 8)] 61)
        have hb' := Qt.more (B := v3.heap.size) hb4 hb4.size hal2
        have HA4 := Lib.hid ((stB_new N4 hcap4 R).below ((Below.refl _ _).alloc (Nat.le_refl _) (.cells #[.int .i64 (f 0), .int .i64 (f 1), .int .i64 (f 2), .int .i64 (f 3), .int .i64 (f 4), .int .i64 (f 5), .int .i64 (f 6), .int .i64 (f 7), .int .i64 (f 8)] 61)))
        have hsz : (w4.alloc (.cells #[.slice A4 a.length c4, .int .i64 R] 27)).heap.size = w4.heap.size + 1 := by simp
        have HF4 := Lib.hid (show N9 ((w4.alloc (.cells #[.slice A4 a.length c4, .int .i64 R] 27)).alloc (.cells #[.int .i64 (f 0), .int .i64 (f 1), .int .i64 (f 2), .int .i64 (f 3), .int .i64 (f 4), .int .i64 (f 5), .int .i64 (f 6), .int .i64 (f 7), .int .i64 (f 8)] 61)) (w4.heap.size + 1) f from heap_new hsz)
        have HBb := Lib.hid (Qt.more HBa.out HBa.out.size hb')
        clear hc hb4 hb' N4 hal hal2 hsz HT3 HBa
        have s0 := HA4.out.s0
        have s1 := HA4.out.s1
        go_wp2_with fail
        generalize ((w4.alloc (.cells #[.slice A4 a.length c4, .int .i64 R] 27)).alloc (.cells #[.int .i64 (f 0), .int .i64 (f 1), .int .i64 (f 2), .int .i64 (f 3), .int .i64 (f 4), .int .i64 (f 5), .int .i64 (f 6), .int .i64 (f 7), .int .i64 (f 8)] 61)) = v4 at *
        generalize w4.heap.size = b4 at *
        have hc := centre8_any A4 a c4 R n v4 HA4.out.rd HK.out.few2 hcap4
        rw [HK.out.mid] at hc
        unfold storeV at hc
        clear s0 s1
        refine hc.mono ?_
        intro r w5 h
        obtain ⟨A5, c5, rfl, hcap5, N5, hb5⟩ := putR_box h
        have hal := (Below.refl w5.heap.size w5).alloc (Nat.le_refl _) (.cells #[.slice A5 a.length c5, .int .i64 R] 27)
        have hb' := Qt.more (B := v4.heap.size) hb5 hb5.size hal
        have HD5 := Lib.hid (stB_new N5 hcap5 R)
        have HA5 := Lib.hid (HA4.out.below hb')
        have HF5 := Lib.hid (HF4.out.below hb')
        have HBc := Lib.hid (Qt.more HBb.out HBb.out.size hb')
        clear h hc hb5 hb' N5 hal HA4 HF4 HBb
        have s0 := HD5.out.s0
        have s1 := HD5.out.s1
        go_wp2_with fail
        generalize (w5.alloc (.cells #[.slice A5 a.length c5, .int .i64 R] 27)) = v5 at *
        generalize w5.heap.size = b5 at *
        have hc := step8_any A5 a c5 R two v5 HD5.out.rd HK.out.few2 hcap5
        rw [HK.out.step] at hc
        unfold storeV at hc
        clear s0 s1
        refine hc.mono ?_
        intro r w6 h
        obtain ⟨A6, c6, rfl, hcap6, N6, hb6⟩ := putR_box h
        have hal := (Below.refl w6.heap.size w6).alloc (Nat.le_refl _) (.cells #[.slice A6 cc.length c6, .int .i64 R] 27)
        have hb' := Qt.more (B := v5.heap.size) hb6 hb6.size hal
        have HE6 := Lib.hid (stB_new N6 hcap6 R)
        have HA6 := Lib.hid (HA5.out.below hb')
        have HF6 := Lib.hid (HF5.out.below hb')
        have HD6 := Lib.hid (HD5.out.below hb')
        have HBd := Lib.hid (Qt.more HBc.out HBc.out.size hb')
        clear h hc hb6 hb' N6 hal HA5 HF5 HD5 HBc
        have s0 := HE6.out.s0
        have s1 := HE6.out.s1
        go_wp2_with fail
        generalize (w6.alloc (.cells #[.slice A6 cc.length c6, .int .i64 R] 27)) = v6 at *
        generalize w6.heap.size = b6 at *
        have hc := nine8_any A6 cc c6 R n v6 HE6.out.rd HK.out.few3 hcap6
        rw [HK.out.nine2] at hc
        unfold storeV Nin8 at hc
        simp only [HK.out.same] at hc
        clear s0 s1
        refine hc.mono ?_
        rintro r w7 ⟨A7, c7, rfl, hcap7, N7, hb7⟩
        have hal := (Below.refl w7.heap.size w7).alloc (Nat.le_refl _) (.cells #[.slice A7 cc.length c7, .int .i64 R] 27)
        have hal2 := hal.alloc hal.size (.cells #[.int .i64 (f 0), .int .i64 (f 1), .int .i64 (f 2), .int .i64 (f 3), .int .i64 (f 4), .int .i64 (f 5), .int .i64 (f 6), .int .i64 (f 7), .int .i64 (f 8)] 61)
        have hb' := Qt.more (B := v6.heap.size) hb7 hb7.size hal2
        have HG7 := Lib.hid ((stB_new N7 hcap7 R).below ((Below.refl _ _).alloc (Nat.le_refl _) (.cells #[.int .i64 (f 0), .int .i64 (f 1), .int .i64 (f 2), .int .i64 (f 3), .int .i64 (f 4), .int .i64 (f 5), .int .i64 (f 6), .int .i64 (f 7), .int .i64 (f 8)] 61)))
        have hsz : (w7.alloc (.cells #[.slice A7 cc.length c7, .int .i64 R] 27)).heap.size = w7.heap.size + 1 := by simp
        have HI7 := Lib.hid (show N9 ((w7.alloc (.cells #[.slice A7 cc.length c7, .int .i64 R] 27)).alloc (.cells #[.int .i64 (f 0), .int .i64 (f 1), .int .i64 (f 2), .int .i64 (f 3), .int .i64 (f 4), .int .i64 (f 5), .int .i64 (f 6), .int .i64 (f 7), .int .i64 (f 8)] 61)) (w7.heap.size + 1) f from heap_new hsz)
        have HA7 := Lib.hid (HA6.out.below hb')
        have HF7 := Lib.hid (HF6.out.below hb')
        have HD7 := Lib.hid (HD6.out.below hb')
        have HE7 := Lib.hid (HE6.out.below hb')
        have HBe := Lib.hid (Qt.more HBd.out HBd.out.size hb')
        clear hc hb7 hb' N7 hal hal2 hsz HA6 HF6 HD6 HE6 HBd
        have s0 := HG7.out.s0
        have s1 := HG7.out.s1
        go_wp2_with fail
        generalize ((w7.alloc (.cells #[.slice A7 cc.length c7, .int .i64 R] 27)).alloc (.cells #[.int .i64 (f 0), .int .i64 (f 1), .int .i64 (f 2), .int .i64 (f 3), .int .i64 (f 4), .int .i64 (f 5), .int .i64 (f 6), .int .i64 (f 7), .int .i64 (f 8)] 61)) = v7 at *
        generalize w7.heap.size = b7 at *
        have hc := centre8_any A7 cc c7 R n v7 HG7.out.rd HK.out.few3 hcap7
        rw [HK.out.mid2] at hc
        unfold storeV at hc
        clear s0 s1
        refine hc.mono ?_
        intro r w8 h
        obtain ⟨A8, c8, rfl, hcap8, N8, hb8⟩ := putR_box h
        have hal := (Below.refl w8.heap.size w8).alloc (Nat.le_refl _) (.cells #[.slice A8 cc.length c8, .int .i64 R] 27)
        have hb' := Qt.more (B := v7.heap.size) hb8 hb8.size hal
        have HJ8 := Lib.hid (stB_new N8 hcap8 R)
        have HA8 := Lib.hid (HA7.out.below hb')
        have HF8 := Lib.hid (HF7.out.below hb')
        have HD8 := Lib.hid (HD7.out.below hb')
        have HE8 := Lib.hid (HE7.out.below hb')
        have HI8 := Lib.hid (HI7.out.below hb')
        have HBf := Lib.hid (Qt.more HBe.out HBe.out.size hb')
        clear h hc hb8 hb' N8 hal HA7 HF7 HD7 HE7 HI7 HBe HG7
        have s0 := HJ8.out.s0
        have s1 := HJ8.out.s1
        go_wp2_with fail
        generalize (w8.alloc (.cells #[.slice A8 cc.length c8, .int .i64 R] 27)) = v8 at *
        generalize w8.heap.size = b8 at *
        have hc := step8_any A8 cc c8 R two v8 HJ8.out.rd HK.out.few3 hcap8
        rw [HK.out.step2] at hc
        unfold storeV at hc
        clear s0 s1
        refine hc.mono ?_
        intro r w9 h
        obtain ⟨A9, c9, rfl, hcap9, N9', hb9⟩ := putR_box h
        have hal := (Below.refl w9.heap.size w9).alloc (Nat.le_refl _) (.cells #[.slice A9 cc.length c9, .int .i64 R] 27)
        have hb' := Qt.more (B := v8.heap.size) hb9 hb9.size hal
        have HV9 := Lib.hid (stB_new N9' hcap9 R)
        have HA9 := Lib.hid (HA8.out.below hb')
        have HF9 := Lib.hid (HF8.out.below hb')
        have HD9 := Lib.hid (HD8.out.below hb')
        have HE9 := Lib.hid (HE8.out.below hb')
        have HI9 := Lib.hid (HI8.out.below hb')
        have HBg := Lib.hid (Qt.more HBf.out HBf.out.size hb')
        clear h hc hb9 hb' N9' hal HA8 HF8 HD8 HE8 HI8 HBf HJ8
        have e0 := HE9.out.s0
        have e1 := HE9.out.s1
        have g0 := HV9.out.s0
        have g1 := HV9.out.s1
        have x0 := HF9.out.c (p := 0) (by decide)
        have y0 := HI9.out.c (p := 0) (by decide)
        have x1 := HF9.out.c (p := 1) (by decide)
        have y1 := HI9.out.c (p := 1) (by decide)
        have x2 := HF9.out.c (p := 2) (by decide)
        have y2 := HI9.out.c (p := 2) (by decide)
        have x3 := HF9.out.c (p := 3) (by decide)
        have y3 := HI9.out.c (p := 3) (by decide)
        have x4 := HF9.out.c (p := 4) (by decide)
        have y4 := HI9.out.c (p := 4) (by decide)
        have x5 := HF9.out.c (p := 5) (by decide)
        have y5 := HI9.out.c (p := 5) (by decide)
        have x6 := HF9.out.c (p := 6) (by decide)
        have y6 := HI9.out.c (p := 6) (by decide)
        have x7 := HF9.out.c (p := 7) (by decide)
        have y7 := HI9.out.c (p := 7) (by decide)
        have x8 := HF9.out.c (p := 8) (by decide)
        have y8 := HI9.out.c (p := 8) (by decide)
        have heq := fun W => eql9 f W
        have hsm := refSame6_any A6 cc c6 R A9 cc c9 R _ HE9.out.rd HV9.out.rd HK.out.few3 HK.out.few3
        rw [decide_eq_true (⟨rfl, rfl⟩ : R = R ∧ cc = cc)] at hsm
        unfold storeV at hsm
        go_wp2_with fail
        clear heq e0 e1 g0 g1 x0 y0 x1 y1 x2 y2 x3 y3 x4 y4 x5 y5 x6 y6 x7 y7 x8 y8
        refine hsm.mono ?_
        rintro r w10 ⟨rfl, hb10⟩
        have HAx := Lib.hid (HA9.out.below hb10)
        have HDx := Lib.hid (HD9.out.below hb10)
        have HBx := Lib.hid (Qt.more HBg.out HBg.out.size hb10)
        have a0 := HAx.out.s0
        have a1 := HAx.out.s1
        have d0 := HDx.out.s0
        have d1 := HDx.out.s1
        have hsm := refSame6_any A4 a c4 R A5 a c5 R w10 HAx.out.rd HDx.out.rd HK.out.few2 HK.out.few2
        rw [decide_eq_true (⟨rfl, rfl⟩ : R = R ∧ a = a)] at hsm
        unfold storeV at hsm
        clear HA9 HD9 HE9 HF9 HI9 HV9 HBg hb10
        go_wp2_with fail
        refine hsm.mono ?_
        rintro r w11 ⟨rfl, hb11⟩
        have HBy := Lib.hid (Qt.more HBx.out HBx.out.size hb11)
        clear hsm hb11 a0 a1 d0 d1 HAx HDx HBx
        go_wp2_with fail
        go_ret
        exact ⟨rfl, HBy.out⟩
end Go.Proofs.Ytikgnjcjbjafaaa
