/-
  The law BaseSteps.
-/
import Derived.Test.YtikgnjcjbjafaaaJu
import Derived.Test.YtikgnjcjbjafaaaKf
namespace Go.Proofs.Ytikgnjcjbjafaaa
set_option maxRecDepth 100000
set_option linter.unusedVariables false
set_option linter.unusedSimpArgs false
open Go.RowKit Go.Sort

set_option maxHeartbeats 16000000 in
theorem baseSteps_law (room : Int) (A : Option Addr) (raw : List Raw5) (c : Nat) (Cs : Option Addr) (sm : List (Int × Int)) (cs : Nat) (B : Option Addr) (rs : List (Int × Int)) (d : Nat) (w : World) (hI : I64 room) (hR : RdR w w.heap.size A raw) (hl : raw.length ≤ 9223372036854775807) (hF : ∀ j, j < raw.length → Fine5 (raw.getD j dead5))
    (hC : RdC w w.heap.size Cs sm) (hCl : sm.length ≤ 9223372036854775807) (hCc : sm.length ≤ cs) (hCw : ∀ p ∈ sm, Cel.I64 p.1 ∧ Cel.I64 p.2)
    (hB : RdC w w.heap.size B rs) (hBl : rs.length ≤ 9223372036854775807) (hBc : rs.length ≤ d) (hBw : ∀ p ∈ rs, Cel.I64 p.1 ∧ Cel.I64 p.2) :
    Calls Try.prog 9 #[.int .i64 room, .slice A raw.length c, .slice Cs sm.length cs, .slice B rs.length d] w fun e w' => e = .returned (.bool true) ∧ Below w.heap.size w w' := by
  obtain ⟨hSt, hStl⟩ := store_right room raw
  have hpb := pick6_bd room 60 (by decide)
  have hstore := fun W hR' => store6_any A raw c room W hR' hl hI hF
  have hset := fun W hR' => Cel.set_any B rs d W hR' hBl hBc hBw
  obtain ⟨Q, hQ⟩ : ∃ Q, Q = 2 + pick6 room 60 := ⟨_, rfl⟩
  rw [← hQ] at hSt hstore
  obtain ⟨l0, hll⟩ : ∃ l, l = store6 room raw := ⟨_, rfl⟩
  rw [← hll] at hSt hstore hStl
  have hw100 : IntKind.i64.wrap (Q + 100) = Q + 100 := by rw [IntKind.wrap_i64]; omega
  obtain ⟨R, hRR⟩ : ∃ R, R = Q + 100 := ⟨_, rfl⟩
  have hStR : Right6 l0 R := hSt.more (by omega) (by omega) (by omega)
  have hR100 : 100 ≤ R := by omega
  replace hw100 : IntKind.i64.wrap (Q + 100) = R := hw100.trans hRR.symm
  have HR := Lib.hid hR
  have HB := Lib.hid hB
  have HC := Lib.hid hC
  have HCW := Lib.hid hCw
  have HST := Lib.hid hstore
  have HSET := Lib.hid hset
  have HSR := Lib.hid hStR
  clear hR hB hC hCw hI hF hBw hl hBl hSt hStR hstore hset hQ hll hRR hpb
  go_enter Try.func9, Try.ntmps9
  go_wp2_with fail
  refine (awake8_any w).mono ?_
  rintro r v2 ⟨rfl, hb1⟩
  have HB2 := Lib.hid hb1
  have HCS := Lib.hid ((Cel.Rd.below HC.out HB2.out (Nat.le_refl _)).more HB2.out.size)
  clear hb1 HC
  go_wp2_with fail
  go_loopw [10, 11] (fun v u wr => ∃ (i : Nat) (A1 : Option Addr) (c1 : Nat), i ≤ 16 ∧ i ≤ sm.length ∧ u = .int .i64 i ∧ v = .slice A1 (smTo sm i).length c1 ∧ (smTo sm i).length ≤ c1 ∧ Hid (RdC wr wr.heap.size A1 (smTo sm i) ∧ Below v2.heap.size v2 wr)) (fun _ u _ => 16 - (intOf u).toNat)
  case atStart => exact ⟨0, none, 0, Nat.zero_le _, Nat.zero_le _, rfl, rfl, Nat.le_refl _, Cel.Rd.nil _ _ _, Below.refl _ _⟩
  case round =>
    obtain ⟨i, A1, c1, hi, his, rfl, rfl, hc1, HH⟩ := hrel
    have hsl := smTo_len sm i
    by_cases hgo : i < sm.length ∧ i < 16
    · obtain ⟨hlt, h16⟩ := hgo
      have hltz : (i : Int) < (sm.length : Int) := by omega
      have h16z : (i : Int) < 16 := by omega
      have hst := smTo_succ hlt
      obtain ⟨S, hSS⟩ : ∃ S, S = smTo sm i := ⟨_, rfl⟩
      rw [← hSS] at hst hsl hc1 HH ⊢
      obtain ⟨hx1, hx2⟩ := HCW.out _ (getD_mem8 hlt)
      obtain ⟨q3, o3, hA3, hq3, hcell⟩ := Cel.Rd.at_ (Cel.Rd.below HCS.out HH.out.2 (Nat.le_refl _)) (by omega)
      obtain ⟨k0, k1⟩ := hcell i hlt
      have hp1 := fun W => pick8_any (sm.getD i (0, 0)).1 4 W hx1.1 hx1.2 (by decide) (by decide)
      have hp2 := fun W => pick8_any (sm.getD i (0, 0)).2 4 W hx2.1 hx2.2 (by decide) (by decide)
      have hq1 := pickI_bd (sm.getD i (0, 0)).1 4 (by decide)
      have hq2 := pickI_bd (sm.getD i (0, 0)).2 4 (by decide)
      unfold smC at hst
      generalize sm.getD i (0, 0) = xy at *
      obtain ⟨x, y⟩ := xy
      simp only at hp1 hp2 hq1 hq2 hst k0 k1
      generalize pickI x 4 = qx at *
      generalize pickI y 4 = qy at *
      subst hA3
      have hwx : IntKind.i64.wrap (qx - 2) = qx - 2 := by rw [IntKind.wrap_i64]; omega
      have hwy : IntKind.i64.wrap (qy - 2) = qy - 2 := by rw [IntKind.wrap_i64]; omega
      have hRd := (Cel.Rd.below HH.out.1 (below_drew wr) (Nat.le_refl _)).more (below_drew wr).size
      have hk0 := fun W (hW : Below wr.heap.size wr W) => Qt.keep hW k0
      have hk1 := fun W (hW : Below wr.heap.size wr W) => Qt.keep hW k1
      have HW := Lib.hid HH.out.2
      have HST := Lib.hid hst
      clear hcell k0 k1 hq3 hx1 hx2 hst HH hSS
      go_wp2_with fail
      refine region_calm_to (fun W => Below wr.heap.size wr W) (fun (a0 a9 : Act) (w9 : World) => ∃ (A9 : Option Addr) (c9 : Nat), a9 = ((((((((((((((((((a0.put (some 37) (.slice A1 S.length c1)).put (some 38) (.slice (some ⟨q3, o3, none⟩) sm.length cs)).put (some 39) (.int .i64 (i : Int))).put (some 40) (.pointer (some ⟨q3, o3 + i * 2, none⟩))).put (some 41) (.pointer (some ⟨q3, o3 + i * 2, none⟩))).put (some 42) (.int .i64 x)).put (some 45) (.slice (some ⟨q3, o3, none⟩) sm.length cs)).put (some 46) (.int .i64 (i : Int))).put (some 47) (.pointer (some ⟨q3, o3 + i * 2, none⟩))).put (some 48) (.pointer (some ⟨q3, o3 + i * 2 + 1, none⟩))).put (some 49) (.int .i64 y)).put (some 43) (.int .i64 qx)).put (some 44) (.int .i64 (qx - 2))).put (some 50) (.int .i64 qy)).put (some 51) (.int .i64 (qy - 2))).put (some 52) (.agg #[.int .i64 (qx - 2), .int .i64 (qy - 2)])).put (some 53) (.slice A9 (Cel.putL (qx - 2, qy - 2) S).length c9)).put (some 10) (.slice A9 (Cel.putL (qx - 2, qy - 2) S).length c9)) ∧ ((Cel.putL (qx - 2, qy - 2) S).length ≤ c9 ∧ RdC w9 w9.heap.size A9 (Cel.putL (qx - 2, qy - 2) S) ∧ Below wr.heap.size wr w9)) (.calm 0 (.calm 1 (.calm 2 (.calm 3 (.calm 4 (.calm 5 (.calm 8 (.calm 9 (.calm 10 (.calm 11 (.calm 12 (.only 6 (.calm 7 (.only 13 (.calm 14 (.calm 15 (.only 16 (.calm 17 .done)))))))))))))))))) (by kernel_rfl) (by kernel_rfl) (by kernel_rfl) (by rfl) (below_drew wr) ?_ ?_
      · skip
        refine ⟨_, _, (.slice A1 S.length c1), rfl, rfl, ⟨rfl, fun W hW => by first | exact ⟨rfl, rfl⟩ | (simp only [Act.eval, execOp]; go_simp; try exact ⟨rfl, rfl⟩)⟩, ?_⟩
        simp only [Act.put, List.getElem_toArray, List.getElem_cons_zero, List.getElem_cons_succ, List.setIfInBounds_toArray, List.set_cons_succ, List.set_cons_zero]
        refine ⟨_, _, (.slice (some ⟨q3, o3, none⟩) sm.length cs), rfl, rfl, ⟨rfl, fun W hW => by first | exact ⟨rfl, rfl⟩ | (simp only [Act.eval, execOp]; go_simp; try exact ⟨rfl, rfl⟩)⟩, ?_⟩
        simp only [Act.put, List.getElem_toArray, List.getElem_cons_zero, List.getElem_cons_succ, List.setIfInBounds_toArray, List.set_cons_succ, List.set_cons_zero]
        refine ⟨_, _, (.int .i64 (i : Int)), rfl, rfl, ⟨rfl, fun W hW => by first | exact ⟨rfl, rfl⟩ | (simp only [Act.eval, execOp]; go_simp; try exact ⟨rfl, rfl⟩)⟩, ?_⟩
        simp only [Act.put, List.getElem_toArray, List.getElem_cons_zero, List.getElem_cons_succ, List.setIfInBounds_toArray, List.set_cons_succ, List.set_cons_zero]
        refine ⟨_, _, (.pointer (some ⟨q3, o3 + i * 2, none⟩)), rfl, rfl, ⟨rfl, fun W hW => by first | exact ⟨rfl, rfl⟩ | (simp only [Act.eval, execOp]; go_simp; try exact ⟨rfl, rfl⟩)⟩, ?_⟩
        simp only [Act.put, List.getElem_toArray, List.getElem_cons_zero, List.getElem_cons_succ, List.setIfInBounds_toArray, List.set_cons_succ, List.set_cons_zero]
        refine ⟨_, _, (.pointer (some ⟨q3, o3 + i * 2, none⟩)), rfl, rfl, ⟨rfl, fun W hW => by first | exact ⟨rfl, rfl⟩ | (simp only [Act.eval, execOp]; go_simp; try exact ⟨rfl, rfl⟩)⟩, ?_⟩
        simp only [Act.put, List.getElem_toArray, List.getElem_cons_zero, List.getElem_cons_succ, List.setIfInBounds_toArray, List.set_cons_succ, List.set_cons_zero]
        refine ⟨_, _, (.int .i64 x), rfl, rfl, ⟨rfl, fun W hW => by have s0 := hk0 W hW; simp only [execOp]; go_simp; done⟩, ?_⟩
        simp only [Act.put, List.getElem_toArray, List.getElem_cons_zero, List.getElem_cons_succ, List.setIfInBounds_toArray, List.set_cons_succ, List.set_cons_zero]
        refine ⟨_, _, (.slice (some ⟨q3, o3, none⟩) sm.length cs), rfl, rfl, ⟨rfl, fun W hW => by first | exact ⟨rfl, rfl⟩ | (simp only [Act.eval, execOp]; go_simp; try exact ⟨rfl, rfl⟩)⟩, ?_⟩
        simp only [Act.put, List.getElem_toArray, List.getElem_cons_zero, List.getElem_cons_succ, List.setIfInBounds_toArray, List.set_cons_succ, List.set_cons_zero]
        refine ⟨_, _, (.int .i64 (i : Int)), rfl, rfl, ⟨rfl, fun W hW => by first | exact ⟨rfl, rfl⟩ | (simp only [Act.eval, execOp]; go_simp; try exact ⟨rfl, rfl⟩)⟩, ?_⟩
        simp only [Act.put, List.getElem_toArray, List.getElem_cons_zero, List.getElem_cons_succ, List.setIfInBounds_toArray, List.set_cons_succ, List.set_cons_zero]
        refine ⟨_, _, (.pointer (some ⟨q3, o3 + i * 2, none⟩)), rfl, rfl, ⟨rfl, fun W hW => by first | exact ⟨rfl, rfl⟩ | (simp only [Act.eval, execOp]; go_simp; try exact ⟨rfl, rfl⟩)⟩, ?_⟩
        simp only [Act.put, List.getElem_toArray, List.getElem_cons_zero, List.getElem_cons_succ, List.setIfInBounds_toArray, List.set_cons_succ, List.set_cons_zero]
        refine ⟨_, _, (.pointer (some ⟨q3, o3 + i * 2 + 1, none⟩)), rfl, rfl, ⟨rfl, fun W hW => by first | exact ⟨rfl, rfl⟩ | (simp only [Act.eval, execOp]; go_simp; try exact ⟨rfl, rfl⟩)⟩, ?_⟩
        simp only [Act.put, List.getElem_toArray, List.getElem_cons_zero, List.getElem_cons_succ, List.setIfInBounds_toArray, List.set_cons_succ, List.set_cons_zero]
        refine ⟨_, _, (.int .i64 y), rfl, rfl, ⟨rfl, fun W hW => by have s1 := hk1 W hW; simp only [execOp]; go_simp; done⟩, ?_⟩
        simp only [Act.put, List.getElem_toArray, List.getElem_cons_zero, List.getElem_cons_succ, List.setIfInBounds_toArray, List.set_cons_succ, List.set_cons_zero]
        refine ⟨_, rfl, ?_⟩
        go_wp2_with fail
        refine (hp1 _).mono ?_
        rintro r _ ⟨rfl, rfl⟩
        have hC := below_drew wr
        go_wp2_with fail
        refine ⟨rfl, hC, ?_⟩
        refine ⟨_, _, (.int .i64 (qx - 2)), rfl, rfl, ⟨rfl, fun W hW => by first | exact ⟨rfl, rfl⟩ | (simp only [Act.eval, execOp]; go_simp; try exact ⟨rfl, rfl⟩)⟩, ?_⟩
        simp only [Act.put, List.getElem_toArray, List.getElem_cons_zero, List.getElem_cons_succ, List.setIfInBounds_toArray, List.set_cons_succ, List.set_cons_zero]
        refine ⟨_, rfl, ?_⟩
        go_wp2_with fail
        refine (hp2 _).mono ?_
        rintro r _ ⟨rfl, rfl⟩
        have hC := below_drew wr
        go_wp2_with fail
        refine ⟨rfl, hC, ?_⟩
        refine ⟨_, _, (.int .i64 (qy - 2)), rfl, rfl, ⟨rfl, fun W hW => by first | exact ⟨rfl, rfl⟩ | (simp only [Act.eval, execOp]; go_simp; try exact ⟨rfl, rfl⟩)⟩, ?_⟩
        simp only [Act.put, List.getElem_toArray, List.getElem_cons_zero, List.getElem_cons_succ, List.setIfInBounds_toArray, List.set_cons_succ, List.set_cons_zero]
        refine ⟨_, _, (.agg #[.int .i64 (qx - 2), .int .i64 (qy - 2)]), rfl, rfl, ⟨rfl, fun W hW => by first | exact ⟨rfl, rfl⟩ | (simp only [Act.eval, execOp]; go_simp; try exact ⟨rfl, rfl⟩)⟩, ?_⟩
        simp only [Act.put, List.getElem_toArray, List.getElem_cons_zero, List.getElem_cons_succ, List.setIfInBounds_toArray, List.set_cons_succ, List.set_cons_zero]
        refine ⟨_, rfl, ?_⟩
        go_wp2_with fail
        refine (Cel.put_any A1 S c1 (qx - 2, qy - 2) _ hRd (by omega) hc1).mono ?_
        rintro r w8 ⟨v9, rfl, hown, hb8⟩
        obtain ⟨A9, c9, rfl, hc9, hR9⟩ := Cel.Own.rd hown
        have hC := Qt.more (below_drew wr) (Nat.le_refl _) hb8
        have hC8 := hC
        go_wp2_with fail
        refine ⟨rfl, hC, ?_⟩
        refine ⟨_, _, (.slice A9 (Cel.putL (qx - 2, qy - 2) S).length c9), rfl, rfl, ⟨rfl, fun W hW => by first | exact ⟨rfl, rfl⟩ | (simp only [Act.eval, execOp]; go_simp; try exact ⟨rfl, rfl⟩)⟩, ?_⟩
        simp only [Act.put, List.getElem_toArray, List.getElem_cons_zero, List.getElem_cons_succ, List.setIfInBounds_toArray, List.set_cons_succ, List.set_cons_zero]
        refine ⟨A9, c9, ?_, hc9, hR9, hC8⟩
        first | rfl | simp only [Act.put, List.getElem_toArray, List.getElem_cons_zero, List.getElem_cons_succ, List.setIfInBounds_toArray, List.set_cons_succ, List.set_cons_zero]
      rintro a9 w9 ⟨A9, c9, rfl, hc9, hR9, hb9⟩
      simp only [Act.put, List.setIfInBounds_toArray, List.set_cons_succ, List.set_cons_zero]
      have HN := Lib.hid (Qt.more HW.out HW.out.size hb9)
      have HR9 := Lib.hid hR9
      clear hp1 hp2 hk0 hk1 hwx hwy hRd hb9 hR9 HW
      go_wp2_with fail
      go_roundw
      case measure => simp [intOf]; omega
      case rel => exact ⟨i + 1, A9, c9, by omega, by omega, by go_num, by rw [HST.out], by rw [HST.out]; exact hc9, by rw [HST.out]; exact HR9.out, HN.out⟩
    · have hexit : ((i : Int) < (sm.length : Int) → ¬ (i : Int) < 16) := by omega
      obtain ⟨L0, hL0⟩ : ∃ L0, L0 = (sm.take i).map smC := ⟨_, rfl⟩
      have hLS : smTo sm i = Cel.setL L0 := by rw [hL0]; rfl
      have hLl : L0.length ≤ 16 := by rw [hL0, List.length_map, List.length_take]; omega
      have hS1 := smTo_right (rs := sm) hi
      have hS2 := smTo_in (rs := sm) (i := i)
      have hS3 : (smTo sm i).length ≤ 16 := by omega
      generalize smTo sm i = S at *
      clear hsl hL0
      by_cases hz : (i : Int) < (sm.length : Int)
      · have h16z : ¬ (i : Int) < 16 := hexit hz
        clear hexit
        subst hLS
        have HX := Lib.hid HH.out.1
        have HB3 := Lib.hid (Qt.more HB2.out HB2.out.size HH.out.2)
        obtain ⟨m1, b, n, p, hk⟩ := steps_known HSR.out hStl hR100 hS1 hS2 hS3
        have HK := Lib.hid hk
        have HNK := Lib.hid (next_known hLl hS2 rs)
        have hM60 := (raw_set rs).2.1
        have HLV := Lib.hid (lev_bd HSR.out)
        have hc := HST.out wr ((HR.out.below HB3.out (Nat.le_refl _)).more HB3.out.size)
        have HBS := Lib.hid ((Cel.Rd.below HB.out HB3.out (Nat.le_refl _)).more HB3.out.size)
        clear hk HST HB2 HCS HCW hS1 hS2 HSR HH HR HB
        go_wp2_with fail
        refine hc.mono ?_
        intro r w3 h
        obtain ⟨A3, c3, rfl, hcap3, N3, hb3⟩ := storeR_box h
        have hal := (Below.refl w3.heap.size w3).alloc (Nat.le_refl _) (.cells #[.slice A3 l0.length c3, .int .i64 R] 27)
        have hb' := Qt.more (B := wr.heap.size) hb3 hb3.size hal
        have HS3 := Lib.hid (stB_new N3 hcap3 R)
        have HX3 := Lib.hid ((Cel.Rd.below HX.out hb' (Nat.le_refl _)).more hb'.size)
        have HBS3 := Lib.hid ((Cel.Rd.below HBS.out hb' (Nat.le_refl _)).more hb'.size)
        have HB4 := Lib.hid (Qt.more HB3.out HB3.out.size hb')
        clear h hc hb3 hb' N3 hal HX HBS HB3
        have s0 := HS3.out.s0
        have s1 := HS3.out.s1
        go_wp2_with fail
        clear s0 s1 hw100
        generalize (w3.alloc (.cells #[.slice A3 l0.length c3, .int .i64 R] 27)) = v3 at *
        generalize w3.heap.size = b3 at *
        have hc := refMake7_any A3 l0 c3 R A1 (Cel.setL L0) c1 2 v3 HS3.out.rd (by omega) hcap3 HLV.out HX3.out (by omega) hc1
        rw [HK.out.make] at hc
        unfold storeV at hc
        refine hc.mono ?_
        intro r w4 h
        obtain ⟨A4, c4, rfl, hcap4, N4, hb4⟩ := putR_box h
        have hal := (Below.refl w4.heap.size w4).alloc (Nat.le_refl _) (.cells #[.slice A4 m1.length c4, .int .i64 R] 27)
        have hb' := Qt.more (B := v3.heap.size) hb4 hb4.size hal
        have HS4 := Lib.hid (stB_new N4 hcap4 R)
        have HX4 := Lib.hid ((Cel.Rd.below HX3.out hb' (Nat.le_refl _)).more hb'.size)
        have HBS4 := Lib.hid ((Cel.Rd.below HBS3.out hb' (Nat.le_refl _)).more hb'.size)
        have HB5 := Lib.hid (Qt.more HB4.out HB4.out.size hb')
        clear h hc hb4 hb' N4 hal HX3 HBS3 HB4 HS3
        have s0 := HS4.out.s0
        have s1 := HS4.out.s1
        go_wp2_with fail
        clear s0 s1
        generalize (w4.alloc (.cells #[.slice A4 m1.length c4, .int .i64 R] 27)) = v4 at *
        generalize w4.heap.size = b4 at *
        have hc := step8_any A4 m1 c4 R n v4 HS4.out.rd HK.out.few1 hcap4
        rw [HK.out.step] at hc
        unfold storeV at hc
        refine hc.mono ?_
        intro r w5 h
        obtain ⟨A5, c5, rfl, hcap5, N5, hb5⟩ := putR_box h
        have hal := (Below.refl w5.heap.size w5).alloc (Nat.le_refl _) (.cells #[.slice A5 b.length c5, .int .i64 R] 27)
        have hb' := Qt.more (B := v4.heap.size) hb5 hb5.size hal
        have HS5 := Lib.hid (stB_new N5 hcap5 R)
        have HX5 := Lib.hid ((Cel.Rd.below HX4.out hb' (Nat.le_refl _)).more hb'.size)
        have HBS5 := Lib.hid ((Cel.Rd.below HBS4.out hb' (Nat.le_refl _)).more hb'.size)
        have HB6 := Lib.hid (Qt.more HB5.out HB5.out.size hb')
        clear h hc hb5 hb' N5 hal HX4 HBS4 HB5 HS4
        have hltp : p < b.length := HK.out.sq.is.lt
        obtain ⟨qb, ob, hA5, hqb, _⟩ := HS5.out.nd (Nat.lt_of_le_of_lt (Nat.zero_le _) hltp)
        subst hA5
        have s0 := HS5.out.s0
        have s1 := HS5.out.s1
        have x0 := (HS5.out.node hltp).1
        rw [HK.out.lev] at x0
        have hpz : (p : Int) < (b.length : Int) := by omega
        go_wp2_with fail
        clear s0 s1 x0 hqb
        generalize (w5.alloc (.cells #[.slice (some ⟨qb, ob, none⟩) b.length c5, .int .i64 R] 27)) = v5 at *
        generalize w5.heap.size = b5 at *
        refine (HSET.out v5 HBS5.out).mono ?_
        intro r w6 h
        obtain ⟨_, rfl, ⟨A6, c6, rfl, hc6, hR6⟩, hb6⟩ := h
        have HM := Lib.hid hR6
        have HX6 := Lib.hid ((Cel.Rd.below HX5.out hb6 (Nat.le_refl _)).more hb6.size)
        have HS6 := Lib.hid (HS5.out.below hb6)
        have HB7 := Lib.hid (Qt.more HB6.out HB6.out.size hb6)
        clear HX5 HS5 HB6 hR6 hb6 HBS5 HSET
        generalize Cel.rawSet rs = M at *
        go_wp2_with fail
        go_loopw [19, 21] (fun v u wr => ∃ (j : Nat) (A7 : Option Addr) (c7 : Nat), j ≤ M.length ∧ u = .int .i64 j ∧ v = .slice A7 (moTo L0 M j).length c7 ∧ (moTo L0 M j).length ≤ c7 ∧ Hid (RdC wr wr.heap.size A7 (moTo L0 M j) ∧ Below w6.heap.size w6 wr)) (fun _ u _ => M.length - (intOf u).toNat)
        case atStart => exact ⟨0, A1, c1, Nat.zero_le _, rfl, by rw [moTo_zero], by rw [moTo_zero]; exact hc1, by rw [moTo_zero]; exact HX6.out, Below.refl _ _⟩
        case round =>
          obtain ⟨j, A7, c7, hj, rfl, rfl, hc7, HJ⟩ := hrel
          have hml := moTo_len (L := L0) (M := M) (i := j)
          by_cases hlt : j < M.length
          · have hltz : (j : Int) < (M.length : Int) := by omega
            obtain ⟨q3, o3, hA3, hq3, hcell⟩ := Cel.Rd.at_ HM.out (by omega)
            obtain ⟨k0, k1⟩ := hcell j hlt
            have k0 := Qt.keep HJ.out.2 k0
            have k1 := Qt.keep HJ.out.2 k1
            have hin := moTo_in (L := L0) hlt
            have hou := moTo_out (L := L0) hlt
            generalize M.getD j (0, 0) = xy at *
            obtain ⟨x, y⟩ := xy
            simp only at k0 k1 hin hou
            obtain ⟨P, hPP⟩ : ∃ P, P = moTo L0 M j := ⟨_, rfl⟩
            rw [← hPP] at hin hou hml hc7 HJ ⊢
            subst hA3
            have hcase : (x < -2 ∧ insideB 1 (x, y) = false) ∨ (¬ x < -2 ∧ 1 < x ∧ insideB 1 (x, y) = false) ∨ (¬ x < -2 ∧ ¬ 1 < x ∧ y < -2 ∧ insideB 1 (x, y) = false) ∨ (¬ x < -2 ∧ ¬ 1 < x ∧ ¬ y < -2 ∧ 1 < y ∧ insideB 1 (x, y) = false) ∨ (¬ x < -2 ∧ ¬ 1 < x ∧ ¬ y < -2 ∧ ¬ 1 < y ∧ insideB 1 (x, y) = true) := by
              unfold insideB
              rw [show (2 : Int) ^ 1 = 2 from rfl]
              simp only [decide_eq_false_iff_not, decide_eq_true_eq]
              omega
            have HIN := Lib.hid hin
            have HOU := Lib.hid hou
            clear hcell hq3 hin hou hPP
            rcases hcase with ⟨a1, a5⟩ | ⟨a1, a2, a5⟩ | ⟨a1, a2, a3, a5⟩ | ⟨a1, a2, a3, a4, a5⟩ | ⟨a1, a2, a3, a4, a5⟩
            iterate 4
              · have hst := HOU.out a5
                have HST := Lib.hid hst
                have hc := Cel.put_any A7 P c7 (x, y) wr HJ.out.1 (by omega) hc7
                have HW := Lib.hid HJ.out.2
                clear a5 hst HIN HOU HJ
                go_wp2_with fail
                refine hc.mono ?_
                rintro r w8 ⟨v9, rfl, hown, hb8⟩
                obtain ⟨A9, c9, rfl, hc9, hR9⟩ := Cel.Own.rd hown
                have HR9 := Lib.hid hR9
                have HWC := Lib.hid (Qt.more HW.out HW.out.size hb8)
                clear hc hown hR9 hb8 k0 k1 HW
                go_wp2_with fail
                go_roundw
                case measure => simp [intOf]; omega
                case rel => exact ⟨j + 1, A9, c9, by omega, by go_num, by rw [HST.out], by rw [HST.out]; exact hc9, by rw [HST.out]; exact HR9.out, HWC.out⟩
            · have hst := HIN.out a5
              have HST := Lib.hid hst
              clear a5 hst HIN HOU
              go_wp2_with fail
              go_roundw
              case measure => simp [intOf]; omega
              case rel => exact ⟨j + 1, A7, c7, by omega, by go_num, by rw [HST.out], by rw [HST.out]; exact hc7, by rw [HST.out]; exact HJ.out⟩
          · obtain rfl : j = M.length := by omega
            have hltz : ¬ (M.length : Int) < (M.length : Int) := by omega
            have hfew := HNK.out.few
            generalize moTo L0 M M.length = T at *
            have HT := Lib.hid HJ.out.1
            have HS8 := Lib.hid (HS6.out.below HJ.out.2)
            have HB8 := Lib.hid (Qt.more HB7.out HB7.out.size HJ.out.2)
            have hc := Cel.refNext_any A7 T c7 wr HT.out (by omega) hc7
            rw [HNK.out.next] at hc
            have hfN := HNK.out.fewN
            have hbdN := HNK.out.bdN
            have hcrop := HNK.out.crop
            have hrsN := Cel.rises_nextL T
            generalize Cel.nextL T = U at *
            have HBD := Lib.hid hbdN
            have HCR := Lib.hid hcrop
            have HRS := Lib.hid hrsN
            clear HJ HX6 HS6 HB7 HM hml hbdN hcrop hrsN HNK
            go_wp2_with fail
            refine hc.mono ?_
            rintro r w7 ⟨v7, rfl, ⟨A9, c9, rfl, hc9, hR9⟩, hb7⟩
            dsimp only at hR9 hc9
            have HN9 := Lib.hid hR9
            have HS9 := Lib.hid (HS8.out.below hb7)
            have HB9 := Lib.hid (Qt.more HB8.out HB8.out.size hb7)
            have hsl := HK.out.sq.len
            have hsr := ((Cel.rightB_iff _).1 HK.out.sq.set).1
            have hof := ofR_about HK.out.sq
            have hc2 := refOf7_any b HK.out.sq.right (some ⟨qb, ob, none⟩) c5 R 0 p w7 (by decide) HK.out.sq.is HS9.out.rd (by omega)
            unfold storeV at hc2
            generalize about7 b 0 p = F at *
            have hF9 : F.length ≤ 900000 := by omega
            have HOF := Lib.hid hof
            have s0 := HS9.out.s0
            have s1 := HS9.out.s1
            clear hc hR9 hb7 HS8 HB8 HT hsl hsr hof
            go_wp2_with fail
            refine hc2.mono ?_
            rintro r w8 ⟨A10, c10, rfl, hc10, hR10, hb8⟩
            have HN10 := Lib.hid ((Cel.Rd.below HN9.out hb8 (Nat.le_refl _)).more hb8.size)
            have HB10 := Lib.hid (Qt.more HB9.out HB9.out.size hb8)
            have hc := Cel.refOf_any A10 F c10 w8 hR10 hF9 hc10
            rw [HOF.out] at hc
            clear hc2 hb8 hR10 HN9 HB9 HS9 s0 s1
            go_wp2_with fail
            refine hc.mono ?_
            rintro r w9 ⟨v9, rfl, ⟨A11, c11, rfl, hc11, hR11⟩, hb9⟩
            dsimp only at hR11 hc11
            have HG := Lib.hid hR11
            have HN11 := Lib.hid ((Cel.Rd.below HN10.out hb9 (Nat.le_refl _)).more hb9.size)
            have HB11 := Lib.hid (Qt.more HB10.out HB10.out.size hb9)
            have hcr := crop_any A9 U c9 0 0 0 w9 HN11.out (by omega) hc9 (by decide) HRS.out HBD.out (by decide)
            rw [HCR.out, show (2 : Int) ^ 0 = 1 from rfl] at hcr
            have hVl : (cropL (Cel.nextL (Cel.setL L0)) 0 0 0).length ≤ 2000 := ((Cel.rightB_iff _).1 HK.out.sq.set).1
            generalize cropL (Cel.nextL (Cel.setL L0)) 0 0 0 = V at *
            clear hc hb9 hR11 HN10 HB10 HCR HRS HBD
            go_wp2_with fail
            refine hcr.mono ?_
            rintro r w10 ⟨A12, c12, rfl, hc12, hR12, hb10⟩
            have HB12 := Lib.hid (Qt.more HB11.out HB11.out.size hb10)
            have hsm := Cel.same_holds (c := c11) (c' := c12) ((Cel.Rd.below HG.out hb10 (Nat.le_refl _)).more hb10.size) hR12 (by omega)
            rw [decide_eq_true rfl] at hsm
            clear hcr hb10 hR12 HB11 HG HN11
            go_wp2_with fail
            refine hsm.mono ?_
            rintro r w11 ⟨rfl, hb11⟩
            have HB13 := Lib.hid (Qt.more HB12.out HB12.out.size hb11)
            clear hsm hb11 HB12
            go_wp2_with fail
            go_ret
            exact ⟨rfl, HB13.out⟩
      · clear hexit
        subst hLS
        have HX := Lib.hid HH.out.1
        have HB3 := Lib.hid (Qt.more HB2.out HB2.out.size HH.out.2)
        obtain ⟨m1, b, n, p, hk⟩ := steps_known HSR.out hStl hR100 hS1 hS2 hS3
        have HK := Lib.hid hk
        have HNK := Lib.hid (next_known hLl hS2 rs)
        have hM60 := (raw_set rs).2.1
        have HLV := Lib.hid (lev_bd HSR.out)
        have hc := HST.out wr ((HR.out.below HB3.out (Nat.le_refl _)).more HB3.out.size)
        have HBS := Lib.hid ((Cel.Rd.below HB.out HB3.out (Nat.le_refl _)).more HB3.out.size)
        clear hk HST HB2 HCS HCW hS1 hS2 HSR HH HR HB
        go_wp2_with fail
        refine hc.mono ?_
        intro r w3 h
        obtain ⟨A3, c3, rfl, hcap3, N3, hb3⟩ := storeR_box h
        have hal := (Below.refl w3.heap.size w3).alloc (Nat.le_refl _) (.cells #[.slice A3 l0.length c3, .int .i64 R] 27)
        have hb' := Qt.more (B := wr.heap.size) hb3 hb3.size hal
        have HS3 := Lib.hid (stB_new N3 hcap3 R)
        have HX3 := Lib.hid ((Cel.Rd.below HX.out hb' (Nat.le_refl _)).more hb'.size)
        have HBS3 := Lib.hid ((Cel.Rd.below HBS.out hb' (Nat.le_refl _)).more hb'.size)
        have HB4 := Lib.hid (Qt.more HB3.out HB3.out.size hb')
        clear h hc hb3 hb' N3 hal HX HBS HB3
        have s0 := HS3.out.s0
        have s1 := HS3.out.s1
        go_wp2_with fail
        clear s0 s1 hw100
        generalize (w3.alloc (.cells #[.slice A3 l0.length c3, .int .i64 R] 27)) = v3 at *
        generalize w3.heap.size = b3 at *
        have hc := refMake7_any A3 l0 c3 R A1 (Cel.setL L0) c1 2 v3 HS3.out.rd (by omega) hcap3 HLV.out HX3.out (by omega) hc1
        rw [HK.out.make] at hc
        unfold storeV at hc
        refine hc.mono ?_
        intro r w4 h
        obtain ⟨A4, c4, rfl, hcap4, N4, hb4⟩ := putR_box h
        have hal := (Below.refl w4.heap.size w4).alloc (Nat.le_refl _) (.cells #[.slice A4 m1.length c4, .int .i64 R] 27)
        have hb' := Qt.more (B := v3.heap.size) hb4 hb4.size hal
        have HS4 := Lib.hid (stB_new N4 hcap4 R)
        have HX4 := Lib.hid ((Cel.Rd.below HX3.out hb' (Nat.le_refl _)).more hb'.size)
        have HBS4 := Lib.hid ((Cel.Rd.below HBS3.out hb' (Nat.le_refl _)).more hb'.size)
        have HB5 := Lib.hid (Qt.more HB4.out HB4.out.size hb')
        clear h hc hb4 hb' N4 hal HX3 HBS3 HB4 HS3
        have s0 := HS4.out.s0
        have s1 := HS4.out.s1
        go_wp2_with fail
        clear s0 s1
        generalize (w4.alloc (.cells #[.slice A4 m1.length c4, .int .i64 R] 27)) = v4 at *
        generalize w4.heap.size = b4 at *
        have hc := step8_any A4 m1 c4 R n v4 HS4.out.rd HK.out.few1 hcap4
        rw [HK.out.step] at hc
        unfold storeV at hc
        refine hc.mono ?_
        intro r w5 h
        obtain ⟨A5, c5, rfl, hcap5, N5, hb5⟩ := putR_box h
        have hal := (Below.refl w5.heap.size w5).alloc (Nat.le_refl _) (.cells #[.slice A5 b.length c5, .int .i64 R] 27)
        have hb' := Qt.more (B := v4.heap.size) hb5 hb5.size hal
        have HS5 := Lib.hid (stB_new N5 hcap5 R)
        have HX5 := Lib.hid ((Cel.Rd.below HX4.out hb' (Nat.le_refl _)).more hb'.size)
        have HBS5 := Lib.hid ((Cel.Rd.below HBS4.out hb' (Nat.le_refl _)).more hb'.size)
        have HB6 := Lib.hid (Qt.more HB5.out HB5.out.size hb')
        clear h hc hb5 hb' N5 hal HX4 HBS4 HB5 HS4
        have hltp : p < b.length := HK.out.sq.is.lt
        obtain ⟨qb, ob, hA5, hqb, _⟩ := HS5.out.nd (Nat.lt_of_le_of_lt (Nat.zero_le _) hltp)
        subst hA5
        have s0 := HS5.out.s0
        have s1 := HS5.out.s1
        have x0 := (HS5.out.node hltp).1
        rw [HK.out.lev] at x0
        have hpz : (p : Int) < (b.length : Int) := by omega
        go_wp2_with fail
        clear s0 s1 x0 hqb
        generalize (w5.alloc (.cells #[.slice (some ⟨qb, ob, none⟩) b.length c5, .int .i64 R] 27)) = v5 at *
        generalize w5.heap.size = b5 at *
        refine (HSET.out v5 HBS5.out).mono ?_
        intro r w6 h
        obtain ⟨_, rfl, ⟨A6, c6, rfl, hc6, hR6⟩, hb6⟩ := h
        have HM := Lib.hid hR6
        have HX6 := Lib.hid ((Cel.Rd.below HX5.out hb6 (Nat.le_refl _)).more hb6.size)
        have HS6 := Lib.hid (HS5.out.below hb6)
        have HB7 := Lib.hid (Qt.more HB6.out HB6.out.size hb6)
        clear HX5 HS5 HB6 hR6 hb6 HBS5 HSET
        generalize Cel.rawSet rs = M at *
        go_wp2_with fail
        go_loopw [19, 21] (fun v u wr => ∃ (j : Nat) (A7 : Option Addr) (c7 : Nat), j ≤ M.length ∧ u = .int .i64 j ∧ v = .slice A7 (moTo L0 M j).length c7 ∧ (moTo L0 M j).length ≤ c7 ∧ Hid (RdC wr wr.heap.size A7 (moTo L0 M j) ∧ Below w6.heap.size w6 wr)) (fun _ u _ => M.length - (intOf u).toNat)
        case atStart => exact ⟨0, A1, c1, Nat.zero_le _, rfl, by rw [moTo_zero], by rw [moTo_zero]; exact hc1, by rw [moTo_zero]; exact HX6.out, Below.refl _ _⟩
        case round =>
          obtain ⟨j, A7, c7, hj, rfl, rfl, hc7, HJ⟩ := hrel
          have hml := moTo_len (L := L0) (M := M) (i := j)
          by_cases hlt : j < M.length
          · have hltz : (j : Int) < (M.length : Int) := by omega
            obtain ⟨q3, o3, hA3, hq3, hcell⟩ := Cel.Rd.at_ HM.out (by omega)
            obtain ⟨k0, k1⟩ := hcell j hlt
            have k0 := Qt.keep HJ.out.2 k0
            have k1 := Qt.keep HJ.out.2 k1
            have hin := moTo_in (L := L0) hlt
            have hou := moTo_out (L := L0) hlt
            generalize M.getD j (0, 0) = xy at *
            obtain ⟨x, y⟩ := xy
            simp only at k0 k1 hin hou
            obtain ⟨P, hPP⟩ : ∃ P, P = moTo L0 M j := ⟨_, rfl⟩
            rw [← hPP] at hin hou hml hc7 HJ ⊢
            subst hA3
            have hcase : (x < -2 ∧ insideB 1 (x, y) = false) ∨ (¬ x < -2 ∧ 1 < x ∧ insideB 1 (x, y) = false) ∨ (¬ x < -2 ∧ ¬ 1 < x ∧ y < -2 ∧ insideB 1 (x, y) = false) ∨ (¬ x < -2 ∧ ¬ 1 < x ∧ ¬ y < -2 ∧ 1 < y ∧ insideB 1 (x, y) = false) ∨ (¬ x < -2 ∧ ¬ 1 < x ∧ ¬ y < -2 ∧ ¬ 1 < y ∧ insideB 1 (x, y) = true) := by
              unfold insideB
              rw [show (2 : Int) ^ 1 = 2 from rfl]
              simp only [decide_eq_false_iff_not, decide_eq_true_eq]
              omega
            have HIN := Lib.hid hin
            have HOU := Lib.hid hou
            clear hcell hq3 hin hou hPP
            rcases hcase with ⟨a1, a5⟩ | ⟨a1, a2, a5⟩ | ⟨a1, a2, a3, a5⟩ | ⟨a1, a2, a3, a4, a5⟩ | ⟨a1, a2, a3, a4, a5⟩
            iterate 4
              · have hst := HOU.out a5
                have HST := Lib.hid hst
                have hc := Cel.put_any A7 P c7 (x, y) wr HJ.out.1 (by omega) hc7
                have HW := Lib.hid HJ.out.2
                clear a5 hst HIN HOU HJ
                go_wp2_with fail
                refine hc.mono ?_
                rintro r w8 ⟨v9, rfl, hown, hb8⟩
                obtain ⟨A9, c9, rfl, hc9, hR9⟩ := Cel.Own.rd hown
                have HR9 := Lib.hid hR9
                have HWC := Lib.hid (Qt.more HW.out HW.out.size hb8)
                clear hc hown hR9 hb8 k0 k1 HW
                go_wp2_with fail
                go_roundw
                case measure => simp [intOf]; omega
                case rel => exact ⟨j + 1, A9, c9, by omega, by go_num, by rw [HST.out], by rw [HST.out]; exact hc9, by rw [HST.out]; exact HR9.out, HWC.out⟩
            · have hst := HIN.out a5
              have HST := Lib.hid hst
              clear a5 hst HIN HOU
              go_wp2_with fail
              go_roundw
              case measure => simp [intOf]; omega
              case rel => exact ⟨j + 1, A7, c7, by omega, by go_num, by rw [HST.out], by rw [HST.out]; exact hc7, by rw [HST.out]; exact HJ.out⟩
          · obtain rfl : j = M.length := by omega
            have hltz : ¬ (M.length : Int) < (M.length : Int) := by omega
            have hfew := HNK.out.few
            generalize moTo L0 M M.length = T at *
            have HT := Lib.hid HJ.out.1
            have HS8 := Lib.hid (HS6.out.below HJ.out.2)
            have HB8 := Lib.hid (Qt.more HB7.out HB7.out.size HJ.out.2)
            have hc := Cel.refNext_any A7 T c7 wr HT.out (by omega) hc7
            rw [HNK.out.next] at hc
            have hfN := HNK.out.fewN
            have hbdN := HNK.out.bdN
            have hcrop := HNK.out.crop
            have hrsN := Cel.rises_nextL T
            generalize Cel.nextL T = U at *
            have HBD := Lib.hid hbdN
            have HCR := Lib.hid hcrop
            have HRS := Lib.hid hrsN
            clear HJ HX6 HS6 HB7 HM hml hbdN hcrop hrsN HNK
            go_wp2_with fail
            refine hc.mono ?_
            rintro r w7 ⟨v7, rfl, ⟨A9, c9, rfl, hc9, hR9⟩, hb7⟩
            dsimp only at hR9 hc9
            have HN9 := Lib.hid hR9
            have HS9 := Lib.hid (HS8.out.below hb7)
            have HB9 := Lib.hid (Qt.more HB8.out HB8.out.size hb7)
            have hsl := HK.out.sq.len
            have hsr := ((Cel.rightB_iff _).1 HK.out.sq.set).1
            have hof := ofR_about HK.out.sq
            have hc2 := refOf7_any b HK.out.sq.right (some ⟨qb, ob, none⟩) c5 R 0 p w7 (by decide) HK.out.sq.is HS9.out.rd (by omega)
            unfold storeV at hc2
            generalize about7 b 0 p = F at *
            have hF9 : F.length ≤ 900000 := by omega
            have HOF := Lib.hid hof
            have s0 := HS9.out.s0
            have s1 := HS9.out.s1
            clear hc hR9 hb7 HS8 HB8 HT hsl hsr hof
            go_wp2_with fail
            refine hc2.mono ?_
            rintro r w8 ⟨A10, c10, rfl, hc10, hR10, hb8⟩
            have HN10 := Lib.hid ((Cel.Rd.below HN9.out hb8 (Nat.le_refl _)).more hb8.size)
            have HB10 := Lib.hid (Qt.more HB9.out HB9.out.size hb8)
            have hc := Cel.refOf_any A10 F c10 w8 hR10 hF9 hc10
            rw [HOF.out] at hc
            clear hc2 hb8 hR10 HN9 HB9 HS9 s0 s1
            go_wp2_with fail
            refine hc.mono ?_
            rintro r w9 ⟨v9, rfl, ⟨A11, c11, rfl, hc11, hR11⟩, hb9⟩
            dsimp only at hR11 hc11
            have HG := Lib.hid hR11
            have HN11 := Lib.hid ((Cel.Rd.below HN10.out hb9 (Nat.le_refl _)).more hb9.size)
            have HB11 := Lib.hid (Qt.more HB10.out HB10.out.size hb9)
            have hcr := crop_any A9 U c9 0 0 0 w9 HN11.out (by omega) hc9 (by decide) HRS.out HBD.out (by decide)
            rw [HCR.out, show (2 : Int) ^ 0 = 1 from rfl] at hcr
            have hVl : (cropL (Cel.nextL (Cel.setL L0)) 0 0 0).length ≤ 2000 := ((Cel.rightB_iff _).1 HK.out.sq.set).1
            generalize cropL (Cel.nextL (Cel.setL L0)) 0 0 0 = V at *
            clear hc hb9 hR11 HN10 HB10 HCR HRS HBD
            go_wp2_with fail
            refine hcr.mono ?_
            rintro r w10 ⟨A12, c12, rfl, hc12, hR12, hb10⟩
            have HB12 := Lib.hid (Qt.more HB11.out HB11.out.size hb10)
            have hsm := Cel.same_holds (c := c11) (c' := c12) ((Cel.Rd.below HG.out hb10 (Nat.le_refl _)).more hb10.size) hR12 (by omega)
            rw [decide_eq_true rfl] at hsm
            clear hcr hb10 hR12 HB11 HG HN11
            go_wp2_with fail
            refine hsm.mono ?_
            rintro r w11 ⟨rfl, hb11⟩
            have HB13 := Lib.hid (Qt.more HB12.out HB12.out.size hb11)
            clear hsm hb11 HB12
            go_wp2_with fail
            go_ret
            exact ⟨rfl, HB13.out⟩
end Go.Proofs.Ytikgnjcjbjafaaa
