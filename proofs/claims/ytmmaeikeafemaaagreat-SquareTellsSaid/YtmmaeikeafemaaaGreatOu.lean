/-
  The law SquareTells.
-/
import Derived.Test.YtmmaeikeafemaaaGreatB26
namespace Go.Proofs.YtmmaeikeafemaaaGreat
set_option maxRecDepth 100000
set_option linter.unusedVariables false
set_option linter.unusedSimpArgs false
open Go.RowKit Go.Sort

set_option maxHeartbeats 16000000 in
theorem squareTells_law (room : Int) (A : Option Addr) (raw : List Raw5) (c : Nat) (B : Option Addr) (rs : List (Int × Int)) (d : Nat) (lev : Int) (Aa : Option Addr) (la : List Nd) (ca : Nat) (ra : Int) (kc : Int × Int) (n : Int) (Ac : Option Addr) (sc : List (Int × Int)) (cc : Nat) (w : World) (hI : I64 room) (hR : RdR w w.heap.size A raw) (hl : raw.length ≤ 9223372036854775807) (hF : ∀ j, j < raw.length → Fine5 (raw.getD j dead5))
    (hB : RdC w w.heap.size B rs) (hBl : rs.length ≤ 9223372036854775807) (hBc : rs.length ≤ d) (hBw : ∀ p ∈ rs, Cel.I64 p.1 ∧ Cel.I64 p.2) (hL : I64 lev)
    (hRa : RdN w w.heap.size Aa la) (hla : la.length ≤ 9223372036854775807) (hca : la.length ≤ ca) (hFa : ∀ j, j < la.length → FineN (la.getD j deadN)) (hIa : I64 ra) (hKc : I64 kc.1 ∧ I64 kc.2) (hIn : I64 n)
    (hS : RdC w w.heap.size Ac sc) (hSl : sc.length ≤ 9223372036854775807) (hSc : sc.length ≤ cc) :
    Calls Tryz.prog 3 #[.int .i64 room, .slice A raw.length c, .slice B rs.length d, .int .i64 lev, storeV Aa la.length ca ra, cellV kc, .int .i64 n, .slice Ac sc.length cc] w fun e w' => e = .returned (.bool true) ∧ Below w.heap.size w w' := by
  obtain ⟨R, m0, nq, e, t, HL⟩ := square_ok room raw rs lev
  have hsq := fun W hR' hB' => square7_any HL A c B d W hI hR' hl hF hB' hBl hBc hBw hL
  have hset := fun W hW => Cel.set_any B rs d W hW hBl hBc hBw
  have HSET := Lib.hid hset
  have hS60 := (raw_set rs).2.1
  have HLV := Lib.hid (lev_bd HL.sq.right)
  have HLA := Lib.hid (show ∀ i, i < la.length → -9223372036854775808 ≤ (la.getD i deadN).1 ∧ (la.getD i deadN).1 ≤ 9223372036854775807 from fun i hi => (hFa i hi).1)
  have hm6 : m0.length ≤ 600 := HL.few
  have hnq : nq < m0.length := HL.sq.is.lt
  have HR := Lib.hid hR
  have HB := Lib.hid hB
  have HS := Lib.hid hS
  have HSQ := Lib.hid hsq
  obtain ⟨kx, ky⟩ := kc
  have hb0 := ((Below.refl w.heap.size w).alloc (Nat.le_refl _) (.cells #[.slice Aa la.length ca, .int .i64 ra] 26)).alloc (by simp) (.cells #[.int .i64 kx, .int .i64 ky] 28)
  have hA00 := stB_new (w := w) (A := Aa) (l := la) hRa hca ra
  have hal0 := (Below.refl _ (w.alloc (.cells #[.slice Aa la.length ca, .int .i64 ra] 26))).alloc (Nat.le_refl _) (.cells #[.int .i64 kx, .int .i64 ky] 28)
  have HB0 := Lib.hid hb0
  have HA0 := Lib.hid (hA00.below hal0)
  have HK0 := Lib.hid (show ((w.alloc (.cells #[.slice Aa la.length ca, .int .i64 ra] 26)).alloc (.cells #[.int .i64 kx, .int .i64 ky] 28)).heap[w.heap.size + 1]? = some (.cells #[.int .i64 kx, .int .i64 ky] 28 (0, 0)) from heap_new (by simp))
  unfold storeV cellV
  dsimp only
  clear hsq hset hR hB hS hRa HL hI hF hBw hl hBl hFa hIa hb0 hca hA00 hal0
  go_enter Tryz.func3, Tryz.ntmps3
  go_wp2_with fail
  generalize ((w.alloc (.cells #[.slice Aa la.length ca, .int .i64 ra] 26)).alloc (.cells #[.int .i64 kx, .int .i64 ky] 28)) = w0 at *
  refine (awake7_any w0).mono ?_
  rintro r w1 ⟨rfl, hb1⟩
  have HB1 := Lib.hid (Qt.more HB0.out HB0.out.size hb1)
  have HA1 := Lib.hid (HA0.out.below hb1)
  have HK1 := Lib.hid ((hb1.block _ (lt_heap6 HK0.out)).trans HK0.out)
  have hs1 := HSQ.out w1 ((HR.out.below HB1.out (Nat.le_refl _)).more HB1.out.size) ((Cel.Rd.below HB.out HB1.out (Nat.le_refl _)).more HB1.out.size)
  clear HSQ hb1 HB0 HA0 HK0
  go_wp2_with fail
  refine hs1.mono ?_
  rintro r w2 ⟨A2, c2, rfl, hcap2, N2, hb2⟩
  have hal := (Below.refl w2.heap.size w2).alloc (Nat.le_refl _) (.cells #[.slice A2 m0.length c2, .int .i64 R] 26)
  have hal2 := hal.alloc hal.size (.cells #[.slice A2 m0.length c2, .int .i64 R, .slice Aa la.length ca, .int .i64 ra] 26)
  have hsz : (w2.alloc (.cells #[.slice A2 m0.length c2, .int .i64 R] 26)).heap.size = w2.heap.size + 1 := by simp
  have hA2 := HA1.out.below hb2
  have hbw3 := Qt.more HB1.out HB1.out.size (Qt.more (B := w1.heap.size) hb2 hb2.size hal2)
  have HT3 := Lib.hid (show TwoB ((w2.alloc (.cells #[.slice A2 m0.length c2, .int .i64 R] 26)).alloc (.cells #[.slice A2 m0.length c2, .int .i64 R, .slice Aa la.length ca, .int .i64 ra] 26)) (w2.heap.size + 1) A2 m0 c2 R Aa la ca ra from
    ⟨heap_new hsz, N2.below hal2, (show NowN w2 Aa la from hA2.rd).below hal2⟩)
  have HB3 := Lib.hid hbw3
  have HK3 := Lib.hid ((hal2.block _ (lt_heap6 ((hb2.block _ (lt_heap6 HK1.out)).trans HK1.out))).trans ((hb2.block _ (lt_heap6 HK1.out)).trans HK1.out))
  have s0 := hA2.s0
  have s1 := hA2.s1
  have s0 : ∀ o, (w2.alloc o).cell? ⟨w.heap.size, 0, none⟩ = some (.slice Aa la.length ca) := fun o => (World.cell?_alloc_lt w2 o _ (block_lt_of_cell s0)).trans s0
  have s1 : ∀ o, (w2.alloc o).cell? ⟨w.heap.size, 1, none⟩ = some (.int .i64 ra) := fun o => (World.cell?_alloc_lt w2 o _ (block_lt_of_cell s1)).trans s1
  have HCAP := Lib.hid (show m0.length ≤ c2 ∧ la.length ≤ ca from ⟨hcap2, hA2.cap⟩)
  clear hs1 hb2 hal hal2 hsz hA2 hbw3 HB1 HA1 HK1 N2
  go_wp2_with fail
  clear s0 s1
  generalize ((w2.alloc (.cells #[.slice A2 m0.length c2, .int .i64 R] 26)).alloc (.cells #[.slice A2 m0.length c2, .int .i64 R, .slice Aa la.length ca, .int .i64 ra] 26)) = w3 at *
  generalize w2.heap.size = b2 at *
  have HSR := Lib.hid ((Cel.Rd.below HS.out HB3.out (Nat.le_refl _)).more HB3.out.size)
  have HBR := Lib.hid ((Cel.Rd.below HB.out HB3.out (Nat.le_refl _)).more HB3.out.size)
  clear HR HB HS
  go_loopw [67] (fun u wr => ∃ j : Nat, j ≤ 2 ∧ u = .int .i64 j ∧ Hid (Below w3.heap.size w3 wr)) (fun u _ => 2 - (intOf u).toNat)
  case atStart => exact ⟨0, by omega, rfl, Below.refl _ _⟩
  case round =>
    obtain ⟨j, hj, rfl, HH⟩ := hrel
    by_cases hj2 : j < 2
    · have hj2z : (j : Int) < 2 := by omega
      obtain ⟨As, ls, cs, ro, c0, c1, N, hcs, hP⟩ := (HT3.out.below HH.out).one HCAP.out.1 HCAP.out.2 (fun ls => ls.length ≤ 9223372036854775807 ∧ ∀ i, i < ls.length → -9223372036854775808 ≤ (ls.getD i deadN).1 ∧ (ls.getD i deadN).1 ≤ 9223372036854775807) ⟨by omega, HLV.out⟩ ⟨hla, HLA.out⟩ hj2
      have hlsb := hP.1
      have HLS := Lib.hid hP.2
      have hal := (Below.refl wr.heap.size wr).alloc (Nat.le_refl _) (.cells #[.slice As ls.length cs, .int .i64 ro] 26)
      have HSx := Lib.hid (stB_new N hcs ro)
      have HA3 := Lib.hid (Qt.more HH.out HH.out.size hal)
      have s0 := HSx.out.s0
      have s1 := HSx.out.s1
      obtain ⟨wo, rfl⟩ : ∃ wo : World, wo = wr := ⟨_, rfl⟩
      clear hP hal N HH
      by_cases hbig : 250 < ls.length
      · have hbz : (250 : Int) < (ls.length : Int) := by omega
        go_wp2_with fail
        go_roundw
        case measure => simp [intOf]; omega
        case rel => exact ⟨j + 1, by omega, by go_num, HA3.out⟩
      · have hbz : ¬ (250 : Int) < (ls.length : Int) := by omega
        go_wp2_with fail
        generalize (wo.alloc (.cells #[.slice As ls.length cs, .int .i64 ro] 26)) = v1 at *
        generalize wo.heap.size = bx at *
        clear c0 c1 s0 s1
        have hpb := pickI_bd lev 9 (by decide)
        refine (pick7_any lev 9 v1 hL.1 hL.2 (by decide) (by decide)).mono ?_
        rintro r _ ⟨rfl, rfl⟩
        obtain ⟨lv2, hlv2⟩ : ∃ x, x = pickI lev 9 := ⟨_, rfl⟩
        rw [← hlv2] at hpb ⊢
        have hal := (Below.refl v1.heap.size v1).alloc (Nat.le_refl _) (.cells #[.int .i64 lev, .int .i64 lv2] 3)
        have HF2 := Lib.hid (show F2B (v1.alloc (.cells #[.int .i64 lev, .int .i64 lv2] 3)) v1.heap.size lev lv2 from heap_new rfl)
        have HA4 := Lib.hid (Qt.more HA3.out HA3.out.size hal)
        have HS4 := Lib.hid (HSx.out.below hal)
        clear hal HSx HA3 hlv2
        go_wp2_with fail
        generalize (v1.alloc (.cells #[.int .i64 lev, .int .i64 lv2] 3)) = v2 at *
        generalize v1.heap.size = vb at *
        go_loopw [80] (fun u wr => ∃ i : Nat, i ≤ 2 ∧ u = .int .i64 i ∧ Hid (Below v2.heap.size v2 wr)) (fun u _ => 2 - (intOf u).toNat)
        case atStart => exact ⟨0, by omega, rfl, Below.refl _ _⟩
        case round =>
          obtain ⟨i, hi, rfl, HH⟩ := hrel
          by_cases hi2 : i < 2
          · as_aux_lemma =>
            have hi2z : (i : Int) < 2 := by omega
            obtain ⟨L, hLc, hLb⟩ := HF2.out.one I64 hL (by unfold I64; omega) hi2
            have f0 := Qt.keep HH.out hLc
            clear hLc
            go_wp2_with fail
            clear f0
            obtain ⟨x1, rfl⟩ : ∃ x1 : World, x1 = wr := ⟨_, rfl⟩
            have hX := Qt.more HA4.out HA4.out.size HH.out
            have HRD := Lib.hid (show RdC x1.drew x1.drew.heap.size B rs from (Cel.Rd.below HBR.out (hX.trans ((below_drew x1).mono hX.size)) (Nat.le_refl _)).more (hX.size))
            have HSX := Lib.hid ((Cel.Rd.below HSR.out hX (Nat.le_refl _)).more hX.size)
            have HX := Lib.hid hX
            obtain ⟨kk, hkk⟩ : ∃ kk : Nat, kk = min sc.length 20 := ⟨_, rfl⟩
            have HMIN := Lib.hid (show min (sc.length : Int) 20 = (kk : Int) by omega)
            have HDEC := Lib.hid (show (¬ (sc.length : Int) < 20 ∧ kk = 20) ∨ ((sc.length : Int) < 20 ∧ kk = sc.length) by omega)
            have HKK := Lib.hid (show kk ≤ cc by omega)
            have HKL := Lib.hid (show (sc.take kk).length = kk by rw [List.length_take]; omega)
            have HK20 := Lib.hid (show kk ≤ 20 by omega)
            have HSx1 := Lib.hid (HS4.out.below HH.out)
            have HHx := Lib.hid HH.out
            clear hX hkk HH
            refine region_calm_to (fun W => Below x1.heap.size x1 W) (fun (a0 a9 : Act) (w9 : World) => ∃ A6 c6 b9, a9 = ((((((((((a0.put (some 84) (.slice B rs.length d)).put (some 86) (.slice Ac sc.length cc)).put (some 87) (.slice Ac sc.length cc)).put (some 88) (.int .i64 (sc.length : Int))).put (some 89) (.int .i64 (kk : Int))).put (some 90) (.slice Ac kk cc)).put (some 93) (.int .i64 0)).put (some 85) (.slice A6 (Cel.rawSet rs).length c6)).put (some 91) (.slice (some ⟨b9, 0, none⟩) 2 2)).put (some 92) (.int .i64 2)) ∧ (L2B w9 b9 A6 (Cel.rawSet rs) c6 Ac (sc.take kk) cc ∧ (Cel.rawSet rs).length ≤ c6 ∧ Below x1.heap.size x1 w9)) (.calm 0 (.calm 2 (.calm 3 (.calm 4 (.calm 5 (.calm 6 (.calm 9 (.only 1 (.only 7 (.calm 8 .done)))))))))) (by kernel_rfl) (by kernel_rfl) (by kernel_rfl) (by rfl) (below_drew x1) ?_ ?_
            · skip
              refine ⟨_, _, (.slice B rs.length d), rfl, rfl, ⟨rfl, fun W hW => by first | exact ⟨rfl, rfl⟩ | (simp only [Act.eval, execOp]; go_simp; try exact ⟨rfl, rfl⟩)⟩, ?_⟩
              simp only [Act.put, List.getElem_toArray, List.getElem_cons_zero, List.getElem_cons_succ, List.setIfInBounds_toArray, List.set_cons_succ, List.set_cons_zero]
              refine ⟨_, _, (.slice Ac sc.length cc), rfl, rfl, ⟨rfl, fun W hW => by first | exact ⟨rfl, rfl⟩ | (simp only [Act.eval, execOp]; go_simp; try exact ⟨rfl, rfl⟩)⟩, ?_⟩
              simp only [Act.put, List.getElem_toArray, List.getElem_cons_zero, List.getElem_cons_succ, List.setIfInBounds_toArray, List.set_cons_succ, List.set_cons_zero]
              refine ⟨_, _, (.slice Ac sc.length cc), rfl, rfl, ⟨rfl, fun W hW => by first | exact ⟨rfl, rfl⟩ | (simp only [Act.eval, execOp]; go_simp; try exact ⟨rfl, rfl⟩)⟩, ?_⟩
              simp only [Act.put, List.getElem_toArray, List.getElem_cons_zero, List.getElem_cons_succ, List.setIfInBounds_toArray, List.set_cons_succ, List.set_cons_zero]
              refine ⟨_, _, (.int .i64 (sc.length : Int)), rfl, rfl, ⟨rfl, fun W hW => by first | exact ⟨rfl, rfl⟩ | (simp only [Act.eval, execOp]; go_simp; try exact ⟨rfl, rfl⟩)⟩, ?_⟩
              simp only [Act.put, List.getElem_toArray, List.getElem_cons_zero, List.getElem_cons_succ, List.setIfInBounds_toArray, List.set_cons_succ, List.set_cons_zero]
              refine ⟨_, _, (.int .i64 (kk : Int)), rfl, rfl, ⟨rfl, fun W hW => by rcases HDEC.out with hd1 | ⟨hd1, hd2⟩ <;> (have hmin := HMIN.out; simp only [Act.eval, execOp]; go_simp; try exact ⟨rfl, rfl⟩)⟩, ?_⟩
              simp only [Act.put, List.getElem_toArray, List.getElem_cons_zero, List.getElem_cons_succ, List.setIfInBounds_toArray, List.set_cons_succ, List.set_cons_zero]
              refine ⟨_, _, (.slice Ac kk cc), rfl, rfl, ⟨rfl, fun W hW => by have hto := fun W => slice_to7 (A := Ac) (n := sc.length) (c := cc) (t := kk) HKK.out W; simp only [Act.eval, execOp]; go_simp; try exact ⟨rfl, rfl⟩⟩, ?_⟩
              simp only [Act.put, List.getElem_toArray, List.getElem_cons_zero, List.getElem_cons_succ, List.setIfInBounds_toArray, List.set_cons_succ, List.set_cons_zero]
              refine ⟨_, _, (.int .i64 0), rfl, rfl, ⟨rfl, fun W hW => by first | exact ⟨rfl, rfl⟩ | (simp only [Act.eval, execOp]; go_simp; try exact ⟨rfl, rfl⟩)⟩, ?_⟩
              simp only [Act.put, List.getElem_toArray, List.getElem_cons_zero, List.getElem_cons_succ, List.setIfInBounds_toArray, List.set_cons_succ, List.set_cons_zero]
              refine ⟨_, rfl, ?_⟩
              go_wp2_with fail
              refine (HSET.out _ HRD.out).mono ?_
              rintro r w6 ⟨vv, rfl, ⟨A6, c6, rfl, hc6, hr6⟩, hb6⟩
              have hC := Qt.more (below_drew x1) (below_drew x1).size hb6
              have hal6 := (Below.refl w6.heap.size w6).alloc (Nat.le_refl _) (.cells #[.slice A6 (Cel.rawSet rs).length c6, .slice Ac kk cc] 29)
              have hC9 := Qt.more hC hC.size hal6
              have hL9 : L2B (w6.alloc (.cells #[.slice A6 (Cel.rawSet rs).length c6, .slice Ac kk cc] 29)) w6.heap.size A6 (Cel.rawSet rs) c6 Ac (sc.take kk) cc := ⟨by rw [HKL.out]; exact heap_alloc_new w6 _, (Cel.Rd.below hr6 hal6 (Nat.le_refl _)).more hal6.size, (Cel.Rd.below (rdC_take ((Cel.Rd.below HSX.out hC (Nat.le_refl _)).more hC.size) kk) hal6 (Nat.le_refl _)).more hal6.size⟩
              go_wp2_with fail
              refine ⟨rfl, hC, ?_⟩
              refine ⟨_, rfl, ?_⟩
              go_wp2_with fail
              refine ⟨rfl, hC9, ?_⟩
              refine ⟨_, _, (.int .i64 2), rfl, rfl, ⟨rfl, fun W hW => by first | exact ⟨rfl, rfl⟩ | (simp only [Act.eval, execOp]; go_simp; try exact ⟨rfl, rfl⟩)⟩, ?_⟩
              simp only [Act.put, List.getElem_toArray, List.getElem_cons_zero, List.getElem_cons_succ, List.setIfInBounds_toArray, List.set_cons_succ, List.set_cons_zero]
              refine ⟨A6, c6, w6.heap.size, ?_, hL9, hc6, hC9⟩
              first | rfl | simp only [Act.put, List.getElem_toArray, List.getElem_cons_zero, List.getElem_cons_succ, List.setIfInBounds_toArray, List.set_cons_succ, List.set_cons_zero]
            rintro a9 w4 ⟨A6, c6, b9, rfl, hL4, hc6, hb4⟩
            simp only [Act.put, List.setIfInBounds_toArray, List.set_cons_succ, List.set_cons_zero]
            have HL4 := Lib.hid hL4
            have HS5 := Lib.hid (HSx1.out.below hb4)
            have HB5 := Lib.hid (Qt.more HHx.out HHx.out.size hb4)
            have HC6 := Lib.hid hc6
            clear hL4 hb4 hc6 HRD HSX HMIN HDEC HSx1 HHx HX
            go_wp2_with fail
            go_loopw [93] (fun u wr => ∃ q : Nat, q ≤ 2 ∧ u = .int .i64 q ∧ Hid (Below w4.heap.size w4 wr)) (fun u _ => 2 - (intOf u).toNat)
            case atStart => exact ⟨0, by omega, rfl, Below.refl _ _⟩
            case round =>
              obtain ⟨q, hq, rfl, HH⟩ := hrel
              by_cases hq2 : q < 2
              · as_aux_lemma =>
                have hq2z : (q : Int) < 2 := by omega
                obtain ⟨y0, rfl⟩ : ∃ y0 : World, y0 = wr := ⟨_, rfl⟩
                obtain ⟨Aq, S, cq, p0, hSr, hScq, hS6⟩ := (HL4.out.below HH.out).one HC6.out (by rw [HKL.out]; exact HKK.out) hS60 (by have h1 := HKL.out; have h2 := HK20.out; omega) hq2
                have hS := HS5.out.below HH.out
                have s0 := hS.s0
                have s1 := hS.s1
                have hc := make7_any As ls cs ro Aq S cq L y0 hS.rd (by omega) hcs hSr (by omega) hScq
                have hk := fun W (hW : Below y0.heap.size y0 W) => refMake7_any As ls cs ro Aq S cq L W ((hS.below hW).rd) (by omega) hcs HLS.out ((Cel.Rd.below hSr hW (Nat.le_refl _)).more hW.size) (by omega) hScq
                have hzl := make7_small (l := ls) (room := ro) S L (by omega)
                generalize make7 ls ro S L = z at *
                obtain ⟨zl, zn, ze⟩ := z
                dsimp only at hzl
                unfold storeV at hc hk
                have HK := Lib.hid hk
                have HZL := Lib.hid hzl
                have HS6 := Lib.hid hS
                clear hk hzl hS hSr
                go_wp2_with fail
                refine hc.mono ?_
                intro r w5 h
                obtain ⟨A5, c5, rfl, hcap5, N5, hb5⟩ := putR_box h
                have hal := (Below.refl w5.heap.size w5).alloc (Nat.le_refl _) (.cells #[.slice A5 zl.length c5, .int .i64 ro] 26)
                have HA5 := Lib.hid (stB_new N5 hcap5 ro)
                have HE5 := Lib.hid (Qt.more hb5 hb5.size hal)
                have t0 := (HS6.out.below HE5.out).s0
                have t1 := (HS6.out.below HE5.out).s1
                have hkk := HK.out _ HE5.out
                clear h hc hb5 N5 hal s0 s1 p0 HK
                go_wp2_with fail
                clear t0 t1
                generalize (w5.alloc (.cells #[.slice A5 zl.length c5, .int .i64 ro] 26)) = v5 at *
                generalize w5.heap.size = ba at *
                refine hkk.mono ?_
                intro r w6 h
                obtain ⟨A7, c7, rfl, hcap7, N7, hb6⟩ := putR_box h
                have hal := (Below.refl w6.heap.size w6).alloc (Nat.le_refl _) (.cells #[.slice A7 zl.length c7, .int .i64 ro] 26)
                have HB6 := Lib.hid (stB_new N7 hcap7 ro)
                have HA6 := Lib.hid ((HA5.out.below hb6).below hal)
                have HE6 := Lib.hid (Qt.more HE5.out HE5.out.size (Qt.more (B := v5.heap.size) hb6 hb6.size hal))
                have g0 := HA6.out.s0
                have g1 := HA6.out.s1
                have k0 := HB6.out.s0
                have k1 := HB6.out.s1
                have hsm := refSame6_any A5 zl c5 ro A7 zl c7 ro _ HA6.out.rd HB6.out.rd HZL.out HZL.out
                rw [decide_eq_true (⟨rfl, rfl⟩ : ro = ro ∧ zl = zl)] at hsm
                unfold storeV at hsm
                have hd1 : decide (zn = zn) = true := decide_eq_true rfl
                have hd2 : decide (ze = ze) = true := decide_eq_true rfl
                clear h hkk hb6 N7 hal HA5 HE5
                go_wp2_with fail
                clear g0 g1 k0 k1
                generalize (w6.alloc (.cells #[.slice A7 zl.length c7, .int .i64 ro] 26)) = v6 at *
                refine hsm.mono ?_
                rintro r w7 ⟨rfl, hb7⟩
                have HE7 := Lib.hid (Qt.more HE6.out HE6.out.size hb7)
                clear hsm hb7 HE6 HA6 HB6
                go_wp2_with fail
                go_roundw
                case measure => simp [intOf]; omega
                case rel => exact ⟨q + 1, by omega, by go_num, HH.out.trans (HE7.out.mono HH.out.size)⟩
              · obtain rfl : q = 2 := by omega
                have hq2z : ¬ ((2 : Nat) : Int) < 2 := by decide
                have HBQ := Lib.hid (HB5.out.trans (HH.out.mono HB5.out.size))
                clear HH
                go_wp2_with fail
                go_roundw
                case measure => simp [intOf]; omega
                case rel => exact ⟨i + 1, by omega, by go_num, HBQ.out⟩
          · as_aux_lemma =>
            obtain rfl : i = 2 := by omega
            have hi2z : ¬ ((2 : Nat) : Int) < 2 := by decide
            have HAB := Lib.hid (Qt.more HA4.out HA4.out.size HH.out)
            have HSB := Lib.hid (HS4.out.below HH.out)
            have s0 := HSB.out.s0
            clear HH HF2 HA4 HS4
            go_wp2_with fail
            have hw1 : IntKind.i64.wrap ((ls.length : Int) + 1) = (ls.length : Int) + 1 := by rw [IntKind.wrap_i64]; omega
            obtain ⟨x2, rfl⟩ : ∃ x2 : World, x2 = wr := ⟨_, rfl⟩
            go_wp2_with fail
            have hpb := pickI_bd n ((ls.length : Int) + 1) (by omega)
            refine (pick7_any n ((ls.length : Int) + 1) _ hIn.1 hIn.2 (by omega) (by omega)).mono ?_
            rintro r _ ⟨rfl, rfl⟩
            obtain ⟨u, hu⟩ : ∃ u, u = pickI n ((ls.length : Int) + 1) := ⟨_, rfl⟩
            rw [← hu] at hpb ⊢
            have hal := (Below.refl x2.heap.size x2).alloc (Nat.le_refl _) (.cells #[.int .i64 n, .int .i64 u, .int .i64 (nq : Int)] 3)
            have HF3 := Lib.hid (show F3B (x2.alloc (.cells #[.int .i64 n, .int .i64 u, .int .i64 (nq : Int)] 3)) x2.heap.size n u (nq : Int) from heap_new rfl)
            have HA5 := Lib.hid (Qt.more HAB.out HAB.out.size hal)
            have HS5 := Lib.hid (HSB.out.below hal)
            clear hal hu hpb hw1 HAB HSB s0
            go_wp2_with fail
            generalize (x2.alloc (.cells #[.int .i64 n, .int .i64 u, .int .i64 (nq : Int)] 3)) = v5 at *
            generalize x2.heap.size = pb at *
            go_loopw [139] (fun v wr => ∃ p : Nat, p ≤ 3 ∧ v = .int .i64 p ∧ Hid (Below v5.heap.size v5 wr)) (fun v _ => 3 - (intOf v).toNat)
            case atStart => exact ⟨0, by omega, rfl, Below.refl _ _⟩
            case round =>
              obtain ⟨p, hp, rfl, HH⟩ := hrel
              by_cases hp3 : p < 3
              · as_aux_lemma =>
                have hp3z : (p : Int) < 3 := by omega
                obtain ⟨m, hm0⟩ := HF3.out.one hp3
                have f0 := Qt.keep HH.out hm0
                clear hm0
                obtain ⟨x0, rfl⟩ : ∃ x0 : World, x0 = wr := ⟨_, rfl⟩
                have hS := HS5.out.below HH.out
                have s0 := hS.s0
                have s1 := hS.s1
                have hc := cells7_any As ls cs ro m x0 hS.rd (by omega) hcs
                have hk1 := fun W (hW : Below x0.heap.size x0 W) => refCells7_any As ls cs ro m W ((hS.below hW).rd) (by omega) hcs HLS.out
                have hk2 := fun W (hW : Below x0.heap.size x0 W) => box7_any As ls cs ro m W ((hS.below hW).rd) (by omega) hcs
                have hk3 := fun W (hW : Below x0.heap.size x0 W) => refBox7_any As ls cs ro m W ((hS.below hW).rd) (by omega) hcs HLS.out
                have hk4 := fun W (hW : Below x0.heap.size x0 W) => grow7_any As ls cs ro m W ((hS.below hW).rd) (by omega) hcs
                have hk5 := fun W (hW : Below x0.heap.size x0 W) => refGrow7_any As ls cs ro m W ((hS.below hW).rd) (by omega) hcs HLS.out
                have hcl := cells7_small ls ro m
                have hgl := grow7_small (l := ls) (room := ro) m (by omega)
                generalize cells7 ls ro m = cz at *
                obtain ⟨cl, ce⟩ := cz
                generalize box7 ls ro m (hasB ls m) = bz at *
                obtain ⟨⟨qx, qy, qw, qh⟩, qb⟩ := bz
                generalize grow7 ls ro m = z at *
                obtain ⟨zl, zn, ze⟩ := z
                dsimp only at hcl hgl
                unfold storeV at hc hk1 hk2 hk3 hk4 hk5
                unfold BoxR boxV at hk2 hk3
                dsimp only at hk2 hk3
                have HK1 := Lib.hid hk1
                have HK2 := Lib.hid hk2
                have HK3 := Lib.hid hk3
                have HK4 := Lib.hid hk4
                have HK5 := Lib.hid hk5
                have HCL := Lib.hid hcl
                have HGL := Lib.hid hgl
                have HS6 := Lib.hid hS
                clear hk1 hk2 hk3 hk4 hk5 hcl hgl hS
                go_wp2_with fail
                clear f0
                refine hc.mono ?_
                rintro r w1' ⟨Ap, cp, rfl, hcp, hRp, hb1⟩
                dsimp only at hcp hRp
                have HE1 := Lib.hid hb1
                have HRp := Lib.hid hRp
                have t0 := (HS6.out.below HE1.out).s0
                have t1 := (HS6.out.below HE1.out).s1
                have hkk := HK1.out _ HE1.out
                clear hc hb1 hRp s0 s1 HK1
                go_wp2_with fail
                clear t0 t1
                refine hkk.mono ?_
                rintro r w2' ⟨Aq, cq, rfl, hcq, hRq, hb2⟩
                dsimp only at hcq hRq
                have HE2 := Lib.hid (Qt.more HE1.out HE1.out.size hb2)
                have HRp2 := Lib.hid ((Cel.Rd.below HRp.out hb2 (Nat.le_refl _)).more hb2.size)
                have HRq2 := Lib.hid hRq
                have t0 := (HS6.out.below HE2.out).s0
                have t1 := (HS6.out.below HE2.out).s1
                have hkk := HK2.out _ HE2.out
                clear hb2 hRq HE1 HRp HK2
                go_wp2_with fail
                clear t0 t1
                refine hkk.mono ?_
                rintro r w3' ⟨rfl, hb3⟩
                have hal := (Below.refl w3'.heap.size w3').alloc (Nat.le_refl _) (.cells #[.int .i64 qx, .int .i64 qy, .int .i64 qw, .int .i64 qh] 45)
                have hbb := Qt.more hb3 hb3.size hal
                have HE3 := Lib.hid (Qt.more HE2.out HE2.out.size hbb)
                have HRp3 := Lib.hid ((Cel.Rd.below HRp2.out hbb (Nat.le_refl _)).more hbb.size)
                have HRq3 := Lib.hid ((Cel.Rd.below HRq2.out hbb (Nat.le_refl _)).more hbb.size)
                have HX3 := Lib.hid (show BR (w3'.alloc (.cells #[.int .i64 qx, .int .i64 qy, .int .i64 qw, .int .i64 qh] 45)) w3'.heap.size (qx, qy, qw, qh) from heap_new rfl)
                have t0 := (HS6.out.below HE3.out).s0
                have t1 := (HS6.out.below HE3.out).s1
                have hkk := HK3.out _ HE3.out
                clear hb3 hal hbb HE2 HRp2 HRq2 HK3
                go_wp2_with fail
                clear t0 t1
                generalize (w3'.alloc (.cells #[.int .i64 qx, .int .i64 qy, .int .i64 qw, .int .i64 qh] 45)) = v3 at *
                generalize w3'.heap.size = p1 at *
                refine hkk.mono ?_
                rintro r w4' ⟨rfl, hb4⟩
                have hal := (Below.refl w4'.heap.size w4').alloc (Nat.le_refl _) (.cells #[.int .i64 qx, .int .i64 qy, .int .i64 qw, .int .i64 qh] 45)
                have hbb := Qt.more hb4 hb4.size hal
                have HE4 := Lib.hid (Qt.more HE3.out HE3.out.size hbb)
                have HRp4 := Lib.hid ((Cel.Rd.below HRp3.out hbb (Nat.le_refl _)).more hbb.size)
                have HRq4 := Lib.hid ((Cel.Rd.below HRq3.out hbb (Nat.le_refl _)).more hbb.size)
                have HX4 := Lib.hid (HX3.out.below hbb)
                have HY4 := Lib.hid (show BR (w4'.alloc (.cells #[.int .i64 qx, .int .i64 qy, .int .i64 qw, .int .i64 qh] 45)) w4'.heap.size (qx, qy, qw, qh) from heap_new rfl)
                have t0 := (HS6.out.below HE4.out).s0
                have t1 := (HS6.out.below HE4.out).s1
                have hkk := HK4.out _ HE4.out
                clear hb4 hal hbb HE3 HRp3 HRq3 HX3 HK4
                go_wp2_with fail
                clear t0 t1
                generalize (w4'.alloc (.cells #[.int .i64 qx, .int .i64 qy, .int .i64 qw, .int .i64 qh] 45)) = v4 at *
                generalize w4'.heap.size = p2 at *
                refine hkk.mono ?_
                intro r w5' h
                obtain ⟨A5, c5, rfl, hcap5, N5, hb5⟩ := putR_box h
                have hal := (Below.refl w5'.heap.size w5').alloc (Nat.le_refl _) (.cells #[.slice A5 zl.length c5, .int .i64 ro] 26)
                have hbb := Qt.more hb5 hb5.size hal
                have HE5 := Lib.hid (Qt.more HE4.out HE4.out.size hbb)
                have HRp5 := Lib.hid ((Cel.Rd.below HRp4.out hbb (Nat.le_refl _)).more hbb.size)
                have HRq5 := Lib.hid ((Cel.Rd.below HRq4.out hbb (Nat.le_refl _)).more hbb.size)
                have HX5 := Lib.hid (HX4.out.below hbb)
                have HY5 := Lib.hid (HY4.out.below hbb)
                have HG5 := Lib.hid (stB_new N5 hcap5 ro)
                have HGA := Lib.hid (show x0.heap.size ≤ w5'.heap.size from Nat.le_trans HE4.out.size hb5.size)
                have t0 := (HS6.out.below HE5.out).s0
                have t1 := (HS6.out.below HE5.out).s1
                have hkk := HK5.out _ HE5.out
                clear h hb5 hal hbb N5 HE4 HRp4 HRq4 HX4 HY4 HK5
                go_wp2_with fail
                clear t0 t1
                generalize (w5'.alloc (.cells #[.slice A5 zl.length c5, .int .i64 ro] 26)) = g5 at *
                generalize w5'.heap.size = ga at *
                refine hkk.mono ?_
                intro r w6' h
                obtain ⟨A7, c7, rfl, hcap7, N7, hb6⟩ := putR_box h
                have hal := (Below.refl w6'.heap.size w6').alloc (Nat.le_refl _) (.cells #[.slice A7 zl.length c7, .int .i64 ro] 26)
                have hbb := Qt.more hb6 hb6.size hal
                have HGB := Lib.hid (show ga < w6'.heap.size from Nat.lt_of_lt_of_le (lt_heap6 HG5.out.row) hb6.size)
                have HE6 := Lib.hid (Qt.more HE5.out HE5.out.size hbb)
                have hRp6 := (Cel.Rd.below HRp5.out hbb (Nat.le_refl _)).more hbb.size
                have hRq6 := (Cel.Rd.below HRq5.out hbb (Nat.le_refl _)).more hbb.size
                have HX6 := Lib.hid (HX5.out.below hbb)
                have HY6 := Lib.hid (HY5.out.below hbb)
                have HG6 := Lib.hid (HG5.out.below hbb)
                have HH6 := Lib.hid (stB_new N7 hcap7 ro)
                have hsame := Cel.same_holds (c := cp) (c' := cq) hRp6 hRq6 HCL.out
                rw [decide_eq_true (rfl : cl = cl)] at hsame
                clear h hb6 hal hbb N7 hRp6 hRq6 HE5 HRp5 HRq5 HX5 HY5 HG5
                go_wp2_with fail
                generalize (w6'.alloc (.cells #[.slice A7 zl.length c7, .int .i64 ro] 26)) = g6 at *
                generalize w6'.heap.size = gb at *
                refine hsame.mono ?_
                rintro r w7' ⟨rfl, hb7⟩
                have HE7 := Lib.hid (Qt.more HE6.out HE6.out.size hb7)
                obtain ⟨m0', m1', m2', m3'⟩ := (HX6.out.below hb7).c
                obtain ⟨n0', n1', n2', n3'⟩ := (HY6.out.below hb7).c
                have HG7 := Lib.hid (HG6.out.below hb7)
                have HH7 := Lib.hid (HH6.out.below hb7)
                have g0 := HG7.out.s0
                have g1 := HG7.out.s1
                have k0 := HH7.out.s0
                have k1 := HH7.out.s1
                have hsm := refSame6_any A5 zl c5 ro A7 zl c7 ro _ HG7.out.rd HH7.out.rd HGL.out HGL.out
                rw [decide_eq_true (⟨rfl, rfl⟩ : ro = ro ∧ zl = zl)] at hsm
                unfold storeV at hsm
                have hd0 : decide (ce = ce) = true := decide_eq_true rfl
                have hneq := fun W => neqBox7 qx qy qw qh W
                dsimp only at m0' m1' m2' m3' n0' n1' n2' n3'
                clear hsame hb7 HE6 HX6 HY6 HG6 HH6
                go_wp2_with fail
                clear m0' m1' m2' m3' n0' n1' n2' n3' g0 g1 k0 k1 hneq
                refine hsm.mono ?_
                rintro r w8' ⟨rfl, hb8⟩
                have HE8 := Lib.hid (Qt.more HE7.out HE7.out.size hb8)
                have HG8 := Lib.hid (HG7.out.below hb8).row
                have HH8 := Lib.hid (HH7.out.below hb8).row
                have HGC := Lib.hid (show gb < w8'.heap.size from lt_heap6 HH8.out)
                have hd1 : decide (zn = zn) = true := decide_eq_true rfl
                have hd2 : decide (ze = ze) = true := decide_eq_true rfl
                clear hsm hb8 HE7 HG7 HH7
                go_wp2_with fail
                clear hd0 hd1 hd2
                obtain ⟨x9, rfl⟩ : ∃ x9 : World, x9 = w8' := ⟨_, rfl⟩
                have hx9 : Below w3.heap.size w3 x9 := Qt.more (Qt.more HA5.out HA5.out.size HH.out) (Qt.more HA5.out HA5.out.size HH.out).size HE8.out
                have HKX := Lib.hid ((hx9.block _ (lt_heap6 HK3.out)).trans HK3.out)
                have hbx := pickI_bd kx 18 (by decide)
                have hby := pickI_bd ky 18 (by decide)
                have hpx := fun W => pick7_any kx 18 W hKc.1.1 hKc.1.2 (by decide) (by decide)
                have hpy := fun W => pick7_any ky 18 W hKc.2.1 hKc.2.2 (by decide) (by decide)
                generalize pickI kx 18 = px at *
                generalize pickI ky 18 = py at *
                have hwx : IntKind.i64.wrap (px - 9) = px - 9 := by rw [IntKind.wrap_i64]; omega
                have hwy : IntKind.i64.wrap (py - 9) = py - 9 := by rw [IntKind.wrap_i64]; omega
                have hB9 := (below_drew x9).alloc (Nat.le_refl _) (.cells #[.int .i64 kx, .int .i64 ky, .int .i64 (px - 9), .int .i64 (py - 9)] 28)
                have HC9 := Lib.hid (show C2B (x9.drew.alloc (.cells #[.int .i64 kx, .int .i64 ky, .int .i64 (px - 9), .int .i64 (py - 9)] 28)) x9.heap.size (kx, ky) (px - 9, py - 9) from heap_alloc_new x9.drew _)
                have HB9 := Lib.hid hB9
                have HP9 := Lib.hid (show (-9 ≤ px - 9 ∧ px - 9 ≤ 8) ∧ (-9 ≤ py - 9 ∧ py - 9 ≤ 8) by omega)
                clear hB9 hbx hby hx9
                refine region_calm_to (fun W => Below x9.heap.size x9 W) (fun (a0 a9 : Act) (w9 : World) => a9 = (((((((((((((a0.put (some 216) (.agg #[.int .i64 kx, .int .i64 ky])).put (some 217) (.pointer (some ⟨w.heap.size + 1, 0, none⟩))).put (some 218) (.int .i64 kx)).put (some 221) (.pointer (some ⟨w.heap.size + 1, 1, none⟩))).put (some 222) (.int .i64 ky)).put (some 228) (.int .i64 0)).put (some 219) (.int .i64 px)).put (some 220) (.int .i64 (px - 9))).put (some 223) (.int .i64 py)).put (some 224) (.int .i64 (py - 9))).put (some 225) (.agg #[.int .i64 (px - 9), .int .i64 (py - 9)])).put (some 226) (.slice (some ⟨x9.heap.size, 0, none⟩) 2 2)).put (some 227) (.int .i64 2)) ∧ (C2B w9 x9.heap.size (kx, ky) (px - 9, py - 9) ∧ Below x9.heap.size x9 w9)) (.calm 0 (.calm 1 (.calm 2 (.calm 5 (.calm 6 (.calm 12 (.calm 3 (.calm 4 (.calm 7 (.calm 8 (.calm 9 (.only 10 (.calm 11 .done))))))))))))) (by kernel_rfl) (by kernel_rfl) (by kernel_rfl) (by rfl) (below_drew x9) ?_ ?_
                · skip
                  refine ⟨_, _, (.agg #[.int .i64 kx, .int .i64 ky]), rfl, rfl, ⟨rfl, fun W hW => by
                    have hrow := (hW.block _ (lt_heap6 HKX.out)).trans HKX.out
                    have k0 : W.cell? ⟨w.heap.size + 1, 0, none⟩ = some (.int .i64 kx) := by rw [Lib.cell_of_heap hrow]; rfl
                    have k1 : W.cell? ⟨w.heap.size + 1, 1, none⟩ = some (.int .i64 ky) := by rw [Lib.cell_of_heap hrow]; rfl
                    simp only [execOp]; go_simp; done⟩, ?_⟩
                  simp only [Act.put, List.getElem_toArray, List.getElem_cons_zero, List.getElem_cons_succ, List.setIfInBounds_toArray, List.set_cons_succ, List.set_cons_zero]
                  refine ⟨_, _, (.pointer (some ⟨w.heap.size + 1, 0, none⟩)), rfl, rfl, ⟨rfl, fun W hW => by first | exact ⟨rfl, rfl⟩ | (simp only [Act.eval, execOp]; go_simp; try exact ⟨rfl, rfl⟩)⟩, ?_⟩
                  simp only [Act.put, List.getElem_toArray, List.getElem_cons_zero, List.getElem_cons_succ, List.setIfInBounds_toArray, List.set_cons_succ, List.set_cons_zero]
                  refine ⟨_, _, (.int .i64 kx), rfl, rfl, ⟨rfl, fun W hW => by
                    have hrow := (hW.block _ (lt_heap6 HKX.out)).trans HKX.out
                    have k0 : W.cell? ⟨w.heap.size + 1, 0, none⟩ = some (.int .i64 kx) := by rw [Lib.cell_of_heap hrow]; rfl
                    have k1 : W.cell? ⟨w.heap.size + 1, 1, none⟩ = some (.int .i64 ky) := by rw [Lib.cell_of_heap hrow]; rfl
                    simp only [execOp]; go_simp; done⟩, ?_⟩
                  simp only [Act.put, List.getElem_toArray, List.getElem_cons_zero, List.getElem_cons_succ, List.setIfInBounds_toArray, List.set_cons_succ, List.set_cons_zero]
                  refine ⟨_, _, (.pointer (some ⟨w.heap.size + 1, 1, none⟩)), rfl, rfl, ⟨rfl, fun W hW => by first | exact ⟨rfl, rfl⟩ | (simp only [Act.eval, execOp]; go_simp; try exact ⟨rfl, rfl⟩)⟩, ?_⟩
                  simp only [Act.put, List.getElem_toArray, List.getElem_cons_zero, List.getElem_cons_succ, List.setIfInBounds_toArray, List.set_cons_succ, List.set_cons_zero]
                  refine ⟨_, _, (.int .i64 ky), rfl, rfl, ⟨rfl, fun W hW => by
                    have hrow := (hW.block _ (lt_heap6 HKX.out)).trans HKX.out
                    have k0 : W.cell? ⟨w.heap.size + 1, 0, none⟩ = some (.int .i64 kx) := by rw [Lib.cell_of_heap hrow]; rfl
                    have k1 : W.cell? ⟨w.heap.size + 1, 1, none⟩ = some (.int .i64 ky) := by rw [Lib.cell_of_heap hrow]; rfl
                    simp only [execOp]; go_simp; done⟩, ?_⟩
                  simp only [Act.put, List.getElem_toArray, List.getElem_cons_zero, List.getElem_cons_succ, List.setIfInBounds_toArray, List.set_cons_succ, List.set_cons_zero]
                  refine ⟨_, _, (.int .i64 0), rfl, rfl, ⟨rfl, fun W hW => by first | exact ⟨rfl, rfl⟩ | (simp only [Act.eval, execOp]; go_simp; try exact ⟨rfl, rfl⟩)⟩, ?_⟩
                  simp only [Act.put, List.getElem_toArray, List.getElem_cons_zero, List.getElem_cons_succ, List.setIfInBounds_toArray, List.set_cons_succ, List.set_cons_zero]
                  refine ⟨_, _, (.int .i64 px), rfl, rfl, ⟨rfl, fun W hW => by simp only [execOp]; go_simp; exact (hpx W).mono fun e w1 h => ⟨h.1, h.2.symm⟩⟩, ?_⟩
                  simp only [Act.put, List.getElem_toArray, List.getElem_cons_zero, List.getElem_cons_succ, List.setIfInBounds_toArray, List.set_cons_succ, List.set_cons_zero]
                  refine ⟨_, _, (.int .i64 (px - 9)), rfl, rfl, ⟨rfl, fun W hW => by first | exact ⟨rfl, rfl⟩ | (simp only [Act.eval, execOp]; go_simp; try exact ⟨rfl, rfl⟩)⟩, ?_⟩
                  simp only [Act.put, List.getElem_toArray, List.getElem_cons_zero, List.getElem_cons_succ, List.setIfInBounds_toArray, List.set_cons_succ, List.set_cons_zero]
                  refine ⟨_, _, (.int .i64 py), rfl, rfl, ⟨rfl, fun W hW => by simp only [execOp]; go_simp; exact (hpy W).mono fun e w1 h => ⟨h.1, h.2.symm⟩⟩, ?_⟩
                  simp only [Act.put, List.getElem_toArray, List.getElem_cons_zero, List.getElem_cons_succ, List.setIfInBounds_toArray, List.set_cons_succ, List.set_cons_zero]
                  refine ⟨_, _, (.int .i64 (py - 9)), rfl, rfl, ⟨rfl, fun W hW => by first | exact ⟨rfl, rfl⟩ | (simp only [Act.eval, execOp]; go_simp; try exact ⟨rfl, rfl⟩)⟩, ?_⟩
                  simp only [Act.put, List.getElem_toArray, List.getElem_cons_zero, List.getElem_cons_succ, List.setIfInBounds_toArray, List.set_cons_succ, List.set_cons_zero]
                  refine ⟨_, _, (.agg #[.int .i64 (px - 9), .int .i64 (py - 9)]), rfl, rfl, ⟨rfl, fun W hW => by first | exact ⟨rfl, rfl⟩ | (simp only [Act.eval, execOp]; go_simp; try exact ⟨rfl, rfl⟩)⟩, ?_⟩
                  simp only [Act.put, List.getElem_toArray, List.getElem_cons_zero, List.getElem_cons_succ, List.setIfInBounds_toArray, List.set_cons_succ, List.set_cons_zero]
                  refine ⟨_, rfl, ?_⟩
                  go_wp2_with fail
                  refine ⟨rfl, HB9.out, ?_⟩
                  refine ⟨_, _, (.int .i64 2), rfl, rfl, ⟨rfl, fun W hW => by first | exact ⟨rfl, rfl⟩ | (simp only [Act.eval, execOp]; go_simp; try exact ⟨rfl, rfl⟩)⟩, ?_⟩
                  simp only [Act.put, List.getElem_toArray, List.getElem_cons_zero, List.getElem_cons_succ, List.setIfInBounds_toArray, List.set_cons_succ, List.set_cons_zero]
                  refine ⟨?_, HC9.out, HB9.out⟩
                  first | rfl | simp only [Act.put, List.getElem_toArray, List.getElem_cons_zero, List.getElem_cons_succ, List.setIfInBounds_toArray, List.set_cons_succ, List.set_cons_zero]
                rintro a9 w10 ⟨rfl, hC10, hb10⟩
                simp only [Act.put, List.setIfInBounds_toArray, List.set_cons_succ, List.set_cons_zero]
                have HE10 := Lib.hid (Qt.more HE8.out HE8.out.size hb10)
                have HG10 := Lib.hid ((hb10.block _ (lt_heap6 HG8.out)).trans HG8.out)
                have HH10 := Lib.hid ((hb10.block _ (lt_heap6 HH8.out)).trans HH8.out)
                have HC10 := Lib.hid hC10
                have HGD := Lib.hid (show gb < x9.heap.size from HGC.out)
                clear hC10 hb10 hpx hpy hwx hwy HC9 HB9 HKX HE8 HG8 HH8 HGC
                generalize x9.heap.size = cb at *
                generalize px - 9 = ax at *
                generalize py - 9 = ay at *
                go_wp2_with fail
                go_loopw [228] (fun v wr => ∃ q : Nat, q ≤ 2 ∧ v = .int .i64 q ∧ Hid (SeBt x0 wr ga gb cb kx ky ax ay)) (fun v _ => 2 - (intOf v).toNat)
                case atStart => exact ⟨0, by omega, rfl, ⟨⟨_, _, HG10.out⟩, ⟨_, _, HH10.out⟩, HC10.out, HE10.out⟩⟩
                case round =>
                  obtain ⟨q, hq, rfl, HQ⟩ := hrel
                  by_cases hq2 : q < 2
                  · as_aux_lemma =>
                    have hq2z : (q : Int) < 2 := by omega
                    obtain ⟨ux, uy, c0, c1, hu1, hu2⟩ := HQ.out.cc.one (fun p => I64 p.1 ∧ I64 p.2) hKc (by have := HP9.out; unfold I64; simp only; omega) hq2
                    simp only at hu1 hu2
                    obtain ⟨y0, rfl⟩ : ∃ y0 : World, y0 = wr := ⟨_, rfl⟩
                    have hal := (Below.refl y0.heap.size y0).alloc (Nat.le_refl _) (.cells #[.int .i64 ux, .int .i64 uy] 28)
                    have hbel := HQ.out.bel
                    have HS9 := Lib.hid ((HS6.out.below hbel).below hal)
                    have HQ1 := Lib.hid (HQ.out.below hal)
                    have HY1 := Lib.hid (show (y0.alloc (.cells #[.int .i64 ux, .int .i64 uy] 28)).heap[y0.heap.size]? = some (.cells #[.int .i64 ux, .int .i64 uy] 28 (0, 0)) from heap_alloc_new y0 _)
                    have s0 := HS9.out.s0
                    have s1 := HS9.out.s1
                    have hc := get7_any As ls cs ro m (ux, uy) _ HS9.out.rd (by omega) hcs hu1 hu2
                    have HYG := Lib.hid (show ga < y0.heap.size ∧ gb < y0.heap.size from by
                      obtain ⟨⟨_, _, h1⟩, ⟨_, _, h2⟩, _, _⟩ := HQ.out
                      exact ⟨lt_heap6 h1, lt_heap6 h2⟩)
                    clear hal hbel HQ
                    unfold storeV cellV at hc
                    go_wp2_with fail
                    clear c0 c1
                    generalize (y0.alloc (.cells #[.int .i64 ux, .int .i64 uy] 28)) = e1 at *
                    generalize y0.heap.size = yb at *
                    have hk1 := fun W (hW : Below e1.heap.size e1 W) => refGet7_any As ls cs ro m (ux, uy) W ((HS9.out.below hW).rd) (by omega) hcs HLS.out hu1 hu2
                    have hk2 := fun a W (hW : Below e1.heap.size e1 W) => set7_any As ls cs ro m (ux, uy) a W ((HS9.out.below hW).rd) (by omega) hcs hu1 hu2
                    have hk3 := fun a W (hW : Below x0.heap.size x0 W) => refSet7_any As ls cs ro m (ux, uy) a W ((HS6.out.below hW).rd) (by omega) hcs HLS.out hu1 hu2
                    have hsl := fun a => set7_small (l := ls) (room := ro) m (ux, uy) a (by omega)
                    generalize get7 ls ro m (ux, uy) = gz at *
                    obtain ⟨gv, ge⟩ := gz
                    unfold storeV cellV at hk1 hk2 hk3
                    dsimp only at hc hk1 hk2 hk3
                    have HK1 := Lib.hid hk1
                    have HK2 := Lib.hid hk2
                    have HK3s := Lib.hid hk3
                    have HSL := Lib.hid hsl
                    clear hk1 hk2 hk3 hsl s0 s1
                    refine hc.mono ?_
                    rintro r e2 ⟨rfl, hb2⟩
                    have HX2 := Lib.hid hb2
                    have HQ2 := Lib.hid (HQ1.out.below hb2)
                    have HY2 := Lib.hid ((hb2.block _ (lt_heap6 HY1.out)).trans HY1.out)
                    have s0 := (HS9.out.below hb2).s0
                    have s1 := (HS9.out.below hb2).s1
                    have c0 : e2.cell? ⟨yb, 0, none⟩ = some (.int .i64 ux) := by rw [Lib.cell_of_heap HY2.out]; rfl
                    have c1 : e2.cell? ⟨yb, 1, none⟩ = some (.int .i64 uy) := by rw [Lib.cell_of_heap HY2.out]; rfl
                    have hkk := HK1.out e2 hb2
                    clear hc hb2 HQ1 HY1 HK1
                    go_wp2_with fail
                    clear s0 s1 c0 c1
                    refine hkk.mono ?_
                    rintro r e3 ⟨rfl, hb3⟩
                    have hX3 := Qt.more HX2.out HX2.out.size hb3
                    have HX3 := Lib.hid hX3
                    have HQ3 := Lib.hid (HQ2.out.below hb3)
                    have HY3 := Lib.hid ((hb3.block _ (lt_heap6 HY2.out)).trans HY2.out)
                    have s0 := (HS9.out.below hX3).s0
                    have s1 := (HS9.out.below hX3).s1
                    have c0 : e3.cell? ⟨yb, 0, none⟩ = some (.int .i64 ux) := by rw [Lib.cell_of_heap HY3.out]; rfl
                    have c1 : e3.cell? ⟨yb, 1, none⟩ = some (.int .i64 uy) := by rw [Lib.cell_of_heap HY3.out]; rfl
                    have hkk := fun a => HK2.out a e3 hX3
                    clear hb3 hX3 HX2 HQ2 HY2 HK2
                    go_wp2_with fail
                    clear s0 s1 c0 c1
                    have hk := hkk (n.tmod 2 == 0)
                    have hk3 := fun W hW => HK3s.out (n.tmod 2 == 0) W hW
                    have hzl := HSL.out (n.tmod 2 == 0)
                    generalize set7 ls ro m (ux, uy) (n.tmod 2 == 0) = z at *
                    obtain ⟨yl, yn, ye⟩ := z
                    dsimp only at hzl
                    have HK3 := Lib.hid hk3
                    have HYL := Lib.hid hzl
                    clear hkk hk3 hzl HK3s HSL
                    refine hk.mono ?_
                    intro r e4 h
                    obtain ⟨A4, c4, rfl, hcap4, N4, hb4⟩ := putR_box h
                    obtain ⟨⟨gx, gy, hga⟩, ⟨hx, hy, hgb⟩, hcc, hbel⟩ := HQ3.out.below hb4
                    have hY4 := (hb4.block _ (lt_heap6 HY3.out)).trans HY3.out
                    have g0 : e4.cell? ⟨ga, 0, none⟩ = some gx := by rw [Lib.cell_of_heap hga]; rfl
                    have g1 : e4.cell? ⟨ga, 1, none⟩ = some (.int .i64 gy) := by rw [Lib.cell_of_heap hga]; rfl
                    have f0 : e4.frozen? ⟨ga, 0, none⟩ = false := Lib.frozen_of_heap hga 0
                    have f1 : e4.frozen? ⟨ga, 1, none⟩ = false := Lib.frozen_of_heap hga 1
                    have hnab : gb ≠ ga := by have := HGB.out; omega
                    have hnca : cb ≠ ga := by have := HGB.out; have := HGD.out; omega
                    have hncb : cb ≠ gb := by have := HGD.out; omega
                    have hyga : yb ≠ ga := by have := HYG.out; omega
                    have HG5 := Lib.hid (stB_put (room := ro) hga N4 hcap4)
                    have HB5 := Lib.hid (set2_row7 hgb hnab (.slice A4 yl.length c4) (.int .i64 ro))
                    have HC5 := Lib.hid (set2_row7 hcc hnca (.slice A4 yl.length c4) (.int .i64 ro))
                    have HE5 := Lib.hid (below_set27 hbel HGA.out (.slice A4 yl.length c4) (.int .i64 ro))
                    have HY5 := Lib.hid (set2_row7 hY4 hyga (.slice A4 yl.length c4) (.int .i64 ro))
                    have s0 := (HS6.out.below HE5.out).s0
                    have s1 := (HS6.out.below HE5.out).s1
                    have c0 : ((e4.setCell ⟨ga, 0, none⟩ (.slice A4 yl.length c4)).setCell ⟨ga, 1, none⟩ (.int .i64 ro)).cell? ⟨yb, 0, none⟩ = some (.int .i64 ux) := by rw [Lib.cell_of_heap HY5.out]; rfl
                    have c1 : ((e4.setCell ⟨ga, 0, none⟩ (.slice A4 yl.length c4)).setCell ⟨ga, 1, none⟩ (.int .i64 ro)).cell? ⟨yb, 1, none⟩ = some (.int .i64 uy) := by rw [Lib.cell_of_heap HY5.out]; rfl
                    have hkk := HK3.out _ HE5.out
                    clear h hk hb4 N4 hga hgb hcc hbel hY4 HQ3 HY3 HK3 HX3
                    go_wp2_with fail
                    clear s0 s1 c0 c1 g0 g1 f0 f1
                    generalize ((e4.setCell ⟨ga, 0, none⟩ (.slice A4 yl.length c4)).setCell ⟨ga, 1, none⟩ (.int .i64 ro)) = e5 at *
                    refine hkk.mono ?_
                    intro r e6 h
                    obtain ⟨A6, c6, rfl, hcap6, N6, hb6⟩ := putR_box h
                    have hG6 := HG5.out.below hb6
                    have hgb6 := (hb6.block _ (lt_heap6 HB5.out)).trans HB5.out
                    have hcc6 := (hb6.block _ (lt_heap6 HC5.out)).trans HC5.out
                    have g0 : e6.cell? ⟨gb, 0, none⟩ = some hx := by rw [Lib.cell_of_heap hgb6]; rfl
                    have g1 : e6.cell? ⟨gb, 1, none⟩ = some (.int .i64 hy) := by rw [Lib.cell_of_heap hgb6]; rfl
                    have f0 : e6.frozen? ⟨gb, 0, none⟩ = false := Lib.frozen_of_heap hgb6 0
                    have f1 : e6.frozen? ⟨gb, 1, none⟩ = false := Lib.frozen_of_heap hgb6 1
                    have HG7 := Lib.hid (hG6.other7 hgb6 (Ne.symm hnab) (.slice A6 yl.length c6) (.int .i64 ro))
                    have HH7 := Lib.hid (stB_put (room := ro) hgb6 N6 hcap6)
                    have HC7 := Lib.hid (set2_row7 hcc6 hncb (.slice A6 yl.length c6) (.int .i64 ro))
                    have HE7 := Lib.hid (below_set27 (Qt.more HE5.out HE5.out.size hb6) (by have := HGA.out; have := HGB.out; omega) (.slice A6 yl.length c6) (.int .i64 ro) : Below x0.heap.size x0 ((e6.setCell ⟨gb, 0, none⟩ (.slice A6 yl.length c6)).setCell ⟨gb, 1, none⟩ (.int .i64 ro)))
                    have p0 := HG7.out.s0
                    have p1 := HG7.out.s1
                    have q0 := HH7.out.s0
                    have q1 := HH7.out.s1
                    have hsm := refSame6_any A4 yl c4 ro A6 yl c6 ro _ HG7.out.rd HH7.out.rd HYL.out HYL.out
                    rw [decide_eq_true (⟨rfl, rfl⟩ : ro = ro ∧ yl = yl)] at hsm
                    unfold storeV at hsm
                    have hd0 : decide (ge = ge) = true := decide_eq_true rfl
                    have hd1 : decide (yn = yn) = true := decide_eq_true rfl
                    have hd2 : decide (ye = ye) = true := decide_eq_true rfl
                    clear h hkk hb6 N6 hG6 hgb6 hcc6 HG5 HB5 HC5 HE5 HY5
                    go_wp2_with fail
                    clear p0 p1 q0 q1 g0 g1 f0 f1
                    generalize ((e6.setCell ⟨gb, 0, none⟩ (.slice A6 yl.length c6)).setCell ⟨gb, 1, none⟩ (.int .i64 ro)) = e7 at *
                    refine hsm.mono ?_
                    rintro r e8 ⟨rfl, hb8⟩
                    have HF := Lib.hid (show SeBt x0 e8 ga gb cb kx ky ax ay from SeBt.below ⟨⟨_, _, HG7.out.row⟩, ⟨_, _, HH7.out.row⟩, HC7.out, HE7.out⟩ hb8)
                    clear hsm hb8 HG7 HH7 HC7 HE7
                    go_wp2_with fail
                    go_roundw
                    case measure => simp [intOf]; omega
                    case rel => exact ⟨q + 1, by omega, by go_num, HF.out⟩
                  · obtain rfl : q = 2 := by omega
                    have hq2z : ¬ ((2 : Nat) : Int) < 2 := by decide
                    have HBF := Lib.hid (HH.out.trans (HQ.out.bel.mono HH.out.size))
                    clear HQ
                    go_wp2_with fail
                    go_roundw
                    case measure => simp [intOf]; omega
                    case rel => exact ⟨p + 1, by omega, by go_num, HBF.out⟩
              · obtain rfl : p = 3 := by omega
                have hp3z : ¬ ((3 : Nat) : Int) < 3 := by decide
                have HBQ := Lib.hid (HA5.out.trans (HH.out.mono HA5.out.size))
                clear HH
                go_wp2_with fail
                go_roundw
                case measure => simp [intOf]; omega
                case rel => exact ⟨j + 1, by omega, by go_num, HBQ.out⟩
    · obtain rfl : j = 2 := by omega
      have hj2z : ¬ ((2 : Nat) : Int) < 2 := by decide
      have HBF := Lib.hid (HB3.out.trans (HH.out.mono HB3.out.size))
      clear HH
      go_wp2_with fail
      go_ret
      exact ⟨rfl, HBF.out⟩
end Go.Proofs.YtmmaeikeafemaaaGreat
