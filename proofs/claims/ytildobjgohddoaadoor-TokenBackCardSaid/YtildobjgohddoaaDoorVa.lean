/-
  TokenBack: what items are told as, blanks between, is read as these: the walk.
-/
import Derived.Test.YtildobjgohddoaaDoorUl
import Derived.Test.YtildobjgohddoaaDoorUm
namespace Go.Proofs.YtildobjgohddoaaDoor
set_option linter.unusedVariables false
set_option linter.unusedSimpArgs false
open Go.RowKit Go.Sort

theorem frozen_alloc {w : World} {b j : Nat} (h : b < w.heap.size) (o : Obj) : (w.alloc o).frozen? ⟨b, j, none⟩ = w.frozen? ⟨b, j, none⟩ := World.frozen?_of_block (Lib.alloc_old w o b h)
theorem getD_memI {l : List Int} {k : Nat} (h : k < l.length) : l.getD k 0 ∈ l := by
  rw [List.getD_eq_getElem?_getD, List.getElem?_eq_getElem h]
  exact List.getElem_mem h
theorem itemL_at (t : UInt8) (n p : Nat) : itemE (t, (n : Int), (p : Int)) = itemL (t, n, 0) := itemE_up (t, n, p)

set_option maxHeartbeats 4000000 in
set_option maxRecDepth 100000 in
theorem tokenBack_walk (A : Option Addr) (raw : List (Int × Int)) (c : Nat) (A' : Option Addr) (bl : List Int) (c' : Nat) (w : World) (hR : RdP w w.heap.size A raw) (hl : raw.length ≤ 9223372036854775807) (hc : raw.length ≤ c) (hw : ∀ p ∈ raw, I64 p.1 ∧ I64 p.2)
    (hR' : Rd w w.heap.size A' bl) (hl' : bl.length ≤ 9223372036854775807) (hc' : bl.length ≤ c') (hw' : ∀ p ∈ bl, I64 p) (hT : Tab w) :
    Calls Tryd.prog 4 #[.slice A raw.length c, .slice A' bl.length c'] w fun e w' => e = .returned (.bool true) ∧ Below w.heap.size w w' := by
  have HW := Lib.hid hw
  have HW' := Lib.hid hw'
  clear hw hw'
  go_enter Tryd.func4, Tryd.ntmps4
  go_wp2_with fail
  refine (awake_any w hT).mono ?_
  rintro e w1 ⟨rfl, hb1⟩
  have HR1 : NowP w1 A raw := NowP.below hR hb1
  have HR1' : Hid (Now w1 A' bl) := Now.below hR' hb1
  have HT1 := Lib.hid (hT.below hb1)
  have B1 := Lib.hid hb1
  clear hb1 hR hR' hT
  go_wp2_with fail
  refine (items_any A raw c w1 HR1 hl hc HW.out).mono ?_
  rintro e w2 ⟨v, rfl, hO2, hb2⟩
  have hI := itemsL_good raw
  have hIl := itemsL_len raw
  generalize itemsL raw = I at *
  have HB2 : Hid (Below w1.heap.size w1 w2) := hb2
  have hm0 : (midL I bl 0).map up = I.map up := by rw [midL_zero]
  rw [← hm0] at hO2
  have HO2 := Lib.hid hO2
  have HI := Lib.hid hI
  have hvs : ∃ A2 c2, v = .slice A2 I.length c2 ∧ I.length ≤ c2 := by
    obtain ⟨A2, c2, hv, hcc, _⟩ := hO2.reads
    rw [List.length_map, midL_len I bl (Nat.zero_le _)] at hv hcc
    exact ⟨A2, c2, hv, hcc⟩
  obtain ⟨A2, c2, rfl, hc2⟩ := hvs
  clear hO2 hb2 HR1 hm0 hI
  go_wp2
  go_loopw [7, 8] (fun s i wr => ∃ k : Nat, k ≤ I.length ∧ i = .int .i64 k ∧ s = .string (str (spaced I bl k)) ∧ Hid (OwnE wr w1.heap.size (.slice A2 I.length c2) ((midL I bl k).map up)) ∧ Hid (Below w1.heap.size w1 wr)) (fun _ i _ => I.length - (intOf i).toNat)
  case atStart => exact ⟨0, Nat.zero_le _, rfl, rfl, HO2, HB2⟩
  case round =>
    obtain ⟨k, hk, rfl, rfl, HO, HB⟩ := hrel
    by_cases hlt : k < I.length
    · have hltz : (k : Int) < (I.length : Int) := by omega
      have hx := midL_at I bl hlt
      have hst := midL_set I bl hlt
      have hsl := spaced_len I bl k
      have hgl := gapL_len bl k
      obtain ⟨⟨t, n, q⟩, hxx⟩ : ∃ x, x = I.getD k noI := ⟨_, rfl⟩
      rw [← hxx] at hx hst
      have hml : ((midL I bl k).map up).length = I.length := by rw [List.length_map, midL_len I bl hk]
      have hml2 : ((midL I bl (k + 1)).map up).length = I.length := by rw [List.length_map, midL_len I bl (by omega)]
      have hgood : goodI (t, n, q) = true := by
        rw [hxx, List.getD_eq_getElem?_getD, List.getElem?_eq_getElem hlt]
        exact HI.out _ (List.getElem_mem _)
      have hn64 : I64 (n : Int) := by have := (goodI_iff _).1 hgood; unfold I64; simp only at this; omega
      have hsp : spaced I bl (k + 1) = spaced I bl k ++ gapL bl k ++ itemL (t, n, 0) := by
        rw [spaced, ← hxx]
        rfl
      obtain ⟨g, c3, hv, hBg, hc3, hfz, hcl, _, hset⟩ := ownE_at HO.out (by rw [hml]; omega)
      rw [hml] at hv
      injection hv with hv1 hv2 hv3
      subst hv1 hv3
      have hcl2 := hcl k (by rw [hml]; exact hlt)
      rw [hx] at hcl2
      obtain ⟨g0, g1, g2⟩ := hcl2
      have f2 := hfz (k * 3 + 2)
      clear hcl hset hfz
      have hfin : ∀ (W : World) (m z : Nat), m = W.heap.size → z = (spaced I bl k ++ gapL bl k).length → OwnE W w1.heap.size (.slice (some ⟨g, 0, none⟩) I.length c2) (((midL I bl k).map up).set k (t, (n : Int), (z : Int))) → Below w1.heap.size w1 W →
          Calls Tryd.prog 15 #[.slice (some ⟨m, 0, none⟩) 1 1] (W.alloc (.cells #[.int .u8 t.toNat, .int .i64 n, .int .i64 z] 37)) fun e w' => e = .returned (.string (str (itemL (t, n, 0)))) ∧ Hid (OwnE w' w1.heap.size (.slice (some ⟨g, 0, none⟩) I.length c2) ((midL I bl (k + 1)).map up)) ∧ Hid (Below w1.heap.size w1 w') := by
        intro W m z hm hz hO hbW
        subst hm
        rw [hz, hst] at hO
        have hba : Below W.heap.size W (W.alloc (.cells #[.int .u8 t.toNat, .int .i64 n, .int .i64 z] 37)) := (Below.refl _ _).alloc (Nat.le_refl _) _
        have hbb : Below w1.heap.size w1 (W.alloc (.cells #[.int .u8 t.toNat, .int .i64 n, .int .i64 z] 37)) := hbW.alloc hbW.size _
        refine (tokText_any (some ⟨W.heap.size, 0, none⟩) [(t, (n : Int), (z : Int))] 1 _ (nowE_new W (t, (n : Int), (z : Int))) (by simp) (fun x hx => by simp at hx; subst hx; exact hn64) (HT1.out.below hbb)).mono ?_
        rintro e w' ⟨rfl, hb'⟩
        refine ⟨?_, (hO.below hba).below hb', hbb.trans (hb'.mono hbb.size)⟩
        have e1 : textE [(t, (n : Int), (z : Int))] = itemL (t, n, 0) := by
          show itemE _ ++ [] = _
          rw [List.append_nil, itemL_at]
        rw [e1]
      have HFIN := Lib.hid hfin
      have hset : ∀ o, Below wr.heap.size wr (wr.alloc o) := fun o => (Below.refl _ _).alloc (Nat.le_refl _) o
      have hsetz : ∀ o (z : Int), OwnE ((wr.alloc o).setCell ⟨g, k * 3 + 2, none⟩ (.int .i64 z)) w1.heap.size (.slice (some ⟨g, 0, none⟩) I.length c2) (((midL I bl k).map up).set k (t, (n : Int), z)) ∧ Below w1.heap.size w1 ((wr.alloc o).setCell ⟨g, k * 3 + 2, none⟩ (.int .i64 z)) := fun o z => by
        have h1 := ownE_set2 (OwnE.below HO.out (hset o)) (k := k) (by rw [hml]; exact hlt) z
        rw [hx] at h1
        exact ⟨h1, (HB.out.alloc HB.out.size o).setCell hBg _⟩
      have hset0 : ∀ z : Int, OwnE (wr.setCell ⟨g, k * 3 + 2, none⟩ (.int .i64 z)) w1.heap.size (.slice (some ⟨g, 0, none⟩) I.length c2) (((midL I bl k).map up).set k (t, (n : Int), z)) ∧ Below w1.heap.size w1 (wr.setCell ⟨g, k * 3 + 2, none⟩ (.int .i64 z)) := fun z => by
        have h1 := ownE_set2 HO.out (k := k) (by rw [hml]; exact hlt) z
        rw [hx] at h1
        exact ⟨h1, HB.out.setCell hBg _⟩
      have HSZ := Lib.hid hsetz
      have HS0 := Lib.hid hset0
      clear hfin hset hsetz hset0
      have HSP := Lib.hid hsp
      have HST := Lib.hid hst
      have HX := Lib.hid hx
      clear hx hst hxx hgood hsp
      by_cases hkb : k < bl.length
      · have hkbz : (k : Int) < (bl.length : Int) := by omega
        obtain ⟨b0, off, hA', hbB, hcell⟩ := Rd.at_ (HR1'.out) (by omega)
        subst hA'
        have c0 := Qt.keep HB.out (hcell k hkb)
        have hy64 := HW'.out _ (getD_memI hkb)
        have hgap : gapL bl k = gapN (pickI (bl.getD k 0) 4).toNat := by unfold gapL; rw [if_pos hkb]
        obtain ⟨y, hy⟩ : ∃ y, y = bl.getD k 0 := ⟨_, rfl⟩
        rw [← hy] at c0 hy64 hgap
        have hp := fun W => pick_nat y 4 W hy64 (by omega) (by omega)
        have hpb := pickI_bd y 4 (by omega)
        obtain ⟨j, hj⟩ : ∃ j, j = (pickI y 4).toNat := ⟨_, rfl⟩
        rw [← hj] at hp hgap
        have hjc : j = 0 ∨ j = 1 ∨ j = 2 ∨ j = 3 := by omega
        have HGAP := Lib.hid hgap
        have c0a : ∀ o, (wr.alloc o).cell? ⟨b0, off + k, none⟩ = some (.int .i64 y) := fun o => (World.cell?_alloc_lt _ _ _ (block_lt_of_cell c0)).trans c0
        have f2a : ∀ o, (wr.alloc o).frozen? ⟨g, k * 3 + 2, none⟩ = false := fun o => (frozen_alloc (block_lt_of_cell g0) o).trans f2
        have g2a : ∀ o, (wr.alloc o).cell? ⟨g, k * 3 + 2, none⟩ = some (.int .i64 q) := fun o => (World.cell?_alloc_lt _ _ _ (block_lt_of_cell g2)).trans g2
        have g1a : ∀ o, (wr.alloc o).cell? ⟨g, k * 3 + 1, none⟩ = some (.int .i64 n) := fun o => (World.cell?_alloc_lt _ _ _ (block_lt_of_cell g1)).trans g1
        have g0a : ∀ o, (wr.alloc o).cell? ⟨g, k * 3, none⟩ = some (.int .u8 t.toNat) := fun o => (World.cell?_alloc_lt _ _ _ (block_lt_of_cell g0)).trans g0
        clear hcell hy hj hpb hgap hy64
        generalize hs : str (spaced I bl k) = s
        have hss : s.size = (spaced I bl k).length := by rw [← hs, str_size]
        have hss2 : s.size ≤ 700 := by omega
        have HSS := Lib.hid hss
        have HS := Lib.hid hs
        clear hs hss
        go_wp2_with fail
        refine (hp _).mono ?_
        rintro e w5 ⟨rfl, rfl⟩
        rcases hjc with rfl | rfl | rfl | rfl
        · have hz : s.size + 0 = (spaced I bl k ++ gapL bl k).length := by rw [HGAP.out, List.length_append, HSS.out]; rfl
          have HZ := Lib.hid hz
          clear hz
          go_wp2_with fail
          refine (HFIN.out _ _ (s.size + 0) (by simp [World.setCell]) HZ.out (HSZ.out _ _).1 (HSZ.out _ _).2).mono ?_
          rintro e w6 ⟨rfl, hO6, hB6⟩
          have hsz6 : (str (itemL (t, n, 0))).size ≤ 14 := by rw [str_size]; exact itemL_len _
          go_wp2
          go_roundw
          case measure => simp [intOf]; omega
          case rel => exact ⟨k + 1, by omega, by go_num, (by rw [HSP.out, HGAP.out, ← str_append, ← str_append, HS.out]; rfl), hO6, hB6⟩
        · have hz : s.size + 1 = (spaced I bl k ++ gapL bl k).length := by rw [HGAP.out, List.length_append, HSS.out]; rfl
          have HZ := Lib.hid hz
          clear hz
          go_wp2_with fail
          refine (HFIN.out _ _ (s.size + 1) (by simp [World.setCell]) HZ.out (HSZ.out _ _).1 (HSZ.out _ _).2).mono ?_
          rintro e w6 ⟨rfl, hO6, hB6⟩
          have hsz6 : (str (itemL (t, n, 0))).size ≤ 14 := by rw [str_size]; exact itemL_len _
          go_wp2
          go_roundw
          case measure => simp [intOf]; omega
          case rel => exact ⟨k + 1, by omega, by go_num, (by rw [HSP.out, HGAP.out, ← str_append, ← str_append, HS.out]; rfl), hO6, hB6⟩
        · have hz : s.size + 1 = (spaced I bl k ++ gapL bl k).length := by rw [HGAP.out, List.length_append, HSS.out]; rfl
          have HZ := Lib.hid hz
          clear hz
          go_wp2_with fail
          refine (HFIN.out _ _ (s.size + 1) (by simp [World.setCell]) HZ.out (HSZ.out _ _).1 (HSZ.out _ _).2).mono ?_
          rintro e w6 ⟨rfl, hO6, hB6⟩
          have hsz6 : (str (itemL (t, n, 0))).size ≤ 14 := by rw [str_size]; exact itemL_len _
          go_wp2
          go_roundw
          case measure => simp [intOf]; omega
          case rel => exact ⟨k + 1, by omega, by go_num, (by rw [HSP.out, HGAP.out, ← str_append, ← str_append, HS.out]; rfl), hO6, hB6⟩
        · have hz : s.size + 3 = (spaced I bl k ++ gapL bl k).length := by rw [HGAP.out, List.length_append, HSS.out]; rfl
          have HZ := Lib.hid hz
          clear hz
          go_wp2_with fail
          refine (HFIN.out _ _ (s.size + 3) (by simp [World.setCell]) HZ.out (HSZ.out _ _).1 (HSZ.out _ _).2).mono ?_
          rintro e w6 ⟨rfl, hO6, hB6⟩
          have hsz6 : (str (itemL (t, n, 0))).size ≤ 14 := by rw [str_size]; exact itemL_len _
          go_wp2
          go_roundw
          case measure => simp [intOf]; omega
          case rel => exact ⟨k + 1, by omega, by go_num, (by rw [HSP.out, HGAP.out, ← str_append, ← str_append, HS.out]; rfl), hO6, hB6⟩
      · have hgap : gapL bl k = [] := by unfold gapL; rw [if_neg hkb]
        have hkbz : ¬ (k : Int) < (bl.length : Int) := by omega
        generalize hs : str (spaced I bl k) = s
        have hss : s.size = (spaced I bl k).length := by rw [← hs, str_size]
        have hss2 : s.size ≤ 700 := by omega
        have hz : s.size = (spaced I bl k ++ gapL bl k).length := by rw [hgap, List.append_nil, hss]
        have HZ := Lib.hid hz
        have HS := Lib.hid hs
        have HGAP := Lib.hid hgap
        clear hs hss hz hgap
        go_wp2_with fail
        refine (HFIN.out _ _ s.size (by simp [World.setCell]) HZ.out (HS0.out _).1 (HS0.out _).2).mono ?_
        rintro e w6 ⟨rfl, hO6, hB6⟩
        have hsz6 : (str (itemL (t, n, 0))).size ≤ 14 := by rw [str_size]; exact itemL_len _
        go_wp2
        go_roundw
        case measure => simp [intOf]; omega
        case rel => exact ⟨k + 1, by omega, by go_num, (by rw [HSP.out, HGAP.out, List.append_nil, ← str_append, HS.out]), hO6, hB6⟩
    · obtain rfl : k = I.length := by omega
      have hltz : ¬ (I.length : Int) < (I.length : Int) := by omega
      have hO := HO.out
      rw [midL_all] at hO
      have hsl := spaced_len I bl I.length
      have hla := lexA_spaced I bl HI.out hIl [109, 111, 114, 101] (by decide)
      have hPl : ((placedL I bl I.length).map up).length = I.length := by rw [List.length_map, placedL_len]
      have hlx := fun W => lex_any (spaced I bl I.length ++ [33, 109, 111, 114, 101]) W (by rw [List.length_append]; simp; omega)
      rw [hla, ← str_append] at hlx
      generalize hs : str (spaced I bl I.length) = s at *
      have hss : s.size = (spaced I bl I.length).length := by rw [← hs, str_size]
      have hss2 : s.size ≤ 700 := by omega
      rw [← hss] at hlx
      generalize placedL I bl I.length = P at *
      have hlx2 : ∀ W, Calls Tryd.prog 12 #[.string (s ++ { data := #[33, 109, 111, 114, 101] })] W (LexR (P, 0, s.size) W) := hlx
      have HO3 := Lib.hid hO
      have HPL := Lib.hid hPl
      clear hs hss hla hlx hO HO hPl hsl
      go_wp2_with fail
      refine (hlx2 _).mono ?_
      rintro e w5 ⟨v5, rfl, ⟨A5, c5, rfl, hc5, hN5⟩, hb5⟩
      simp only at hN5 hc5
      have hO5 := OwnE.below HO3.out hb5
      obtain ⟨A6, c6, hv6, hc6, hN6⟩ := hO5.reads
      injection hv6 with e1 e2 e3
      subst e1 e3
      have hsm : Calls Tryd.prog 14 #[.slice A2 I.length c2, .slice A5 I.length c5] w5 fun e w' => e = .returned (.bool true) ∧ Below w5.heap.size w5 w' := by
        have := sameE_any (c := c2) (c' := c5) hN6 hN5 (n := I.length) (n' := I.length) HPL.out.symm HPL.out.symm (by omega)
        rwa [decide_eq_true rfl] at this
      rw [HPL.out] at hc5
      have e6 : ((P, (0 : Int), s.size) : List Itm × Int × Nat).1.map up = P.map up := rfl
      rw [e6, HPL.out]
      clear e6 hlx2 hN5 hN6 hO5 HO3 e2
      have B5 := Lib.hid (Qt.more B1.out B1.out.size (HB.out.trans (hb5.mono HB.out.size)))
      go_wp2_with fail
      refine hsm.mono ?_
      rintro e w6 ⟨rfl, hb6⟩
      go_wp2
      go_ret
      exact ⟨rfl, Qt.more B5.out B5.out.size hb6⟩
end Go.Proofs.YtildobjgohddoaaDoor
