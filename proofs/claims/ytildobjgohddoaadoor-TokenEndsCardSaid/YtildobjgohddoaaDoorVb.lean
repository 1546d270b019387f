/-
  TokenEnds: what stands behind the end makes no difference; a byte that is none of an item's is told where it stands: the walk.
-/
import Derived.Test.YtildobjgohddoaaDoorUl
import Derived.Test.YtildobjgohddoaaDoorQu
import Derived.Test.YtildobjgohddoaaDoorQs
import Derived.Test.YtildobjgohddoaaDoorUn
namespace Go.Proofs.YtildobjgohddoaaDoor
set_option linter.unusedVariables false
set_option linter.unusedSimpArgs false
open Go.RowKit Go.Sort

theorem conv_byte (x : UInt8) (w : World) : (convert 41 9 (.slice (some ⟨w.heap.size, 0, none⟩) 1 1)).run Tryd.prog (w.alloc (.cells #[.int .u8 x.toNat] 5)) = .ok (.string (str [x])) (w.alloc (.cells #[.int .u8 x.toNat] 5)) := by
  refine run_convert_bytes_back (P := Tryd.prog) _ 41 9 5 ⟨w.heap.size, 0, none⟩ 1 [x] Tryd.underlying41 Tryd.underlying5 Tryd.underlying9 fun j hj => ?_
  have hj0 : j = 0 := by simp at hj; omega
  subst hj0
  simp [Addr.add]

/-- the text once more, and its items, as they are read -/
structure Read (I : List Itm) (T : List UInt8) (P : List Itm) : Prop where
  len : T.length = I.length
  cnt : (P.map up).length = I.length
  text : textE ((onceL I).map up) = T
  lex : ∀ q : List UInt8, q.length ≤ 1100 → lexA (T ++ 33 :: q) = (P, 0, I.length)
  odd : ∀ (k n : Nat), k ≤ I.length → lexA (T.take k ++ oddN n :: (T.drop k ++ [33])) = ([], 30, k)
theorem read_of {I : List Itm} (h : ∀ x ∈ I, goodI x = true) (hn : I.length ≤ 40) : Read I (textL (onceL I)) (placedL (onceL I) [] (onceL I).length) := by
  have hs := once_size h
  have hg := onceL_good h
  refine ⟨hs, by rw [List.length_map, placedL_len, onceL_len], textE_up _, fun q hq => ?_, fun k n hk => lexA_odd h hn hk n _ (by simp; omega)⟩
  have := lexA_spaced2 (onceL I) [] hg q (by rw [spaced_text, hs]; omega)
  rw [spaced_text, hs] at this
  exact this

set_option maxHeartbeats 4000000 in
set_option maxRecDepth 100000 in
theorem tokenEnds_walk (A : Option Addr) (raw : List (Int × Int)) (c : Nat) (more : ByteArray) (cx at_ : Int) (w : World) (hR : RdP w w.heap.size A raw) (hl : raw.length ≤ 9223372036854775807) (hc : raw.length ≤ c) (hw : ∀ p ∈ raw, I64 p.1 ∧ I64 p.2)
    (hms : more.size ≤ 140737488355328) (hcx : I64 cx) (hat : I64 at_) (hT : Tab w) :
    Calls Tryd.prog 7 #[.slice A raw.length c, .string more, .int .i64 cx, .int .i64 at_] w fun e w' => e = .returned (.bool true) ∧ Below w.heap.size w w' := by
  have HW := Lib.hid hw
  have HCX := Lib.hid hcx
  have HAT := Lib.hid hat
  clear hw hcx hat
  go_enter Tryd.func7, Tryd.ntmps7
  go_wp2_with fail
  refine (awake_any w hT).mono ?_
  rintro e w1 ⟨rfl, hb1⟩
  have HR1 : NowP w1 A raw := NowP.below hR hb1
  have HT1 := Lib.hid (hT.below hb1)
  have B1 := Lib.hid hb1
  clear hb1 hR hT
  go_wp2_with fail
  refine (items_any A raw c w1 HR1 hl hc HW.out).mono ?_
  rintro e w2 ⟨v, rfl, hO2, hb2⟩
  have hI := itemsL_good raw
  have hIl := itemsL_len raw
  generalize itemsL raw = I at *
  have HB2 : Hid (Below w1.heap.size w1 w2) := hb2
  have hm0 : (onceT I 0).map up = I.map up := by rw [onceT_zero]
  rw [← hm0] at hO2
  have HO2 := Lib.hid hO2
  have HI := Lib.hid hI
  have hvs : ∃ A2 c2, v = .slice A2 I.length c2 ∧ I.length ≤ c2 := by
    obtain ⟨A2, c2, hv, hcc, _⟩ := hO2.reads
    rw [List.length_map, onceT_len I (Nat.zero_le _)] at hv hcc
    exact ⟨A2, c2, hv, hcc⟩
  obtain ⟨A2, c2, rfl, hc2⟩ := hvs
  clear hO2 hb2 HR1 hm0 hI
  go_wp2
  go_loopw [11] (fun i wr => ∃ k : Nat, k ≤ I.length ∧ i = .int .i64 k ∧ Hid (OwnE wr w1.heap.size (.slice A2 I.length c2) ((onceT I k).map up)) ∧ Hid (Below w1.heap.size w1 wr)) (fun i _ => I.length - (intOf i).toNat)
  case atStart => exact ⟨0, Nat.zero_le _, rfl, HO2, HB2⟩
  case round =>
    obtain ⟨k, hk, rfl, HO, HB⟩ := hrel
    by_cases hlt : k < I.length
    · have hltz : (k : Int) < (I.length : Int) := by omega
      have hx := onceT_at I hlt
      have hst := onceT_set I hlt
      have hml : ((onceT I k).map up).length = I.length := by rw [List.length_map, onceT_len I hk]
      obtain ⟨g, c3, hv, hBg, hc3, hfz, hcl, _, _⟩ := ownE_at HO.out (by rw [hml]; omega)
      rw [hml] at hv
      injection hv with hv1 hv2 hv3
      subst hv1 hv3
      have g1 := (hcl k (by rw [hml]; exact hlt)).2.1
      rw [hx] at g1
      have f1 := hfz (k * 3 + 1)
      have hO3 := ownE_set1 HO.out (k := k) (by rw [hml]; exact hlt) 1
      rw [hx] at hO3
      have e3 : ((onceT I k).map up).set k ((up (I.getD k noI)).1, 1, (up (I.getD k noI)).2.2) = (onceT I (k + 1)).map up := hst
      rw [e3] at hO3
      have HO3 := Lib.hid hO3
      have HB3 := Lib.hid (HB.out.setCell (p := ⟨g, k * 3 + 1, none⟩) hBg (.int .i64 1))
      obtain ⟨u1, hu1⟩ : ∃ u, u = Value.int .i64 (up (I.getD k noI)).2.1 := ⟨_, rfl⟩
      rw [← hu1] at g1
      clear hcl hfz hx hst hv2 hO3 e3 hu1
      go_wp2
      go_roundw
      case measure => simp [intOf]; omega
      case rel => exact ⟨k + 1, by omega, by go_num, HO3, HB3⟩
    · obtain rfl : k = I.length := by omega
      have hltz : ¬ (I.length : Int) < (I.length : Int) := by omega
      have hO := HO.out
      rw [onceT_all] at hO
      have hrd := read_of HI.out hIl
      obtain ⟨A6, c6, hv6, hc6, hN6⟩ := hO.reads
      rw [List.length_map, onceL_len] at hv6
      injection hv6 with e1 e2 e3
      subst e1 e3
      have hTr := HT1.out.below HB.out
      have htx := tokText_any A2 ((onceL I).map up) c2 wr hN6 (by rw [List.length_map, onceL_len]; omega) (fun x hx => by
        obtain ⟨y, hy, rfl⟩ := List.mem_map.1 hx
        have := (goodI_iff _).1 (onceL_good HI.out y hy)
        unfold I64 up
        simp only
        omega) hTr
      rw [List.length_map, onceL_len] at htx
      unfold TextR at htx
      rw [hrd.text] at htx
      generalize textL (onceL I) = T at *
      generalize placedL (onceL I) [] (onceL I).length = P at *
      have hts : (str T).size = I.length := by rw [str_size]; exact hrd.len
      have HRD := Lib.hid hrd
      clear hrd hO HO hN6 e2 hTr hc6
      go_wp2_with fail
      refine htx.mono ?_
      rintro e w3 ⟨rfl, hb3⟩
      have B3 := Lib.hid (Qt.more B1.out B1.out.size (HB.out.trans (hb3.mono HB.out.size)))
      have hl1 := fun W => lex_any (T ++ [33]) W (by rw [List.length_append, HRD.out.len]; simp; omega)
      have e1 := HRD.out.lex [] (by decide)
      rw [e1, ← str_append] at hl1
      obtain ⟨d, hd⟩ : ∃ d : Nat, d = (min (more.size : Int) 1000).toNat := ⟨_, rfl⟩
      have hd1 : d ≤ 1000 := by omega
      have hd2 : d ≤ more.size := by omega
      have hl2 := fun W => lex_any (T ++ [33] ++ more.data.toList.take d) W (by rw [List.length_append, List.length_append, HRD.out.len]; simp; omega)
      have e2 := HRD.out.lex (more.data.toList.take d) (by simp; omega)
      rw [show T ++ [33] ++ more.data.toList.take d = T ++ 33 :: more.data.toList.take d by simp, e2, show T ++ 33 :: more.data.toList.take d = T ++ [33] ++ more.data.toList.take d by simp, ← str_append, ← str_append, ← str_take, str_list] at hl2
      have hl3 : ∀ k n, k ≤ I.length → ∀ W, Calls Tryd.prog 12 #[.string ((str T).extract 0 k ++ str [oddN n] ++ (str T).extract k (str T).size ++ { data := #[33] })] W (LexR ([], 30, k) W) := by
        intro k n hk W
        have h1 := lex_any (T.take k ++ [oddN n] ++ T.drop k ++ [33]) W (by simp only [List.length_append, List.length_take, List.length_drop, List.length_cons, List.length_nil]; have := HRD.out.len; omega)
        have h2 := HRD.out.odd k n hk
        rw [show T.take k ++ [oddN n] ++ T.drop k ++ [33] = T.take k ++ oddN n :: (T.drop k ++ [33]) by simp, h2, show T.take k ++ oddN n :: (T.drop k ++ [33]) = T.take k ++ [oddN n] ++ T.drop k ++ [33] by simp, ← str_append, ← str_append, ← str_append, ← str_take, ← str_drop, ← str_size T] at h1
        exact h1
      have HL3 := Lib.hid hl3
      clear hl3
      generalize str T = s at *
      have HD := Lib.hid hd
      clear e1 e2 htx HB hb3 hd
      have hl1' : ∀ W, Calls Tryd.prog 12 #[.string (s ++ { data := #[33] })] W (LexR (P, 0, I.length) W) := hl1
      have hl2' : ∀ W, Calls Tryd.prog 12 #[.string (s ++ { data := #[33] } ++ more.extract 0 d)] W (LexR (P, 0, I.length) W) := hl2
      clear hl1 hl2
      go_wp2_with fail
      refine (hl1' _).mono ?_
      rintro e w4 ⟨v4, rfl, ⟨A4, c4, rfl, hc4, hN4⟩, hb4⟩
      have B4 := Lib.hid (Qt.more B3.out B3.out.size hb4)
      have e4 : ((P, (0 : Int), I.length) : List Itm × Int × Nat).1.map up = P.map up := rfl
      rw [e4] at hN4
      rw [e4, HRD.out.cnt] at hc4
      rw [e4, HRD.out.cnt]
      have HN4 := Lib.hid hN4
      clear hN4 hb4 B3 e4
      go_wp2_with fail
      rw [← HD.out]
      refine (hl2' _).mono ?_
      rintro e w5 ⟨v5, rfl, ⟨A5, c5, rfl, hc5, hN5⟩, hb5⟩
      have B5 := Lib.hid (Qt.more B4.out B4.out.size hb5)
      have e5 : ((P, (0 : Int), I.length) : List Itm × Int × Nat).1.map up = P.map up := rfl
      rw [e5] at hN5
      rw [e5, HRD.out.cnt] at hc5
      rw [e5, HRD.out.cnt]
      have HN5 := Lib.hid hN5
      have HN4b := Lib.hid (HN4.out.below hb5)
      have hp1 := fun W => pick_nat cx 10 W HCX.out (by omega) (by omega)
      have hp1b := pickI_bd cx 10 (by omega)
      obtain ⟨j, hj⟩ : ∃ j, j = (pickI cx 10).toNat := ⟨_, rfl⟩
      rw [← hj] at hp1
      have hj10 : j < 10 := by omega
      have hp2 := fun W => pick_nat at_ ((s.size : Int) + 1) W HAT.out (by omega) (by omega)
      have hp2b := pickI_bd at_ ((s.size : Int) + 1) (by omega)
      obtain ⟨k, hkk⟩ : ∃ k, k = (pickI at_ ((s.size : Int) + 1)).toNat := ⟨_, rfl⟩
      rw [← hkk] at hp2
      have hkn : k ≤ s.size := by omega
      clear hb5 hN5 B4 HN4 hl1' hl2' e5 hj hkk hp1b hp2b
      go_wp2_with fail
      refine (hp1 _).mono ?_
      rintro e w6 ⟨rfl, rfl⟩
      have hidx : ∀ h, ({ data := #[97, 99, 110, 35, 37, 46, 61, 66, 79, 63] } : ByteArray)[j]'h = oddN j := by
        intro h
        have hj' : j < 10 := hj10
        match j, hj' with
        | 0, _ => rfl
        | 1, _ => rfl
        | 2, _ => rfl
        | 3, _ => rfl
        | 4, _ => rfl
        | 5, _ => rfl
        | 6, _ => rfl
        | 7, _ => rfl
        | 8, _ => rfl
        | 9, _ => rfl
      have hl4 := HL3.out k j (by omega)
      rw [hts] at hl4
      go_wp2_with fail
      rw [hts] at hp2
      refine (hp2 _).mono ?_
      rintro e w6 ⟨rfl, rfl⟩
      clear hidx hp1 hp2 HL3
      generalize oddN j = x at *
      have hcv : (convert 41 9 (.slice (some ⟨w5.heap.size, 0, none⟩) 1 1)).run Tryd.prog (w5.alloc (.cells #[.int .u8 x.toNat] 5)).drew = .ok (.string (str [x])) (w5.alloc (.cells #[.int .u8 x.toNat] 5)).drew := conv_byte x w5.drew
      have hsx : (str [x]).size = 1 := by rw [str_size]; rfl
      generalize str [x] = sx at *
      have hx1 : (s.extract 0 k).size ≤ 100 := by simp; omega
      have hx2 : (s.extract k I.length).size ≤ 100 := by simp; omega
      have hx3 : (s.extract 0 k ++ sx).size ≤ 200 := by rw [ByteArray.size_append]; omega
      have hx4 : (s.extract 0 k ++ sx ++ s.extract k I.length).size ≤ 300 := by rw [ByteArray.size_append]; omega
      go_wp2_with fail
      refine Qt.region_tree (.pure 0 <| .pure 1 <| .pure 2 <| .pure 3 <| .pure 7 <| .pure 8 <| .pure 9 <| .only 4 <| .only 5 <| .pure 6 <| .pure 10 <| .pure 11 <| .only 12 <| .pure 13 <| .pure 14 <| .pure 15 <| .pure 16 <| .pure 17 <| .pure 18 <| .pure 19 .done) (by kernel_rfl) (by kernel_rfl) (by kernel_rfl) (by rfl) ?_
      refine ⟨_, some 68, .string s, rfl, rfl, ⟨rfl, fun _ => rfl⟩, ?_⟩
      simp only [Act.put, List.setIfInBounds_toArray, List.set_cons_succ, List.set_cons_zero]
      refine ⟨_, some 69, .int .i64 k, rfl, rfl, ⟨rfl, fun _ => rfl⟩, ?_⟩
      simp only [Act.put, List.setIfInBounds_toArray, List.set_cons_succ, List.set_cons_zero]
      refine ⟨_, some 70, .string (s.extract 0 k), rfl, rfl, ⟨rfl, exec_str_to (x := .tmp 68) (y := .tmp 69) rfl rfl rfl hkn (by omega)⟩, ?_⟩
      simp only [Act.put, List.setIfInBounds_toArray, List.set_cons_succ, List.set_cons_zero]
      refine ⟨_, some 71, .int .u8 x.toNat, rfl, rfl, ⟨rfl, fun _ => rfl⟩, ?_⟩
      simp only [Act.put, List.setIfInBounds_toArray, List.set_cons_succ, List.set_cons_zero]
      refine ⟨_, some 75, .string s, rfl, rfl, ⟨rfl, fun _ => rfl⟩, ?_⟩
      simp only [Act.put, List.setIfInBounds_toArray, List.set_cons_succ, List.set_cons_zero]
      refine ⟨_, some 76, .int .i64 k, rfl, rfl, ⟨rfl, fun _ => rfl⟩, ?_⟩
      simp only [Act.put, List.setIfInBounds_toArray, List.set_cons_succ, List.set_cons_zero]
      refine ⟨_, some 77, .string (s.extract k I.length), rfl, rfl, ⟨rfl, by rw [← hts]; exact exec_str_from (x := .tmp 75) (y := .tmp 76) rfl rfl rfl (by omega) (by omega)⟩, ?_⟩
      simp only [Act.put, List.setIfInBounds_toArray, List.set_cons_succ, List.set_cons_zero]
      refine ⟨_, rfl, ?_⟩
      go_wp2_with fail
      refine ⟨rfl, ?_⟩
      refine ⟨_, rfl, ?_⟩
      go_wp2_with fail
      refine ⟨rfl, ?_⟩
      refine ⟨_, some 74, .string (s.extract 0 k ++ sx), rfl, rfl, ⟨rfl, exec_add (x := .tmp 70) (y := .tmp 73) rfl rfl rfl (by omega)⟩, ?_⟩
      simp only [Act.put, List.setIfInBounds_toArray, List.set_cons_succ, List.set_cons_zero]
      refine ⟨_, some 78, .string (s.extract 0 k ++ sx ++ s.extract k I.length), rfl, rfl, ⟨rfl, exec_add (x := .tmp 74) (y := .tmp 77) rfl rfl rfl (by omega)⟩, ?_⟩
      simp only [Act.put, List.setIfInBounds_toArray, List.set_cons_succ, List.set_cons_zero]
      refine ⟨_, some 79, .string (s.extract 0 k ++ sx ++ s.extract k I.length ++ { data := #[33] }), rfl, rfl, ⟨rfl, exec_add (x := .tmp 78) (y := .const (.string { data := #[33] })) rfl rfl rfl (by have h33 : ({ data := #[33] } : ByteArray).size = 1 := rfl; omega)⟩, ?_⟩
      simp only [Act.put, List.setIfInBounds_toArray, List.set_cons_succ, List.set_cons_zero]
      refine ⟨_, rfl, ?_⟩
      go_wp2_with fail
      refine (hl4 _).mono ?_
      rintro e w7 ⟨v7, rfl, _, hb7⟩
      go_wp2_with fail
      refine ⟨rfl, ?_⟩
      refine ⟨_, some 67, .tuple #[v7, .int .i64 30, .int .i64 k], rfl, rfl, ⟨rfl, fun _ => rfl⟩, ?_⟩
      simp only [Act.put, List.setIfInBounds_toArray, List.set_cons_succ, List.set_cons_zero]
      refine ⟨_, some 81, v7, rfl, rfl, ⟨rfl, fun _ => rfl⟩, ?_⟩
      simp only [Act.put, List.setIfInBounds_toArray, List.set_cons_succ, List.set_cons_zero]
      refine ⟨_, some 82, .int .i64 30, rfl, rfl, ⟨rfl, fun _ => rfl⟩, ?_⟩
      simp only [Act.put, List.setIfInBounds_toArray, List.set_cons_succ, List.set_cons_zero]
      refine ⟨_, some 83, .int .i64 k, rfl, rfl, ⟨rfl, fun _ => rfl⟩, ?_⟩
      simp only [Act.put, List.setIfInBounds_toArray, List.set_cons_succ, List.set_cons_zero]
      refine ⟨_, some 21, v7, rfl, rfl, ⟨rfl, fun _ => rfl⟩, ?_⟩
      simp only [Act.put, List.setIfInBounds_toArray, List.set_cons_succ, List.set_cons_zero]
      refine ⟨_, some 22, .int .i64 30, rfl, rfl, ⟨rfl, fun _ => rfl⟩, ?_⟩
      simp only [Act.put, List.setIfInBounds_toArray, List.set_cons_succ, List.set_cons_zero]
      refine ⟨_, some 23, .int .i64 k, rfl, rfl, ⟨rfl, fun _ => rfl⟩, ?_⟩
      simp only [Act.put, List.setIfInBounds_toArray, List.set_cons_succ, List.set_cons_zero]
      simp only [Qt.treeW]
      have hba : Below w5.heap.size w5 (w5.alloc (.cells #[.int .u8 x.toNat] 5)) := (Below.refl _ w5).alloc (Nat.le_refl _) _
      have hbd : Below w5.heap.size w5 (w5.alloc (.cells #[.int .u8 x.toNat] 5)).drew := ⟨hba.os, hba.tape, hba.output, hba.size, hba.block⟩
      have hb57 : Below w5.heap.size w5 w7 := Qt.more hbd hbd.size hb7
      have hsm := sameE_any (c := c4) (c' := c5) (HN4b.out.below hb57) (HN5.out.below hb57) (n := I.length) (n' := I.length) HRD.out.cnt.symm HRD.out.cnt.symm (by omega)
      rw [decide_eq_true rfl] at hsm
      have B7 := Lib.hid (Qt.more B5.out B5.out.size hb57)
      clear hcv hb7 hba hbd hb57 hl4 HN5 HN4b hx1 hx2 hx3 hx4 hsx
      go_wp2_with fail
      refine hsm.mono ?_
      rintro e w8 ⟨rfl, hb8⟩
      go_wp2
      go_ret
      exact ⟨by first | rfl | (simp [hts]; done), Qt.more B7.out B7.out.size hb8⟩
end Go.Proofs.YtildobjgohddoaaDoor
