/-
  Layer 5: the law RleHead, walked.
-/
import Derived.Test.YtacpncmdgkljdaaDoorZr
import Derived.Test.YtacpncmdgkljdaaDoorZq
import Derived.Test.YtacpncmdgkljdaaDoorB10
import Derived.Test.YtacpncmdgkljdaaDoorB06
namespace Go.Proofs.YtacpncmdgkljdaaDoor
set_option linter.unusedVariables false
set_option linter.unusedSimpArgs false
open Go.RowKit Go.Sort
open Cel (rawSet)

theorem one_byte (S : ByteArray) (k : Nat) (h : k < S.size) : S.extract k (k + 1) = str [S[k]'h] := by
  have hl : S.data.toList.length = S.size := rfl
  have e1 := List.take_succ_eq_append_getElem (l := S.data.toList.drop k) (i := 0) (by rw [List.length_drop]; omega)
  apply ByteArray.ext
  apply Array.ext'
  have e2 : (S.extract k (k + 1)).data.toList = (S.data.toList.drop k).take 1 := by simp
  rw [e2, e1]
  simp [str]
  rfl
/-- the first twenty bytes of a text -/
theorem twenty (L : ByteArray) : hline L = ((L.extract 0 (min L.size 20)).data.toList).filter (fun c => c != 10) ∧ (L.extract 0 (min L.size 20)).size ≤ 20 := by
  constructor
  · unfold hline
    congr 1
    have hl : L.data.toList.length = L.size := rfl
    have e : (L.extract 0 (min L.size 20)).data.toList = L.data.toList.take (min L.size 20) := by simp
    rw [e]
    by_cases h : L.size ≤ 20
    · rw [Nat.min_eq_left h, List.take_of_length_le (by omega), List.take_of_length_le (by omega)]
    · rw [Nat.min_eq_right (by omega)]
  · rw [ByteArray.size_extract]
    omega
theorem line_next (M : ByteArray) {j : Nat} (h : j < M.size) (P : List UInt8) :
    str (P ++ (M.data.toList.take (j + 1)).filter (fun c => c != 10)) = if M[j]'h = 10 then str (P ++ (M.data.toList.take j).filter (fun c => c != 10)) else str (P ++ (M.data.toList.take j).filter (fun c => c != 10)) ++ str [M[j]'h] := by
  have hl : M.data.toList.length = M.size := rfl
  rw [filter_take_succ M.data.toList (j := j) (by omega)]
  have e : M.data.toList[j]'(by omega) = M[j]'h := rfl
  rw [e]
  by_cases h10 : M[j]'h = 10
  · rw [if_pos h10, if_pos h10, List.append_nil]
  · rw [if_neg h10, if_neg h10, str_append, List.append_assoc]
theorem take_size (M : ByteArray) : M.data.toList.take M.size = M.data.toList := List.take_of_length_le (Nat.le_refl _)
/-- a head's text, made of pieces -/
theorem head_pieces (P : List UInt8) (x y : Nat) (hx : x ≤ 4611686018427387903) (hy : y ≤ 4611686018427387903) : str P ++ { data := #[120, 32, 61, 32] } ++ txt (x : Int) ++ { data := #[44, 32, 121, 32, 61, 32] } ++ txt (y : Int) = str (P ++ headText x y []) := by
  unfold txt
  rw [txtL_nat hx, txtL_nat hy]
  apply ByteArray.ext
  apply Array.ext'
  simp [str, headText, pX, pY, pR]

set_option maxHeartbeats 8000000 in
set_option maxRecDepth 100000 in
theorem rleHead_walk (A : Option Addr) (raw : List (Int × Int)) (c : Nat) (x y : Int) (A3 : Option Addr) (ls : List ByteArray) (c3 : Nat) (ruled : Bool) (w : World) (hR : NowP w A raw) (hl : raw.length ≤ 9223372036854775807) (hc : raw.length ≤ c) (hw : ∀ p ∈ raw, I64 p.1 ∧ I64 p.2) (hx : I64 x) (hy : I64 y)
    (hR3 : RdS w w.heap.size A3 ls) (hl3 : ls.length ≤ 9223372036854775807) (hc3 : ls.length ≤ c3) (hw3 : ∀ p ∈ ls, p.size ≤ 9223372036854775807) (hT : Tab w) (hM : Mx w) :
    Calls Tryd.prog 5 #[.slice A raw.length c, .int .i64 x, .int .i64 y, .slice A3 ls.length c3, .bool ruled] w fun e w' => e = .returned (.bool true) ∧ Below w.heap.size w w' := by
  have h1 := awake5_any w hT hM
  have hset := fun W (hb : Below w.heap.size w W) => Cel.set_any A raw c W ((Cel.Rd.below hR hb (Nat.le_refl _)).more hb.size) hl hc hw
  have hown := own5_raw raw
  generalize rawSet raw = l at *
  have hshort := hown.short
  have hsize := print_size l
  obtain ⟨t1, t2, t3⟩ := ten_str (ten_print l)
  have hz := str_size (printL l)
  have hS : str (printL l) = str (printL l) := rfl
  have hpr := fun (A : Option Addr) (c : Nat) (W : World) (hR : Cel.Rd W W.heap.size A l) (hc : l.length ≤ c) (hT : Tab W) => print_reads hR hc hown.right hT hS
  have hps := parse_home hown.right hown.small (by omega)
  have hpa := fun W (hM : Mx W) => rleParse_any (printL l) W (by omega) hM
  have hcl : (cornerL l).length ≤ 60 := by unfold cornerL; rw [Cel.length_shL]; exact hown.len
  rw [hps] at hpa
  unfold SetR at hpa
  simp only at hpa
  have hp1 := fun W => pick_any x 1125899906842624 W hx.1 hx.2 (by omega) (by omega)
  have hp2 := fun W => pick_any y 1125899906842624 W hy.1 hy.2 (by omega) (by omega)
  have b1 := pickI_bd x 1125899906842624 (by omega)
  have b2 := pickI_bd y 1125899906842624 (by omega)
  obtain ⟨X, hX⟩ : ∃ X : Nat, pickI x 1125899906842624 = (X : Int) := ⟨(pickI x 1125899906842624).toNat, by omega⟩
  obtain ⟨Y, hY⟩ : ∃ Y : Nat, pickI y 1125899906842624 = (Y : Int) := ⟨(pickI y 1125899906842624).toNat, by omega⟩
  rw [hX] at hp1 b1
  rw [hY] at hp2 b2
  have hX2 : X ≤ 4611686018427387903 := by omega
  have hY2 : Y ≤ 4611686018427387903 := by omega
  have htx := fun W => refText_any (X : Int) W (by unfold I64; omega)
  have hty := fun W => refText_any (Y : Int) W (by unfold I64; omega)
  have htxs := txt_size (X : Int)
  have htys := txt_size (Y : Int)
  have hpc := fun P => head_pieces P X Y hX2 hY2
  have hpo : ∀ k, k ≤ 3 → ∀ (u : List UInt8), (u = [] ∨ u = pR) → ∀ W, Mx W → Calls Tryd.prog 14 #[.string (str (hashTo ls k ++ headText X Y u) ++ (str (printL l)).extract (headL l).length (str (printL l)).size)] W (fun e w' => ∃ v, e = .returned (.tuple #[v, .int .i64 0, .int .i64 ((0 : Nat) : Int)]) ∧ Cel.Reads w' v (cornerL l) ∧ Below W.heap.size W w') ∧
      Calls Tryd.prog 14 #[.string (str (hashTo ls k ++ headText X Y u) ++ { data := #[122] } ++ (str (printL l)).extract (headL l).length (str (printL l)).size)] W (fun e w' => ∃ v, e = .returned (.tuple #[v, .int .i64 32, .int .i64 ((hashTo ls k).length : Int)]) ∧ Cel.Reads w' v [] ∧ Below W.heap.size W w') := by
    intro k hk u hu W hMW
    obtain ⟨k1, k2⟩ := head_parse hown ls k hk X Y hX2 hY2 u hu
    have hlen := hashTo_len ls k
    have hht : (headText X Y u).length ≤ 63 := by
      have := headText_len X Y hX2 hY2 u
      rcases hu with rfl | rfl <;> exact Nat.le_trans this (by decide)
    have ed : (str (printL l)).extract (headL l).length (str (printL l)).size = str ((printL l).drop (headL l).length) := by rw [hz, str_drop]
    have hdl : ((printL l).drop (headL l).length).length ≤ 2600 := by rw [List.length_drop]; omega
    have e122 : ({ data := #[122] } : ByteArray) = str [122] := rfl
    rw [ed, e122, str_append, str_append, str_append]
    constructor
    · have := rleParse_any (hashTo ls k ++ headText X Y u ++ (printL l).drop (headL l).length) W (by simp only [List.length_append]; omega) hMW
      rw [k1] at this
      exact this
    · have := rleParse_any (hashTo ls k ++ headText X Y u ++ [122] ++ (printL l).drop (headL l).length) W (by simp only [List.length_append, List.length_cons, List.length_nil]; omega) hMW
      rw [k2] at this
      exact this
  obtain ⟨n, hn⟩ : ∃ n, n = (headL l).length := ⟨_, rfl⟩
  rw [← hn] at t1 t2 t3 hsize hpo
  have hn2 : (str (printL l)).size ≤ 2600 := by omega
  have HPO := Lib.hid hpo
  have HPC := Lib.hid hpc
  clear hz hown hshort hps hn hsize hpo hpc b1 b2 hX hY hS
  generalize str (printL l) = S at *
  generalize printL l = T at *
  generalize cornerL l = K at *
  have HT2 := Lib.hid t2
  have HT3 := Lib.hid t3
  clear t2 t3 hx hy
  generalize txt (X : Int) = tx at *
  generalize txt (Y : Int) = ty at *
  go_enter Tryd.func5, Tryd.ntmps5
  go_wp2_with fail
  refine h1.mono ?_
  rintro e w1 ⟨rfl, B1⟩
  clear h1
  go_wp2_with fail
  refine (hset w1 B1).mono ?_
  rintro e w2 ⟨v2, rfl, ⟨A2, c2, rfl, hc2, hR5⟩, hb2⟩
  have B2 := Qt.more B1 B1.size hb2
  clear hset hb2 B1
  go_wp2_with fail
  refine (hpr A2 c2 w2 hR5 hc2 (hT.below B2)).mono ?_
  rintro e w3 ⟨rfl, hb3⟩
  have B3 := Qt.more B2 B2.size hb3
  clear hpr hb3 B2 hR5 hc2 hT
  go_wp2
  go_loop [14] (fun i => ∃ k : Nat, k ≤ n ∧ i = .int .i64 k) (fun i => n - (intOf i).toNat)
  case atStart => exact ⟨0, Nat.zero_le _, rfl⟩
  case round =>
    obtain ⟨k, hk, rfl⟩ := hrel
    have hltz : (k : Int) < (S.size : Int) := by omega
    have hkS : k < S.size := by omega
    obtain ⟨t, ht⟩ : ∃ t, t = S[k]'hkS := ⟨_, rfl⟩
    have hidx : ∀ h, S[k]'h = t := fun _ => ht.symm
    rcases Nat.lt_or_ge k n with hkn | hkn
    · have hne : t ≠ 10 := by rw [ht]; exact HT2.out k hkS hkn
      have hz : ((t.toNat : Int) == 10) = false := by
        have : ¬ t.toNat = 10 := fun e => hne (UInt8.toNat_inj.1 e)
        simp
        omega
      clear ht hne HT2 HT3 hpa HPO HPC hp1 hp2 htx hty
      go_wp2
      go_round
      case measure => simp [intOf]; omega
      case rel => exact ⟨k + 1, by omega, by go_num⟩
    · obtain rfl : k = n := by omega
      obtain rfl : t = 10 := by rw [ht]; exact HT3.out _
      have hz : (((10 : UInt8).toNat : Int) == 10) = true := rfl
      clear ht HT2 HT3 hltz hkS
      go_wp2
      clear hz hidx
      go_loopw [15, 16] (fun s i wr => ∃ (k2 : Nat) (sd : ByteArray), k2 ≤ ls.length ∧ k2 ≤ 3 ∧ i = .int .i64 k2 ∧ s = .string sd ∧ Below w.heap.size w wr ∧ sd.size ≤ 22 * k2 ∧ Hid (sd = str (hashTo ls k2))) (fun _ i _ => 3 - (intOf i).toNat)
      case atStart => exact ⟨0, _, Nat.zero_le _, Nat.zero_le _, rfl, rfl, B3, Nat.zero_le _, rfl⟩
      case round =>
        obtain ⟨k2, sd, hk2, hk3, rfl, rfl, BR, hsd, HSD⟩ := hrel
        by_cases hlt : k2 < ls.length ∧ k2 < 3
        · obtain ⟨h2, h3⟩ := hlt
          have hltz : (k2 : Int) < (ls.length : Int) := by omega
          have hlt3 : (k2 : Int) < 3 := by omega
          obtain ⟨b0, off, rfl, hbB, hcell⟩ := hR3.at_ (by omega)
          have hc0 := Qt.keep BR (hcell k2 h2)
          have hsuc := hashTo_succ h2
          obtain ⟨htw, hM20⟩ := twenty (ls.getD k2 default)
          have hLs : (ls.getD k2 default).size ≤ 9223372036854775807 := by
            rw [List.getD_eq_getElem?_getD, List.getElem?_eq_getElem h2]
            exact hw3 _ (List.getElem_mem h2)
          rw [htw] at hsuc
          generalize ls.getD k2 default = L at *
          have HSU := Lib.hid hsuc
          have hmn : (min (L.size : Int) 20).toNat = min L.size 20 := by omega
          have hmn1 : (0 : Int) ≤ min (L.size : Int) 20 := by omega
          have hmn2 : min (L.size : Int) 20 ≤ (L.size : Int) := by omega
          clear hsuc htw hcell HPO HPC hpa hp1 hp2 htx hty
          go_wp2_with fail
          go_region
          generalize L.extract 0 (min L.size 20) = M at *
          have BD : Below w.heap.size w wr.drew := BR.drew
          have h35 : ({ data := #[35] } : ByteArray).size = 1 := rfl
          have h10 : ({ data := #[10] } : ByteArray).size = 1 := rfl
          have HST : Hid (sd ++ { data := #[35] } = str (hashTo ls k2 ++ [35] ++ (M.data.toList.take 0).filter (fun c => c != 10))) := by
            show sd ++ { data := #[35] } = _
            rw [HSD.out, show ({ data := #[35] } : ByteArray) = str [35] from rfl, str_append]
            simp
          have hsd1 : (sd ++ { data := #[35] }).size ≤ 22 * k2 + 1 + 0 := by rw [ByteArray.size_append]; omega
          have hsdb : sd.size + 1 ≤ 9223372036854775807 := by omega
          clear hc0 hmn hmn1 hmn2 hLs BR HSD
          go_wp2
          clear hltz hlt3 hsdb
          generalize sd ++ { data := #[35] } = sd0 at *
          generalize wr.drew = wd at *
          go_loop [15, 18] (fun s v => ∃ (j : Nat) (sj : ByteArray), j ≤ M.size ∧ v = .int .i64 j ∧ s = .string sj ∧ sj.size ≤ 22 * k2 + 1 + j ∧ Hid (sj = str (hashTo ls k2 ++ [35] ++ (M.data.toList.take j).filter (fun c => c != 10)))) (fun _ v => M.size - (intOf v).toNat)
          case atStart => exact ⟨0, _, Nat.zero_le _, rfl, rfl, hsd1, HST.out⟩
          case round =>
            obtain ⟨j, sj, hj, rfl, rfl, hsj, HSJ⟩ := hrel
            clear HST hsd1
            by_cases hjl : j < M.size
            · have hjz : (j : Int) < (M.size : Int) := by omega
              have hjz2 : (j : Int) + 1 ≤ (M.size : Int) := by omega
              have hjz3 : (j : Int) ≤ (j : Int) + 1 := by omega
              have hnext := line_next M hjl (hashTo ls k2 ++ [35])
              have hone := one_byte M j hjl
              rw [← HSJ.out] at hnext
              obtain ⟨t, ht⟩ : ∃ t, t = M[j]'hjl := ⟨_, rfl⟩
              have hidx : ∀ h, M[j]'h = t := fun _ => ht.symm
              rw [← ht] at hnext hone
              obtain ⟨C, hC⟩ : ∃ z, z = str [t] := ⟨_, rfl⟩
              have hC1 : C.size = 1 := by rw [hC]; rfl
              rw [← hC] at hnext hone
              have HNX := Lib.hid hnext
              clear ht hC hnext HSJ
              by_cases ht10 : t = 10
              · subst ht10
                have hz : (((10 : UInt8).toNat : Int) == 10) = true := rfl
                have HR2 := HNX.out
                rw [if_pos rfl] at HR2
                clear HNX hone
                go_wp2
                go_round
                case measure => simp [intOf]; omega
                case rel => exact ⟨j + 1, sj, by omega, by go_num, rfl, by omega, HR2.symm⟩
              · have hz : ((t.toNat : Int) == 10) = false := by
                  have : ¬ t.toNat = 10 := fun e => ht10 (UInt8.toNat_inj.1 e)
                  simp
                  omega
                have HR2 := HNX.out
                rw [if_neg ht10] at HR2
                have HR3 := Lib.hid HR2
                have hsz2 : (sj ++ C).size ≤ 22 * k2 + 1 + (j + 1) := by rw [ByteArray.size_append]; omega
                clear HNX HR2 ht10
                go_wp2
                go_round
                case measure => simp [intOf]; omega
                case rel => exact ⟨j + 1, _, by omega, by go_num, rfl, hsz2, HR3.out.symm⟩
            · obtain rfl : j = M.size := by omega
              have hjz : ¬ (M.size : Int) < (M.size : Int) := by omega
              have HN2 : Hid (sj ++ { data := #[10] } = str (hashTo ls (k2 + 1))) := by
                show sj ++ { data := #[10] } = _
                rw [HSU.out, HSJ.out, take_size, show ({ data := #[10] } : ByteArray) = str [10] from rfl, str_append]
                simp
              have hsz2 : (sj ++ { data := #[10] }).size ≤ 22 * (k2 + 1) := by rw [ByteArray.size_append]; omega
              have hsz3 : sj.size + 1 ≤ 9223372036854775807 := by omega
              clear HSJ HSU
              go_wp2
              go_roundw
              case measure => simp [intOf]; omega
              case rel => exact ⟨k2 + 1, _, by omega, by omega, by go_num, rfl, BD, hsz2, HN2.out⟩
        · have hno : (k2 : Int) < (ls.length : Int) → ¬ (k2 : Int) < 3 := by omega
          have MR := hM.below BR
          have hs1 : ({ data := #[120, 32, 61, 32] } : ByteArray).size = 4 := rfl
          have hs2 : ({ data := #[44, 32, 121, 32, 61, 32] } : ByteArray).size = 6 := rfl
          have hs3 : ({ data := #[44, 32, 114, 117, 108, 101, 32, 61, 32, 66, 51, 47, 83, 50, 51] } : ByteArray).size = 15 := rfl
          have hs4 : ({ data := #[122] } : ByteArray).size = 1 := rfl
          have hsdz : sd.size = (hashTo ls k2).length := by rw [HSD.out, str_size]
          have hsz0 : sd.size ≤ 66 := by omega
          have hfin : sd ++ { data := #[120, 32, 61, 32] } ++ tx ++ { data := #[44, 32, 121, 32, 61, 32] } ++ ty = str (hashTo ls k2 ++ headText X Y []) := by rw [HSD.out]; exact HPC.out _
          have hfz : (sd ++ { data := #[120, 32, 61, 32] } ++ tx ++ { data := #[44, 32, 121, 32, 61, 32] } ++ ty).size ≤ 200 := by
            simp only [ByteArray.size_append]
            omega
          have hfr : ∀ u : List UInt8, u = (if ruled = true then pR else []) → str (hashTo ls k2 ++ headText X Y u) = if ruled = true then sd ++ { data := #[120, 32, 61, 32] } ++ tx ++ { data := #[44, 32, 121, 32, 61, 32] } ++ ty ++ { data := #[44, 32, 114, 117, 108, 101, 32, 61, 32, 66, 51, 47, 83, 50, 51] } else sd ++ { data := #[120, 32, 61, 32] } ++ tx ++ { data := #[44, 32, 121, 32, 61, 32] } ++ ty := by
            intro u hu
            subst hu
            rw [hfin]
            cases ruled with
            | false => rfl
            | true =>
              rw [if_pos rfl, if_pos rfl, show ({ data := #[44, 32, 114, 117, 108, 101, 32, 61, 32, 66, 51, 47, 83, 50, 51] } : ByteArray) = str pR from rfl, str_append]
              congr 1
              unfold headText
              simp
          obtain ⟨u, hu⟩ : ∃ u : List UInt8, u = (if ruled = true then pR else []) := ⟨_, rfl⟩
          have hfu := hfr u hu
          have hu2 : u = [] ∨ u = pR := by rw [hu]; cases ruled; exact .inl rfl; exact .inr rfl
          have hq1 := fun W (hM : Mx W) => (HPO.out k2 hk3 u hu2 W hM).1
          have hq2 := fun W (hM : Mx W) => (HPO.out k2 hk3 u hu2 W hM).2
          rw [hfu] at hq1 hq2
          rw [← hsdz] at hq2
          clear hfr hfu hu hu2 HPO HPC HSD hfin hM B3
          by_cases hin : (k2 : Int) < (ls.length : Int)
          · have hno3 := hno hin
            clear hno
            cases ruled with
            | false =>
              rw [if_neg (by decide)] at hq1 hq2
              have hle : (sd.size : Int) ≤ ((sd ++ { data := #[120, 32, 61, 32] } ++ tx ++ { data := #[44, 32, 121, 32, 61, 32] } ++ ty).size : Int) := by
                simp only [ByteArray.size_append]
                omega
              go_wp2_with fail
              refine (hp1 _).mono ?_
              rintro e w6 ⟨rfl, rfl⟩
              go_wp2_with fail
              refine (htx _).mono ?_
              rintro e w6 ⟨rfl, hb6⟩
              have B6 := Qt.more BR BR.size hb6
              have M6 := MR.below hb6
              clear hp1 htx hb6 BR MR
              go_wp2_with fail
              refine (hp2 _).mono ?_
              rintro e w7 ⟨rfl, rfl⟩
              go_wp2_with fail
              refine (hty _).mono ?_
              rintro e w7 ⟨rfl, hb7⟩
              have B7 := Qt.more B6 B6.size hb7
              have M7 := M6.below hb7
              clear hp2 hty hb7 B6 M6
              go_wp2_with fail
              refine (hpa _ M7).mono ?_
              rintro e w8 ⟨v8, rfl, ⟨A8, c8, rfl, hc8, hR8⟩, hb8⟩
              have B8 := Qt.more B7 B7.size hb8
              have M8 := M7.below hb8
              clear hpa hb8 B7 M7
              go_wp2_with fail
              refine (hq1 _ M8).mono ?_
              rintro e w9 ⟨v9, rfl, ⟨A9, c9, rfl, hc9, hR9⟩, hb9⟩
              have B9 := Qt.more B8 B8.size hb9
              have M9 := M8.below hb9
              have hR8 := (hR8.below hb9 (Nat.le_refl _)).more hb9.size
              clear hq1 hb9 B8 M8
              go_wp2_with fail
              refine (hq2 _ M9).mono ?_
              rintro e w10 ⟨v10, rfl, ⟨A10, c10, rfl, hc10, hR10⟩, hb10⟩
              have B10 := Qt.more B9 B9.size hb10
              have hR8 := (hR8.below hb10 (Nat.le_refl _)).more hb10.size
              have hR9 := (hR9.below hb10 (Nat.le_refl _)).more hb10.size
              have hsm := Cel.same_holds (c := c8) (c' := c9) hR8 hR9 (by omega)
              rw [decide_eq_true rfl] at hsm
              clear hq2 hb10 B9 M9 hR8 hR9 hR10
              go_wp2_with fail
              refine hsm.mono ?_
              rintro e w11 ⟨rfl, hb11⟩
              have B11 := Qt.more B10 B10.size hb11
              clear hsm hb11 B10
              go_wp2
              go_ret
              exact ⟨by first | rfl | (simp [*]; done) | (simp [*]; omega), B11⟩
            | true =>
              rw [if_pos rfl] at hq1 hq2
              have hfz2 : (sd ++ { data := #[120, 32, 61, 32] } ++ tx ++ { data := #[44, 32, 121, 32, 61, 32] } ++ ty ++ { data := #[44, 32, 114, 117, 108, 101, 32, 61, 32, 66, 51, 47, 83, 50, 51] }).size ≤ 215 := by rw [ByteArray.size_append]; omega
              have hle : (sd.size : Int) ≤ ((sd ++ { data := #[120, 32, 61, 32] } ++ tx ++ { data := #[44, 32, 121, 32, 61, 32] } ++ ty ++ { data := #[44, 32, 114, 117, 108, 101, 32, 61, 32, 66, 51, 47, 83, 50, 51] }).size : Int) := by
                simp only [ByteArray.size_append]
                omega
              go_wp2_with fail
              refine (hp1 _).mono ?_
              rintro e w6 ⟨rfl, rfl⟩
              go_wp2_with fail
              refine (htx _).mono ?_
              rintro e w6 ⟨rfl, hb6⟩
              have B6 := Qt.more BR BR.size hb6
              have M6 := MR.below hb6
              clear hp1 htx hb6 BR MR
              go_wp2_with fail
              refine (hp2 _).mono ?_
              rintro e w7 ⟨rfl, rfl⟩
              go_wp2_with fail
              refine (hty _).mono ?_
              rintro e w7 ⟨rfl, hb7⟩
              have B7 := Qt.more B6 B6.size hb7
              have M7 := M6.below hb7
              clear hp2 hty hb7 B6 M6
              go_wp2_with fail
              refine (hpa _ M7).mono ?_
              rintro e w8 ⟨v8, rfl, ⟨A8, c8, rfl, hc8, hR8⟩, hb8⟩
              have B8 := Qt.more B7 B7.size hb8
              have M8 := M7.below hb8
              clear hpa hb8 B7 M7
              go_wp2_with fail
              refine (hq1 _ M8).mono ?_
              rintro e w9 ⟨v9, rfl, ⟨A9, c9, rfl, hc9, hR9⟩, hb9⟩
              have B9 := Qt.more B8 B8.size hb9
              have M9 := M8.below hb9
              have hR8 := (hR8.below hb9 (Nat.le_refl _)).more hb9.size
              clear hq1 hb9 B8 M8
              go_wp2_with fail
              refine (hq2 _ M9).mono ?_
              rintro e w10 ⟨v10, rfl, ⟨A10, c10, rfl, hc10, hR10⟩, hb10⟩
              have B10 := Qt.more B9 B9.size hb10
              have hR8 := (hR8.below hb10 (Nat.le_refl _)).more hb10.size
              have hR9 := (hR9.below hb10 (Nat.le_refl _)).more hb10.size
              have hsm := Cel.same_holds (c := c8) (c' := c9) hR8 hR9 (by omega)
              rw [decide_eq_true rfl] at hsm
              clear hq2 hb10 B9 M9 hR8 hR9 hR10
              go_wp2_with fail
              refine hsm.mono ?_
              rintro e w11 ⟨rfl, hb11⟩
              have B11 := Qt.more B10 B10.size hb11
              clear hsm hb11 B10
              go_wp2
              go_ret
              exact ⟨by first | rfl | (simp [*]; done) | (simp [*]; omega), B11⟩
          · clear hno
            cases ruled with
            | false =>
              rw [if_neg (by decide)] at hq1 hq2
              have hle : (sd.size : Int) ≤ ((sd ++ { data := #[120, 32, 61, 32] } ++ tx ++ { data := #[44, 32, 121, 32, 61, 32] } ++ ty).size : Int) := by
                simp only [ByteArray.size_append]
                omega
              go_wp2_with fail
              refine (hp1 _).mono ?_
              rintro e w6 ⟨rfl, rfl⟩
              go_wp2_with fail
              refine (htx _).mono ?_
              rintro e w6 ⟨rfl, hb6⟩
              have B6 := Qt.more BR BR.size hb6
              have M6 := MR.below hb6
              clear hp1 htx hb6 BR MR
              go_wp2_with fail
              refine (hp2 _).mono ?_
              rintro e w7 ⟨rfl, rfl⟩
              go_wp2_with fail
              refine (hty _).mono ?_
              rintro e w7 ⟨rfl, hb7⟩
              have B7 := Qt.more B6 B6.size hb7
              have M7 := M6.below hb7
              clear hp2 hty hb7 B6 M6
              go_wp2_with fail
              refine (hpa _ M7).mono ?_
              rintro e w8 ⟨v8, rfl, ⟨A8, c8, rfl, hc8, hR8⟩, hb8⟩
              have B8 := Qt.more B7 B7.size hb8
              have M8 := M7.below hb8
              clear hpa hb8 B7 M7
              go_wp2_with fail
              refine (hq1 _ M8).mono ?_
              rintro e w9 ⟨v9, rfl, ⟨A9, c9, rfl, hc9, hR9⟩, hb9⟩
              have B9 := Qt.more B8 B8.size hb9
              have M9 := M8.below hb9
              have hR8 := (hR8.below hb9 (Nat.le_refl _)).more hb9.size
              clear hq1 hb9 B8 M8
              go_wp2_with fail
              refine (hq2 _ M9).mono ?_
              rintro e w10 ⟨v10, rfl, ⟨A10, c10, rfl, hc10, hR10⟩, hb10⟩
              have B10 := Qt.more B9 B9.size hb10
              have hR8 := (hR8.below hb10 (Nat.le_refl _)).more hb10.size
              have hR9 := (hR9.below hb10 (Nat.le_refl _)).more hb10.size
              have hsm := Cel.same_holds (c := c8) (c' := c9) hR8 hR9 (by omega)
              rw [decide_eq_true rfl] at hsm
              clear hq2 hb10 B9 M9 hR8 hR9 hR10
              go_wp2_with fail
              refine hsm.mono ?_
              rintro e w11 ⟨rfl, hb11⟩
              have B11 := Qt.more B10 B10.size hb11
              clear hsm hb11 B10
              go_wp2
              go_ret
              exact ⟨by first | rfl | (simp [*]; done) | (simp [*]; omega), B11⟩
            | true =>
              rw [if_pos rfl] at hq1 hq2
              have hfz2 : (sd ++ { data := #[120, 32, 61, 32] } ++ tx ++ { data := #[44, 32, 121, 32, 61, 32] } ++ ty ++ { data := #[44, 32, 114, 117, 108, 101, 32, 61, 32, 66, 51, 47, 83, 50, 51] }).size ≤ 215 := by rw [ByteArray.size_append]; omega
              have hle : (sd.size : Int) ≤ ((sd ++ { data := #[120, 32, 61, 32] } ++ tx ++ { data := #[44, 32, 121, 32, 61, 32] } ++ ty ++ { data := #[44, 32, 114, 117, 108, 101, 32, 61, 32, 66, 51, 47, 83, 50, 51] }).size : Int) := by
                simp only [ByteArray.size_append]
                omega
              go_wp2_with fail
              refine (hp1 _).mono ?_
              rintro e w6 ⟨rfl, rfl⟩
              go_wp2_with fail
              refine (htx _).mono ?_
              rintro e w6 ⟨rfl, hb6⟩
              have B6 := Qt.more BR BR.size hb6
              have M6 := MR.below hb6
              clear hp1 htx hb6 BR MR
              go_wp2_with fail
              refine (hp2 _).mono ?_
              rintro e w7 ⟨rfl, rfl⟩
              go_wp2_with fail
              refine (hty _).mono ?_
              rintro e w7 ⟨rfl, hb7⟩
              have B7 := Qt.more B6 B6.size hb7
              have M7 := M6.below hb7
              clear hp2 hty hb7 B6 M6
              go_wp2_with fail
              refine (hpa _ M7).mono ?_
              rintro e w8 ⟨v8, rfl, ⟨A8, c8, rfl, hc8, hR8⟩, hb8⟩
              have B8 := Qt.more B7 B7.size hb8
              have M8 := M7.below hb8
              clear hpa hb8 B7 M7
              go_wp2_with fail
              refine (hq1 _ M8).mono ?_
              rintro e w9 ⟨v9, rfl, ⟨A9, c9, rfl, hc9, hR9⟩, hb9⟩
              have B9 := Qt.more B8 B8.size hb9
              have M9 := M8.below hb9
              have hR8 := (hR8.below hb9 (Nat.le_refl _)).more hb9.size
              clear hq1 hb9 B8 M8
              go_wp2_with fail
              refine (hq2 _ M9).mono ?_
              rintro e w10 ⟨v10, rfl, ⟨A10, c10, rfl, hc10, hR10⟩, hb10⟩
              have B10 := Qt.more B9 B9.size hb10
              have hR8 := (hR8.below hb10 (Nat.le_refl _)).more hb10.size
              have hR9 := (hR9.below hb10 (Nat.le_refl _)).more hb10.size
              have hsm := Cel.same_holds (c := c8) (c' := c9) hR8 hR9 (by omega)
              rw [decide_eq_true rfl] at hsm
              clear hq2 hb10 B9 M9 hR8 hR9 hR10
              go_wp2_with fail
              refine hsm.mono ?_
              rintro e w11 ⟨rfl, hb11⟩
              have B11 := Qt.more B10 B10.size hb11
              clear hsm hb11 B10
              go_wp2
              go_ret
              exact ⟨by first | rfl | (simp [*]; done) | (simp [*]; omega), B11⟩
end Go.Proofs.YtacpncmdgkljdaaDoor
