/-
  Layer 5: the law RleItems, walked.
-/
import Derived.Test.YtacpncmdgkljdaaDoorZr
namespace Go.Proofs.YtacpncmdgkljdaaDoor
set_option linter.unusedVariables false
set_option linter.unusedSimpArgs false
open Go.RowKit Go.Sort
open Cel (rawSet)

theorem ones_next {T R : List UInt8} {num k : Nat} {D : List UInt8} (hk : k < T.length) (h : D ++ onesN num (T.drop k) = R ∧ smallN num (T.drop k) = true) :
    num ≤ 1000000 ∧ (digB T[k] = true → D ++ onesN (10 * num + dv T[k]) (T.drop (k + 1)) = R ∧ smallN (10 * num + dv T[k]) (T.drop (k + 1)) = true) ∧
    (digB T[k] = false → (D ++ List.replicate (min (max num 1) 100) T[k]) ++ onesN 0 (T.drop (k + 1)) = R ∧ smallN 0 (T.drop (k + 1)) = true) := by
  obtain ⟨h1, h2⟩ := h
  rw [List.drop_eq_getElem_cons hk] at h1 h2
  rw [onesN_cons] at h1
  rw [smallN_cons, Bool.and_eq_true, decide_eq_true_eq] at h2
  refine ⟨h2.1, fun hd => ?_, fun hd => ?_⟩
  · rw [if_pos hd] at h1 h2
    exact ⟨h1, h2.2⟩
  · rw [if_neg (by rw [hd]; decide)] at h1 h2
    rw [List.append_assoc]
    exact ⟨h1, h2.2⟩
theorem dv_int (t : UInt8) (h : digB t = true) (n : Nat) : (10 * (n : Int) + (t.toNat : Int) - 48) = ((10 * n + dv t : Nat) : Int) := by
  unfold digB at h
  simp only [Bool.and_eq_true, decide_eq_true_eq] at h
  unfold dv
  omega

set_option maxHeartbeats 8000000 in
set_option maxRecDepth 100000 in
theorem rleItems_walk (A : Option Addr) (raw : List (Int × Int)) (c : Nat) (w : World) (hR : NowP w A raw) (hl : raw.length ≤ 9223372036854775807) (hc : raw.length ≤ c) (hw : ∀ p ∈ raw, I64 p.1 ∧ I64 p.2) (hT : Tab w) (hM : Mx w) :
    Calls Tryd.prog 7 #[.slice A raw.length c] w fun e w' => e = .returned (.bool true) ∧ Below w.heap.size w w' := by
  have h1 := awake5_any w hT hM
  have hset := fun W (hb : Below w.heap.size w W) => Cel.set_any A raw c W ((Cel.Rd.below hR hb (Nat.le_refl _)).more hb.size) hl hc hw
  have hown := own5_raw raw
  obtain ⟨R, hR1, hR2, hR3, hR4⟩ := raw_ones raw
  generalize rawSet raw = l at *
  have hshort := hown.short
  have hsize := print_size l
  obtain ⟨t1, t2, t3⟩ := ten_str (ten_print l)
  have hz := str_size (printL l)
  have hS : str (printL l) = str (printL l) := rfl
  have hpr := fun (A : Option Addr) (c : Nat) (W : World) (hR : Cel.Rd W W.heap.size A l) (hc : l.length ≤ c) (hT : Tab W) => print_reads hR hc hown.right hT hS
  have hps := parse_home hown.right hown.small (by omega)
  have hpa := fun W (hM : Mx W) => rleParse_any (printL l) W (by omega) hM
  have hcl : (cornerL l).length ≤ 60 := by unfold cornerL; rw [Cel.length_shL]; exact hown.len
  have hhl := headL_len hown.right
  have hpb := fun W (hM : Mx W) => rleParse_any (headL l ++ R) W (by rw [List.length_append]; omega) hM
  rw [hps] at hpa
  rw [hR4] at hpb
  unfold SetR at hpa hpb
  simp only at hpa hpb
  have hx : (str (printL l)).extract 0 (headL l).length = str (headL l) := by rw [str_take, print_parts, List.take_left]
  obtain ⟨n, hn⟩ : ∃ n, n = (headL l).length := ⟨_, rfl⟩
  rw [← hn] at hR1 hR3 t1 t2 t3 hx hsize hhl
  have hTl : (printL l).length = (str (printL l)).size := hz.symm
  have hat : ∀ k (h1 : k < (printL l).length) (h : k < (str (printL l)).size), (printL l)[k]'h1 = (str (printL l))[k]'h := fun k _ h => rfl
  have hex : ∀ k (h : k < (str (printL l)).size), (str (printL l)).extract k (k + 1) = str [(str (printL l))[k]'h] := by
    intro k h
    have e1 := List.take_succ_eq_append_getElem (l := (printL l).drop k) (i := 0) (by rw [List.length_drop]; omega)
    apply ByteArray.ext
    apply Array.ext'
    have e2 : ((str (printL l)).extract k (k + 1)).data.toList = ((printL l).drop k).take 1 := by
      simp [str]
    rw [e2, e1]
    simp [str]
    rfl
  have hn2 : (str (printL l)).size ≤ 2600 := by omega
  have hnl : n ≤ 63 := hhl
  clear hz hown hshort hps hR4 hn hhl hsize
  generalize hSS : str (printL l) = S at *
  generalize printL l = T at *
  generalize headL l = H at *
  generalize cornerL l = K at *
  have HT2 := Lib.hid t2
  have HT3 := Lib.hid t3
  have HAT := Lib.hid hat
  have HEX := Lib.hid hex
  have HTL := Lib.hid hTl
  have HR1 := Lib.hid hR1
  have HR3 := Lib.hid hR3
  have HX := Lib.hid hx
  have HHN : Hid (H.length ≤ 63) := by
    have h := congrArg ByteArray.size hx
    rw [ByteArray.size_extract, str_size] at h
    unfold Hid
    omega
  clear t2 t3 hat hex hR1 hR3 hx
  go_enter Tryd.func7, Tryd.ntmps7
  go_wp2_with fail
  refine h1.mono ?_
  rintro e w1 ⟨rfl, B1⟩
  clear h1
  go_wp2_with fail
  refine (hset w1 B1).mono ?_
  rintro e w2 ⟨v2, rfl, ⟨A2, c2, rfl, hc2, hR5⟩, hb2⟩
  have B2 := Qt.more B1 B1.size hb2
  clear hset hb2 B1
  go_wp2_with fail
  refine (hpr A2 c2 w2 hR5 hc2 (hT.below B2)).mono ?_
  rintro e w3 ⟨rfl, hb3⟩
  have B3 := Qt.more B2 B2.size hb3
  clear hpr hb3 B2 hR5 hc2
  go_wp2
  go_loop [6] (fun i => ∃ k : Nat, k ≤ n ∧ i = .int .i64 k) (fun i => n - (intOf i).toNat)
  case atStart => exact ⟨0, Nat.zero_le _, rfl⟩
  case round =>
    obtain ⟨k, hk, rfl⟩ := hrel
    have hltz : (k : Int) < (S.size : Int) := by omega
    have hkS : k < S.size := by omega
    obtain ⟨t, ht⟩ : ∃ t, t = S[k]'hkS := ⟨_, rfl⟩
    have hidx : ∀ h, S[k]'h = t := fun _ => ht.symm
    rcases Nat.lt_or_ge k n with hkn | hkn
    · have hne : t ≠ 10 := by rw [ht]; exact HT2.out k hkS hkn
      have hz : ((t.toNat : Int) == 10) = false := by
        have : ¬ t.toNat = 10 := fun e => hne (UInt8.toNat_inj.1 e)
        simp
        omega
      clear ht hne HT2 HT3 HAT HEX HTL HR1 HR3 HX hpa hpb hSS hTl
      go_wp2
      go_round
      case measure => simp [intOf]; omega
      case rel => exact ⟨k + 1, by omega, by go_num⟩
    · obtain rfl : k = n := by omega
      obtain rfl : t = 10 := by rw [ht]; exact HT3.out _
      have hz : (((10 : UInt8).toNat : Int) == 10) = true := rfl
      clear ht HT2 HT3 hSS hTl
      have hxx := HX.out
      go_wp2
      go_loop [7, 8, 9] (fun s v i => ∃ (k2 num : Nat) (D : List UInt8), k2 ≤ S.size ∧ i = .int .i64 k2 ∧ v = .int .i64 num ∧ s = .string (str (H ++ D)) ∧ Hid (D ++ onesN num (T.drop k2) = R ∧ smallN num (T.drop k2) = true)) (fun _ _ i => S.size - (intOf i).toNat)
      case atStart => exact ⟨k, 0, [], by omega, rfl, rfl, (by rw [List.append_nil]), HR1.out, HR3.out⟩
      case round =>
        obtain ⟨k2, num, D, hk2, rfl, rfl, rfl, HH⟩ := hrel
        clear hltz hidx hkS hxx
        by_cases hlt : k2 < S.size
        · have hltz : (k2 : Int) < (S.size : Int) := by omega
          have hltz2 : (k2 : Int) + 1 ≤ (S.size : Int) := by omega
          have hltz3 : (k2 : Int) ≤ (k2 : Int) + 1 := by omega
          have hkT : k2 < T.length := by rw [HTL.out]; exact hlt
          obtain ⟨hnum, hdig, hnod⟩ := ones_next hkT HH.out
          have hDl : D.length ≤ 19000 := by
            have := congrArg List.length HH.out.1
            rw [List.length_append] at this
            omega
          have he := HEX.out k2 hlt
          rw [HAT.out k2 hkT hlt] at hdig hnod
          obtain ⟨t, ht⟩ : ∃ t, t = S[k2]'hlt := ⟨_, rfl⟩
          rw [← ht] at he hdig hnod
          have HN := Lib.hid hnod
          have HDG := Lib.hid hdig
          have hc1 : (str [t]).size = 1 := rfl
          have hci : ∀ h, (str [t])[0]'h = t := fun _ => rfl
          clear HH hdig hnod ht
          obtain ⟨sd, hsd⟩ : ∃ z, z = str (H ++ D) := ⟨_, rfl⟩
          have HSD := Lib.hid hsd
          have hsz : sd.size ≤ 19100 := by rw [hsd, str_size, List.length_append]; have := HHN.out; omega
          rw [← hsd]
          clear hsd
          obtain ⟨C, hC⟩ : ∃ z, z = str [t] := ⟨_, rfl⟩
          have HC := Lib.hid hC
          rw [← hC] at he hc1 hci
          clear hC
          cases hd : digB t with
          | true =>
            have h48 : (48 : Int) ≤ (t.toNat : Int) := by unfold digB at hd; simp only [Bool.and_eq_true, decide_eq_true_eq] at hd; omega
            have h57 : (t.toNat : Int) ≤ 57 := by unfold digB at hd; simp only [Bool.and_eq_true, decide_eq_true_eq] at hd; omega
            have hv := dv_int t hd num
            have hrel2 := HDG.out hd
            clear hd HN HDG
            go_wp2
            go_round
            case measure => simp [intOf]; omega
            case rel => exact ⟨k2 + 1, 10 * num + dv t, D, by omega, by go_num, congrArg (Value.int .i64) (by omega), congrArg Value.string HSD.out, hrel2⟩
          | false =>
            have hrel2 := HN.out hd
            obtain ⟨q, hq⟩ : ∃ q, q = min (max num 1) 100 := ⟨_, rfl⟩
            rw [← hq] at hrel2
            have HQ := Lib.hid hq
            have hq1 : q ≤ 100 := by omega
            have HREL := Lib.hid hrel2
            have hcase : (t.toNat : Int) < 48 ∨ (48 : Int) ≤ (t.toNat : Int) ∧ ¬ (t.toNat : Int) ≤ 57 := by
              unfold digB at hd
              rw [Bool.and_eq_false_iff, decide_eq_false_iff_not, decide_eq_false_iff_not] at hd
              omega
            clear hd HN HDG hrel2 hq
            rcases hcase with h48 | ⟨h48, h57⟩
            · have h48n : ¬ (48 : Int) ≤ (t.toNat : Int) := by omega
              clear h48
              go_wp2
              go_loop [7, 11] (fun s v => ∃ (k3 : Nat) (sd : ByteArray), k3 ≤ q ∧ v = .int .i64 k3 ∧ s = .string sd ∧ sd.size ≤ 19100 + k3 ∧ Hid (sd = str (H ++ (D ++ List.replicate k3 t)))) (fun _ v => q - (intOf v).toNat)
              case atStart => exact ⟨0, sd, Nat.zero_le _, rfl, rfl, hsz, by rw [List.replicate_zero, List.append_nil]; exact HSD.out⟩
              case round =>
                obtain ⟨k3, sd3, hk3, rfl, rfl, hs3, HS3⟩ := hrel
                clear hsz
                rcases Nat.lt_or_ge k3 q with hlt3 | hge3
                · have hm1 : (k3 : Int) < max (num : Int) 1 := by have := HQ.out; omega
                  have hm2 : (k3 : Int) < 100 := by omega
                  have hadd : Hid (sd3 ++ C = str (H ++ (D ++ List.replicate (k3 + 1) t))) := by
                    show sd3 ++ C = _
                    rw [HS3.out, HC.out, str_append, List.replicate_succ', List.append_assoc, List.append_assoc]
                  have hadz : (sd3 ++ C).size ≤ 19100 + (k3 + 1) := by rw [ByteArray.size_append]; omega
                  clear HS3
                  go_wp2
                  go_round
                  case measure => simp [intOf]; omega
                  case rel => exact ⟨k3 + 1, sd3 ++ C, by omega, by go_num, rfl, hadz, hadd.out⟩
                · obtain rfl : k3 = q := by omega
                  have hfin : (k3 : Int) < max (num : Int) 1 → ¬ (k3 : Int) < 100 := by have := HQ.out; omega
                  have hres := HREL.out
                  have hstr := HS3.out
                  clear HS3 HREL HQ
                  by_cases hm1 : (k3 : Int) < max (num : Int) 1
                  · have hm2 := hfin hm1
                    clear hfin
                    go_wp2
                    go_round
                    case measure => simp [intOf]; omega
                    case rel => exact ⟨k2 + 1, 0, _, by omega, by go_num, rfl, congrArg Value.string hstr, hres⟩
                  · clear hfin
                    go_wp2
                    go_round
                    case measure => simp [intOf]; omega
                    case rel => exact ⟨k2 + 1, 0, _, by omega, by go_num, rfl, congrArg Value.string hstr, hres⟩
            · skip
              go_wp2
              go_loop [7, 11] (fun s v => ∃ (k3 : Nat) (sd : ByteArray), k3 ≤ q ∧ v = .int .i64 k3 ∧ s = .string sd ∧ sd.size ≤ 19100 + k3 ∧ Hid (sd = str (H ++ (D ++ List.replicate k3 t)))) (fun _ v => q - (intOf v).toNat)
              case atStart => exact ⟨0, sd, Nat.zero_le _, rfl, rfl, hsz, by rw [List.replicate_zero, List.append_nil]; exact HSD.out⟩
              case round =>
                obtain ⟨k3, sd3, hk3, rfl, rfl, hs3, HS3⟩ := hrel
                clear hsz
                rcases Nat.lt_or_ge k3 q with hlt3 | hge3
                · have hm1 : (k3 : Int) < max (num : Int) 1 := by have := HQ.out; omega
                  have hm2 : (k3 : Int) < 100 := by omega
                  have hadd : Hid (sd3 ++ C = str (H ++ (D ++ List.replicate (k3 + 1) t))) := by
                    show sd3 ++ C = _
                    rw [HS3.out, HC.out, str_append, List.replicate_succ', List.append_assoc, List.append_assoc]
                  have hadz : (sd3 ++ C).size ≤ 19100 + (k3 + 1) := by rw [ByteArray.size_append]; omega
                  clear HS3
                  go_wp2
                  go_round
                  case measure => simp [intOf]; omega
                  case rel => exact ⟨k3 + 1, sd3 ++ C, by omega, by go_num, rfl, hadz, hadd.out⟩
                · obtain rfl : k3 = q := by omega
                  have hfin : (k3 : Int) < max (num : Int) 1 → ¬ (k3 : Int) < 100 := by have := HQ.out; omega
                  have hres := HREL.out
                  have hstr := HS3.out
                  clear HS3 HREL HQ
                  by_cases hm1 : (k3 : Int) < max (num : Int) 1
                  · have hm2 := hfin hm1
                    clear hfin
                    go_wp2
                    go_round
                    case measure => simp [intOf]; omega
                    case rel => exact ⟨k2 + 1, 0, _, by omega, by go_num, rfl, congrArg Value.string hstr, hres⟩
                  · clear hfin
                    go_wp2
                    go_round
                    case measure => simp [intOf]; omega
                    case rel => exact ⟨k2 + 1, 0, _, by omega, by go_num, rfl, congrArg Value.string hstr, hres⟩
        · have hltz : ¬ (k2 : Int) < (S.size : Int) := by omega
          have hend := HH.out.1
          rw [List.drop_of_length_le (by rw [HTL.out]; omega)] at hend
          have hDR : D = R := by rw [← hend]; exact (List.append_nil D).symm
          subst hDR
          clear HH HAT HEX HTL HR1 HR3 HX hend
          go_wp2_with fail
          refine (hpa _ (hM.below B3)).mono ?_
          rintro e w4 ⟨v4, rfl, ⟨A4, c4, rfl, hc4, hR4⟩, hb4⟩
          have B4 := Qt.more B3 B3.size hb4
          clear hpa hb4 B3
          go_wp2_with fail
          refine (hpb _ (hM.below B4)).mono ?_
          rintro e w5 ⟨v5, rfl, ⟨A5, c5, rfl, hc5, hR5⟩, hb5⟩
          have B5 := Qt.more B4 B4.size hb5
          have hR4 := (hR4.below hb5 (Nat.le_refl _)).more hb5.size
          have hsm := Cel.same_holds (c := c4) (c' := c5) hR4 hR5 (by omega)
          rw [decide_eq_true rfl] at hsm
          clear hpb hb5 B4 hR4 hR5
          go_wp2_with fail
          refine hsm.mono ?_
          rintro e w10 ⟨rfl, hb10⟩
          have B10 := Qt.more B5 B5.size hb10
          clear hsm hb10 B5
          go_wp2
          go_ret
          exact ⟨by first | rfl | (simp [*]; done), B10⟩
end Go.Proofs.YtacpncmdgkljdaaDoor
