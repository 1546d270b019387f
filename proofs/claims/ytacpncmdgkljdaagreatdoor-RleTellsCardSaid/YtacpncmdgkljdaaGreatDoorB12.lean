/-
  Texts that the claims of this seat share, part 12.
-/
import Derived.Test.YtacpncmdgkljdaaGreatDoorB11
import Derived.Test.YtacpncmdgkljdaaGreatDoorB09
set_option linter.unusedVariables false
set_option linter.unusedSimpArgs false
namespace Go.Proofs.YtacpncmdgkljdaaGreatDoor
set_option linter.unusedVariables false
set_option linter.unusedSimpArgs false
open Go.RowKit Go.Sort
open Cel (push_one)

/-- What is known at the head of the loop over items. -/
structure DoneAt (w wr : World) (I : List Itm) (d : List (Int × Int) × Int × Nat) (k : Nat) (s : St) (v : Value) : Prop where
  own : Cel.Own wr w.heap.size 37 v s.out
  bel : Below w.heap.size w wr
  fit : Fit s
  rest : doL (I.drop k) s = d

set_option maxHeartbeats 16000000 in
set_option maxRecDepth 100000 in
theorem refParse5_any (l : List UInt8) (w : World) (hl : l.length ≤ 9223372036854775807) :
    Calls Tryz.prog 10 #[.string (str l)] w (SetR (parseP l) w) := by
  have hsz := str_size l
  by_cases hlong : 20000 < l.length
  · have e : parseP l = ([], 3, 0) := by unfold parseP; rw [if_pos hlong]
    rw [e]
    have hz : (20000 : Int) < ((str l).size : Int) := by omega
    clear e
    generalize str l = s at hz hsz
    go_enter Tryz.func10, Tryz.ntmps10
    go_wp2
    go_ret3
    exact setR_none (Below.refl _ _)
  · have hl2 : l.length ≤ 20000 := by omega
    have hz : ¬ (20000 : Int) < ((str l).size : Int) := by omega
    obtain ⟨K, hK, hh⟩ := hash_at l
    have hpu := parseP_unfold hl2 hh
    obtain ⟨r, hr⟩ : ∃ r, r = parseP l := ⟨_, rfl⟩
    rw [← hr] at hpu ⊢
    have hline := fun k (hk : k ≤ l.length) W => line_from l hl2 hk W
    have hget : ∀ k (h : k < l.length) (h2 : k < (str l).size), l[k]'h = (str l)[k]'h2 := fun k _ _ => rfl
    have hfrom : ∀ k, (str l).extract k (str l).size = str (l.drop k) := fun k => by rw [hsz, str_drop]
    have HPU := Lib.hid hpu
    have HLN := Lib.hid hline
    have HG := Lib.hid hget
    have HFR := Lib.hid hfrom
    have HSZ := Lib.hid hsz
    have hs2 : (str l).size ≤ 20000 := by omega
    have hK2 : K ≤ (str l).size := by omega
    have HH0 : Hid (hashL (l.drop 0) 0 = (l.drop K, K)) := hh
    clear hpu hline hget hfrom hlong hl hr hh hsz hl2 hK
    generalize str l = s at *
    go_enter Tryz.func10, Tryz.ntmps10
    go_wp2
    go_loop [5] (fun i => ∃ k : Nat, k ≤ s.size ∧ i = .int .i64 k ∧ Hid (hashL (l.drop k) k = (l.drop K, K))) (fun i => s.size - (intOf i).toNat)
    case atStart => exact ⟨0, Nat.zero_le _, rfl, HH0.out⟩
    case round =>
      obtain ⟨k, hk, rfl, HH⟩ := hrel
      have hkz : (k : Int) ≤ (s.size : Int) := by omega
      have hcall := HLN.out k (by rw [← HSZ.out]; exact hk)
      by_cases hlt : k < s.size
      · have hltz : (k : Int) < (s.size : Int) := by omega
        have hkl : k < l.length := by rw [← HSZ.out]; exact hlt
        obtain ⟨t, ht⟩ : ∃ t, t = s[k]'hlt := ⟨_, rfl⟩
        have hidx : ∀ h, s[k]'h = t := fun _ => ht.symm
        have hhd : (l.drop k).head? = some t := by rw [List.head?_drop, List.getElem?_eq_getElem hkl, HG.out k hkl hlt, ht]
        by_cases h35 : t = 35
        · subst h35
          have hz35 : (((35 : UInt8).toNat : Int) == 35) = true := rfl
          cases hln : lineL (l.drop k) with
          | none =>
            have hop := hash_open hln k
            rw [HH.out] at hop
            injection hop with _ hop
            subst hop
            have he := HPU.out.1 hln
            subst he
            rw [lineV_none hln] at hcall
            clear ht hhd hln HH HPU HLN HG HFR HH0 hkl
            generalize str [] = s0 at *
            go_wp2_with fail
            refine (hcall _).mono ?_
            rintro e w1 ⟨rfl, rfl⟩
            go_wp2_with fail
            refine (hcall _).mono ?_
            rintro e w1 ⟨rfl, rfl⟩
            go_wp2
            go_ret3
            exact setR_none (Below.refl _ _)
          | some q =>
            obtain ⟨a, b⟩ := q
            obtain ⟨hb, hlen⟩ := line_drop hln
            have hon := hash_on hhd hln k
            rw [HH.out, hb] at hon
            rw [lineV_some hln] at hcall
            have hss := str_size a
            have HON := Lib.hid hon
            have hsb : (str a).size ≤ 20000 := by have := HSZ.out; omega
            have hsum : (k : Int) + ((str a).size : Int) + 1 = ((k + a.length + 1 : Nat) : Int) := by omega
            have hle : k + a.length + 1 ≤ s.size := by have := HSZ.out; omega
            have HSUM := Lib.hid hsum
            clear ht hhd hln HH HPU HG HFR HH0 hon hb hsum hlen hss hkl
            generalize str a = sa at *
            go_wp2_with fail
            refine (hcall _).mono ?_
            rintro e w1 ⟨rfl, rfl⟩
            clear hcall
            go_wp2
            go_round
            case measure => simp [intOf]; omega
            case rel => exact ⟨k + a.length + 1, hle, congrArg (Value.int .i64) HSUM.out, HON.out.symm⟩
        · have hz35 : ((t.toNat : Int) == 35) = false := by
            have : ¬ t.toNat = 35 := fun e => h35 (UInt8.toNat_inj.1 e)
            simp
            omega
          have hno := hash_no (l := l.drop k) (by rw [hhd]; exact fun e => h35 (Option.some.inj e)) k
          rw [HH.out] at hno
          injection hno with _ hno
          subst hno
          clear ht hhd HH HG HH0 h35 hkl
          cases hln : lineL (l.drop K) with
          | none =>
            have he := HPU.out.1 hln
            subst he
            rw [lineV_none hln] at hcall
            clear hln HPU HLN HFR
            generalize str [] = s0 at *
            go_wp2_with fail
            refine (hcall _).mono ?_
            rintro e w1 ⟨rfl, rfl⟩
            go_wp2
            go_ret3
            exact setR_none (Below.refl _ _)
          | some q0 =>
            obtain ⟨h, rr⟩ := q0
            obtain ⟨hrr, hlen⟩ := line_drop hln
            obtain ⟨hp1, hp2⟩ := HPU.out.2 h rr hln
            rw [lineV_some hln] at hcall
            have hhead := fun W => refHead_any h W (by have := HSZ.out; omega)
            have hss := str_size h
            have hsb : (str h).size ≤ 20000 := by have := HSZ.out; omega
            cases hhd : headB h with
            | false =>
              have he := hp1 hhd
              subst he
              rw [hhd] at hhead
              clear hln HPU HLN HFR hp1 hp2 hhd hrr hlen hss
              generalize str h = sh at *
              go_wp2_with fail
              refine (hcall _).mono ?_
              rintro e w1 ⟨rfl, rfl⟩
              go_wp2_with fail
              refine (hhead _).mono ?_
              rintro e w1 ⟨rfl, hb1⟩
              go_wp2
              go_ret3
              exact setR_none hb1
            | true =>
              have hp3 := hp2 hhd
              rw [hhd] at hhead
              have hsum : (K : Int) + ((str h).size : Int) + 1 = ((K + h.length + 1 : Nat) : Int) := by omega
              have hex : s.extract (K + h.length + 1) s.size = str rr := by rw [HFR.out, hrr]
              have hrl : rr.length ≤ 20000 := by have := HSZ.out; omega
              have hlex := fun W => refLex_any rr W (by omega)
              rw [← hex] at hlex
              have hshape := lexA_shape rr
              have hshp := lexL_shape rr 0 []
              rw [← lexA_short (by omega)] at hshp
              have hcnt : (lexA rr).1.length ≤ 1000000 ∧ (lexA rr).2.2 ≤ 20000 ∧ ∀ x ∈ (lexA rr).1, x.2.2 ≤ 20000 := by
                unfold Shaped at hshp
                by_cases h0 : (lexA rr).2.1 = 0
                · obtain ⟨m, m1, m2, _, m4, m5, m6⟩ := hshp.1 h0
                  have := text_pos m2
                  rw [m1]
                  simp only [List.nil_append]
                  refine ⟨by omega, by omega, fun x hx => ?_⟩
                  have := m4 x hx
                  omega
                · obtain ⟨m1, _, m3, _⟩ := hshp.2 h0
                  rw [m1]
                  simp only [List.length_nil]
                  exact ⟨by omega, by omega, fun x hx => absurd hx (by simp)⟩
              obtain ⟨⟨I, e0, p⟩, hx⟩ : ∃ z, z = lexA rr := ⟨_, rfl⟩
              obtain ⟨hp4, hp5⟩ := hp3 I e0 p hx.symm
              rw [← hx] at hlex hshape hcnt
              obtain ⟨q, hq⟩ : ∃ q : Nat, q = K + h.length + 1 := ⟨_, rfl⟩
              rw [← hq] at hlex hp4 hp5
              have hqs : q ≤ s.size := by have := HSZ.out; omega
              have hqz : (K : Int) + ((str h).size : Int) + 1 = (q : Int) := by omega
              have hq2 : q ≤ 20000 := by have := HSZ.out; omega
              unfold LexR at hlex
              simp only at hlex hshape hcnt
              obtain ⟨hc1, hc2, hc3⟩ := hcnt
              clear hln HPU HLN HFR hp1 hp2 hp3 hhd hrr hlen hss hsum hex hx hq hshp
              generalize str h = sh at *
              by_cases he0 : e0 = 0
              · subst he0
                have hrd := hp5 rfl
                have hgood := hshape rfl
                clear hp4 hp5 hshape
                obtain ⟨d, hd⟩ : ∃ d, d = doL I st0 := ⟨_, rfl⟩
                rw [← hd] at hrd
                have HRD := Lib.hid hrd
                have HGD := Lib.hid hgood
                have HC3 := Lib.hid hc3
                clear hrd hgood hc3
                go_wp2_with fail
                refine (hcall _).mono ?_
                rintro e w1 ⟨rfl, rfl⟩
                go_wp2_with fail
                refine (hhead _).mono ?_
                rintro e w1 ⟨rfl, hb1⟩
                go_wp2_with fail
                try simp only [hqz]
                refine (hlex _).mono ?_
                rintro e w2 ⟨v2, rfl, ⟨A2, c2, rfl, hcc2, hR2⟩, hb2⟩
                have HB2 := Lib.hid (Qt.more hb1 hb1.size hb2)
                have HR2 := Lib.hid hR2
                have HI0 : Hid (DoneAt w2 w2 I d 0 st0 (.slice none 0 0)) := ⟨World.ownsRow_nil _ _ _ _, Below.refl _ _, fit0, hd.symm⟩
                clear hcall hhead hlex hb1 hb2 hR2 hd hqz hsb
                rw [List.length_map] at *
                obtain ⟨i0, hi, hz0, hz1, hz2⟩ := info_parts Cel.infoCell
                go_wp2
                go_loopw [13, 14, 15, 16, 17] (fun o x y m i wr => ∃ (k : Nat) (st : St) (v : Value), k ≤ I.length ∧ o = v ∧ x = .int .i64 st.x ∧ y = .int .i64 st.y ∧ m = .int .i64 st.many ∧ i = .int .i64 k ∧ Hid (DoneAt w2 wr I d k st v)) (fun _ _ _ _ i _ => I.length - (intOf i).toNat)
                case atStart => exact ⟨0, st0, _, Nat.zero_le _, rfl, rfl, rfl, rfl, rfl, HI0.out⟩
                case round =>
                  obtain ⟨k, st, v, hk, hv, rfl, rfl, rfl, rfl, HH⟩ := hrel
                  have hv2 := hv.symm
                  subst hv2
                  clear hv HI0
                  have H := HH.out
                  by_cases hlt : k < I.length
                  · have hltz : (k : Int) < (I.length : Int) := by omega
                    obtain ⟨b0, off, rfl, hbB, hcell⟩ := HR2.out.at_ (by rw [List.length_map]; omega)
                    have hcons := List.drop_eq_getElem_cons hlt
                    have hgood := HGD.out _ (List.getElem_mem hlt)
                    have hgd : (I.map up).getD k noE = up I[k] := by rw [List.getD_eq_getElem?_getD, List.getElem?_map, List.getElem?_eq_getElem hlt]; rfl
                    have hc3 := hcell k (by rw [List.length_map]; exact hlt)
                    have hpl := HC3.out _ (List.getElem_mem hlt)
                    rw [hgd] at hc3
                    obtain ⟨⟨t2, n, p2⟩, hx⟩ : ∃ x, x = I[k] := ⟨_, rfl⟩
                    rw [← hx] at hc3 hcons hgood hpl
                    obtain ⟨htag, hn1, hn2⟩ := (goodI_iff _).1 hgood
                    simp only [up] at hc3 htag hn1 hn2 hpl
                    have hstep := H.rest
                    rw [hcons, doL_cons] at hstep
                    have hfx := H.fit.x
                    have hfy := H.fit.y
                    have hfm := H.fit.many
                    have hfl := H.fit.len
                    obtain ⟨a0x, a1x, a2x⟩ := hc3
                    have h3 : t2 = 98 ∨ t2 = 36 ∨ t2 = 111 := by
                      unfold tagB at htag
                      simp only [Bool.or_eq_true, beq_iff_eq] at htag
                      rcases htag with (h | h) | h
                      · exact .inl h
                      · exact .inr (.inr h)
                      · exact .inr (.inl h)
                    clear hcell hgd hx hcons hgood htag
                    rcases h3 with rfl | rfl | rfl
                    · have a0 := Qt.keep H.bel a0x
                      have a1 := Qt.keep H.bel a1x
                      have a2 := Qt.keep H.bel a2x
                      have htt : ((98 : UInt8).toNat : Int) = 98 := rfl
                      rw [htt] at a0 a0x
                      by_cases hfar : 1099511627776 < st.x + n
                      · have hfz : 1099511627776 < (st.x : Int) + (n : Int) := by omega
                        have hfs : farS (stepS st 98 n) = true := by unfold farS; rw [step_b]; simp only [Bool.or_eq_true, decide_eq_true_eq]; omega
                        rw [if_pos hfs] at hstep
                        clear hfs hfar
                        have hdd : d = ([], 2, p2) := hstep.symm
                        have he : r = ([], 2, q + p2) := by rw [HRD.out, hdd]; rfl
                        subst he
                        have e2 := Qt.cell_in a2
                        have hbel := H.bel
                        clear HRD HH H HGD HC3 hdd hstep a0x a1x a2x hfl
                        go_wp2_with fail
                        refine Qt.below_all (by kernel_rfl) (by kernel_rfl) ?_
                        repeat (go_big_quiet_step (fail))
                        refine wpQuiet_nil ?_
                        intro w7 hb7
                        have hbb := Qt.more HB2.out HB2.out.size (Qt.more hbel hbel.size hb7)
                        clear e2 a0 a1 a2 hb7 hbel
                        go_wp2
                        go_ret3
                        have hfin := setR_none (x := 2) (p := q + p2) hbb
                        rw [show ((q + p2 : Nat) : Int) = (q : Int) + (p2 : Int) by omega] at hfin
                        exact hfin
                      · have hfz : ¬ (1099511627776 < (st.x : Int) + (n : Int)) := by omega
                        have hfs : farS (stepS st 98 n) = false := by unfold farS; rw [step_b]; simp only [Bool.or_eq_false_iff, decide_eq_false_iff_not]; omega
                        rw [if_neg (by rw [hfs]; decide)] at hstep
                        have hnf : fullS (stepS st 98 n) = false := by unfold fullS; rw [step_b]; simp only [decide_eq_false_iff_not]; omega
                        rw [if_neg (by rw [hnf]; decide)] at hstep
                        have hmz : ¬ (2000 : Int) < (st.many : Int) := by omega
                        have HN : Hid (DoneAt w2 wr I d (k + 1) (stepS st 98 n) v) := ⟨H.own, H.bel, fit_b H.fit hfs, hstep⟩
                        have hxl : (st.x : Int) < (st.x : Int) + (n : Int) := by omega
                        clear HRD HH H HGD HC3 hstep hnf hfs hfar a0x a1x a2x a2 hfl
                        go_wp2
                        go_loop [13, 20] (fun o kk => o = v ∧ kk = .int .i64 (st.x : Int)) (fun _ _ => 0)
                        case atStart => exact ⟨rfl, rfl⟩
                        case round =>
                          obtain ⟨rfl, rfl⟩ := hrel
                          go_wp2
                          go_roundw
                          case measure => simp [intOf]; omega
                          case rel => exact ⟨k + 1, stepS st 98 n, _, by omega, rfl, congrArg (Value.int .i64) (by show ((st.x : Int) + (n : Int)) = ((st.x + n : Nat) : Int); omega), rfl, rfl, by go_num, HN.out⟩
                    · have a0 := Qt.keep H.bel a0x
                      have a1 := Qt.keep H.bel a1x
                      have a2 := Qt.keep H.bel a2x
                      have htt : ((36 : UInt8).toNat : Int) = 36 := rfl
                      rw [htt] at a0 a0x
                      by_cases hfar : 1099511627776 < st.y + n
                      · have hfz : 1099511627776 < (st.y : Int) + (n : Int) := by omega
                        have hfs : farS (stepS st 36 n) = true := by unfold farS; rw [step_d]; simp only [Bool.or_eq_true, decide_eq_true_eq]; omega
                        rw [if_pos hfs] at hstep
                        clear hfs hfar
                        have hdd : d = ([], 2, p2) := hstep.symm
                        have he : r = ([], 2, q + p2) := by rw [HRD.out, hdd]; rfl
                        subst he
                        have e2 := Qt.cell_in a2
                        have hbel := H.bel
                        clear HRD HH H HGD HC3 hdd hstep a0x a1x a2x hfl
                        go_wp2_with fail
                        refine Qt.below_all (by kernel_rfl) (by kernel_rfl) ?_
                        repeat (go_big_quiet_step (fail))
                        refine wpQuiet_nil ?_
                        intro w7 hb7
                        have hbb := Qt.more HB2.out HB2.out.size (Qt.more hbel hbel.size hb7)
                        clear e2 a0 a1 a2 hb7 hbel
                        go_wp2
                        go_ret3
                        have hfin := setR_none (x := 2) (p := q + p2) hbb
                        rw [show ((q + p2 : Nat) : Int) = (q : Int) + (p2 : Int) by omega] at hfin
                        exact hfin
                      · have hfz : ¬ (1099511627776 < (st.y : Int) + (n : Int)) := by omega
                        have hfs : farS (stepS st 36 n) = false := by unfold farS; rw [step_d]; simp only [Bool.or_eq_false_iff, decide_eq_false_iff_not]; omega
                        rw [if_neg (by rw [hfs]; decide)] at hstep
                        have hnf : fullS (stepS st 36 n) = false := by unfold fullS; rw [step_d]; simp only [decide_eq_false_iff_not]; omega
                        rw [if_neg (by rw [hnf]; decide)] at hstep
                        have hmz : ¬ (2000 : Int) < (st.many : Int) := by omega
                        have HN : Hid (DoneAt w2 wr I d (k + 1) (stepS st 36 n) v) := ⟨H.own, H.bel, fit_d H.fit hfs, hstep⟩
                        have hxl : ¬ (st.x : Int) < 0 := by omega
                        clear HRD HH H HGD HC3 hstep hnf hfs hfar a0x a1x a2x a2 hfl
                        go_wp2
                        go_loop [13, 20] (fun o kk => o = v ∧ kk = .int .i64 (st.x : Int)) (fun _ _ => 0)
                        case atStart => exact ⟨rfl, rfl⟩
                        case round =>
                          obtain ⟨rfl, rfl⟩ := hrel
                          go_wp2
                          go_roundw
                          case measure => simp [intOf]; omega
                          case rel => exact ⟨k + 1, stepS st 36 n, _, by omega, rfl, rfl, congrArg (Value.int .i64) (by show ((st.y : Int) + (n : Int)) = ((st.y + n : Nat) : Int); omega), rfl, by go_num, HN.out⟩
                    · have a0 := Qt.keep H.bel a0x
                      have a1 := Qt.keep H.bel a1x
                      have a2 := Qt.keep H.bel a2x
                      have htt : ((111 : UInt8).toNat : Int) = 111 := rfl
                      rw [htt] at a0 a0x
                      by_cases hfar : 1099511627776 < st.x + n
                      · have hfz : 1099511627776 < (st.x : Int) + (n : Int) := by omega
                        have hfs : farS (stepS st 111 n) = true := by unfold farS; rw [step_o]; simp only [Bool.or_eq_true, decide_eq_true_eq]; omega
                        rw [if_pos hfs] at hstep
                        clear hfs hfar
                        have hdd : d = ([], 2, p2) := hstep.symm
                        have he : r = ([], 2, q + p2) := by rw [HRD.out, hdd]; rfl
                        subst he
                        have e2 := Qt.cell_in a2
                        have hbel := H.bel
                        clear HRD HH H HGD HC3 hdd hstep a0x a1x a2x hfl
                        go_wp2_with fail
                        refine Qt.below_all (by kernel_rfl) (by kernel_rfl) ?_
                        repeat (go_big_quiet_step (fail))
                        refine wpQuiet_nil ?_
                        intro w7 hb7
                        have hbb := Qt.more HB2.out HB2.out.size (Qt.more hbel hbel.size hb7)
                        clear e2 a0 a1 a2 hb7 hbel
                        go_wp2
                        go_ret3
                        have hfin := setR_none (x := 2) (p := q + p2) hbb
                        rw [show ((q + p2 : Nat) : Int) = (q : Int) + (p2 : Int) by omega] at hfin
                        exact hfin
                      · have hfz : ¬ (1099511627776 < (st.x : Int) + (n : Int)) := by omega
                        have hfs : farS (stepS st 111 n) = false := by unfold farS; rw [step_o]; simp only [Bool.or_eq_false_iff, decide_eq_false_iff_not]; omega
                        rw [if_neg (by rw [hfs]; decide)] at hstep
                        by_cases hfull : 2000 < st.many + n
                        · have hmz : (2000 : Int) < (st.many : Int) + (n : Int) := by omega
                          have hnf : fullS (stepS st 111 n) = true := by unfold fullS; rw [step_o]; simp only [decide_eq_true_eq]; omega
                          rw [if_pos hnf] at hstep
                          clear hnf hfs hfar hfull
                          have hdd : d = ([], 3, p2) := hstep.symm
                          have he : r = ([], 3, q + p2) := by rw [HRD.out, hdd]; rfl
                          subst he
                          have e2 := Qt.cell_in a2
                          have hbel := H.bel
                          clear HRD HH H HGD HC3 hdd hstep a0x a1x a2x hfl
                          go_wp2_with fail
                          refine Qt.below_all (by kernel_rfl) (by kernel_rfl) ?_
                          repeat (go_big_quiet_step (fail))
                          refine wpQuiet_nil ?_
                          intro w7 hb7
                          have hbb := Qt.more HB2.out HB2.out.size (Qt.more hbel hbel.size hb7)
                          clear e2 a0 a1 a2 hb7 hbel
                          go_wp2
                          go_ret3
                          have hfin := setR_none (x := 3) (p := q + p2) hbb
                          rw [show ((q + p2 : Nat) : Int) = (q : Int) + (p2 : Int) by omega] at hfin
                          exact hfin
                        · have hmz : ¬ (2000 : Int) < (st.many : Int) + (n : Int) := by omega
                          have hnf : fullS (stepS st 111 n) = false := by unfold fullS; rw [step_o]; simp only [decide_eq_false_iff_not]; omega
                          rw [if_neg (by rw [hnf]; decide)] at hstep
                          have hfit := fit_o H.fit hfs hnf
                          have HFS := Lib.hid (And.intro hfit hstep)
                          have HO0 : Hid (Cel.Own wr w2.heap.size 37 v (st.out ++ runC st.x st.y (st.x - st.x)) ∧ Below w2.heap.size w2 wr) := by
                            rw [Nat.sub_self, runC_zero, List.append_nil]
                            exact ⟨H.own, H.bel⟩
                          have hol : st.out.length ≤ 2000 := by omega
                          have hnn : n ≤ 2000 := by omega
                          have hx40 : st.x + n ≤ 1099511627776 := by omega
                          clear HRD HH H HGD HC3 hstep hnf hfs hfar a1x a2x a2 hfull hfit hfl
                          go_wp2
                          clear a0 a1
                          go_loopw [13, 20] (fun o kk wq => ∃ (z : Nat) (v' : Value), st.x ≤ z ∧ z ≤ st.x + n ∧ kk = .int .i64 z ∧ o = v' ∧ Hid (Cel.Own wq w2.heap.size 37 v' (st.out ++ runC st.x st.y (z - st.x)) ∧ Below w2.heap.size w2 wq)) (fun _ kk _ => st.x + n - (intOf kk).toNat)
                          case atStart => exact ⟨st.x, v, Nat.le_refl _, Nat.le_add_right _ _, rfl, rfl, HO0.out⟩
                          case round =>
                            obtain ⟨z, v', hz1', hz2', rfl, hv, HO⟩ := hrel
                            have hv2 := hv.symm
                            subst hv2
                            clear hv HO0
                            have a0 := Qt.keep HO.out.2 a0x
                            have hsz3 := HO.out.2.size
                            by_cases hzl : z < st.x + n
                            · have hzz : (z : Int) < (st.x : Int) + (n : Int) := by omega
                              have hown := HO.out.1
                              have hbel := HO.out.2
                              have hlen : (st.out ++ runC st.x st.y (z - st.x)).length ≤ 4000 := by rw [List.length_append, runC_len]; omega
                              have hnext : (st.out ++ runC st.x st.y (z - st.x)) ++ [((z : Int), (st.y : Int))] = st.out ++ runC st.x st.y (z + 1 - st.x) := by
                                rw [show z + 1 - st.x = (z - st.x) + 1 by omega, runC_succ, List.append_assoc, show st.x + (z - st.x) = z by omega]
                              generalize st.out ++ runC st.x st.y (z - st.x) = out at *
                              have HNX := Lib.hid hnext
                              clear hnext HO
                              go_wp2_with (at_builtin; refine wpList_append_own _ rfl (.tmp 151) (.tmp 155) 22 rfl w2.heap.size 37 i0 (.agg #[.int .i64 0, .int .i64 0]) 2 16 Tryz.underlying22 hi hz0 hz1 hz2 rfl (by decide) _ _ _ rfl (World.ownsRow.alloc hown _) ⟨wr.heap.size, 0, none⟩ 1 1 [.int .i64 z, .int .i64 st.y] rfl rfl Cel.one_new Cel.one_cell (by unfold maxLen; omega) (by omega) (by simp; omega) ?_; intro v4 w4 hown4 hgrow4 _)
                              have HP := Lib.hid (push_one hsz3 hbel hown hown4 hgrow4)
                              rw [HNX.out] at HP
                              clear hown4 hgrow4 hown hbel
                              go_wp2
                              go_roundw
                              case measure => simp [intOf]; omega
                              case rel => exact ⟨z + 1, _, by omega, by omega, by go_num, rfl, HP.out⟩
                            · have hze : z = st.x + n := by omega
                              have hzz : ¬ (z : Int) < (st.x : Int) + (n : Int) := by omega
                              have hout : st.out ++ runC st.x st.y (z - st.x) = (stepS st 111 n).out := by rw [hze, Nat.add_sub_cancel_left, step_o]
                              have HN : Hid (DoneAt w2 wr I d (k + 1) (stepS st 111 n) v') := ⟨by rw [← hout]; exact HO.out.1, HO.out.2, HFS.out.1, HFS.out.2⟩
                              clear HO HFS hout hze
                              go_wp2
                              go_roundw
                              case measure => simp [intOf]; omega
                              case rel => exact ⟨k + 1, stepS st 111 n, _, by omega, rfl, congrArg (Value.int .i64) (by show ((st.x : Int) + (n : Int)) = ((st.x + n : Nat) : Int); omega), rfl, congrArg (Value.int .i64) (by show ((st.many : Int) + (n : Int)) = ((st.many + n : Nat) : Int); omega), by go_num, HN.out⟩
                  · have hltz : ¬ (k : Int) < (I.length : Int) := by omega
                    obtain rfl : k = I.length := by omega
                    have hdd := H.rest
                    rw [List.drop_length] at hdd
                    have hd2 : d = (st.out, 0, 0) := hdd.symm
                    have he : r = (st.out, 0, 0) := by rw [HRD.out, hd2]; rfl
                    subst he
                    obtain ⟨A9, c9, hv9, hcc9, hr9⟩ := Cel.Own.rd H.own
                    subst hv9
                    have hbb := Qt.more HB2.out HB2.out.size H.bel
                    have HR9 := Lib.hid hr9
                    clear HRD HH H HGD HC3 hdd hd2 hr9
                    go_wp2
                    go_ret3
                    exact ⟨_, rfl, ⟨A9, c9, rfl, hcc9, HR9.out⟩, hbb⟩
              · have hx1 : (e0 == 0) = false := by simpa using he0
                have he := hp4 he0
                subst he
                clear hp4 hp5 hshape hc3
                go_wp2_with fail
                refine (hcall _).mono ?_
                rintro e w1 ⟨rfl, rfl⟩
                go_wp2_with fail
                refine (hhead _).mono ?_
                rintro e w1 ⟨rfl, hb1⟩
                go_wp2_with fail
                try simp only [hqz]
                refine (hlex _).mono ?_
                rintro e w2 ⟨v2, rfl, _, hb2⟩
                have hbb2 := Qt.more hb1 hb1.size hb2
                clear hcall hhead hlex hb1 hb2
                go_wp2
                go_ret3
                have hfin := setR_none (x := e0) (p := q + p) hbb2
                rw [show ((q + p : Nat) : Int) = (q : Int) + (p : Int) by omega] at hfin
                exact hfin
      · have hltz : ¬ (k : Int) < (s.size : Int) := by omega
        have hdr : l.drop k = [] := List.drop_of_length_le (by rw [← HSZ.out]; omega)
        have hno := hash_no (l := l.drop k) (by rw [hdr]; decide) k
        rw [HH.out] at hno
        injection hno with _ hno
        subst hno
        have hln : lineL (l.drop K) = none := by rw [hdr]; rfl
        have he := HPU.out.1 hln
        subst he
        rw [lineV_none hln] at hcall
        clear hln HH HPU HLN HG HFR HH0 hdr
        generalize str [] = s0 at *
        go_wp2_with fail
        refine (hcall _).mono ?_
        rintro e w1 ⟨rfl, rfl⟩
        go_wp2
        go_ret3
        exact setR_none (Below.refl _ _)
end Go.Proofs.YtacpncmdgkljdaaGreatDoor
namespace Go.Proofs.YtacpncmdgkljdaaGreatDoor
set_option linter.unusedVariables false
set_option linter.unusedSimpArgs false
open Go.RowKit Go.Sort
open Cel (loX hiX rightB)

def headL (l : List (Int × Int)) : List UInt8 := headText (wideL l).toNat (highL l).toNat pR
def tellsL (l : List (Int × Int)) : List Tn := (tellL (homeL l)).1
def bodyL (l : List (Int × Int)) : List UInt8 := textL (itemsT (tellsL l))
theorem print_parts (l : List (Int × Int)) : printL l = headL l ++ 10 :: (bodyL l ++ [33, 10]) := rfl
theorem headL_ten (l : List (Int × Int)) : ∀ c ∈ headL l, c ≠ 10 := head_line _ _ _ (by decide)
theorem headL_len {l : List (Int × Int)} (hr : rightB l = true) : (headL l).length ≤ 63 := by
  obtain ⟨q1, q2, q3, q4, q5, q6, q7, q8⟩ := right_home hr
  exact headText_len _ _ (by omega) (by omega) _

/-- where a text's first line feed stands -/
structure Ten (T : List UInt8) (n : Nat) : Prop where
  lt : n < T.length
  no : ∀ (i : Nat) (h : i < T.length), i < n → T[i] ≠ 10
  is : T[n] = 10
theorem ten_of {a r : List UInt8} (h : ∀ c ∈ a, c ≠ 10) : Ten (a ++ 10 :: r) a.length := by
  refine ⟨by simp, fun i hi hn => ?_, by simp⟩
  rw [List.getElem_append_left hn]
  exact h _ (List.getElem_mem _)
theorem ten_print (l : List (Int × Int)) : Ten (printL l) (headL l).length := by rw [print_parts]; exact ten_of (headL_ten l)
theorem print_size (l : List (Int × Int)) : (printL l).length = (headL l).length + 3 + (bodyL l).length := by
  rw [print_parts]
  simp only [List.length_append, List.length_cons, List.length_nil]
  omega
/-- a set's text, cut behind its head -/
theorem cut_home {l : List (Int × Int)} (hr : rightB l = true) (hs : Small l) (hl : (printL l).length ≤ 20000) (j : Nat) (hj : j ≤ (bodyL l).length) :
    ∃ e q, parseP ((printL l).take ((headL l).length + 1 + j)) = ([], e, q) ∧ (e = 31 ∧ q = (headL l).length + 1 + j ∨ e = 30 ∧ q < (headL l).length + 1 + j ∧ digB ((printL l).getD ((headL l).length + j) 0) = true) := by
  obtain ⟨q1, q2, q3, q4, q5, q6, q7, q8⟩ := right_home hr
  have hsz := print_size l
  have e1 : (printL l).take ((headL l).length + 1 + j) = headL l ++ 10 :: (bodyL l).take j := by
    rw [print_parts, show (headL l).length + 1 + j = (headL l).length + (j + 1) by omega, List.take_length_add_append, List.take_succ_cons, List.take_append_of_le_length hj]
  rw [e1]
  obtain ⟨e, q, h1, h2⟩ := parse_cut (wideL l).toNat (highL l).toNat (by omega) (by omega) (homeL l) q4 (home_in hr hs) (by rw [home_len]; exact ((Cel.rightB_iff l).1 hr).1) j hj (by
    show (headL l ++ 10 :: (bodyL l).take j).length ≤ 20000
    simp only [List.length_append, List.length_cons, List.length_take]
    omega)
  refine ⟨e, q, h1, ?_⟩
  rcases h2 with ⟨h3, h4⟩ | ⟨h3, h4, h5, h6⟩
  · exact .inl ⟨h3, h4⟩
  · refine .inr ⟨h3, h4, ?_⟩
    have e2 : (printL l).getD ((headL l).length + j) 0 = (bodyL l).getD (j - 1) 0 := by
      rw [print_parts, List.getD_eq_getElem?_getD, List.getD_eq_getElem?_getD, List.getElem?_append_right (by omega)]
      rw [show (headL l).length + j - (headL l).length = (j - 1) + 1 by omega, List.getElem?_cons_succ, List.getElem?_append_left (by omega)]
    rw [e2]
    exact h5

/-! ### told one by one -/
/-- What the law's loop makes of a text, from the number n on. -/
def onesN : Nat → List UInt8 → List UInt8
  | _, [] => []
  | n, c :: r => if digB c = true then onesN (10 * n + dv c) r else List.replicate (min (max n 1) 100) c ++ onesN 0 r
/-- Its number stays small. -/
def smallN : Nat → List UInt8 → Bool
  | n, [] => decide (n ≤ 1000000)
  | n, c :: r => decide (n ≤ 1000000) && smallN (if digB c = true then 10 * n + dv c else 0) r
theorem onesN_cons (n : Nat) (c : UInt8) (r : List UInt8) : onesN n (c :: r) = if digB c = true then onesN (10 * n + dv c) r else List.replicate (min (max n 1) 100) c ++ onesN 0 r := rfl
theorem smallN_cons (n : Nat) (c : UInt8) (r : List UInt8) : smallN n (c :: r) = (decide (n ≤ 1000000) && smallN (if digB c = true then 10 * n + dv c else 0) r) := rfl
theorem ones_digs {d : List UInt8} (h : ∀ c ∈ d, digB c = true) : ∀ (n : Nat) (r : List UInt8), onesN n (d ++ r) = onesN (d.foldl (fun n c => 10 * n + dv c) n) r := by
  induction d with
  | nil => intro n r; rfl
  | cons c d ih =>
    intro n r
    show onesN n (c :: (d ++ r)) = _
    rw [onesN_cons, if_pos (h c (by simp)), ih (fun x hx => h x (List.mem_cons_of_mem _ hx))]
    rfl
theorem fold_up : ∀ (d : List UInt8) (n : Nat), n ≤ d.foldl (fun n c => 10 * n + dv c) n := by
  intro d
  induction d with
  | nil => intro n; exact Nat.le_refl _
  | cons c d ih => intro n; exact Nat.le_trans (by omega) (ih (10 * n + dv c))
theorem small_digs {d : List UInt8} (h : ∀ c ∈ d, digB c = true) : ∀ (n : Nat) (r : List UInt8), d.foldl (fun n c => 10 * n + dv c) n ≤ 1000000 → smallN (d.foldl (fun n c => 10 * n + dv c) n) r = true → smallN n (d ++ r) = true := by
  induction d with
  | nil => intro n r _ h2; exact h2
  | cons c d ih =>
    intro n r h1 h2
    show smallN n (c :: (d ++ r)) = true
    have := fold_up (c :: d) n
    rw [smallN_cons, if_pos (h c (by simp)), ih (fun x hx => h x (List.mem_cons_of_mem _ hx)) _ _ h1 h2, Bool.and_true]
    exact decide_eq_true (by omega)
theorem ones_item {t : UInt8} {n : Nat} (ht : tagB t = true) (h1 : 1 ≤ n) (h2 : n ≤ 100) (p : Nat) (r : List UInt8) : onesN 0 (itemL (t, n, p) ++ r) = List.replicate n t ++ onesN 0 r ∧ (smallN 0 r = true → smallN 0 (itemL (t, n, p) ++ r) = true) := by
  have hg : goodI (t, n, p) = true := (goodI_iff _).2 ⟨ht, h1, by simp only; omega⟩
  have ed := tag_dig ht
  unfold itemL
  rw [if_pos hg]
  unfold numL
  simp only
  by_cases hn : n = 1
  · subst hn
    rw [if_pos rfl]
    simp only [List.nil_append, List.cons_append]
    refine ⟨?_, fun h => ?_⟩
    · rw [onesN_cons, if_neg (by rw [ed]; decide)]; rfl
    · rw [smallN_cons, if_neg (by rw [ed]; decide), h]; rfl
  · rw [if_neg hn, List.append_assoc]
    have hv : (Lib.decDigits n).foldl (fun n c => 10 * n + dv c) 0 = n := dec_val n
    refine ⟨?_, fun h => ?_⟩
    · rw [ones_digs (dec_dig n), hv]
      show onesN n (t :: r) = _
      rw [onesN_cons, if_neg (by rw [ed]; decide), Nat.max_eq_left h1, Nat.min_eq_left h2]
    · refine small_digs (dec_dig n) 0 _ (by rw [hv]; omega) ?_
      rw [hv]
      show smallN n (t :: r) = true
      rw [smallN_cons, if_neg (by rw [ed]; decide), h, Bool.and_true]
      exact decide_eq_true (by omega)
theorem ones_text (q : List Tn) (hg : ∀ x ∈ q, goodT x = true ∧ x.2 ≤ 100) (r : List UInt8) : onesN 0 (textL (itemsT q) ++ r) = textL (itemsT (oneT q)) ++ onesN 0 r ∧ (smallN 0 r = true → smallN 0 (textL (itemsT q) ++ r) = true) := by
  rw [one_text q fun x hx => (hg x hx).1]
  induction q with
  | nil => exact ⟨rfl, fun h => h⟩
  | cons x q ih =>
    obtain ⟨h1, h2⟩ := ih fun y hy => hg y (List.mem_cons_of_mem _ hy)
    obtain ⟨h3, h4⟩ := hg x (by simp)
    unfold goodT at h3
    simp only [Bool.and_eq_true, decide_eq_true_eq] at h3
    obtain ⟨k1, k2⟩ := ones_item h3.1 h3.2 h4 0 (textL (itemsT q) ++ r)
    have e : textL (itemsT (x :: q)) = itemL (x.1, x.2, 0) ++ textL (itemsT q) := rfl
    rw [e, List.append_assoc, List.flatMap_cons, List.append_assoc, k1, h1]
    exact ⟨rfl, fun h => k2 (h2 h)⟩

/-! ### a small set's items are small -/
structure Low (q : List Tn) (k : Nat) : Prop where
  last : q = [] ∨ ∃ a m, q = a ++ [(111, m)] ∧ m ≤ k
  low : ∀ x ∈ q, x.2 ≤ 100
theorem low_new {q : List Tn} {k : Nat} (h : Low q k) {t : UInt8} {n : Nat} (ht : t ≠ 111) (hn : n ≤ 100) : (∀ x ∈ putI q t n, x.2 ≤ 100) ∧ (putI q t n = q ∨ ∃ a, putI q t n = a ++ [(t, n)]) := by
  by_cases h0 : n = 0
  · subst h0
    rw [putI_zero]
    exact ⟨h.low, .inl rfl⟩
  · have hs : ∀ a : List Tn, (∀ x ∈ a, x.2 ≤ 100) → ∀ x ∈ a ++ [(t, n)], x.2 ≤ 100 := by
      intro a ha x hx
      rcases List.mem_append.1 hx with hx | hx
      · exact ha x hx
      · rw [List.mem_singleton.1 hx]; exact hn
    rcases h.last with rfl | ⟨a, m, rfl, hm⟩
    · rw [putI_first t n h0]
      exact ⟨hs [] (fun x hx => by cases hx), .inr ⟨[], rfl⟩⟩
    · rw [putI_new a t 111 m n h0 (fun e => ht e.symm)]
      exact ⟨hs _ h.low, .inr ⟨_, rfl⟩⟩
theorem low_b {q a : List Tn} {t : UInt8} {m n : Nat} (hq : q = a ++ [(t, m)]) (ht : t ≠ 98) (h : ∀ x ∈ q, x.2 ≤ 100) (hn : n ≤ 100) : (∀ x ∈ putI q 98 n, x.2 ≤ 100) ∧ ∃ b u k, putI q 98 n = b ++ [(u, k)] ∧ (u = t ∧ k = m ∨ u = 98) := by
  subst hq
  by_cases h0 : n = 0
  · subst h0
    rw [putI_zero]
    exact ⟨h, a, t, m, rfl, .inl ⟨rfl, rfl⟩⟩
  · rw [putI_new a 98 t m n h0 ht]
    refine ⟨fun x hx => ?_, _, _, _, rfl, .inr rfl⟩
    rcases List.mem_append.1 hx with hx | hx
    · exact h x hx
    · rw [List.mem_singleton.1 hx]; exact hn
theorem low_o {q a : List Tn} {t : UInt8} {m k : Nat} (hq : q = a ++ [(t, m)]) (h : ∀ x ∈ q, x.2 ≤ 100) (hm : t = 111 → m ≤ k) (hk : k + 1 ≤ 100) : Low (putI q 111 1) (k + 1) := by
  subst hq
  by_cases ht : t = 111
  · subst ht
    have hm' := hm rfl
    rw [putI_grow a 111 m 1 (by decide)]
    refine ⟨.inr ⟨_, _, rfl, by omega⟩, fun x hx => ?_⟩
    rcases List.mem_append.1 hx with hx | hx
    · exact h x (List.mem_append_left _ hx)
    · rw [List.mem_singleton.1 hx]; simp only; omega
  · rw [putI_new a 111 t m 1 (by decide) ht]
    refine ⟨.inr ⟨_, _, rfl, by omega⟩, fun x hx => ?_⟩
    rcases List.mem_append.1 hx with hx | hx
    · exact h x hx
    · rw [List.mem_singleton.1 hx]; simp only; omega
theorem low_cell {q : List Tn × Nat × Nat} {k : Nat} (h : Low q.1 k) (c : Nat × Nat) (hc : c.1 ≤ 100 ∧ c.2 ≤ 100) (hk : k + 1 ≤ 100) : Low (tellC q c).1 (k + 1) := by
  have hfirst : ∀ n, n ≤ 100 → ∀ p : List Tn, (∀ x ∈ p, x.2 ≤ 100) → (p = [] ∨ ∃ a t m, p = a ++ [(t, m)] ∧ t ≠ 98 ∧ (t = 111 → m ≤ k)) → Low (putI (putI p 98 n) 111 1) (k + 1) := by
    intro n hn p hp hcase
    rcases hcase with rfl | ⟨a, t, m, e, ht, hm⟩
    · by_cases h0 : n = 0
      · subst h0
        rw [putI_zero, putI_first 111 1 (by decide)]
        exact ⟨.inr ⟨[], 1, rfl, by omega⟩, fun x hx => by rw [List.mem_singleton.1 hx]; simp only; omega⟩
      · rw [putI_first 98 n h0]
        exact low_o (a := []) (t := 98) (m := n) rfl (fun x hx => by rw [List.mem_singleton.1 hx]; exact hn) (fun e => by exact absurd e (by decide)) hk
    · obtain ⟨h1, b, u, j, e2, h2⟩ := low_b e ht hp hn
      refine low_o e2 h1 (fun hu => ?_) hk
      rcases h2 with ⟨rfl, rfl⟩ | rfl
      · exact hm hu
      · exact absurd hu (by decide)
  by_cases hd : q.2.2 < c.2
  · rw [tellC_down q c hd]
    obtain ⟨h1, h2⟩ := low_new h (t := 36) (n := c.2 - q.2.2) (by decide) (by omega)
    have h3 : putI q.1 36 (c.2 - q.2.2) ≠ q.1 ∨ True := .inr trivial
    refine hfirst c.1 hc.1 _ h1 ?_
    rcases h2 with e | ⟨a, e⟩
    · rcases h.last with e0 | ⟨a, m, e0, hm⟩
      · exact .inl (e.trans e0)
      · exact .inr ⟨a, 111, m, e.trans e0, by decide, fun _ => hm⟩
    · exact .inr ⟨a, 36, _, e, by decide, fun e => absurd e (by decide)⟩
  · rw [tellC_on q c hd]
    refine hfirst _ (by omega) _ h.low ?_
    rcases h.last with e0 | ⟨a, m, e0, hm⟩
    · exact .inl e0
    · exact .inr ⟨a, 111, m, e0, by decide, fun _ => hm⟩
theorem low_all : ∀ (l : List (Nat × Nat)), (∀ c ∈ l, c.1 ≤ 100 ∧ c.2 ≤ 100) → l.length ≤ 100 → Low (tellL l).1 l.length := by
  intro l
  rcases list_cases l with rfl | ⟨a, c, rfl⟩
  · intro _ _; exact ⟨.inl rfl, fun x hx => by cases hx⟩
  · intro hc hl
    rw [List.length_append, List.length_singleton] at hl
    have h := low_all a (fun x hx => hc x (List.mem_append_left _ hx)) (by omega)
    rw [tellL_snoc, List.length_append, List.length_singleton]
    exact low_cell h c (hc c (by simp)) (by omega)
termination_by l => l.length
decreasing_by simp only [*, List.length_append, List.length_singleton]; omega

/-- A raw set, told one by one. -/
theorem raw_ones (raw : List (Int × Int)) : ∃ R, onesN 0 ((printL (Cel.rawSet raw)).drop (headL (Cel.rawSet raw)).length) = R ∧ R.length ≤ 19000 ∧ smallN 0 ((printL (Cel.rawSet raw)).drop (headL (Cel.rawSet raw)).length) = true ∧
    parseP (headL (Cel.rawSet raw) ++ R) = (cornerL (Cel.rawSet raw), 0, 0) := by
  have hown := own5_raw raw
  have hbd := rawSet_bd raw
  generalize Cel.rawSet raw = l at *
  have hlen := hown.len
  obtain ⟨q1, q2, q3, q4, q5, q6, q7, q8⟩ := right_home hown.right
  have hh : ∀ c ∈ homeL l, c.1 ≤ 100 ∧ c.2 ≤ 100 := by
    intro c hc
    unfold homeL fromC at hc
    obtain ⟨d, hd, rfl⟩ := List.mem_map.1 hc
    have h1 := hbd d hd
    have h2 : 0 < l.length := List.length_pos_of_mem hd
    obtain ⟨j, hj, e⟩ := Cel.loX_hit (l := l) h2 (Nat.le_refl _)
    have h3 := hbd _ (Cel.getD_mem hj)
    have h4 := hbd _ (Cel.getD_mem (l := l) (k := 0) h2)
    simp only
    omega
  have hlow := low_all (homeL l) hh (by rw [home_len]; omega)
  have hT := told_all (homeL l) q4 (home_in hown.right hown.small) (by rw [home_len]; omega)
  obtain ⟨o1, o2⟩ := ones_text (tellsL l) (fun x hx => ⟨hT.good x hx, hlow.low x hx⟩) [33, 10]
  have e0 : (printL l).drop (headL l).length = 10 :: (bodyL l ++ [33, 10]) := by rw [print_parts, List.drop_left]
  have e1 : onesN 0 (10 :: (bodyL l ++ [33, 10])) = 10 :: (textL (itemsT (oneT (tellsL l))) ++ [33, 10]) := by
    show [10] ++ onesN 0 (bodyL l ++ [33, 10]) = _
    unfold bodyL
    rw [o1]
    rfl
  have hsum : (textL (itemsT (oneT (tellsL l)))).length ≤ 100 * (tellsL l).length := by
    rw [one_text (tellsL l) hT.good]
    have := hlow.low
    change ∀ x ∈ tellsL l, x.2 ≤ 100 at this
    generalize tellsL l = q at this ⊢
    induction q with
    | nil => exact Nat.zero_le _
    | cons x q ih =>
      rw [List.flatMap_cons, List.length_append, List.length_replicate, List.length_cons]
      have h1 := ih fun y hy => this y (List.mem_cons_of_mem _ hy)
      have h2 := this x (by simp)
      omega
  have hts := tellL_len (homeL l)
  rw [home_len] at hts
  change (tellsL l).length ≤ _ at hts
  have hhl := headL_len hown.right
  refine ⟨_, rfl, ?_, ?_, ?_⟩
  · rw [e0, e1]
    simp only [List.length_append, List.length_cons, List.length_nil]
    omega
  · rw [e0]
    show (decide (0 ≤ 1000000) && smallN 0 (bodyL l ++ [33, 10])) = true
    unfold bodyL
    rw [o2 (by decide)]
    rfl
  · rw [e0, e1, ← home_up hown.right]
    exact parse_ones _ _ (by omega) (by omega) (homeL l) q4 (home_in hown.right hown.small) (by rw [home_len]; omega) [10] (by
      show (headL l ++ 10 :: (textL (itemsT (oneT (tellsL l))) ++ [33, 10])).length ≤ 20000
      simp only [List.length_append, List.length_cons, List.length_nil]
      omega)
end Go.Proofs.YtacpncmdgkljdaaGreatDoor
namespace Go.Proofs.YtacpncmdgkljdaaGreatDoor
set_option linter.unusedVariables false
set_option linter.unusedSimpArgs false
open Go.RowKit Go.Sort
open Cel (loX hiX rightB)

/-- what is known of a set that was parsed -/
structure Fine5 (l : List (Int × Int)) : Prop where
  right : rightB l = true
  small : Small l
  corner : 0 ≤ loX l l.length ∧ loX l l.length ≤ 1099511627776 ∧ 0 ≤ (l.getD 0 (0, 0)).2 ∧ (l.getD 0 (0, 0)).2 ≤ 1099511627776
theorem fine5_up {L : List (Nat × Nat)} (hr : L.Pairwise lessN) (hl : L.length ≤ 2000) (hb : ∀ c ∈ L, c.1 < 1099511627776 ∧ c.2 ≤ 1099511627776) : Fine5 (L.map upC) := by
  have hin : ∀ p ∈ L.map upC, 0 ≤ p.1 ∧ p.1 < 1099511627776 ∧ 0 ≤ p.2 ∧ p.2 ≤ 1099511627776 := by
    intro p hp
    obtain ⟨c, hc, rfl⟩ := List.mem_map.1 hp
    have := hb c hc
    unfold upC
    simp only
    omega
  have hright : rightB (L.map upC) = true := by
    rw [Cel.rightB_iff]
    refine ⟨by rw [List.length_map]; exact hl, fun p hp => ?_, up_rises hr⟩
    rw [Cel.inB_iff]
    have := hin p hp
    omega
  generalize L.map upC = l at *
  have hcor : 0 ≤ loX l l.length ∧ loX l l.length ≤ 1099511627776 ∧ 0 ≤ (l.getD 0 (0, 0)).2 ∧ (l.getD 0 (0, 0)).2 ≤ 1099511627776 := by
    by_cases h0 : l.length = 0
    · have : l = [] := List.eq_nil_of_length_eq_zero h0
      subst this
      decide
    · obtain ⟨j, hj, e⟩ := Cel.loX_hit (l := l) (by omega) (Nat.le_refl _)
      have h1 := hin _ (Cel.getD_mem hj)
      have h2 := hin _ (Cel.getD_mem (l := l) (k := 0) (by omega))
      omega
  refine ⟨hright, fun p hp => ?_, hcor⟩
  have := hin p hp
  omega
theorem parsed_fine {l : List UInt8} {out : List (Int × Int)} {p : Nat} (h : parseP l = (out, 0, p)) : p = 0 ∧ Fine5 out := by
  have hs := parse_shape l
  rw [h] at hs
  obtain ⟨h0, L, rfl, hr, hl, hb⟩ := hs.good rfl
  exact ⟨h0, fine5_up hr hl hb⟩
theorem parsed_bad {l : List UInt8} {out : List (Int × Int)} {e : Int} {p : Nat} (h : parseP l = (out, e, p)) (he : e ≠ 0) : out = [] ∧ p ≤ l.length := by
  have hs := parse_shape l
  rw [h] at hs
  exact hs.bad he
theorem parsed_len {l : List UInt8} {out : List (Int × Int)} {p : Nat} (h : parseP l = (out, 0, p)) : l.length ≤ 20000 := by
  by_cases hl : 20000 < l.length
  · unfold parseP at h
    rw [if_pos hl] at h
    simp at h
  · omega
/-- told, and parsed again, if the text is not too long -/
theorem again {l : List (Int × Int)} (h : Fine5 l) : ∃ m e p, parseP (printL l) = (m, e, p) ∧ ((printL l).length ≤ 20000 → m = cornerL l ∧ e = 0) := by
  by_cases hl : (printL l).length ≤ 20000
  · exact ⟨_, _, _, parse_home h.right h.small hl, fun _ => ⟨rfl, rfl⟩⟩
  · exact ⟨_, _, _, rfl, fun h => absurd h hl⟩
end Go.Proofs.YtacpncmdgkljdaaGreatDoor
