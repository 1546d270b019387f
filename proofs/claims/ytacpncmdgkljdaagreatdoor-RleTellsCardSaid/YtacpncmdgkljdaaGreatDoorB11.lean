/-
  Texts that the claims of this seat share, part 11.
-/
import Derived.Test.YtacpncmdgkljdaaGreatDoorB09
import Derived.Test.YtacpncmdgkljdaaGreatDoorB10
import Derived.Test.YtacpncmdgkljdaaGreatDoorB06
import Derived.Test.YtacpncmdgkljdaaGreatDoorB07
set_option linter.unusedVariables false
set_option linter.unusedSimpArgs false
namespace Go.Proofs.YtacpncmdgkljdaaGreatDoor
set_option linter.unusedVariables false
set_option linter.unusedSimpArgs false
open Go.RowKit Go.Sort

structure AtR (w wr : World) (l : List UInt8) (r : List Itm × Int × Nat) (p : Nat) (v : Value) (acc : List Itm) : Prop where
  own : OwnE wr w.heap.size v (acc.map up)
  bel : Below w.heap.size w wr
  pos : p ≤ l.length
  cnt : acc.length ≤ p
  lex : lexL (l.drop p) p acc = r

theorem dig_in {q : List UInt8} {j : Nat} (h : j < digs q) (hq : j < q.length) : digB q[j] = true := by
  have hl := digs_le q
  have hm : (q.take (digs q))[j]'(by rw [List.length_take]; omega) ∈ q.takeWhile digB := by rw [← take_digs]; exact List.getElem_mem _
  rw [List.getElem_take] at hm
  exact take_dig q _ hm
theorem dig_out {q : List UInt8} (h : digs q < q.length) : digB q[digs q] = false := by
  have hd := drop_digs q
  rw [List.drop_eq_getElem_cons h] at hd
  have := List.head?_dropWhile_not (p := digB) q
  rw [← hd] at this
  simp only [List.head?_cons] at this
  exact this
def AtS (s : ByteArray) (l : List UInt8) : Prop := ∀ (k : Nat) (hk : k < l.length) (h : k < s.size), s[k]'h = l[k]
def MidS (s : ByteArray) (l : List UInt8) : Prop := ∀ (p d : Nat), s.extract p (p + d) = str ((l.drop p).take d)
theorem str_at (l : List UInt8) : AtS (str l) l := fun _ _ _ => rfl
theorem str_mid (l : List UInt8) (p d : Nat) : (str l).extract p (p + d) = str ((l.drop p).take d) := by
  apply ByteArray.ext
  apply Array.ext'
  simp [str]
theorem byte_ne {t : UInt8} {n : Nat} (h : n < 256) (hne : t ≠ UInt8.ofNat n) : ((t.toNat : Int) == (n : Int)) = false := by
  rw [← byte_eq t n h]
  simpa using hne

set_option maxHeartbeats 4000000 in
set_option maxRecDepth 100000 in
theorem refLex_any (l : List UInt8) (w : World) (hl : l.length ≤ 9223372036854775807) :
    Calls Tryz.prog 31 #[.string (str l)] w (LexR (lexA l) w) := by
  have hsz := str_size l
  by_cases hlong : 20000 < l.length
  · have e : lexA l = ([], 3, 0) := by unfold lexA; rw [if_pos hlong]
    rw [e]
    have hz : (20000 : Int) < ((str l).size : Int) := by omega
    clear e
    generalize str l = s at hz hsz
    go_enter Tryz.func31, Tryz.ntmps31
    go_wp2
    go_ret3
    exact lexR_none (Below.refl _ _)
  · rw [lexA_short (by omega)]
    generalize hr : lexL l 0 [] = r
    have H0 : AtR w w l r 0 (.slice none 0 0) [] := ⟨World.ownsRow_nil _ _ _ _, Below.refl _ _, Nat.zero_le _, Nat.le_refl _, hr⟩
    have HH0 := Lib.hid H0
    have hz : ¬ (20000 : Int) < ((str l).size : Int) := by omega
    have HAT := Lib.hid (str_at l)
    have HMID : Hid (MidS (str l) l) := Lib.hid (str_mid l)
    have hl2 : l.length ≤ 20000 := by omega
    clear hr H0 hlong
    generalize str l = s at *
    go_enter Tryz.func31, Tryz.ntmps31
    go_wp2
    go_loopw [5, 6] (fun v i wr => ∃ (p : Nat) (acc : List Itm), i = .int .i64 p ∧ Hid (AtR w wr l r p v acc)) (fun _ i _ => l.length - (intOf i).toNat)
    case atStart => exact ⟨0, [], rfl, HH0⟩
    case round =>
      obtain ⟨p, acc, rfl, HH⟩ := hrel
      have H := HH.out
      have hp := H.pos
      by_cases hlt : p < l.length
      · have hltz : (p : Int) < (s.size : Int) := by omega
        have hidx := HAT.out p hlt
        have hcons := List.drop_eq_getElem_cons hlt
        have hlex := H.lex
        obtain ⟨c, hc⟩ : ∃ c, c = l[p] := ⟨_, rfl⟩
        rw [← hc] at hidx hcons
        have hbl := fun W => refBlank_any c W
        have hcp : l[p]? = some c := by rw [List.getElem?_eq_getElem hlt, hc]
        clear hc
        cases hb : blankB c with
        | true =>
          have hl3 : lexL (l.drop (p + 1)) (p + 1) acc = r := by rw [← hlex, hcons]; exact (lex_blank hb p acc).symm
          have H3 := Lib.hid (AtR.mk H.own H.bel hlt (by have := H.cnt; omega) hl3)
          rw [hb] at hbl
          clear H HH hl3 hlex hcons hcp
          go_wp2_with fail
          refine (hbl _).mono ?_
          rintro e w1 ⟨rfl, rfl⟩
          go_wp2
          go_roundw
          case measure => simp [intOf]; omega
          case rel => exact ⟨p + 1, acc, by go_num, H3.out⟩
        | false =>
          rw [hb] at hbl
          by_cases hc33 : c = 33
          · subst hc33
            have he : r = (acc, 0, p) := by rw [← hlex, hcons]; exact lex_end p acc
            subst he
            have hrd := H.own.reads
            have hbel := H.bel
            clear H HH hlex hcons hcp
            go_wp2_with fail
            refine (hbl _).mono ?_
            rintro e w1 ⟨rfl, rfl⟩
            go_wp2
            go_ret3
            exact ⟨_, rfl, hrd, hbel⟩
          · have h33 : ((c.toNat : Int) == 33) = false := byte_ne (n := 33) (by decide) hc33
            have hone := lex_one (r := l.drop (p + 1)) hb hc33 p acc
            rw [← hcons, hlex] at hone
            have hql : (l.drop p).length = l.length - p := List.length_drop
            have hdl := digs_le (l.drop p)
            have hq0 : (l.drop p).headD 0 = c := by rw [hcons]; rfl
            obtain ⟨d, hd⟩ : ∃ d, d = digs (l.drop p) := ⟨_, rfl⟩
            rw [← hd] at hdl
            have hin : Hid (∀ k (h : k < l.length), p ≤ k → k < p + d → digB l[k] = true) := by
              intro k h h1 h2
              have := dig_in (q := l.drop p) (j := k - p) (by omega) (by omega)
              rw [List.getElem_drop] at this
              simpa [show p + (k - p) = k by omega] using this
            have hout : Hid (∀ k (h : k < l.length), k = p + d → digB l[k] = false) := by
              intro k h h1
              have := dig_out (q := l.drop p) (by omega)
              rw [List.getElem_drop] at this
              simpa [← hd, ← h1] using this
            have HONE := Lib.hid hone
            have HD := Lib.hid hd
            have HC := Lib.hid hcons
            have HCP := Lib.hid hcp
            clear hone hd hlex hcons hcp hc33
            go_wp2_with fail
            refine (hbl _).mono ?_
            rintro e w1 ⟨rfl, rfl⟩
            go_wp2
            go_loop [7] (fun i => ∃ k : Nat, p ≤ k ∧ k ≤ p + d ∧ i = .int .i64 k) (fun i => p + d - (intOf i).toNat)
            case atStart => exact ⟨p, Nat.le_refl _, by omega, rfl⟩
            case round =>
              obtain ⟨k, hk1, hk2, rfl⟩ := hrel
              by_cases hkd : k < p + d
              · have hkl : k < l.length := by omega
                have hklz : (k : Int) < (l.length : Int) := by omega
                have hidk := HAT.out k hkl
                obtain ⟨t, ht⟩ : ∃ t, t = l[k] := ⟨_, rfl⟩
                have hdg := hin.out k hkl hk1 hkd
                rw [← ht] at hidk hdg
                have hdt := fun W => refDigit_any t W
                rw [hdg] at hdt
                clear ht
                go_wp2_with fail
                refine (hdt _).mono ?_
                rintro e w1 ⟨rfl, rfl⟩
                go_wp2
                go_round
                case measure => simp [intOf]; omega
                case rel => exact ⟨k + 1, by omega, by omega, by go_num⟩
              · have hkk : k = p + d := by omega
                by_cases hkl : k < l.length
                · have hklz : (k : Int) < (l.length : Int) := by omega
                  have hke : ((k : Int) == (l.length : Int)) = false := by simp; omega
                  have hke2 : (k == l.length) = false := by simp; omega
                  have hidk := HAT.out k hkl
                  obtain ⟨t, ht⟩ : ∃ t, t = l[k] := ⟨_, rfl⟩
                  have hdg := hout.out k hkl hkk
                  rw [← ht] at hidk hdg
                  have hdt := fun W => refDigit_any t W
                  rw [hdg] at hdt
                  have htg := fun W => refTag_any t W
                  have hdw : (l.drop p).dropWhile digB = t :: l.drop (k + 1) := by
                    rw [← drop_digs, ← HD.out, List.drop_drop, show p + d = k by omega, List.drop_eq_getElem_cons hkl, ← ht]
                  have hk13 : l.drop (k + 1) = (l.drop p).drop (d + 1) := by rw [List.drop_drop, show p + (d + 1) = k + 1 by omega]
                  cases htb : tagB t with
                  | false =>
                    have he : r = ([], 30, p) := by
                      rw [HONE.out, one_bad, if_neg (by decide)]
                      rw [hdw]
                      show [98, 111, 36].contains t = false
                      rw [tag_mem, htb]
                    subst he
                    have hbel := H.bel
                    rw [htb] at htg
                    clear H HH HONE ht hdw hk13 hkk hkd hql hdl hdg hq0
                    go_wp2_with fail
                    refine (hdt _).mono ?_
                    rintro e w1 ⟨rfl, rfl⟩
                    go_wp2_with fail
                    refine (htg _).mono ?_
                    rintro e w1 ⟨rfl, rfl⟩
                    go_wp2
                    go_ret3
                    exact lexR_none hbel
                  | true =>
                    rw [htb] at htg
                    by_cases hz48 : c = 48
                    · have he : r = ([], 30, p) := by
                        rw [HONE.out, one_zero (by rw [hq0]; exact hz48), if_neg (by decide)]
                      subst he
                      have h48 : ((c.toNat : Int) == 48) = true := by rw [hz48]; rfl
                      have hbel := H.bel
                      clear H HH HONE ht hdw hk13 hq0 hz48 hkk hkd hql hdl hdg
                      go_wp2_with fail
                      refine (hdt _).mono ?_
                      rintro e w1 ⟨rfl, rfl⟩
                      go_wp2_with fail
                      refine (htg _).mono ?_
                      rintro e w1 ⟨rfl, rfl⟩
                      go_wp2
                      go_ret3
                      exact lexR_none hbel
                    · have h48 : ((c.toNat : Int) == 48) = false := byte_ne (n := 48) (by decide) hz48
                      have hone := HONE.out
                      rw [one_ok hdw htb (by rw [hq0]; exact hz48)] at hone
                      have hDl : ((l.drop p).takeWhile digB).length = d := by rw [HD.out]; rfl
                      have hDt : (l.drop p).takeWhile digB = (l.drop p).take d := by rw [HD.out]; exact (take_digs _).symm
                      have hDd := take_dig (l.drop p)
                      have hDz : ((l.drop p).takeWhile digB).headD 0 ≠ 48 := by
                        intro e
                        have h1 := head_zero (l.drop p)
                        rw [hq0, decide_eq_false hz48] at h1
                        cases hx : (l.drop p).takeWhile digB with
                        | nil => rw [hx] at e; simp at e
                        | cons y z =>
                          rw [hx] at e h1
                          simp only [List.headD_cons] at e
                          subst e
                          simp [Lib.hasPrefix, List.isPrefixOf] at h1
                      have hmid : s.extract p k = str ((l.drop p).takeWhile digB) := by rw [hDt, show k = p + d by omega]; exact HMID.out p d
                      generalize (l.drop p).takeWhile digB = D at *
                      have HO := Lib.hid H.own
                      have hbel := H.bel
                      have hcnt := H.cnt
                      have hlen2 : acc.length ≤ 20000 := by omega
                      by_cases hd0 : d = 0
                      · have hD0 : D = [] := List.eq_nil_of_length_eq_zero (by omega)
                        subst hD0
                        have hx1 : (timesL []).2 = 0 := rfl
                        have hx2 : (timesL []).1.toNat = 1 := rfl
                        rw [if_pos hx1] at hone
                        simp only [hx2, List.length_nil, Nat.zero_add, if_pos] at hone
                        have hbx : Below w.heap.size w (wr.alloc (.cells #[.int .u8 t.toNat, .int .i64 1, .int .i64 p] 61)) := hbel.alloc hbel.size _
                        have HOB : OwnE (wr.alloc (.cells #[.int .u8 t.toNat, .int .i64 1, .int .i64 p] 61)) w.heap.size u5 (acc.map up) := World.ownsRow.alloc HO.out _
                        obtain ⟨V', w4, hrun, hown, hgrow, hbel4⟩ := pushE_any (out := acc.map up) (t, (1 : Int), (p : Int)) hbx.size HOB (by rw [List.length_map]; omega)
                        have hs1 : (wr.alloc (.cells #[.int .u8 t.toNat, .int .i64 1, .int .i64 p] 61)).heap.size = wr.heap.size + 1 := by show (wr.heap.push _).size = _; rw [Array.size_push]
                        rw [hs1] at hrun
                        have HRUN := Lib.hid hrun
                        have H4 := Lib.hid (AtR.mk (l := l) (r := r) (p := k + 1) (acc := acc ++ [(t, 1, p)]) (show OwnE w4 w.heap.size V' ((acc ++ [(t, 1, p)]).map up) by rw [List.map_append]; exact hown) (hbx.trans hbel4) (by omega) (by simp; omega) (by rw [hone, hk13, hkk, hd0]; try rfl))
                        have hpk : ¬ (p : Int) < (k : Int) := by omega
                        have hpk2 : decide (p < k) = false := by simp; omega
                        clear H HH HONE HO HOB hrun hown hgrow hbel4 hbx ht hdw hk13 hq0 hz48 hkk hkd hql hdl hdg hone hx1 hx2 hDl hDt hDd hDz hmid hd0 hcnt hk2 hlen2 hs1
                        go_wp2_with fail
                        refine (hdt _).mono ?_
                        rintro e w1 ⟨rfl, rfl⟩
                        go_wp2_with fail
                        refine (htg _).mono ?_
                        rintro e w1 ⟨rfl, rfl⟩
                        go_wp2_with (at_builtin; refine Lib.wpList_append_run _ rfl (.tmp 86) (.tmp 88) 47 47 rfl _ _ rfl rfl _ _ HRUN.out ?_)
                        go_roundw
                        case measure => simp [intOf]; omega
                        case rel => exact ⟨k + 1, acc ++ [(t, 1, p)], by go_num, H4.out⟩
                      · have hDne : D ≠ [] := fun e => hd0 (by rw [← hDl, e]; rfl)
                        have hbd := bad_no hDne hDd hDz
                        have hpk : (p : Int) < (k : Int) := by omega
                        have hpk2 : decide (p < k) = true := by simp; omega
                        have hpa := fun W => refParse_any (str D) W (by unfold maxLen; rw [str_size]; omega)
                        rw [str_data] at hpa
                        have hbx : Below w.heap.size w (wr.alloc (.cells #[.int .u8 t.toNat, .int .i64 1, .int .i64 p] 61)) := hbel.alloc hbel.size _
                        by_cases h62 : 4611686018427387903 < val D
                        · rw [parse_big hbd h62] at hpa
                          have ht2 : timesL D = (0, 2) := by unfold timesL; rw [if_neg hDne, if_pos (by omega)]
                          have he : r = ([], 2, p) := by rw [hone, ht2]; rfl
                          subst he
                          generalize str D = sd at hpa hmid
                          clear H HH HONE HO ht hdw hk13 hq0 hz48 hkk hkd hql hdl hdg hDl hDt hDd hDz hd0 hcnt hk2 hlen2 hone h62 ht2 hbd hDne
                          go_wp2_with fail
                          refine (hdt _).mono ?_
                          rintro e w1 ⟨rfl, rfl⟩
                          go_wp2_with fail
                          refine (htg _).mono ?_
                          rintro e w1 ⟨rfl, rfl⟩
                          go_wp2_with fail
                          refine (hpa _).mono ?_
                          rintro e w2 ⟨rfl, hb2⟩
                          go_wp2
                          go_ret3
                          exact lexR_none (hbx.trans (hb2.mono hbx.size))
                        · rw [parse_ok hbd h62] at hpa
                          obtain ⟨v, hv⟩ : ∃ v, v = val D := ⟨_, rfl⟩
                          rw [← hv] at hpa h62
                          by_cases h40 : 1099511627776 < v
                          · have ht2 : timesL D = (0, 2) := by unfold timesL; rw [if_neg hDne, if_pos (by omega)]
                            have he : r = ([], 2, p) := by rw [hone, ht2]; rfl
                            subst he
                            have h40z : (1099511627776 : Int) < (v : Int) := by omega
                            generalize str D = sd at hpa hmid
                            clear H HH HONE HO ht hdw hk13 hq0 hz48 hkk hkd hql hdl hdg hDl hDt hDd hDz hd0 hcnt hk2 hlen2 hone ht2 hbd hDne hv
                            go_wp2_with fail
                            refine (hdt _).mono ?_
                            rintro e w1 ⟨rfl, rfl⟩
                            go_wp2_with fail
                            refine (htg _).mono ?_
                            rintro e w1 ⟨rfl, rfl⟩
                            go_wp2_with fail
                            refine (hpa _).mono ?_
                            rintro e w2 ⟨rfl, hb2⟩
                            go_wp2
                            go_ret3
                            exact lexR_none (hbx.trans (hb2.mono hbx.size))
                          · have ht2 : timesL D = ((v : Int), 0) := by unfold timesL; rw [if_neg hDne, if_neg (by omega), hv]
                            have hd0' := hd0
                            rw [ht2] at hone
                            simp only [if_pos, Int.toNat_natCast, hDl, ← hk13] at hone
                            rw [show p + (d + 1) = k + 1 by omega] at hone
                            have h40z : ¬ (1099511627776 : Int) < (v : Int) := by omega
                            have HOB : OwnE (wr.alloc (.cells #[.int .u8 t.toNat, .int .i64 1, .int .i64 p] 61)) w.heap.size u5 (acc.map up) := World.ownsRow.alloc HO.out _
                            have hne : u5.ownBlock = none ∨ u5.ownBlock ≠ some wr.heap.size := by
                              cases e : u5.ownBlock with
                              | none => exact .inl rfl
                              | some b => exact .inr (fun h => by injection h with h; have := (World.ownsRow.lt HO.out b e).2; omega)
                            have hW1 : (wr.alloc (.cells #[.int .u8 t.toNat, .int .i64 1, .int .i64 p] 61)).heap[wr.heap.size]? = some (.cells #[.int .u8 t.toNat, .int .i64 1, .int .i64 p] 61 (0, 0)) := heap_alloc_new wr _
                            have hlt1 := lt_of_heap hW1
                            have hkl1 : k + 1 ≤ l.length := hkl
                            have hac : (acc ++ [(t, v, p)]).length ≤ k + 1 := by simp; omega
                            have HONE2 := Lib.hid hone
                            have HN := Lib.hid hne
                            have HW1 := Lib.hid hW1
                            have HOBH := Lib.hid HOB
                            generalize str D = sd at hpa hmid
                            clear H HH HONE HO ht hdw hk13 hq0 hz48 hkk hkd hql hdl hdg hDl hDt hDd hDz hd0 hcnt hk2 hlen2 hone ht2 hbd hDne hv hd0' hne hW1 HOB
                            go_wp2_with fail
                            refine (hdt _).mono ?_
                            rintro e w1 ⟨rfl, rfl⟩
                            go_wp2_with fail
                            refine (htg _).mono ?_
                            rintro e w1 ⟨rfl, rfl⟩
                            go_wp2_with fail
                            refine (hpa _).mono ?_
                            rintro e w2 ⟨rfl, hb2⟩
                            have hW2 := (hb2.block _ hlt1).trans HW1.out
                            have c0 : w2.cell? ⟨wr.heap.size, 0, none⟩ = some (.int .u8 t.toNat) := by simp [World.cell?, hW2]
                            have c1 : w2.cell? ⟨wr.heap.size, 1, none⟩ = some (.int .i64 1) := by simp [World.cell?, hW2]
                            have c2 : w2.cell? ⟨wr.heap.size, 2, none⟩ = some (.int .i64 p) := by simp [World.cell?, hW2]
                            have f1 : w2.frozen? ⟨wr.heap.size, 1, none⟩ = false := Lib.frozen_of_heap hW2 1
                            have hO3 : OwnE (w2.setCell ⟨wr.heap.size, 1, none⟩ (.int .i64 v)) w.heap.size u5 (acc.map up) := World.ownsRow.kept (World.ownsRow.kept HOBH.out (But.of hb2) HN.out) (But.setCell (b := wr.heap.size) 1 _) HN.out
                            have hb3 : Below w.heap.size w (w2.setCell ⟨wr.heap.size, 1, none⟩ (.int .i64 v)) := (hbx.trans (hb2.mono hbx.size)).setCell hbel.size _
                            obtain ⟨V', w4, hrun, hown, hgrow, hbel4⟩ := pushE_any (out := acc.map up) (t, (v : Int), (p : Int)) hb3.size hO3 (by rw [List.length_map]; simp at hac; omega)
                            have hs3 : (w2.setCell ⟨wr.heap.size, 1, none⟩ (.int .i64 v)).heap.size = w2.heap.size := by simp [World.setCell]
                            rw [hs3] at hrun
                            have HRUN := Lib.hid hrun
                            have H4 := Lib.hid (AtR.mk (l := l) (r := r) (p := k + 1) (acc := acc ++ [(t, v, p)]) (show OwnE w4 w.heap.size V' ((acc ++ [(t, v, p)]).map up) by rw [List.map_append]; exact hown) (hb3.trans hbel4) hkl1 hac HONE2.out.symm)
                            clear hrun hown hgrow hbel4 hb3 hO3 hs3 hW2 hb2 hbx hlt1 hac HONE2 HN HW1 HOBH hbel
                            go_wp2_with (at_builtin; refine Lib.wpList_append_run _ rfl (.tmp 86) (.tmp 88) 47 47 rfl _ _ rfl rfl _ _ HRUN.out ?_)
                            go_roundw
                            case measure => simp [intOf]; omega
                            case rel => exact ⟨k + 1, acc ++ [(t, v, p)], by go_num, H4.out⟩
                · have hklz : ¬ (k : Int) < (l.length : Int) := by omega
                  have hke : ((k : Int) == (l.length : Int)) = true := by simp; omega
                  have hke2 : (k == l.length) = true := by simp; omega
                  have he : r = ([], 30, p) := by
                    rw [HONE.out, one_bad, if_neg (by decide)]
                    rw [← drop_digs, List.drop_of_length_le (by rw [← HD.out]; omega)]
                    rfl
                  subst he
                  have hbel := H.bel
                  clear H HH HONE
                  go_wp2
                  go_ret3
                  exact lexR_none hbel
      · have hltz : ¬ (p : Int) < (s.size : Int) := by omega
        have he : r = ([], 31, l.length) := by
          rw [← H.lex, List.drop_of_length_le (by omega), lex_nil, show p = l.length by omega]
        subst he
        have hbel := H.bel
        clear H HH
        go_wp2
        go_ret3
        exact lexR_none hbel
end Go.Proofs.YtacpncmdgkljdaaGreatDoor
namespace Go.Proofs.YtacpncmdgkljdaaGreatDoor
set_option linter.unusedVariables false
set_option linter.unusedSimpArgs false
open Go.RowKit Go.Sort

theorem refHead_any (l : List UInt8) (w : World) (hl : l.length ≤ 1000000) :
    Calls Tryz.prog 30 #[.string (str l)] w fun e w' => e = .returned (.bool (headB l)) ∧ Below w.heap.size w w' :=
  head_any (number_any fun l w hl => refParse_any (str l) w (by rw [str_size]; unfold maxLen; omega)) l w hl
theorem lineV_none {l : List UInt8} (h : lineL l = none) : lineV l = .tuple #[.string (str []), .bool false] := by unfold lineV; rw [h]; rfl
theorem lineV_some {l a b : List UInt8} (h : lineL l = some (a, b)) : lineV l = .tuple #[.string (str a), .bool true] := by unfold lineV; rw [h]; rfl
/-- the first line of what stands from a place on -/
theorem line_from (l : List UInt8) (hl : l.length ≤ 20000) {k : Nat} (hk : k ≤ l.length) (w : World) :
    Calls Tryz.prog 29 #[.string ((str l).extract k (str l).size)] w fun e w' => e = .returned (lineV (l.drop k)) ∧ w = w' := by
  have hs := str_size l
  have e : (str l).extract k (str l).size = str (l.drop k) := by rw [hs, str_drop]
  rw [e]
  exact line_any (str (l.drop k)) w (by rw [str_size, List.length_drop]; omega)
theorem fit_b {s : St} (h : Fit s) {n : Nat} (h1 : farS (stepS s 98 n) = false) : Fit (stepS s 98 n) := by
  rw [step_b] at h1 ⊢
  unfold farS at h1
  simp only [Bool.or_eq_false_iff, decide_eq_false_iff_not] at h1
  exact ⟨by simp only; omega, by simp only; omega, h.many, h.len⟩
theorem fit_d {s : St} (h : Fit s) {n : Nat} (h1 : farS (stepS s 36 n) = false) : Fit (stepS s 36 n) := by
  rw [step_d] at h1 ⊢
  unfold farS at h1
  simp only [Bool.or_eq_false_iff, decide_eq_false_iff_not] at h1
  exact ⟨by simp only; omega, by simp only; omega, h.many, h.len⟩
theorem fit_o {s : St} (h : Fit s) {n : Nat} (h1 : farS (stepS s 111 n) = false) (h2 : fullS (stepS s 111 n) = false) : Fit (stepS s 111 n) := by
  rw [step_o] at h1 h2 ⊢
  unfold farS at h1
  unfold fullS at h2
  simp only [Bool.or_eq_false_iff, decide_eq_false_iff_not] at h1 h2
  refine ⟨by simp only; omega, by simp only; omega, by simp only; omega, ?_⟩
  simp only [List.length_append, runC_len]
  have := h.len
  omega
/-- the answer, behind the items -/
def behind (q : Nat) (d : List (Int × Int) × Int × Nat) : List (Int × Int) × Int × Nat := if d.2.1 = 0 then (d.1, 0, 0) else ([], d.2.1, q + d.2.2)
theorem parseP_unfold {l : List UInt8} (hl : l.length ≤ 20000) {K : Nat} (hh : hashL l 0 = (l.drop K, K)) :
    (lineL (l.drop K) = none → parseP l = ([], 32, K)) ∧ (∀ h r, lineL (l.drop K) = some (h, r) → (headB h = false → parseP l = ([], 32, K)) ∧
      (headB h = true → ∀ I e p, lexA r = (I, e, p) → (e ≠ 0 → parseP l = ([], e, K + h.length + 1 + p)) ∧ (e = 0 → parseP l = behind (K + h.length + 1) (doL I st0)))) := by
  unfold parseP
  rw [if_neg (by omega), hh]
  simp only
  refine ⟨fun h => by rw [h], fun h r hln => ?_⟩
  rw [hln]
  simp only
  refine ⟨fun hd => by rw [if_pos hd], fun hd I e p hx => ?_⟩
  rw [if_neg (by rw [hd]; decide), hx]
  simp only
  refine ⟨fun he => by rw [if_pos he], fun he => ?_⟩
  rw [if_neg (by simpa using he)]
  rfl
end Go.Proofs.YtacpncmdgkljdaaGreatDoor
