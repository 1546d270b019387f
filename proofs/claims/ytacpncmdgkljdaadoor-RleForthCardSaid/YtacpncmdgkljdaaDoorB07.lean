/-
  Texts that the claims of this seat share, part 7.
-/
import Derived.Test.YtacpncmdgkljdaaDoorB06
import Derived.Test.YtacpncmdgkljdaaDoorB01
import Derived.Test.YtacpncmdgkljdaaDoorB04
import Derived.Test.YtacpncmdgkljdaaDoorRows
import Derived.ProofKit
import Derived.OpenShut
import Derived.ChangeOld
import Derived.Deep.Slices
import Derived.Deep.Fields
import Derived.Test.YtacpncmdgkljdaaDoorB03
import Derived.Test.YtacpncmdgkljdaaDoorB00
set_option linter.unusedVariables false
set_option linter.unusedSimpArgs false
namespace Go.Proofs.YtacpncmdgkljdaaDoor
set_option linter.unusedVariables false
set_option linter.unusedSimpArgs false
open Go.RowKit Go.Sort

set_option maxHeartbeats 4000000 in
set_option maxRecDepth 100000 in
theorem rleParse_any (l : List UInt8) (w : World) (hl : l.length ≤ 9223372036854775807) (hM : Mx w) :
    Calls Tryd.prog 14 #[.string (str l)] w (SetR (parseP l) w) := by
  have hsz := str_size l
  by_cases hlong : 20000 < l.length
  · have e : parseP l = ([], 3, 0) := by unfold parseP; rw [if_pos hlong]
    rw [e]
    have hz : (20000 : Int) < ((str l).size : Int) := by omega
    clear e
    generalize str l = s at hz hsz
    go_enter Tryd.func14, Tryd.ntmps14
    go_wp2
    go_ret3
    exact setR_none (Below.refl _ _)
  · have hz : ¬ (20000 : Int) < ((str l).size : Int) := by omega
    have hrm := remarks_any l w (by omega) hM
    obtain ⟨k, hk, hh⟩ := hash_at l
    obtain ⟨r, hr⟩ : ∃ r, r = parseP l := ⟨_, rfl⟩
    rw [← hr]
    unfold parseP at hr
    rw [if_neg hlong] at hr
    rw [hh] at hr hrm
    simp only at hr hrm
    have hx := str_from l (k := k)
    have hcut := fun W (hM : Mx W) => cutS_any [10] (l.drop k) W (by decide) (by rw [List.length_drop]; omega) hM
    have hline := line_cut (l.drop k)
    have hkz : (k : Int) ≤ ((str l).size : Int) := by omega
    have hl2 : l.length ≤ 20000 := by omega
    clear hh hlong hl
    cases hln : lineL (l.drop k) with
    | none =>
      rw [hln] at hr
      simp only at hr
      subst hr
      rw [cutT_none (by rw [hline]; exact hln)] at hcut
      clear hline hln
      generalize str (l.drop k) = sk at *
      generalize str l = s at *
      generalize str [] = s0 at *
      go_enter Tryd.func14, Tryd.ntmps14
      go_wp2_with fail
      refine hrm.mono ?_
      rintro e w1 ⟨rfl, hb1⟩
      have hM1 := hM.below hb1
      go_wp2_with fail
      refine (hcut _ hM1).mono ?_
      rintro e w2 ⟨rfl, hb2⟩
      have hbb := Qt.more hb1 hb1.size hb2
      clear hcut hrm hb1 hb2 hM1
      go_wp2
      go_ret3
      exact setR_none hbb
    | some q =>
      obtain ⟨h, rr⟩ := q
      obtain ⟨hrr, hlen⟩ := line_drop hln
      rw [hln] at hr
      simp only at hr
      rw [cutT_some (by rw [hline]; exact hln)] at hcut
      have hhead := fun W (hM : Mx W) => isHead_any h W (by omega) hM
      clear hline hln
      cases hhd : headB h with
      | false =>
        rw [hhd] at hhead
        rw [if_pos hhd] at hr
        subst hr
        clear hhd hrr hlen
        generalize str (l.drop k) = sk at *
        generalize str l = s at *
        generalize str h = sh at *
        generalize str rr = sr at *
        go_enter Tryd.func14, Tryd.ntmps14
        go_wp2_with fail
        refine hrm.mono ?_
        rintro e w1 ⟨rfl, hb1⟩
        have hM1 := hM.below hb1
        go_wp2_with fail
        refine (hcut _ hM1).mono ?_
        rintro e w2 ⟨rfl, hb2⟩
        have hbb := Qt.more hb1 hb1.size hb2
        have hM2 := hM.below hbb
        clear hcut hrm hb1 hb2 hM1
        go_wp2_with fail
        refine (hhead _ hM2).mono ?_
        rintro e w3 ⟨rfl, hb3⟩
        have hbb3 := Qt.more hbb hbb.size hb3
        clear hhead hbb hb3 hM2
        go_wp2
        go_ret3
        exact setR_none hbb3
      | true =>
        rw [hhd] at hhead
        rw [if_neg (by rw [hhd]; decide)] at hr
        have hlex := fun W => lex_any rr W (by omega)
        have hshape := lexA_shape rr
        have hrs := str_size rr
        have hbg : (l.length : Int) - (rr.length : Int) = ((k + h.length + 1 : Nat) : Int) := by omega
        have hshp := lexL_shape rr 0 []
        rw [← lexA_short (by omega)] at hshp
        have hcnt : (lexA rr).1.length ≤ 1000000 ∧ (lexA rr).2.2 ≤ 20000 ∧ ∀ x ∈ (lexA rr).1, x.2.2 ≤ 20000 := by
          unfold Shaped at hshp
          by_cases h0 : (lexA rr).2.1 = 0
          · obtain ⟨m, m1, m2, _, m4, m5, m6⟩ := hshp.1 h0
            have := text_pos m2
            rw [m1]
            simp only [List.nil_append]
            refine ⟨by omega, by omega, fun x hx => ?_⟩
            have := m4 x hx
            omega
          · obtain ⟨m1, _, m3, _⟩ := hshp.2 h0
            rw [m1]
            simp only [List.length_nil]
            exact ⟨by omega, by omega, fun x hx => absurd hx (by simp)⟩
        clear hhd hrr hshp
        generalize lexA rr = z at *
        obtain ⟨I, x, p⟩ := z
        simp only at hr hshape hcnt
        unfold LexR at hlex
        simp only at hlex
        generalize str (l.drop k) = sk at *
        generalize str l = s at *
        generalize str h = sh at *
        generalize str rr = sr at *
        obtain ⟨q, hq⟩ : ∃ q : Nat, q = k + h.length + 1 := ⟨_, rfl⟩
        have hq2 : q ≤ 20000 := by omega
        rw [← hq] at hbg hr
        have hpz := hcnt.2.1
        have HBG := Lib.hid (And.intro hbg hrs)
        clear hq hlen hrs hbg
        by_cases hx0 : x = 0
        · subst hx0
          rw [if_neg (by decide)] at hr
          have HDR := Lib.hid (fun A c W (hR : NowE W A (I.map up)) => drawn_any A I c W hR (hshape rfl) hcnt.1)
          have hdshape := do_set I (hshape rfl)
          have hdb : (doL I st0).2.2 ≤ 20000 := by
            rcases hdshape with ⟨L, d1, _⟩ | ⟨e2, p2, d1, _, xx, hxx, hp2⟩
            · rw [d1]; simp
            · rw [d1]
              have := hcnt.2.2 xx hxx
              simp only
              omega
          have hgoodz : (doL I st0).2.1 = 0 → (doL I st0).2.2 = 0 := by
            rcases hdshape with ⟨L, d1, _⟩ | ⟨e2, p2, d1, d2, xx, hxx, hp2⟩
            · rw [d1]; exact fun _ => rfl
            · rw [d1]
              intro h0
              rcases d2 with h | h <;> (simp only at h0; omega)
          have hbadz : ¬ (doL I st0).2.1 = 0 → (doL I st0).1 = [] := by
            rcases hdshape with ⟨L, d1, _⟩ | ⟨e2, p2, d1, d2, xx, hxx, hp2⟩
            · rw [d1]; exact fun h => absurd rfl h
            · rw [d1]; exact fun _ => rfl
          clear hdshape hshape hcnt
          generalize doL I st0 = d at *
          obtain ⟨out, e2, p2⟩ := d
          simp only at hr hdb hgoodz hbadz
          unfold SetR at HDR
          simp only at HDR
          by_cases he2 : e2 = 0
          · subst he2
            obtain rfl := hgoodz rfl
            rw [if_pos rfl] at hr
            subst hr
            clear hgoodz hbadz hdb
            go_enter Tryd.func14, Tryd.ntmps14
            go_wp2_with fail
            refine hrm.mono ?_
            rintro e w1 ⟨rfl, hb1⟩
            have hM1 := hM.below hb1
            go_wp2_with fail
            refine (hcut _ hM1).mono ?_
            rintro e w2 ⟨rfl, hb2⟩
            have hbb := Qt.more hb1 hb1.size hb2
            have hM2 := hM.below hbb
            clear hcut hrm hb1 hb2 hM1
            go_wp2_with fail
            refine (hhead _ hM2).mono ?_
            rintro e w3 ⟨rfl, hb3⟩
            have hbb3 := Qt.more hbb hbb.size hb3
            clear hhead hbb hb3 hM2
            obtain ⟨hbg, hrs⟩ := HBG.out
            clear HBG
            go_wp2_with fail
            refine (hlex _).mono ?_
            rintro e w4 ⟨v, rfl, ⟨A, c, rfl, hRc, hR⟩, hb4⟩
            have hbb4 := Qt.more hbb3 hbb3.size hb4
            have hdr := HDR.out A c w4 hR
            clear hlex hbb3 hb4 HDR
            rw [List.length_map] at *
            go_wp2_with fail
            refine hdr.mono ?_
            rintro e w5 ⟨v5, rfl, hR5, hb5⟩
            have hbb5 := Qt.more hbb4 hbb4.size hb5
            clear hbb4 hb5 hdr
            obtain ⟨A5, c5, rfl, hc5, hr5⟩ := hR5
            have HR5 := Lib.hid hr5
            clear hr5
            go_wp2
            go_ret3
            exact ⟨_, rfl, ⟨A5, c5, rfl, hc5, HR5.out⟩, hbb5⟩
          · have hx1 : (e2 == 0) = false := by simpa using he2
            have hx2 : (e2 != 0) = true := by simpa using he2
            rw [if_neg he2] at hr
            subst hr
            obtain rfl := hbadz he2
            have hsum : ((q + p2 : Nat) : Int) = (q : Int) + (p2 : Int) := by omega
            clear hgoodz hbadz
            go_enter Tryd.func14, Tryd.ntmps14
            go_wp2_with fail
            refine hrm.mono ?_
            rintro e w1 ⟨rfl, hb1⟩
            have hM1 := hM.below hb1
            go_wp2_with fail
            refine (hcut _ hM1).mono ?_
            rintro e w2 ⟨rfl, hb2⟩
            have hbb := Qt.more hb1 hb1.size hb2
            have hM2 := hM.below hbb
            clear hcut hrm hb1 hb2 hM1
            go_wp2_with fail
            refine (hhead _ hM2).mono ?_
            rintro e w3 ⟨rfl, hb3⟩
            have hbb3 := Qt.more hbb hbb.size hb3
            clear hhead hbb hb3 hM2
            obtain ⟨hbg, hrs⟩ := HBG.out
            clear HBG
            go_wp2_with fail
            refine (hlex _).mono ?_
            rintro e w4 ⟨v, rfl, ⟨A, c, rfl, hRc, hR⟩, hb4⟩
            have hbb4 := Qt.more hbb3 hbb3.size hb4
            have hdr := HDR.out A c w4 hR
            clear hlex hbb3 hb4 HDR
            rw [List.length_map] at *
            go_wp2_with fail
            refine hdr.mono ?_
            rintro e w5 ⟨v5, rfl, hR5, hb5⟩
            have hbb5 := Qt.more hbb4 hbb4.size hb5
            clear hbb4 hb5 hdr
            obtain ⟨A5, c5, rfl, hc5, hr5⟩ := hR5
            clear hr5
            go_wp2
            go_ret3
            have hfin := setR_none (x := e2) (p := q + p2) hbb5
            rw [hsum] at hfin
            exact hfin
        · have hx1 : (x == 0) = false := by simpa using hx0
          have hx2 : (x != 0) = true := by simpa using hx0
          rw [if_pos hx0] at hr
          subst hr
          have hsum : ((q + p : Nat) : Int) = (q : Int) + (p : Int) := by omega
          clear hshape hcnt
          go_enter Tryd.func14, Tryd.ntmps14
          go_wp2_with fail
          refine hrm.mono ?_
          rintro e w1 ⟨rfl, hb1⟩
          have hM1 := hM.below hb1
          go_wp2_with fail
          refine (hcut _ hM1).mono ?_
          rintro e w2 ⟨rfl, hb2⟩
          have hbb := Qt.more hb1 hb1.size hb2
          have hM2 := hM.below hbb
          clear hcut hrm hb1 hb2 hM1
          go_wp2_with fail
          refine (hhead _ hM2).mono ?_
          rintro e w3 ⟨rfl, hb3⟩
          have hbb3 := Qt.more hbb hbb.size hb3
          clear hhead hbb hb3 hM2
          obtain ⟨hbg, hrs⟩ := HBG.out
          clear HBG
          go_wp2_with fail
          refine (hlex _).mono ?_
          rintro e w4 ⟨v, rfl, _, hb4⟩
          have hbb4 := Qt.more hbb3 hbb3.size hb4
          clear hlex hbb3 hb4
          go_wp2
          go_ret3
          have hfin := setR_none (x := x) (p := q + p) hbb4
          rw [hsum] at hfin
          exact hfin
end Go.Proofs.YtacpncmdgkljdaaDoor
namespace Go.Proofs.YtacpncmdgkljdaaDoor
set_option linter.unusedVariables false
set_option linter.unusedSimpArgs false
open Go.RowKit Go.Sort

theorem flE_set1 (l : List Ite) (k : Nat) (h : k < l.length) (x : Int) : (flE l).set (k * 3 + 1) (.int .i64 x) = flE (l.set k ((l.getD k noE).1, x, (l.getD k noE).2.2)) := by
  induction l generalizing k with
  | nil => exact absurd h (Nat.not_lt_zero k)
  | cons y l ih =>
    have e2 : ∀ (z : Ite) (m : List Ite), flE (z :: m) = .int .u8 z.1.toNat :: .int .i64 z.2.1 :: .int .i64 z.2.2 :: flE m := fun _ _ => rfl
    cases k with
    | zero => simp [e2]
    | succ k =>
      have e1 : (k + 1) * 3 + 1 = k * 3 + 1 + 1 + 1 + 1 := by omega
      rw [e1, e2]
      simp only [List.set_cons_succ, List.getD_cons_succ]
      rw [ih k (by simpa using h), e2]
theorem flE_set2 (l : List Ite) (k : Nat) (h : k < l.length) (x : Int) : (flE l).set (k * 3 + 2) (.int .i64 x) = flE (l.set k ((l.getD k noE).1, (l.getD k noE).2.1, x)) := by
  induction l generalizing k with
  | nil => exact absurd h (Nat.not_lt_zero k)
  | cons y l ih =>
    have e2 : ∀ (z : Ite) (m : List Ite), flE (z :: m) = .int .u8 z.1.toNat :: .int .i64 z.2.1 :: .int .i64 z.2.2 :: flE m := fun _ _ => rfl
    cases k with
    | zero => simp [e2]
    | succ k =>
      have e1 : (k + 1) * 3 + 2 = k * 3 + 2 + 1 + 1 + 1 := by omega
      rw [e1, e2]
      simp only [List.set_cons_succ, List.getD_cons_succ]
      rw [ih k (by simpa using h), e2]

/-- Where an own slice that is not empty lies, and that its cells may be written. -/
theorem ownE_at {w : World} {B : Nat} {v : Value} {l : List Ite} (h : OwnE w B v l) (hn : 0 < l.length) :
    ∃ g c, v = .slice (some ⟨g, 0, none⟩) l.length c ∧ B ≤ g ∧ l.length ≤ c ∧ (∀ j, w.frozen? ⟨g, j, none⟩ = false) ∧
      (∀ j, j < l.length → w.cell? ⟨g, j * 3, none⟩ = some (.int .u8 (l.getD j noE).1.toNat) ∧ w.cell? ⟨g, j * 3 + 1, none⟩ = some (.int .i64 (l.getD j noE).2.1) ∧ w.cell? ⟨g, j * 3 + 2, none⟩ = some (.int .i64 (l.getD j noE).2.2)) ∧
      (∀ k, k < l.length → ∀ x, OwnE (w.setCell ⟨g, k * 3 + 1, none⟩ (.int .i64 x)) B v (l.set k ((l.getD k noE).1, x, (l.getD k noE).2.2))) ∧
      (∀ k, k < l.length → ∀ x, OwnE (w.setCell ⟨g, k * 3 + 2, none⟩ (.int .i64 x)) B v (l.set k ((l.getD k noE).1, (l.getD k noE).2.1, x))) := by
  have hcells := fun g (e : v.ownBlock = some g) => World.ownsRow.cells h e
  rcases h.2 with ⟨_, h0⟩ | ⟨g, cap, cur, hv, hb, hh, hnc, hcap, hsz, htake⟩
  · omega
  · subst hv
    have key : ∀ (i : Nat) (u : Value) (m : List Ite), i < l.length * 3 → m.length = l.length → (flE l).set i u = flE m → OwnE (w.setCell ⟨g, i, none⟩ u) B (.slice (some ⟨g, 0, none⟩) l.length cap) m := by
      intro i u m hi hm he
      refine ⟨length_flE m, .inr ⟨g, cap, cur.setIfInBounds i u, by rw [hm], hb, ?_, by rw [hm]; exact hnc, hcap, by simpa using hsz, ?_⟩⟩
      · simp [World.setCell, Array.getElem?_modify, hh]
      · rw [Array.toList_setIfInBounds, hm, List.take_set, htake, he]
    refine ⟨g, cap, rfl, hb, hnc, fun j => Lib.frozen_of_heap hh j, fun j hj => ?_, fun k hk x => key _ _ _ (by omega) (by simp) (flE_set1 l k hk x), fun k hk x => key _ _ _ (by omega) (by simp) (flE_set2 l k hk x)⟩
    obtain ⟨f0, f1, f2⟩ := flE_get l j hj
    have hc := hcells g rfl
    have e : ∀ i, (⟨g, 0, none⟩ : Addr).add i = ⟨g, i, none⟩ := fun i => by rw [Addr.add_lit, Nat.zero_add]
    exact ⟨by rw [← e]; exact hc _ _ f0, by rw [← e]; exact hc _ _ f1, by rw [← e]; exact hc _ _ f2⟩

theorem ownE_set1 {w : World} {B g n c : Nat} {l : List Ite} (h : OwnE w B (.slice (some ⟨g, 0, none⟩) n c) l) {k : Nat} (hk : k < l.length) (x : Int) :
    OwnE (w.setCell ⟨g, k * 3 + 1, none⟩ (.int .i64 x)) B (.slice (some ⟨g, 0, none⟩) n c) (l.set k ((l.getD k noE).1, x, (l.getD k noE).2.2)) := by
  obtain ⟨g', c', hv, _, _, _, _, h1, _⟩ := ownE_at h (by omega)
  injection hv with e1 e2 e3
  injection e1 with e1
  injection e1 with e1
  subst e1
  exact h1 k hk x
theorem ownE_set2 {w : World} {B g n c : Nat} {l : List Ite} (h : OwnE w B (.slice (some ⟨g, 0, none⟩) n c) l) {k : Nat} (hk : k < l.length) (x : Int) :
    OwnE (w.setCell ⟨g, k * 3 + 2, none⟩ (.int .i64 x)) B (.slice (some ⟨g, 0, none⟩) n c) (l.set k ((l.getD k noE).1, (l.getD k noE).2.1, x)) := by
  obtain ⟨g', c', hv, _, _, _, _, _, h2⟩ := ownE_at h (by omega)
  injection hv with e1 e2 e3
  injection e1 with e1
  injection e1 with e1
  subst e1
  exact h2 k hk x

theorem OwnE.below {w w' : World} {B : Nat} {v : Value} {l : List Ite} (h : OwnE w B v l) (hb : Below w.heap.size w w') : OwnE w' B v l :=
  World.ownsRow.kept h (row := none) ⟨hb.os, hb.tape, hb.output, hb.size, fun k hk _ => hb.block k hk⟩ (by cases v.ownBlock <;> simp)

end Go.Proofs.YtacpncmdgkljdaaDoor
namespace Go.Proofs.YtacpncmdgkljdaaDoor
set_option linter.unusedVariables false
set_option linter.unusedSimpArgs false
open Go.RowKit Go.Sort

/-- items without places, as they lie -/
def ups (q : List Tn) : List Ite := (itemsT q).map up
theorem ups_len (q : List Tn) : (ups q).length = q.length := by unfold ups itemsT; simp
theorem ups_append (q r : List Tn) : ups (q ++ r) = ups q ++ ups r := by unfold ups itemsT; simp
theorem ups_one (t : UInt8) (n : Nat) : ups [(t, n)] = [(t, (n : Int), 0)] := rfl
theorem ups_last (q : List Tn) (t : UInt8) (n : Nat) : (ups (q ++ [(t, n)])).getD q.length noE = (t, (n : Int), 0) := by
  rw [ups_append, ups_one, List.getD_eq_getElem?_getD, List.getElem?_append_right (by rw [ups_len]; exact Nat.le_refl _), ups_len, Nat.sub_self]
  rfl
theorem ups_set (q : List Tn) (t : UInt8) (n m : Nat) : (ups (q ++ [(t, n)])).set q.length (t, (m : Int), 0) = ups (q ++ [(t, m)]) := by
  rw [ups_append, ups_append, ups_one, ups_one]
  simp [List.set_append, ups_len]

/-- what a call that works on items of its own leaves as it was -/
def MR (B : Nat) (w w' : World) : Prop := Below B w w' ∧ Lib.OthersKept 72 none w w'
theorem MR.refl (B : Nat) (w : World) : MR B w w := ⟨Below.refl _ _, Lib.OthersKept.refl _ _ _⟩
theorem MR.trans {B : Nat} {a b c : World} (h : MR B a b) (k : MR B b c) : MR B a c := ⟨h.1.trans k.1, h.2.trans k.2⟩
theorem MR.alloc {B : Nat} {a w : World} (h : MR B a w) (hB : B ≤ w.heap.size) (o : Obj) : MR B a (w.alloc o) := ⟨h.1.alloc hB o, h.2.alloc o⟩
theorem others_set {w : World} {g i T : Nat} {cs : Array Value} {fz : Nat × Nat} (u : Value) (h : w.heap[g]? = some (.cells cs T fz)) : Lib.OthersKept T none w (w.setCell ⟨g, i, none⟩ u) := by
  intro k o hk _ ho
  rw [Below.heap_setCell _ _ _ _ (fun e => by
    subst e
    rw [h] at hk
    exact ho cs fz (Option.some.inj hk).symm)]
  exact hk

def MoreR (B : Nat) (q : List Tn) (w : World) (e : Ending) (w' : World) : Prop := ∃ v', e = .returned v' ∧ OwnE w' B v' (ups q) ∧ MR B w w'

set_option maxHeartbeats 4000000 in
set_option maxRecDepth 100000 in
theorem more_any {w : World} {B : Nat} {v : Value} (q : List Tn) (t : UInt8) (n : Nat) (hO : OwnE w B v (ups q)) (hB : B ≤ w.heap.size) (hl : q.length ≤ 900000) (hq : ∀ x ∈ q, x.2 ≤ 4000000000000000000) (hn : n ≤ 4000000000000000000) :
    Calls Tryd.prog 41 #[v, .int .u8 t.toNat, .int .i64 n] w (MoreR B (putI q t n) w) := by
  obtain ⟨A, c, rfl⟩ := slice_of_own hO
  rw [ups_len] at hO ⊢
  have HO := Lib.hid hO
  by_cases h0 : n = 0
  · subst h0
    show Calls Tryd.prog 41 #[.slice A q.length c, .int .u8 t.toNat, .int .i64 0] w (MoreR B (putI q t 0) w)
    rw [putI_zero]
    clear hO hq
    go_enter Tryd.func41, Tryd.ntmps41
    go_wp2
    go_ret
    exact ⟨_, rfl, HO.out, MR.refl _ _⟩
  · have hz : ((n : Int) == 0) = false := beq_eq_false_iff_ne.2 (by omega)
    have hpush : ∀ (u : UInt8) (m : Nat), putI q t n = q ++ [(u, m)] → ∃ v' w', (Builtin.append_ #[53, 53] 53 #[.slice A q.length c, .slice (some ⟨w.heap.size, 0, none⟩) 1 1]).run Tryd.prog (w.alloc (.cells #[.int .u8 u.toNat, .int .i64 m, .int .i64 0] 72)) = .ok v' w' ∧ Hid (OwnE w' B v' (ups (putI q t n)) ∧ MR B w w') := by
      intro u m he
      have h1 := pushE_any (out := ups q) (u, (m : Int), 0) hB (v := .slice A q.length c) HO.out (by rw [ups_len]; omega)
      obtain ⟨v', w', hrun, hown, hgrow, hbel⟩ := h1
      refine ⟨v', w', hrun, ?_, hbel, ?_⟩
      · rw [he, ups_append, ups_one]; exact hown
      · refine ((Lib.OthersKept.refl _ _ w).alloc _).grown hgrow fun k hk => ?_
        obtain ⟨_, hlt2, cs, fz, hc⟩ := own_kind HO.out k hk
        exact ⟨cs, fz, (Lib.alloc_old w _ k hlt2).trans hc⟩
    rcases list_cases q with rfl | ⟨a, ⟨u, m⟩, rfl⟩
    · obtain ⟨v', w', hrun, HH⟩ := hpush t n (putI_first t n h0)
      have HRUN := Lib.hid hrun
      clear hO hpush hrun hq h0
      simp only [List.length_nil] at *
      generalize putI [] t n = z at *
      go_enter Tryd.func41, Tryd.ntmps41
      go_wp2_with (at_builtin; refine Lib.wpList_append_run _ rfl (.tmp 35) (.tmp 39) 53 53 rfl _ _ rfl rfl _ _ HRUN.out ?_)
      go_ret
      exact ⟨_, rfl, HH.out.1, HH.out.2⟩
    · have hlen : (a ++ [(u, m)]).length = a.length + 1 := by simp
      have hlast := ups_last a u m
      have hm : m ≤ 4000000000000000000 := hq (u, m) (by simp)
      obtain ⟨g, c', hv, hBg, hcc, hfr, hcells, hset1, _⟩ := ownE_at HO.out (by rw [ups_len, hlen]; omega)
      rw [ups_len] at hv hcells hset1 hcc
      injection hv with e1 e2 e3
      subst e1 e3
      have hk := hcells a.length (by omega)
      have hs1 := hset1 a.length (by omega)
      rw [hlast] at hk hs1
      simp only at hk hs1
      obtain ⟨k0, k1, _⟩ := hk
      have f1 := hfr (a.length * 3 + 1)
      obtain ⟨_, hlt2, cs, fz, hc⟩ := own_kind HO.out g rfl
      rw [hlen] at *
      have hsub : ((a.length + 1 : Nat) : Int) - 1 = (a.length : Int) := by omega
      have hge : (0 : Int) ≤ (a.length : Int) := by omega
      have hkz : a.length ≤ 900000 := by simp at hl; omega
      have hltk : a.length < a.length + 1 := by omega
      by_cases ht : u = t
      · subst ht
        have hsum : ((m + n : Nat) : Int) = (m : Int) + (n : Int) := by omega
        have hown : OwnE (w.setCell ⟨g, a.length * 3 + 1, none⟩ (.int .i64 ((m : Int) + (n : Int)))) B (.slice (some ⟨g, 0, none⟩) (a.length + 1) c) (ups (putI (a ++ [(u, m)]) u n)) := by
          have := hs1 ((m : Int) + (n : Int))
          rw [← hsum, ups_set] at this
          rw [putI_grow a u m n h0, ← hsum]
          exact this
        have hMR : MR B w (w.setCell ⟨g, a.length * 3 + 1, none⟩ (.int .i64 ((m : Int) + (n : Int)))) := ⟨(Below.refl _ _).setCell hBg _, others_set _ hc⟩
        have HF := Lib.hid (And.intro hown hMR)
        generalize putI (a ++ [(u, m)]) u n = z at *
        clear hO hpush hq h0 hlen hlast hcells hset1 hs1 hfr hc hown hMR HO hcc hsum
        generalize a.length = k at *
        go_enter Tryd.func41, Tryd.ntmps41
        go_wp2
        go_ret
        exact ⟨_, rfl, HF.out.1, HF.out.2⟩
      · obtain ⟨v', w', hrun, HH⟩ := hpush t n (putI_new a t u m n h0 ht)
        rw [hlen] at hrun
        have htz : ((u.toNat : Int) == (t.toNat : Int)) = false := beq_eq_false_iff_ne.2 (fun e => ht (UInt8.toNat_inj.1 (by omega)))
        have HRUN := Lib.hid hrun
        clear hO hpush hrun hq h0 hlen hlast hcells hset1 hs1 hfr hc HO hcc
        generalize putI (a ++ [(u, m)]) t n = z at *
        generalize a.length = k at *
        go_enter Tryd.func41, Tryd.ntmps41
        go_wp2_with (at_builtin; refine Lib.wpList_append_run _ rfl (.tmp 35) (.tmp 39) 53 53 rfl _ _ rfl rfl _ _ HRUN.out ?_)
        go_ret
        exact ⟨_, rfl, HH.out.1, HH.out.2⟩
end Go.Proofs.YtacpncmdgkljdaaDoor
namespace Go.Proofs.YtacpncmdgkljdaaDoor.Cel
open Go.RowKit Go.Sort

def aw0 : List (Int × Int) := [(1, 0), (0, 1), (1, 0)]
def aw1 : List (Int × Int) := [(1, 0), (0, 1)]
theorem aw_set : setL aw0 = aw1 := by decide
theorem aw_in : (aw0.any fun p => !inB p) = false := by decide
theorem aw_right : rightB aw1 = true := by decide
theorem aw_in1 : ∀ p ∈ aw1, inB p = true := by decide
theorem aw_rises : Rises aw1 := ((rightB_iff _).1 aw_right).2.2
theorem aw_out : outL (1, 0) aw1 = [(0, 1)] := by decide
theorem aw_sh : shL 5 (-5) aw1 = [(6, -5), (5, -4)] := by decide
theorem aw_shin : (shL 5 (-5) aw1).all inB = true := by decide
theorem aw_box : boxV aw1 = .agg #[.int .i64 0, .int .i64 0, .int .i64 2, .int .i64 2] := by
  have h1 : loX aw1 aw1.length = 0 := by decide
  have h2 : hiX aw1 aw1.length = 1 := by decide
  unfold boxV
  rw [h1, h2]
  rfl

theorem aw_boxes (g : Nat) (w : World) (hR : Rd w w.heap.size (some ⟨g, 0, none⟩) aw1) :
    Calls Tryd.prog 22 #[.slice (some ⟨g, 0, none⟩) 2 2] w fun e w' => e = .returned (.tuple #[.agg #[.int .i64 0, .int .i64 0, .int .i64 2, .int .i64 2], .bool true]) ∧ Below w.heap.size w w' := by
  have h := box_any (some ⟨g, 0, none⟩) aw1 2 w hR (by decide) (by decide) (by decide) aw_right aw_in1
  rw [aw_box] at h
  exact h

/-- three cells laid in a new block -/
theorem rd_three (w : World) (T : Nat) : Rd (w.alloc (.cells #[.int .i64 1, .int .i64 0, .int .i64 0, .int .i64 1, .int .i64 1, .int .i64 0] T)) (w.alloc (.cells #[.int .i64 1, .int .i64 0, .int .i64 0, .int .i64 1, .int .i64 1, .int .i64 0] T)).heap.size (some ⟨w.heap.size, 0, none⟩) aw0 := fun j hj => by
  have hj3 : j < 3 := hj
  refine ⟨w.heap.size, 0, rfl, by simp, ?_, ?_⟩
  · match j, hj3 with
    | 0, _ => simp [aw0]
    | 1, _ => simp [aw0]
    | 2, _ => simp [aw0]
  · match j, hj3 with
    | 0, _ => simp [aw0]
    | 1, _ => simp [aw0]
    | 2, _ => simp [aw0]
theorem rd_one (w : World) (T : Nat) (x y : Int) : Rd (w.alloc (.cells #[.int .i64 x, .int .i64 y] T)) (w.alloc (.cells #[.int .i64 x, .int .i64 y] T)).heap.size (some ⟨w.heap.size, 0, none⟩) [(x, y)] := fun j hj => by
  have hj1 : j = 0 := by simp at hj; omega
  subst hj1
  exact ⟨w.heap.size, 0, rfl, by simp, by simp, by simp⟩
theorem rd_one_at (w : World) (T : Nat) (x y : Int) {B : Nat} (hB : B = w.heap.size) : Rd (w.alloc (.cells #[.int .i64 x, .int .i64 y] T)) (w.alloc (.cells #[.int .i64 x, .int .i64 y] T)).heap.size (some ⟨B, 0, none⟩) [(x, y)] := by
  subst hB; exact rd_one w T x y
theorem rd_two (w : World) (T : Nat) : Rd (w.alloc (.cells #[.int .i64 0, .int .i64 0, .int .i64 0, .int .i64 0] T)) (w.alloc (.cells #[.int .i64 0, .int .i64 0, .int .i64 0, .int .i64 0] T)).heap.size (some ⟨w.heap.size, 0, none⟩) [(0, 0), (0, 0)] := fun j hj => by
  have hj3 : j < 2 := hj
  refine ⟨w.heap.size, 0, rfl, by simp, ?_, ?_⟩
  · match j, hj3 with
    | 0, _ => simp
    | 1, _ => simp
  · match j, hj3 with
    | 0, _ => simp
    | 1, _ => simp

end Go.Proofs.YtacpncmdgkljdaaDoor.Cel
namespace Go.Proofs.YtacpncmdgkljdaaDoor.Cel
open Go.ChangeShapes Go.WideShapes Go.ChangeAt Go.RowKit Go.Deep

theorem exists_list {n : Nat} {Q : Nat → Int × Int → Prop} (h : ∀ i, i < n → ∃ p, Q i p) : ∃ l : List (Int × Int), l.length = n ∧ ∀ i, i < n → Q i (l.getD i (0, 0)) := by
  induction n with
  | zero => exact ⟨[], rfl, fun i hi => absurd hi (Nat.not_lt_zero i)⟩
  | succ n ih =>
    obtain ⟨l, hl, hq⟩ := ih fun i hi => h i (by omega)
    obtain ⟨p, hp⟩ := h n (by omega)
    refine ⟨l ++ [p], by simp [hl], fun i hi => ?_⟩
    by_cases hin : i < n
    · rw [List.getD_eq_getElem?_getD, List.getElem?_append_left (by omega), ← List.getD_eq_getElem?_getD]
      exact hq i hin
    · have : i = n := by omega
      subst this
      rw [List.getD_eq_getElem?_getD, List.getElem?_append_right (by omega), hl]
      simpa using hp

section
variable {H : Type} {enc : TypeId × Value → H} {w : World} {base : Nat} {spare : Nat → Bool} {held : Bool}

/-- An element of two cells, each a number. -/
def TwoInts (P : Program) (e : TypeId) : Prop := P.cellsOf e = 2 ∧ ∀ {H : Type} {enc : TypeId × Value → H} {w : World} {base : Nat} {spare : Nat → Bool} {held : Bool} (n : Nat) (cs : List Value) (y : DataW H × List MemPlace), DataW.trod enc P w base spare held n e cs = some y → ∃ a b, cs = [.int .i64 a, .int .i64 b] ∧ I64 a ∧ I64 b

theorem i64_of_wf {a : Int} (h : (Lit.int .i64 a).wf = true) : I64 a := by
  have : IntKind.i64.min ≤ a ∧ a ≤ IntKind.i64.max := by simpa [Lit.wf] using h
  simpa [I64, IntKind.min, IntKind.max, IntKind.signed, IntKind.bits] using this

theorem two_array {P : Program} {e t : TypeId} (he : P.underlying e = some (.array 2 t)) (ht : P.underlying t = some (.int .i64)) (h2 : P.cellsOf e = 2) (h1 : P.cellsOf t = 1) : TwoInts P e := by
  refine ⟨h2, fun n cs y h => ?_⟩
  obtain ⟨xs, m, _, _, hlen, hxl, hx⟩ := DataW.trod_array he h
  rw [h2] at hlen
  obtain ⟨a, b, rfl⟩ : ∃ a b, cs = [a, b] := by
    match cs, hlen with
    | [a, b], _ => exact ⟨a, b, rfl⟩
  have x0 := hx 0 (by omega)
  have x1 := hx 1 (by omega)
  rw [h1] at x0 x1
  rw [List.getElem?_eq_getElem (by omega)] at x0 x1
  obtain ⟨u, hu, _, wu⟩ := DataW.trod_int ht x0
  obtain ⟨v, hv, _, wv⟩ := DataW.trod_int ht x1
  simp at hu hv
  exact ⟨u, v, by rw [hu, hv], i64_of_wf wu, i64_of_wf wv⟩

theorem two_struct {P : Program} {e t : TypeId} {f0 f1 : Field} (he : P.underlying e = some (.struct #[f0, f1])) (h0 : f0.type = t) (h1 : f1.type = t) (ht : P.underlying t = some (.int .i64)) (hone : oneCellFields P #[f0, f1] = true) (h2 : P.cellsOf e = 2) : TwoInts P e := by
  refine ⟨h2, fun n cs y h => ?_⟩
  obtain ⟨ys, m, hn, hy, hlen, hyl, hf⟩ := DataW.trod_struct he h
  rw [h2] at hlen
  obtain ⟨a, b, rfl⟩ : ∃ a b, cs = [a, b] := by
    match cs, hlen with
    | [a, b], _ => exact ⟨a, b, rfl⟩
  obtain ⟨o0, k0⟩ := hone_of hone 0 f0 rfl
  obtain ⟨o1, k1⟩ := hone_of hone 1 f1 rfl
  have x0 := hf 0 f0 rfl
  have x1 := hf 1 f1 rfl
  have hyl' : ys.length = 2 := by simpa using hyl
  rw [o0, k0, h0, List.getElem?_eq_getElem (by omega)] at x0
  rw [o1, k1, h1, List.getElem?_eq_getElem (by omega)] at x1
  obtain ⟨u, hu, _, wu⟩ := DataW.trod_int ht x0
  obtain ⟨v, hv, _, wv⟩ := DataW.trod_int ht x1
  simp at hu hv
  exact ⟨u, v, by rw [hu, hv], i64_of_wf wu, i64_of_wf wv⟩

/-- A slice of such pairs that came in. -/
theorem open_pairs {P : Program} {t e : TypeId} {fuel : Nat} {a0 : Option Addr} {len0 cap0 : Nat} {x : DataW H × List MemPlace} (ht : P.underlying t = some (.slice e)) (he : TwoInts P e) (h : DataW.trod enc P w base spare held fuel t [.slice a0 len0 cap0] = some x) :
    ∃ l : List (Int × Int), l.length = len0 ∧ len0 ≤ cap0 ∧ cap0 ≤ maxLen ∧ Rd w w.heap.size a0 l ∧ ∀ p ∈ l, I64 p.1 ∧ I64 p.2 := by
  rcases open_slice ht h with ⟨hcs, _⟩ | ⟨a, len, cap, m, n, D, Pl, hcs, hb, hl, hm, hmm, _, hi⟩
  · simp at hcs
    obtain ⟨rfl, rfl, rfl⟩ := hcs
    exact ⟨[], rfl, Nat.le_refl _, by simp [maxLen], Rd.nil _ _ _, fun p hp => by cases hp⟩
  · simp at hcs
    obtain ⟨rfl, rfl, rfl⟩ := hcs
    have hlm : len0 ≤ m := by rw [hmm]; split <;> omega
    have hq : ∀ i, i < len0 → ∃ p : Int × Int, (w.cell? (a.add (i * 2)) = some (.int .i64 p.1) ∧ w.cell? ((a.add (i * 2)).add 1) = some (.int .i64 p.2)) ∧ I64 p.1 ∧ I64 p.2 := by
      intro i hi'
      obtain ⟨cs', hc, ht'⟩ := hi i (by omega)
      rw [he.1] at hc
      obtain ⟨u, v, rfl, wu, wv⟩ := he.2 _ _ _ ht'
      obtain ⟨_, _, hat⟩ := World.cells?_some hc
      have h0 := hat 0 (by omega)
      have h1 := hat 1 (by omega)
      refine ⟨(u, v), ⟨?_, ?_⟩, wu, wv⟩
      · simpa [Addr.add] using h0
      · simpa using h1
    obtain ⟨l, hll, hlq⟩ := exists_list hq
    refine ⟨l, hll, hl, hm, fun j hj => ?_, fun p hp => ?_⟩
    · obtain ⟨⟨c0, c1⟩, _⟩ := hlq j (by omega)
      obtain ⟨b, off, spot⟩ := a
      have hspot : spot = none := by
        have := (hlq 0 (by omega)).1.1
        simpa [Addr.add] using World.cell?_spot this
      subst hspot
      rw [Addr.add_lit] at c0 c1
      rw [Addr.add_lit] at c1
      exact ⟨b, off, rfl, block_lt_of_cell c0, c0, c1⟩
    · obtain ⟨j, hj, rfl⟩ := List.getElem_of_mem hp
      have := (hlq j (by omega)).2
      rwa [List.getD_eq_getElem?_getD, List.getElem?_eq_getElem hj] at this
end

theorem twoArr : TwoInts Tryd.prog 63 := two_array Tryd.underlying63 Tryd.underlying3 (by kernel_rfl) (by kernel_rfl)
theorem own : ownKnob Tryd.prog.godebug = none := by kernel_rfl
theorem laidOut : laidOutB Tryd.prog = true := by kernel_rfl

end Go.Proofs.YtacpncmdgkljdaaDoor.Cel
namespace Go.Proofs.YtacpncmdgkljdaaDoor.Cel
open Go.RowKit Go.Sort

theorem rawSet_in (raw : List (Int × Int)) : ∀ p ∈ rawSet raw, inB p = true := by
  intro p hp
  have h := rawTo_bd ((mem_setL _ _).1 hp)
  rw [inB_iff]
  omega
theorem rawSet_len (raw : List (Int × Int)) : (rawSet raw).length ≤ 60 := Nat.le_trans (length_setL _) (length_rawTo _ _)
theorem rawSet_rises (raw : List (Int × Int)) : Rises (rawSet raw) := rises_setL _
theorem rawSet_right (raw : List (Int × Int)) : rightB (rawSet raw) = true := (rightB_iff _).2 ⟨Nat.le_trans (rawSet_len raw) (by decide), rawSet_in raw, rawSet_rises raw⟩

/-! ### what the box is about -/
theorem loX_le {l : List (Int × Int)} {k j : Nat} (hj : j < k) (hk : k ≤ l.length) : loX l k ≤ (l.getD j (0, 0)).1 := by
  induction k with
  | zero => omega
  | succ k ih =>
    rw [loX_succ (by omega)]
    by_cases h : j = k
    · subst h; omega
    · have := ih (by omega) (by omega); omega
theorem hiX_ge {l : List (Int × Int)} {k j : Nat} (hj : j < k) (hk : k ≤ l.length) : (l.getD j (0, 0)).1 ≤ hiX l k := by
  induction k with
  | zero => omega
  | succ k ih =>
    rw [hiX_succ (by omega)]
    by_cases h : j = k
    · subst h; omega
    · have := ih (by omega) (by omega); omega
theorem loX_hit {l : List (Int × Int)} (h0 : 0 < l.length) {k : Nat} (hk : k ≤ l.length) : ∃ j, j < l.length ∧ (l.getD j (0, 0)).1 = loX l k := by
  induction k with
  | zero => exact ⟨0, h0, rfl⟩
  | succ k ih =>
    obtain ⟨j, hj, e⟩ := ih (by omega)
    rw [loX_succ (by omega)]
    by_cases h : loX l k ≤ (l.getD k (0, 0)).1
    · exact ⟨j, hj, by rw [e]; omega⟩
    · exact ⟨k, by omega, by omega⟩
theorem hiX_hit {l : List (Int × Int)} (h0 : 0 < l.length) {k : Nat} (hk : k ≤ l.length) : ∃ j, j < l.length ∧ (l.getD j (0, 0)).1 = hiX l k := by
  induction k with
  | zero => exact ⟨0, h0, rfl⟩
  | succ k ih =>
    obtain ⟨j, hj, e⟩ := ih (by omega)
    rw [hiX_succ (by omega)]
    by_cases h : (l.getD k (0, 0)).1 ≤ hiX l k
    · exact ⟨j, hj, by rw [e]; omega⟩
    · exact ⟨k, by omega, by omega⟩
theorem rises_y {l : List (Int × Int)} (h : Rises l) {i j : Nat} (hij : i ≤ j) (hj : j < l.length) : (l.getD i (0, 0)).2 ≤ (l.getD j (0, 0)).2 := by
  by_cases e : i = j
  · subst e; exact Int.le_refl _
  · have := rises_get h (i := i) (j := j) (by omega) hj
    rw [lessB_iff] at this
    omega

/-- whether one of the first k cells has p -/
def anyTo (p : Int × Int → Bool) (l : List (Int × Int)) (k : Nat) : Bool := (l.take k).any p
theorem anyTo_succ {p : Int × Int → Bool} {l : List (Int × Int)} {k : Nat} (hk : k < l.length) : anyTo p l (k + 1) = (anyTo p l k || p (l.getD k (0, 0))) := by
  unfold anyTo; rw [take_snoc hk, List.any_append]; simp
theorem anyTo_yes {p : Int × Int → Bool} {l : List (Int × Int)} {j : Nat} (hj : j < l.length) (h : p (l.getD j (0, 0)) = true) : anyTo p l l.length = true := by
  unfold anyTo
  rw [List.take_length, List.any_eq_true]
  exact ⟨_, getD_mem hj, h⟩

theorem Whole.set_ {w : World} {g T : Nat} {cs : Array Value} (h : Whole w g T cs) (i : Nat) (u : Value) : Whole (w.setCell ⟨g, i, none⟩ u) g T (cs.setIfInBounds i u) := heap_setCell_same w g i cs T u h
theorem Whole.far {w : World} {g T : Nat} {cs : Array Value} (h : Whole w g T cs) {p : Addr} (hp : g ≠ p.block) (u : Value) : Whole (w.setCell p u) g T cs := (Below.heap_setCell w p u g hp).trans h
theorem Whole.set4 {w : World} {g T : Nat} {a b c d a' b' c' d' a2 b2 c2 d2 : Value} (h : Whole w g T #[a, b, c, d]) (e0 : a' = a2) (e1 : b' = b2) (e2 : c' = c2) (e3 : d' = d2) :
    Whole ((((w.setCell ⟨g, 0, none⟩ a').setCell ⟨g, 1, none⟩ b').setCell ⟨g, 2, none⟩ c').setCell ⟨g, 3, none⟩ d') g T #[a2, b2, c2, d2] := by
  subst e0 e1 e2 e3
  exact (((h.set_ 0 a').set_ 1 b').set_ 2 c').set_ 3 d'
theorem side_eq {a b : Int} {P : Prop} [Decidable P] (h : a = b ↔ P) : Value.bool (a == b) = Value.bool (false || decide P) := by
  congr 1
  rw [Bool.eq_iff_iff]
  simp [h]

end Go.Proofs.YtacpncmdgkljdaaDoor.Cel
namespace Go.Proofs.YtacpncmdgkljdaaDoor
set_option linter.unusedVariables false
set_option linter.unusedSimpArgs false
open Go.RowKit Go.Sort
open Cel (boxV noBox loX hiX)

theorem putI_bd (q : List Tn) (t : UInt8) (n b : Nat) (h : ∀ x ∈ q, x.2 ≤ b) : ∀ x ∈ putI q t n, x.2 ≤ b + n := by
  by_cases hn : n = 0
  · subst hn; rw [putI_zero]; exact fun x hx => Nat.le_trans (h x hx) (Nat.le_add_right _ _)
  · rcases list_cases q with rfl | ⟨a, ⟨u, m⟩, rfl⟩
    · rw [putI_first t n hn]
      intro x hx
      rw [List.mem_singleton.1 hx]
      exact Nat.le_add_left _ _
    · by_cases ht : u = t
      · subst ht
        rw [putI_grow a u m n hn]
        intro x hx
        rcases List.mem_append.1 hx with hx | hx
        · exact Nat.le_trans (h x (List.mem_append_left _ hx)) (Nat.le_add_right _ _)
        · rw [List.mem_singleton.1 hx]
          have := h (u, m) (by simp)
          simp only at *
          omega
      · rw [putI_new a t u m n hn ht]
        intro x hx
        rcases List.mem_append.1 hx with hx | hx
        · exact Nat.le_trans (h x hx) (Nat.le_add_right _ _)
        · rw [List.mem_singleton.1 hx]; exact Nat.le_add_left _ _

theorem tellL_snoc (l : List (Nat × Nat)) (c : Nat × Nat) : tellL (l ++ [c]) = tellC (tellL l) c := by unfold tellL; rw [List.foldl_append]; rfl
theorem tellC_down (q : List Tn × Nat × Nat) (c : Nat × Nat) (h : q.2.2 < c.2) : tellC q c = (putI (putI (putI q.1 36 (c.2 - q.2.2)) 98 c.1) 111 1, c.1 + 1, c.2) := by unfold tellC; simp only [if_pos h]; rfl
theorem tellC_on (q : List Tn × Nat × Nat) (c : Nat × Nat) (h : ¬ q.2.2 < c.2) : tellC q c = (putI (putI q.1 98 (c.1 - q.2.1)) 111 1, c.1 + 1, c.2) := by unfold tellC; simp only [if_neg h]
theorem tellC_bd (q : List Tn × Nat × Nat) (c : Nat × Nat) (b : Nat) (hc : c.1 ≤ 3000000000000 ∧ c.2 ≤ 3000000000000) (h : ∀ x ∈ q.1, x.2 ≤ b) : ∀ x ∈ (tellC q c).1, x.2 ≤ b + 7000000000000 := by
  by_cases hd : q.2.2 < c.2
  · rw [tellC_down q c hd]
    intro x hx
    have := putI_bd _ 111 1 _ (putI_bd _ 98 c.1 _ (putI_bd _ 36 (c.2 - q.2.2) _ h)) x hx
    omega
  · rw [tellC_on q c hd]
    intro x hx
    have := putI_bd _ 111 1 _ (putI_bd _ 98 (c.1 - q.2.1) _ h) x hx
    omega
theorem tellL_bd (l : List (Nat × Nat)) : (∀ c ∈ l, c.1 ≤ 3000000000000 ∧ c.2 ≤ 3000000000000) → ∀ x ∈ (tellL l).1, x.2 ≤ 7000000000000 * l.length := by
  rcases list_cases l with rfl | ⟨a, c, rfl⟩
  · intro _ x hx; cases hx
  · intro h x hx
    rw [tellL_snoc] at hx
    have := tellC_bd (tellL a) c _ (h c (by simp)) (tellL_bd a fun c hc => h c (List.mem_append_left _ hc)) x hx
    simp only [List.length_append, List.length_cons, List.length_nil]
    omega
termination_by l.length
decreasing_by simp [*]
/-- where one stands behind so many cells -/
theorem tellL_where {l : List (Nat × Nat)} (hr : l.Pairwise lessN) {k : Nat} (hk : k < l.length) : (tellL (l.take k)).2.2 ≤ l[k].2 ∧ ((tellL (l.take k)).2.2 = l[k].2 → (tellL (l.take k)).2.1 ≤ l[k].1) := by
  cases k with
  | zero => exact ⟨Nat.zero_le _, fun _ => Nat.zero_le _⟩
  | succ k =>
    have h1 : l.take (k + 1) = l.take k ++ [l[k]] := List.take_succ_eq_append_getElem (by omega)
    rw [h1, tellL_snoc, tell_at]
    have := List.pairwise_iff_getElem.1 hr k (k + 1) (by omega) hk (by omega)
    unfold lessN at this
    simp only
    omega
theorem MR.row {B : Nat} {w w' : World} (h : MR B w w') {k : Nat} {cs : Array Value} {T : Nat} (hk : w.heap[k]? = some (.cells cs T (0, 0))) (hT : T ≠ 72) : w'.heap[k]? = some (.cells cs T (0, 0)) :=
  h.2 k _ hk (by simp) (fun c fz e => by injection e with _ e _; exact hT e)

theorem fromC_get (bx b_y : Int) (l : List (Int × Int)) {k : Nat} (h : k < l.length) (h2 : k < (fromC bx b_y l).length) : (fromC bx b_y l)[k] = ((l[k].1 - bx).toNat, (l[k].2 - b_y).toNat) := by simp [fromC]
/-- What is known at the head of the loop. -/
structure StrAt (w wr : World) (bx b_y wd ht : Int) (q : List Tn × Nat × Nat) (v : Value) : Prop where
  box : wr.heap[w.heap.size]? = some (.cells #[.int .i64 bx, .int .i64 b_y, .int .i64 wd, .int .i64 ht] 27 (0, 0))
  pos : wr.heap[w.heap.size + 1]? = some (.cells #[.int .i64 (bx + q.2.1), .int .i64 (b_y + q.2.2)] 49 (0, 0))
  own : OwnE wr (w.heap.size + 2) v (ups q.1)
  bel : Below w.heap.size w wr

set_option maxHeartbeats 8000000 in
set_option maxRecDepth 100000 in
theorem strokes_any (A : Option Addr) (l : List (Int × Int)) (c : Nat) (bx b_y wd ht : Int) (w : World) (hR : Cel.Rd w w.heap.size A l) (hl : l.length ≤ 2000) (hb : ∀ p ∈ l, bx ≤ p.1 ∧ b_y ≤ p.2 ∧ p.1 - bx ≤ 3000000000000 ∧ p.2 - b_y ≤ 3000000000000) (hx : -3000000000000 ≤ bx ∧ bx ≤ 3000000000000) (hy : -3000000000000 ≤ b_y ∧ b_y ≤ 3000000000000)
    (hr : (fromC bx b_y l).Pairwise lessN) :
    Calls Tryd.prog 25 #[.slice A l.length c, .agg #[.int .i64 bx, .int .i64 b_y, .int .i64 wd, .int .i64 ht]] w fun e w' => ∃ v, e = .returned v ∧ ReadsE w' v (ups (tellL (fromC bx b_y l)).1) ∧ Below w.heap.size w w' := by
  have hlen := fromC_len bx b_y l
  have hget : ∀ k (h : k < l.length) (h2 : k < (fromC bx b_y l).length), (l.getD k (0, 0)).1 = bx + ((fromC bx b_y l)[k].1 : Nat) ∧ (l.getD k (0, 0)).2 = b_y + ((fromC bx b_y l)[k].2 : Nat) ∧ (fromC bx b_y l)[k].1 ≤ 3000000000000 ∧ (fromC bx b_y l)[k].2 ≤ 3000000000000 := by
    intro k h h2
    have hm := hb _ (Cel.getD_mem h)
    rw [List.getD_eq_getElem?_getD, List.getElem?_eq_getElem h, Option.getD_some] at hm ⊢
    rw [fromC_get bx b_y l h h2]
    simp only
    omega
  have hbd : ∀ k, k ≤ l.length → (∀ x ∈ (tellL ((fromC bx b_y l).take k)).1, x.2 ≤ 14000000000000000) ∧ (tellL ((fromC bx b_y l).take k)).1.length ≤ 6000 := by
    intro k hk
    have h1 := tellL_len ((fromC bx b_y l).take k)
    have hkl : ((fromC bx b_y l).take k).length ≤ 2000 := by rw [List.length_take]; omega
    refine ⟨fun x hx => ?_, by omega⟩
    have := tellL_bd ((fromC bx b_y l).take k) (fun c hc => by
      obtain ⟨j, hj, e⟩ := List.getElem_of_mem (List.mem_of_mem_take hc)
      have := hget j (by omega) hj
      rw [← e]
      exact ⟨this.2.2.1, this.2.2.2⟩) x hx
    omega
  have hfull : (fromC bx b_y l).take l.length = fromC bx b_y l := by rw [← hlen, List.take_length]
  generalize fromC bx b_y l = L at *
  have HGET := Lib.hid hget
  have HBD := Lib.hid hbd
  have HR := Lib.hid hr
  clear hget hbd hr hb
  have HFULL := Lib.hid hfull
  have HLEN := Lib.hid hlen
  clear hfull hlen
  have H0 : StrAt w ((w.alloc (.cells #[.int .i64 bx, .int .i64 b_y, .int .i64 wd, .int .i64 ht] 27)).alloc (.cells #[.int .i64 bx, .int .i64 b_y] 49)) bx b_y wd ht (tellL (L.take 0)) (.slice none 0 0) := by
    have hb1 : Below w.heap.size w (w.alloc (.cells #[.int .i64 bx, .int .i64 b_y, .int .i64 wd, .int .i64 ht] 27)) := (Below.refl _ _).alloc (Nat.le_refl _) _
    have hs1 : (w.alloc (.cells #[.int .i64 bx, .int .i64 b_y, .int .i64 wd, .int .i64 ht] 27)).heap.size = w.heap.size + 1 := by simp
    refine ⟨?_, ?_, World.ownsRow_nil _ _ _ _, hb1.alloc (by omega) _⟩
    · rw [Lib.alloc_old _ _ _ (by omega)]
      exact heap_alloc_new w _
    · rw [← hs1]
      have := heap_alloc_new (w.alloc (.cells #[.int .i64 bx, .int .i64 b_y, .int .i64 wd, .int .i64 ht] 27)) (.cells #[.int .i64 bx, .int .i64 b_y] 49)
      rw [this]
      simp [tellL]
  have HH0 := Lib.hid H0
  clear H0
  go_enter Tryd.func25, Tryd.ntmps25
  go_wp2
  go_loopw [5, 16] (fun u i wr => ∃ (k : Nat) (v : Value), k ≤ l.length ∧ i = .int .i64 k ∧ u = v ∧ Hid (StrAt w wr bx b_y wd ht (tellL (L.take k)) v)) (fun _ i _ => l.length - (intOf i).toNat)
  case atStart => exact ⟨0, _, Nat.zero_le _, rfl, rfl, HH0⟩
  case round =>
    obtain ⟨k, v, hk, rfl, hv, HH⟩ := hrel
    have hv2 := hv.symm
    subst hv2
    clear hv
    by_cases hlt : k < l.length
    · have hltz : (k : Int) < (l.length : Int) := by omega
      have hkL : k < L.length := by have := HLEN.out; omega
      obtain ⟨b0, off, rfl, hbB, hcell⟩ := hR.at_ (by omega)
      obtain ⟨g1, g2, g3, g4⟩ := HGET.out k hlt hkL
      have H := HH.out
      have a0 := Qt.keep H.bel (hcell k hlt).1
      have a1 := Qt.keep H.bel (hcell k hlt).2
      obtain ⟨⟨X, Y⟩, hX⟩ : ∃ x, x = l.getD k (0, 0) := ⟨_, rfl⟩
      rw [← hX] at a0 a1 g1 g2
      obtain ⟨hbd, hlq⟩ := HBD.out k hk
      have hwh := tellL_where HR.out hkL
      have hsn : tellL (L.take (k + 1)) = tellC (tellL (L.take k)) L[k] := by rw [List.take_succ_eq_append_getElem hkL, tellL_snoc]
      obtain ⟨hH1, hH2, hH3, hH4⟩ := H
      generalize tellL (L.take k) = q at *
      obtain ⟨q, x, y⟩ := q
      obtain ⟨⟨cx, cy⟩, hc⟩ : ∃ z, z = L[k] := ⟨_, rfl⟩
      rw [← hc] at g1 g2 g3 g4 hwh hsn
      simp only at g1 g2 g3 g4 hwh a0 a1 hbd hlq hH1 hH2 hH3
      have HSN := Lib.hid hsn
      clear hsn hc hX hcell HH
      have hposlt : w.heap.size + 1 < wr.heap.size := lt_heap hH2
      have hM1 : MR (w.heap.size + 2) wr (wr.alloc (.cells #[.int .i64 X, .int .i64 Y] 49)) := (MR.refl _ _).alloc (by omega) _
      have hbox1 := hM1.row hH1 (by decide)
      have hpos1 := hM1.row hH2 (by decide)
      have hown1 : OwnE (wr.alloc (.cells #[.int .i64 X, .int .i64 Y] 49)) (w.heap.size + 2) v (ups q) := World.ownsRow.alloc hH3 _
      have hc1 : (wr.alloc (.cells #[.int .i64 X, .int .i64 Y] 49)).heap[wr.heap.size]? = some (.cells #[.int .i64 X, .int .i64 Y] 49 (0, 0)) := heap_alloc_new wr _
      have hsz1 : (wr.alloc (.cells #[.int .i64 X, .int .i64 Y] 49)).heap.size = wr.heap.size + 1 := by simp
      have hbel1 : Below w.heap.size w (wr.alloc (.cells #[.int .i64 X, .int .i64 Y] 49)) := hH4.alloc (by omega) _
      obtain ⟨px, hpx⟩ : ∃ z, z = bx + (x : Int) := ⟨_, rfl⟩
      obtain ⟨py, hpy⟩ : ∃ z, z = b_y + (y : Int) := ⟨_, rfl⟩
      rw [← hpx, ← hpy] at hpos1
      have p0 : (wr.alloc (.cells #[.int .i64 X, .int .i64 Y] 49)).cell? ⟨w.heap.size + 1, 0, none⟩ = some (.int .i64 px) := by rw [Lib.cell_of_heap hpos1]; rfl
      have p1 : (wr.alloc (.cells #[.int .i64 X, .int .i64 Y] 49)).cell? ⟨w.heap.size + 1, 1, none⟩ = some (.int .i64 py) := by rw [Lib.cell_of_heap hpos1]; rfl
      have hXb : -6000000000000 ≤ X ∧ X ≤ 6000000000000 := by omega
      have hYb : -6000000000000 ≤ Y ∧ Y ≤ 6000000000000 := by omega
      have HE := Lib.hid (And.intro g1 (And.intro g2 (And.intro hpx hpy)))
      clear hM1 hH1 hH2 hH3 hH4
      by_cases hdn : y < cy
      · have hgt : py < Y := by omega
        obtain ⟨n1, hn1⟩ : ∃ n, n = cy - y := ⟨_, rfl⟩
        have hd1 : Y - py = (n1 : Int) := by omega
        have hd2 : X - bx = (cx : Int) := by omega
        have hsn := HSN.out
        rw [tellC_down (q, x, y) (cx, cy) hdn] at hsn
        simp only at hsn
        rw [← hn1] at hsn
        have HSN := Lib.hid hsn
        have hnb : n1 ≤ 3000000000000 := by omega
        clear g1 g2 hpx hpy hn1 hwh hdn
        have hm2 : Calls Tryd.prog 41 #[v, .int .u8 36, .int .i64 n1] (wr.alloc (.cells #[.int .i64 X, .int .i64 Y] 49)) (MoreR (w.heap.size + 2) (putI q 36 n1) (wr.alloc (.cells #[.int .i64 X, .int .i64 Y] 49))) := more_any q 36 n1 hown1 (by omega) (by omega) (fun x hx => by have := hbd x hx; omega) (by omega)
        clear hsn hsz1
        go_wp2_with fail
        refine hm2.mono ?_
        rintro e w2 ⟨v2, rfl, hO2, hM2⟩
        have hbox2 := hM2.row hbox1 (by decide)
        have hpos2 := hM2.row hpos1 (by decide)
        have hc2 := hM2.row hc1 (by decide)
        have hbel2 : Below w.heap.size w w2 := hbel1.trans (hM2.1.mono (by omega))
        have hlen2 := putI_len q 36 n1
        have hbd2 := putI_bd q 36 n1 _ hbd
        generalize putI q 36 n1 = q2 at *
        have i0 : w2.cell? ⟨w.heap.size, 0, none⟩ = some (.int .i64 bx) := by rw [Lib.cell_of_heap hbox2]; rfl
        have i1 : w2.cell? ⟨wr.heap.size, 1, none⟩ = some (.int .i64 Y) := by rw [Lib.cell_of_heap hc2]; rfl
        have i2 : w2.frozen? ⟨w.heap.size + 1, 0, none⟩ = false := Lib.frozen_of_heap hpos2 0
        have i3 : w2.frozen? ⟨w.heap.size + 1, 1, none⟩ = false := Lib.frozen_of_heap hpos2 1
        have i4 : w2.cell? ⟨w.heap.size + 1, 0, none⟩ = some (.int .i64 px) := by rw [Lib.cell_of_heap hpos2]; rfl
        have i5 : w2.cell? ⟨w.heap.size + 1, 1, none⟩ = some (.int .i64 py) := by rw [Lib.cell_of_heap hpos2]; rfl
        have hbox3 : ((w2.setCell ⟨w.heap.size + 1, 0, none⟩ (.int .i64 bx)).setCell ⟨w.heap.size + 1, 1, none⟩ (.int .i64 Y)).heap[w.heap.size]? = _ := (Below.heap_setCell _ _ _ _ (by simp)).trans ((Below.heap_setCell w2 _ _ _ (by simp)).trans hbox2)
        have hpos3 : ((w2.setCell ⟨w.heap.size + 1, 0, none⟩ (.int .i64 bx)).setCell ⟨w.heap.size + 1, 1, none⟩ (.int .i64 Y)).heap[w.heap.size + 1]? = some (.cells #[.int .i64 bx, .int .i64 Y] 49 (0, 0)) := by simp [World.setCell, Array.getElem?_modify, hpos2]
        have hc3 : ((w2.setCell ⟨w.heap.size + 1, 0, none⟩ (.int .i64 bx)).setCell ⟨w.heap.size + 1, 1, none⟩ (.int .i64 Y)).heap[wr.heap.size]? = _ := (Below.heap_setCell _ _ _ _ (by simp; omega)).trans ((Below.heap_setCell w2 _ _ _ (by simp; omega)).trans hc2)
        have hne2 : v2.ownBlock = none ∨ v2.ownBlock ≠ some (w.heap.size + 1) := by
          cases hv : v2.ownBlock with
          | none => exact .inl rfl
          | some g => exact .inr (fun h2 => by injection h2 with h2; have := (own_kind hO2 g hv).1; omega)
        have hO3 : OwnE ((w2.setCell ⟨w.heap.size + 1, 0, none⟩ (.int .i64 bx)).setCell ⟨w.heap.size + 1, 1, none⟩ (.int .i64 Y)) (w.heap.size + 2) v2 (ups q2) := World.ownsRow.kept (World.ownsRow.kept hO2 (But.setCell 0 _) hne2) (But.setCell 1 _) hne2
        have hbel3 : Below w.heap.size w ((w2.setCell ⟨w.heap.size + 1, 0, none⟩ (.int .i64 bx)).setCell ⟨w.heap.size + 1, 1, none⟩ (.int .i64 Y)) := (hbel2.setCell (by show _ ≤ _ + 1; omega) _).setCell (by show _ ≤ _ + 1; omega) _
        have hsz3 : w.heap.size + 2 ≤ ((w2.setCell ⟨w.heap.size + 1, 0, none⟩ (.int .i64 bx)).setCell ⟨w.heap.size + 1, 1, none⟩ (.int .i64 Y)).heap.size := lt_heap hpos3
        have j0 : ((w2.setCell ⟨w.heap.size + 1, 0, none⟩ (.int .i64 bx)).setCell ⟨w.heap.size + 1, 1, none⟩ (.int .i64 Y)).cell? ⟨w.heap.size + 1, 0, none⟩ = some (.int .i64 bx) := by rw [Lib.cell_of_heap hpos3]; rfl
        have j1 : ((w2.setCell ⟨w.heap.size + 1, 0, none⟩ (.int .i64 bx)).setCell ⟨w.heap.size + 1, 1, none⟩ (.int .i64 Y)).cell? ⟨wr.heap.size, 0, none⟩ = some (.int .i64 X) := by rw [Lib.cell_of_heap hc3]; rfl
        clear hm2 hM2 hbox1 hpos1 hc1 hown1 hbel1 p0 p1 a0 a1 hbox2 hpos2 hc2 hbel2 hne2 hO2
        -- the gap
        have hm4 : Calls Tryd.prog 41 #[v2, .int .u8 98, .int .i64 cx] ((w2.setCell ⟨w.heap.size + 1, 0, none⟩ (.int .i64 bx)).setCell ⟨w.heap.size + 1, 1, none⟩ (.int .i64 Y)) (MoreR (w.heap.size + 2) (putI q2 98 cx) ((w2.setCell ⟨w.heap.size + 1, 0, none⟩ (.int .i64 bx)).setCell ⟨w.heap.size + 1, 1, none⟩ (.int .i64 Y))) := more_any q2 98 cx hO3 (hsz3) (by omega) (fun x hx => by have := hbd2 x hx; omega) (by omega)
        go_wp2_with fail
        refine hm4.mono ?_
        rintro e w4 ⟨v4, rfl, hO4, hM4⟩
        have hbox4 := hM4.row hbox3 (by decide)
        have hpos4 := hM4.row hpos3 (by decide)
        have hc4 := hM4.row hc3 (by decide)
        have hbel4 : Below w.heap.size w w4 := hbel3.trans (hM4.1.mono (by omega))
        have hlen4 := putI_len q2 98 cx
        have hbd4 := putI_bd q2 98 cx _ hbd2
        generalize putI q2 98 cx = q4 at *
        clear hm4 hM4 hbox3 hpos3 hc3 hO3 hbel3 hsz3 i0 i1 i2 i3 i4 i5 j0 j1 hbd2 hbd
        have hsz4 : w.heap.size + 2 ≤ w4.heap.size := lt_heap hpos4
        have hm5 : Calls Tryd.prog 41 #[v4, .int .u8 111, .int .i64 1] w4 (MoreR (w.heap.size + 2) (putI q4 111 1) w4) := more_any q4 111 1 hO4 hsz4 (by omega) (fun x hx => by have := hbd4 x hx; omega) (by omega)
        go_wp2_with fail
        refine hm5.mono ?_
        rintro e w5 ⟨v5, rfl, hO5, hM5⟩
        have hpos5 := hM5.row hpos4 (by decide)
        have hc5 := hM5.row hc4 (by decide)
        have hbox5 := hM5.row hbox4 (by decide)
        have hbel5 : Below w.heap.size w w5 := hbel4.trans (hM5.1.mono (by omega))
        have e0 : w5.cell? ⟨wr.heap.size, 0, none⟩ = some (.int .i64 X) := by rw [Lib.cell_of_heap hc5]; rfl
        have f0 : w5.frozen? ⟨w.heap.size + 1, 0, none⟩ = false := Lib.frozen_of_heap hpos5 0
        have d0 : w5.cell? ⟨w.heap.size + 1, 0, none⟩ = some (.int .i64 bx) := by rw [Lib.cell_of_heap hpos5]; rfl
        clear hm5 hM5 hO4 hc4 hpos4 hbox4 hbel4
        go_wp2
        go_roundw
        case measure => simp [intOf]; omega
        case rel =>
          refine ⟨k + 1, _, by omega, rfl, rfl, ?_⟩
          rw [HSN.out]
          refine ⟨?_, ?_, ?_, hbel5.setCell (by show _ ≤ _ + 1; omega) _⟩
          · exact (Below.heap_setCell w5 _ _ _ (by simp)).trans hbox5
          · have e1 : bx + ((cx + 1 : Nat) : Int) = X + 1 := by have := HE.out; omega
            have e2 : b_y + (cy : Int) = Y := by have := HE.out; omega
            show (w5.setCell ⟨w.heap.size + 1, 0, none⟩ (.int .i64 (X + 1))).heap[w.heap.size + 1]? = some (.cells #[.int .i64 (bx + ((cx + 1 : Nat) : Int)), .int .i64 (b_y + (cy : Int))] 49 (0, 0))
            rw [e1, e2]
            simp [World.setCell, Array.getElem?_modify, hpos5]
          · exact World.ownsRow.kept hO5 (But.setCell 0 _) (by
              cases hv : v5.ownBlock with
              | none => exact .inl rfl
              | some g => exact .inr (fun h2 => by injection h2 with h2; have := (own_kind hO5 g hv).1; omega))
      · have hgt : ¬ py < Y := by omega
        obtain ⟨n2, hn2⟩ : ∃ n, n = cx - x := ⟨_, rfl⟩
        have hd2 : X - px = (n2 : Int) := by omega
        have hsn := HSN.out
        rw [tellC_on (q, x, y) (cx, cy) hdn] at hsn
        simp only at hsn
        rw [← hn2] at hsn
        have HSN := Lib.hid hsn
        have hsz3 : w.heap.size + 2 ≤ (wr.alloc (.cells #[.int .i64 X, .int .i64 Y] 49)).heap.size := by omega
        have hpyY : py = Y := by omega
        rw [hpyY] at hpos1
        have hnb : n2 ≤ 3000000000000 := by omega
        clear g1 g2 hpx hpy hn2 hwh hdn hpyY
        clear hsn hsz1
        -- the gap
        have hm4 : Calls Tryd.prog 41 #[v, .int .u8 98, .int .i64 n2] (wr.alloc (.cells #[.int .i64 X, .int .i64 Y] 49)) (MoreR (w.heap.size + 2) (putI q 98 n2) (wr.alloc (.cells #[.int .i64 X, .int .i64 Y] 49))) := more_any q 98 n2 hown1 (hsz3) (by omega) (fun x hx => by have := hbd x hx; omega) (by omega)
        go_wp2_with fail
        refine hm4.mono ?_
        rintro e w4 ⟨v4, rfl, hO4, hM4⟩
        have hbox4 := hM4.row hbox1 (by decide)
        have hpos4 := hM4.row hpos1 (by decide)
        have hc4 := hM4.row hc1 (by decide)
        have hbel4 : Below w.heap.size w w4 := hbel1.trans (hM4.1.mono (by omega))
        have hlen4 := putI_len q 98 n2
        have hbd4 := putI_bd q 98 n2 _ hbd
        generalize putI q 98 n2 = q4 at *
        clear hm4 hM4 hbox1 hpos1 hc1 hown1 hbel1 hsz3 p0 p1 a0 a1 hbd
        have hsz4 : w.heap.size + 2 ≤ w4.heap.size := lt_heap hpos4
        have hm5 : Calls Tryd.prog 41 #[v4, .int .u8 111, .int .i64 1] w4 (MoreR (w.heap.size + 2) (putI q4 111 1) w4) := more_any q4 111 1 hO4 hsz4 (by omega) (fun x hx => by have := hbd4 x hx; omega) (by omega)
        go_wp2_with fail
        refine hm5.mono ?_
        rintro e w5 ⟨v5, rfl, hO5, hM5⟩
        have hpos5 := hM5.row hpos4 (by decide)
        have hc5 := hM5.row hc4 (by decide)
        have hbox5 := hM5.row hbox4 (by decide)
        have hbel5 : Below w.heap.size w w5 := hbel4.trans (hM5.1.mono (by omega))
        have e0 : w5.cell? ⟨wr.heap.size, 0, none⟩ = some (.int .i64 X) := by rw [Lib.cell_of_heap hc5]; rfl
        have f0 : w5.frozen? ⟨w.heap.size + 1, 0, none⟩ = false := Lib.frozen_of_heap hpos5 0
        have d0 : w5.cell? ⟨w.heap.size + 1, 0, none⟩ = some (.int .i64 px) := by rw [Lib.cell_of_heap hpos5]; rfl
        clear hm5 hM5 hO4 hc4 hpos4 hbox4 hbel4
        go_wp2
        go_roundw
        case measure => simp [intOf]; omega
        case rel =>
          refine ⟨k + 1, _, by omega, rfl, rfl, ?_⟩
          rw [HSN.out]
          refine ⟨?_, ?_, ?_, hbel5.setCell (by show _ ≤ _ + 1; omega) _⟩
          · exact (Below.heap_setCell w5 _ _ _ (by simp)).trans hbox5
          · have e1 : bx + ((cx + 1 : Nat) : Int) = X + 1 := by have := HE.out; omega
            have e2 : b_y + (cy : Int) = Y := by have := HE.out; omega
            show (w5.setCell ⟨w.heap.size + 1, 0, none⟩ (.int .i64 (X + 1))).heap[w.heap.size + 1]? = some (.cells #[.int .i64 (bx + ((cx + 1 : Nat) : Int)), .int .i64 (b_y + (cy : Int))] 49 (0, 0))
            rw [e1, e2]
            simp [World.setCell, Array.getElem?_modify, hpos5]
          · exact World.ownsRow.kept hO5 (But.setCell 0 _) (by
              cases hv : v5.ownBlock with
              | none => exact .inl rfl
              | some g => exact .inr (fun h2 => by injection h2 with h2; have := (own_kind hO5 g hv).1; omega))
    · have hltz : ¬ (k : Int) < (l.length : Int) := by omega
      obtain rfl : k = l.length := by omega
      rw [HFULL.out] at HH
      clear hlt hk
      go_wp2
      go_ret
      exact ⟨_, rfl, HH.out.own.reads, HH.out.bel⟩
end Go.Proofs.YtacpncmdgkljdaaDoor
namespace Go.Proofs.YtacpncmdgkljdaaDoor
set_option linter.unusedVariables false
set_option linter.unusedSimpArgs false
open Go.RowKit Go.Sort
open Cel (boxV noBox loX hiX)

/-- a set, told from its box's corner on -/
def homeL (l : List (Int × Int)) : List (Nat × Nat) := fromC (loX l l.length) (l.getD 0 (0, 0)).2 l
def wideL (l : List (Int × Int)) : Int := if l.length = 0 then 0 else hiX l l.length - loX l l.length + 1
def highL (l : List (Int × Int)) : Int := if l.length = 0 then 0 else (l.getD (l.length - 1) (0, 0)).2 - (l.getD 0 (0, 0)).2 + 1
def printL (l : List (Int × Int)) : List UInt8 := printP (wideL l).toNat (highL l).toNat (homeL l)

theorem right_home {l : List (Int × Int)} (hr : Cel.rightB l = true) : (∀ p ∈ l, loX l l.length ≤ p.1 ∧ (l.getD 0 (0, 0)).2 ≤ p.2 ∧ p.1 - loX l l.length ≤ 3000000000000 ∧ p.2 - (l.getD 0 (0, 0)).2 ≤ 3000000000000) ∧
    (-3000000000000 ≤ loX l l.length ∧ loX l l.length ≤ 3000000000000) ∧ (-3000000000000 ≤ (l.getD 0 (0, 0)).2 ∧ (l.getD 0 (0, 0)).2 ≤ 3000000000000) ∧ (homeL l).Pairwise lessN ∧ 0 ≤ wideL l ∧ wideL l ≤ 3000000000000 ∧ 0 ≤ highL l ∧ highL l ≤ 3000000000000 := by
  obtain ⟨h2000, hin, hrs⟩ := (Cel.rightB_iff l).1 hr
  by_cases h0 : l.length = 0
  · have : l = [] := List.eq_nil_of_length_eq_zero h0
    subst this
    refine ⟨fun p hp => absurd hp (by simp), by decide, by decide, List.Pairwise.nil, by decide, by decide, by decide, by decide⟩
  · have hp0 : 0 < l.length := by omega
    have hlo := Cel.loX_bd hin hp0 l.length
    have hhi := Cel.hiX_bd hin hp0 l.length
    have hf := (Cel.inB_iff _).1 (hin _ (Cel.getD_mem hp0))
    have he := (Cel.inB_iff _).1 (hin _ (Cel.getD_mem (l := l) (k := l.length - 1) (by omega)))
    have hall : ∀ p ∈ l, loX l l.length ≤ p.1 ∧ (l.getD 0 (0, 0)).2 ≤ p.2 ∧ p.1 - loX l l.length ≤ 3000000000000 ∧ p.2 - (l.getD 0 (0, 0)).2 ≤ 3000000000000 := by
      intro p hp
      obtain ⟨j, hj, e⟩ := List.getElem_of_mem hp
      have e2 : l.getD j (0, 0) = p := by rw [List.getD_eq_getElem?_getD, List.getElem?_eq_getElem hj]; exact e
      have h1 := Cel.loX_le (l := l) (k := l.length) hj (Nat.le_refl _)
      have h2 := Cel.rises_y hrs (i := 0) (j := j) (by omega) hj
      have h3 := (Cel.inB_iff _).1 (hin p hp)
      rw [e2] at h1 h2
      omega
    have h4 := Cel.loX_le (l := l) (k := l.length) hp0 (Nat.le_refl _)
    have h5 := Cel.hiX_ge (l := l) (k := l.length) hp0 (Nat.le_refl _)
    have h6 := Cel.rises_y hrs (i := 0) (j := l.length - 1) (by omega) (by omega)
    refine ⟨hall, by omega, by omega, fromC_rises (fun c hc => ⟨(hall c hc).1, (hall c hc).2.1⟩) hrs, ?_⟩
    unfold wideL highL
    rw [if_neg h0, if_neg h0]
    omega

theorem print_bad (A : Option Addr) (l : List (Int × Int)) (c : Nat) (w : World) (hR : Cel.Rd w w.heap.size A l) (hl : l.length ≤ 1000000) (hc : l.length ≤ c) (hr : Cel.rightB l = false) :
    Calls Tryd.prog 13 #[.slice A l.length c] w fun e w' => e = .returned (.tuple #[.string (str []), .int .i64 1]) ∧ Below w.heap.size w w' := by
  have h := Cel.right_no hR hl hc hr
  go_enter Tryd.func13, Tryd.ntmps13
  go_wp2_with (go_at_call 21; refine h.mono ?_; rintro e w1 ⟨rfl, hb1⟩)
  go_ret2
  exact ⟨rfl, hb1⟩

def boxT (l : List (Int × Int)) : Value := .agg #[.int .i64 (loX l l.length), .int .i64 (l.getD 0 (0, 0)).2, .int .i64 (wideL l), .int .i64 (highL l)]
theorem boxed (A : Option Addr) (l : List (Int × Int)) (c : Nat) (w : World) (hR : Cel.Rd w w.heap.size A l) (hc : l.length ≤ c) (hr : Cel.rightB l = true) :
    Calls Tryd.prog 22 #[.slice A l.length c] w fun e w' => e = .returned (.tuple #[boxT l, .bool (decide (0 < l.length))]) ∧ Below w.heap.size w w' := by
  obtain ⟨h2000, hin, hrs⟩ := (Cel.rightB_iff l).1 hr
  by_cases h0 : l.length = 0
  · have : l = [] := List.eq_nil_of_length_eq_zero h0
    subst this
    exact Cel.box_nil A c w
  · have h := Cel.box_any A l c w hR (by omega) hc (by omega) hr hin
    have e : boxV l = boxT l := by unfold boxV boxT wideL highL; rw [if_neg h0, if_neg h0]
    rw [e] at h
    rw [decide_eq_true (by omega)]
    exact h

set_option maxHeartbeats 8000000 in
set_option maxRecDepth 100000 in
theorem print_good (A : Option Addr) (l : List (Int × Int)) (c : Nat) (w : World) (hR : Cel.Rd w w.heap.size A l) (hc : l.length ≤ c) (hr : Cel.rightB l = true) (hT : Tab w) :
    Calls Tryd.prog 13 #[.slice A l.length c] w fun e w' => e = .returned (.tuple #[.string (str (printL l)), .int .i64 0]) ∧ Below w.heap.size w w' := by
  have h2000 := ((Cel.rightB_iff l).1 hr).1
  have h1 := Cel.right_yes hR (by omega) hc hr
  have h2 := fun W (hb : Below w.heap.size w W) => boxed A l c W ((hR.below hb (Nat.le_refl _)).more hb.size) hc hr
  obtain ⟨q1, q2, q3, q4, q5, q6, q7, q8⟩ := right_home hr
  have hbd := tellL_bd (homeL l)
  have h3 := fun W (hb : Below w.heap.size w W) => strokes_any A l c (loX l l.length) (l.getD 0 (0, 0)).2 (wideL l) (highL l) W ((hR.below hb (Nat.le_refl _)).more hb.size) h2000 q1 q2 q3 q4
  have hhome : fromC (loX l l.length) (l.getD 0 (0, 0)).2 l = homeL l := rfl
  rw [hhome] at h3
  have hlen := tellL_len (homeL l)
  have hll : (homeL l).length = l.length := fromC_len _ _ _
  have hbnd : ∀ x ∈ (tellL (homeL l)).1, x.2 ≤ 14000000000000000 := by
    intro x hx
    have := hbd (fun c hc => by
      unfold homeL fromC at hc
      obtain ⟨d, hd, rfl⟩ := List.mem_map.1 hc
      have := q1 d hd
      simp only
      omega) x hx
    omega
  obtain ⟨qq, hqq⟩ : ∃ z, z = (tellL (homeL l)).1 := ⟨_, rfl⟩
  have hpr : printL l = headText (wideL l).toNat (highL l).toNat pR ++ 10 :: (textE (ups qq) ++ [33, 10]) := by
    unfold printL printP
    rw [hqq]
    unfold ups
    rw [textE_up]
  rw [← hqq] at hlen hbnd h3
  rw [hpr]
  unfold boxT at h2
  generalize homeL l = L at *
  generalize loX l l.length = bx at *
  generalize (l.getD 0 (0, 0)).2 = b_y at *
  obtain ⟨wd, hwd⟩ : ∃ z : Nat, z = (wideL l).toNat := ⟨_, rfl⟩
  obtain ⟨ht, hht⟩ : ∃ z : Nat, z = (highL l).toNat := ⟨_, rfl⟩
  have hwz : wideL l = (wd : Int) := by omega
  have hhz : highL l = (ht : Int) := by omega
  rw [hwz, hhz] at h2 h3
  rw [← hwd, ← hht]
  have hwb : wd ≤ 3000000000000 := by omega
  have hhb : ht ≤ 3000000000000 := by omega
  have htw := fun W (hT : Tab W) => text_any (wd : Int) W (by unfold I64; omega) hT
  have hth := fun W (hT : Tab W) => text_any (ht : Int) W (by unfold I64; omega) hT
  clear hwd hht hwz hhz q1 q2 q3 q4 q5 q6 q7 q8 hhome hqq hpr hbd
  go_enter Tryd.func13, Tryd.ntmps13
  go_wp2_with fail
  refine h1.mono ?_
  rintro e w1 ⟨rfl, hb1⟩
  go_wp2_with fail
  refine (h2 w1 hb1).mono ?_
  rintro e w2 ⟨rfl, hb2⟩
  have hbb2 := Qt.more hb1 hb1.size hb2
  have hsa : ({ data := #[120, 32, 61, 32] } : ByteArray).size = 4 := rfl
  have hsb : ({ data := #[44, 32, 121, 32, 61, 32] } : ByteArray).size = 6 := rfl
  have hsc : ({ data := #[44, 32, 114, 117, 108, 101, 32, 61, 32, 66, 51, 47, 83, 50, 51] } : ByteArray).size = 15 := rfl
  have hsd : ({ data := #[10] } : ByteArray).size = 1 := rfl
  have hse : (txt (wd : Int)).size ≤ 19 := txt_size _
  have hsf : (txt (ht : Int)).size ≤ 19 := txt_size _
  have hfin : str (headText wd ht pR ++ [10]) = { data := #[120, 32, 61, 32] } ++ txt (wd : Int) ++ { data := #[44, 32, 121, 32, 61, 32] } ++ txt (ht : Int) ++ { data := #[44, 32, 114, 117, 108, 101, 32, 61, 32, 66, 51, 47, 83, 50, 51] } ++ { data := #[10] } := by
    unfold txt
    rw [txtL_nat (by omega), txtL_nat (by omega)]
    apply ByteArray.ext
    apply Array.ext'
    simp [str, headText, pX, pY, pR]
  have HFIN := Lib.hid hfin
  clear hfin
  generalize txt (wd : Int) = tw at *
  generalize txt (ht : Int) = th at *
  have hal : Below w2.heap.size w2 (w2.alloc (.cells #[.int .i64 bx, .int .i64 b_y, .int .i64 wd, .int .i64 ht] 27)) := (Below.refl _ _).alloc (Nat.le_refl _) _
  have hbb3 := Qt.more hbb2 hbb2.size hal
  have hrow3 : (w2.alloc (.cells #[.int .i64 bx, .int .i64 b_y, .int .i64 wd, .int .i64 ht] 27)).heap[w2.heap.size]? = some (.cells #[.int .i64 bx, .int .i64 b_y, .int .i64 wd, .int .i64 ht] 27 (0, 0)) := heap_alloc_new _ _
  clear hal hb2 hb1 h1 h2
  go_wp2_with fail
  generalize w2.alloc (.cells #[.int .i64 bx, .int .i64 b_y, .int .i64 wd, .int .i64 ht] 27) = w3 at *
  have hT3 := hT.below hbb3
  have c2 : w3.cell? ⟨w2.heap.size, 2, none⟩ = some (.int .i64 wd) := by rw [Lib.cell_of_heap hrow3]; rfl
  have c3 : w3.cell? ⟨w2.heap.size, 3, none⟩ = some (.int .i64 ht) := by rw [Lib.cell_of_heap hrow3]; rfl
  have k2 := Qt.cell_in c2
  have k3 := Qt.cell_in c3
  refine Qt.below_all (by kernel_rfl) (by kernel_rfl) ?_
  repeat (go_big_quiet_step (first | (go_at_call_of 23 (Value.int .i64 (wd : Int)); exact Qt.at_call' fun _ hb => htw _ (hT3.below hb)) | (go_at_call_of 23 (Value.int .i64 (ht : Int)); exact Qt.at_call' fun _ hb => hth _ (hT3.below hb))))
  refine wpQuiet_nil ?_
  intro w4 hb4
  have hrow4 := (hb4.block _ (lt_heap hrow3)).trans hrow3
  have hbb4 := Qt.more hbb3 hbb3.size hb4
  have d0 : w4.cell? ⟨w2.heap.size, 0, none⟩ = some (.int .i64 bx) := by rw [Lib.cell_of_heap hrow4]; rfl
  have d1 : w4.cell? ⟨w2.heap.size, 1, none⟩ = some (.int .i64 b_y) := by rw [Lib.cell_of_heap hrow4]; rfl
  have d2 : w4.cell? ⟨w2.heap.size, 2, none⟩ = some (.int .i64 wd) := by rw [Lib.cell_of_heap hrow4]; rfl
  have d3 : w4.cell? ⟨w2.heap.size, 3, none⟩ = some (.int .i64 ht) := by rw [Lib.cell_of_heap hrow4]; rfl
  have hh4 := h3 w4 hbb4
  have hsg : ({ data := #[120, 32, 61, 32] } ++ tw ++ { data := #[44, 32, 121, 32, 61, 32] } ++ th ++ { data := #[44, 32, 114, 117, 108, 101, 32, 61, 32, 66, 51, 47, 83, 50, 51] } ++ { data := #[10] } : ByteArray).size ≤ 1000 := by
    simp only [ByteArray.size_append]
    omega
  generalize ({ data := #[120, 32, 61, 32] } ++ tw ++ { data := #[44, 32, 121, 32, 61, 32] } ++ th ++ { data := #[44, 32, 114, 117, 108, 101, 32, 61, 32, 66, 51, 47, 83, 50, 51] } ++ { data := #[10] } : ByteArray) = HD at *
  clear hb4 hrow4 hbb3 k2 k3 c2 c3 hrow3 hT3 h3 htw hth
  go_wp2_with fail
  refine hh4.mono ?_
  rintro e w5 ⟨v, rfl, ⟨A5, c5, rfl, hc5, hR5⟩, hb5⟩
  have hbb5 := Qt.more hbb4 hbb4.size hb5
  have htx := tokText_any A5 (ups qq) c5 w5 hR5 (by rw [ups_len]; omega) (fun x hx => by
    unfold ups itemsT at hx
    rw [List.map_map] at hx
    obtain ⟨y, hy, rfl⟩ := List.mem_map.1 hx
    have := hbnd y hy
    simp only [Function.comp, up]
    unfold I64
    omega) (hT.below hbb5)
  unfold TextR at htx
  have htl := textE_len (ups qq)
  rw [ups_len] at htl
  have hts : (str (textE (ups qq))).size ≤ 1000000 := by rw [str_size]; omega
  have hfin : str (headText wd ht pR ++ 10 :: (textE (ups qq) ++ [33, 10])) = HD ++ str (textE (ups qq)) ++ { data := #[33] } ++ { data := #[10] } := by
    rw [← HFIN.out]
    apply ByteArray.ext
    apply Array.ext'
    simp [str]
  have HF := Lib.hid hfin
  clear hfin htl hh4 hR5 hc5 hbb4 hb5 d0 d1 d2 d3
  generalize str (textE (ups qq)) = tq at *
  go_wp2_with fail
  refine htx.mono ?_
  rintro e w6 ⟨rfl, hb6⟩
  have hbb6 := Qt.more hbb5 hbb5.size hb6
  have hsh : ({ data := #[33] } : ByteArray).size = 1 := rfl
  have hsi : (HD ++ tq).size ≤ 1001000 := by rw [ByteArray.size_append]; omega
  have hsj : (HD ++ tq ++ { data := #[33] }).size ≤ 1001001 := by rw [ByteArray.size_append]; omega
  clear htx hb6
  go_wp2
  go_ret2
  refine ⟨?_, hbb6⟩
  rw [HF.out]
  rfl
end Go.Proofs.YtacpncmdgkljdaaDoor
namespace Go.Proofs.YtacpncmdgkljdaaDoor.Cel
open Go.RowKit Go.Sort

theorem refIn_yes (p : Int × Int) (h : inB p = true) (w : World) : Calls Tryd.prog 20 #[.agg #[.int .i64 p.1, .int .i64 p.2]] w fun e w' => e = .returned (.bool true) ∧ Below w.heap.size w w' := by
  have := in_any p w; rw [h] at this; exact this
theorem refIn_no (p : Int × Int) (h : inB p = false) (w : World) : Calls Tryd.prog 20 #[.agg #[.int .i64 p.1, .int .i64 p.2]] w fun e w' => e = .returned (.bool false) ∧ Below w.heap.size w w' := by
  have := in_any p w; rw [h] at this; exact this

set_option maxHeartbeats 1000000 in
set_option maxRecDepth 100000 in
theorem refRight_any (A : Option Addr) (l : List (Int × Int)) (c : Nat) (w : World) (hR : Rd w w.heap.size A l) (hl : l.length ≤ 1000000) (hc : l.length ≤ c) :
    Calls Tryd.prog 16 #[.slice A l.length c] w fun e w' => e = .returned (.bool (rightB l)) ∧ Below w.heap.size w w' := by
  generalize hr : rightB l = r
  have HR := Lib.hid hr
  clear hr
  go_enter Tryd.func16, Tryd.ntmps16
  go_wp2
  go_loopw [3] (fun i wr => ∃ k : Nat, k ≤ l.length ∧ i = .int .i64 k ∧ Hid (∀ j, j < k → okAt l j = true) ∧ Below w.heap.size w wr) (fun i _ => l.length - (intOf i).toNat)
  case atStart => exact ⟨0, Nat.zero_le _, rfl, fun j hj => absurd hj (Nat.not_lt_zero j), Below.refl _ _⟩
  case round =>
    obtain ⟨k, hk, rfl, HK, hb⟩ := hrel
    by_cases hlt : k < l.length
    · have hltz : (k : Int) < (l.length : Int) := by omega
      obtain ⟨b, off, rfl, hbB, hcell⟩ := hR.at_ (by omega)
      obtain ⟨⟨x, y⟩, hxy⟩ : ∃ p, p = l.getD k (0, 0) := ⟨_, rfl⟩
      have a0 := (hcell k hlt).1
      have a1 := (hcell k hlt).2
      rw [← hxy] at a0 a1
      simp only at a0 a1
      have k0 := Qt.cell_in (Qt.keep hb a0)
      have k1 := Qt.cell_in (Qt.keep hb a1)
      have HXY := Lib.hid hxy
      clear hxy a0 a1
      by_cases hin : inB (x, y) = true
      · rcases Nat.eq_zero_or_pos k with hk0 | hk0
        · clear hcell
          have hkd : decide (0 < k) = false := by simp; omega
          have hkd2 : decide ((0 : Int) < (k : Int)) = false := by simp; omega
          have HOK : Hid (okAt l k = true) := by show okAt l k = true; unfold okAt; rw [← HXY.out, hin, hk0]; rfl
          clear hk0
          go_wp2
          refine Qt.below_all (by kernel_rfl) (by kernel_rfl) ?_
          repeat (go_big_quiet_step (first | (go_at_call 20; exact Qt.at_call (refIn_yes (x, y) hin))))
          refine wpQuiet_nil ?_
          intro w1 hb1
          go_wp2
          go_roundw
          case measure => simp [intOf]; omega
          case rel =>
            refine ⟨k + 1, by omega, by go_num, (show Hid _ from fun j hj => ?_), Qt.more hb hb.size hb1⟩
            by_cases hjk : j = k
            · subst hjk; exact HOK.out
            · exact HK.out j (by omega)
        · obtain ⟨kp, rfl⟩ : ∃ kp, k = kp + 1 := ⟨k - 1, by omega⟩
          obtain ⟨⟨px, py⟩, hp⟩ : ∃ p, p = l.getD kp (0, 0) := ⟨_, rfl⟩
          have p0 := (hcell kp (by omega)).1
          have p1 := (hcell kp (by omega)).2
          rw [← hp] at p0 p1
          simp only at p0 p1
          have k2 := Qt.cell_in (Qt.keep hb p0)
          have k3 := Qt.cell_in (Qt.keep hb p1)
          have HP := Lib.hid hp
          clear hp hcell p0 p1
          cases hcm : lessB (px, py) (x, y)
          · have HNO : Hid (rightB l = false) := rightB_no hlt (by
              unfold okAt
              rw [← HXY.out, hin, Nat.add_sub_cancel, ← HP.out]
              have : ¬ cmpP (px, py) (x, y) < 0 := by rw [cmpP_neg, hcm]; exact Bool.false_ne_true
              simpa using this)
            go_wp2
            refine Qt.below_all (by kernel_rfl) (by kernel_rfl) ?_
            repeat (go_big_quiet_step (first | (go_at_call 20; exact Qt.at_call (refIn_yes (x, y) hin)) | (go_at_call 31; exact Qt.at_call (less_no (px, py) (x, y) hcm))))
            refine wpQuiet_nil ?_
            intro w1 hb1
            go_wp2
            go_ret
            exact ⟨by rw [← HR.out, HNO.out]; rfl, Qt.more hb hb.size hb1⟩
          · have HOK : Hid (okAt l (kp + 1) = true) := by
              show okAt l (kp + 1) = true
              unfold okAt
              rw [← HXY.out, hin, Nat.add_sub_cancel, ← HP.out]
              have : cmpP (px, py) (x, y) < 0 := by rw [cmpP_neg, hcm]
              simpa using this
            go_wp2
            refine Qt.below_all (by kernel_rfl) (by kernel_rfl) ?_
            repeat (go_big_quiet_step (first | (go_at_call 20; exact Qt.at_call (refIn_yes (x, y) hin)) | (go_at_call 31; exact Qt.at_call (less_yes (px, py) (x, y) hcm))))
            refine wpQuiet_nil ?_
            intro w1 hb1
            go_wp2
            go_roundw
            case measure => simp [intOf]; omega
            case rel =>
              refine ⟨kp + 1 + 1, by omega, by go_num, (show Hid _ from fun j hj => ?_), Qt.more hb hb.size hb1⟩
              by_cases hjk : j = kp + 1
              · subst hjk; exact HOK.out
              · exact HK.out j (by omega)
      · have hin' : inB (x, y) = false := by simpa using hin
        have HNO : Hid (rightB l = false) := rightB_no hlt (by unfold okAt; rw [← HXY.out, hin']; rfl)
        clear hcell hin
        go_wp2
        refine Qt.below_all (by kernel_rfl) (by kernel_rfl) ?_
        repeat (go_big_quiet_step (first | (go_at_call 20; exact Qt.at_call (refIn_no (x, y) hin'))))
        refine wpQuiet_nil ?_
        intro w1 hb1
        go_wp2
        go_ret
        exact ⟨by rw [← HR.out, HNO.out]; rfl, Qt.more hb hb.size hb1⟩
    · have hltz : ¬ (k : Int) < (l.length : Int) := by omega
      have hkl : k = l.length := by omega
      by_cases hlong : 2000 < l.length
      · have E := Lib.hid (rightB_long hlong)
        clear HK hkl
        go_wp2
        go_ret
        exact ⟨by rw [← HR.out, E.out]; simp; omega, hb⟩
      · have E : Hid (rightB l = true) := rightB_yes (by omega) fun j hj => HK.out j (by omega)
        clear HK hkl
        go_wp2
        go_ret
        exact ⟨by rw [← HR.out, E.out]; simp; omega, hb⟩

end Go.Proofs.YtacpncmdgkljdaaDoor.Cel
namespace Go.Proofs.YtacpncmdgkljdaaDoor.Cel

theorem inB_bd {p : Int × Int} (h : inB p = true) : -1099511627776 ≤ p.1 ∧ p.1 ≤ 1099511627776 ∧ -1099511627776 ≤ p.2 ∧ p.2 ≤ 1099511627776 := by simpa [inB] using h
theorem setL_ext {l m : List (Int × Int)} (h : ∀ y, y ∈ l ↔ y ∈ m) : setL l = setL m :=
  rises_ext (rises_setL l) (rises_setL m) fun y => by rw [mem_setL, mem_setL]; exact h y

/-- whether p is a neighbour of c -/
def nbB (c p : Int × Int) : Bool := decide (-1 ≤ c.1 - p.1 ∧ c.1 - p.1 ≤ 1 ∧ -1 ≤ c.2 - p.2 ∧ c.2 - p.2 ≤ 1 ∧ c ≠ p)
def nbr (l : List (Int × Int)) (p : Int × Int) : Nat := l.countP fun c => nbB c p
def livesB (a : Bool) (n : Int) : Bool := decide (n = 3) || (a && decide (n = 2))
/-- alive behind a generation -/
def aliveB (l : List (Int × Int)) (p : Int × Int) : Bool := livesB (decide (p ∈ l)) (nbr l p)
/-- a cell and its neighbours, row by row -/
def nine (c : Int × Int) : List (Int × Int) :=
  [(c.1 - 1, c.2 - 1), (c.1, c.2 - 1), (c.1 + 1, c.2 - 1), (c.1 - 1, c.2), (c.1, c.2), (c.1 + 1, c.2), (c.1 - 1, c.2 + 1), (c.1, c.2 + 1), (c.1 + 1, c.2 + 1)]
def cand (l : List (Int × Int)) : List (Int × Int) := l.flatMap nine
def nextL (l : List (Int × Int)) : List (Int × Int) := setL ((cand l).filter fun p => aliveB l p)

theorem mem_nine (c p : Int × Int) : p ∈ nine c ↔ -1 ≤ c.1 - p.1 ∧ c.1 - p.1 ≤ 1 ∧ -1 ≤ c.2 - p.2 ∧ c.2 - p.2 ≤ 1 := by
  obtain ⟨a, b⟩ := c
  obtain ⟨x, y⟩ := p
  simp only [nine, List.mem_cons, List.not_mem_nil, or_false, Prod.mk.injEq]
  omega
theorem mem_cand (l : List (Int × Int)) (p : Int × Int) : p ∈ cand l ↔ ∃ c ∈ l, -1 ≤ c.1 - p.1 ∧ c.1 - p.1 ≤ 1 ∧ -1 ≤ c.2 - p.2 ∧ c.2 - p.2 ≤ 1 := by
  unfold cand
  rw [List.mem_flatMap]
  constructor
  · rintro ⟨c, hc, h⟩; exact ⟨c, hc, (mem_nine c p).1 h⟩
  · rintro ⟨c, hc, h⟩; exact ⟨c, hc, (mem_nine c p).2 h⟩
theorem alive_cand {l : List (Int × Int)} {p : Int × Int} (h : aliveB l p = true) : p ∈ cand l := by
  rw [mem_cand]
  by_cases hp : p ∈ l
  · exact ⟨p, hp, by omega⟩
  · have h3 : nbr l p = 3 := by
      simp only [aliveB, livesB, hp, decide_false, Bool.false_and, Bool.or_false, decide_eq_true_eq] at h
      omega
    have hpos : 0 < l.countP fun c => nbB c p := by unfold nbr at h3; omega
    obtain ⟨c, hc, hn⟩ := List.countP_pos_iff.1 hpos
    simp only [nbB, decide_eq_true_eq] at hn
    exact ⟨c, hc, by omega⟩
theorem mem_nextL (l : List (Int × Int)) (p : Int × Int) : p ∈ nextL l ↔ aliveB l p = true := by
  unfold nextL
  rw [mem_setL, List.mem_filter]
  exact ⟨fun h => h.2, fun h => ⟨alive_cand h, h⟩⟩
theorem rises_nextL (l : List (Int × Int)) : Rises (nextL l) := rises_setL _

/-- what Of answers: an error's number, and a list -/
def ofR (l : List (Int × Int)) : Int × List (Int × Int) :=
  if (l.any fun p => !inB p) = true then (2, []) else if 2000 < (setL l).length then (3, []) else (0, setL l)
theorem any_ext {l m : List (Int × Int)} {f : Int × Int → Bool} (h : ∀ y, y ∈ l ↔ y ∈ m) : l.any f = m.any f := by
  rw [Bool.eq_iff_iff, List.any_eq_true, List.any_eq_true]
  constructor
  · rintro ⟨x, hx, e⟩; exact ⟨x, (h x).1 hx, e⟩
  · rintro ⟨x, hx, e⟩; exact ⟨x, (h x).2 hx, e⟩
theorem ofR_ext {l m : List (Int × Int)} (h : ∀ y, y ∈ l ↔ y ∈ m) : ofR l = ofR m := by
  unfold ofR
  rw [any_ext h, setL_ext h]
theorem ofR_len (l : List (Int × Int)) : (ofR l).2.length ≤ 2000 := by
  unfold ofR
  split
  · exact Nat.zero_le _
  · split
    · exact Nat.zero_le _
    · simp only; omega

def nextR (l : List (Int × Int)) : Int × List (Int × Int) := if rightB l = true then ofR (nextL l) else (1, [])
theorem nextR_bad {l : List (Int × Int)} (h : rightB l = false) : nextR l = (1, []) := by unfold nextR; rw [h]; rfl
theorem nextR_yes {l : List (Int × Int)} (h : rightB l = true) : nextR l = ofR (nextL l) := by unfold nextR; rw [if_pos h]
/-- some generations -/
def runR : Nat → List (Int × Int) → Int × List (Int × Int)
  | 0, l => (0, l)
  | n + 1, l => if (nextR l).1 = 0 then runR n (nextR l).2 else (nextR l).1 |> fun e => (e, [])
def runA (l : List (Int × Int)) (n : Int) : Int × List (Int × Int) := if rightB l = true ∧ 0 ≤ n ∧ n ≤ 1000 then runR n.toNat l else (1, [])

theorem nextR_errs (l : List (Int × Int)) : (nextR l).1 = 0 ∨ (nextR l).1 = 1 ∨ (nextR l).1 = 2 ∨ (nextR l).1 = 3 := by
  unfold nextR ofR
  split
  · split
    · simp
    · split <;> simp
  · simp
theorem nextR_err_nil {l : List (Int × Int)} (h : (nextR l).1 ≠ 0) : (nextR l).2 = [] := by
  unfold nextR ofR at *
  split at h <;> rename_i h1
  · split at h <;> rename_i h2
    · rw [if_pos h1, if_pos h2]
    · split at h <;> rename_i h3
      · rw [if_pos h1, if_neg h2, if_pos h3]
      · exact absurd rfl h
  · rw [if_neg h1]
theorem nextR_right {l : List (Int × Int)} (h : (nextR l).1 = 0) : rightB (nextR l).2 = true := by
  unfold nextR ofR at *
  split at h <;> rename_i h1
  · rw [if_pos h1]
    split at h <;> rename_i h2
    · exact absurd h (by decide)
    · rw [if_neg h2]
      split at h <;> rename_i h3
      · exact absurd h (by decide)
      · rw [if_neg h3]
        refine (rightB_iff _).2 ⟨by simp only; omega, fun c hc => ?_, rises_setL _⟩
        have hc' : c ∈ nextL l := (mem_setL _ _).1 hc
        cases hin : inB c
        · exact absurd (List.any_eq_true.2 ⟨c, hc', by rw [hin]; rfl⟩) h2
        · rfl
  · exact absurd h (by decide)
theorem runR_zero (l : List (Int × Int)) : runR 0 l = (0, l) := rfl
theorem runR_succ (n : Nat) (l : List (Int × Int)) : runR (n + 1) l = if (nextR l).1 = 0 then runR n (nextR l).2 else ((nextR l).1, []) := rfl
theorem runR_err {l : List (Int × Int)} (h : (nextR l).1 ≠ 0) (n : Nat) : runR (n + 1) l = ((nextR l).1, []) := by rw [runR_succ, if_neg h]
theorem runR_ok {l : List (Int × Int)} (h : (nextR l).1 = 0) (n : Nat) : runR (n + 1) l = runR n (nextR l).2 := by rw [runR_succ, if_pos h]
theorem runR_add (n m : Nat) (l : List (Int × Int)) (h : (runR n l).1 = 0) : runR (n + m) l = runR m (runR n l).2 := by
  induction n generalizing l with
  | zero => rw [Nat.zero_add]; rfl
  | succ n ih =>
    by_cases h0 : (nextR l).1 = 0
    · rw [runR_ok h0] at h ⊢
      rw [show n + 1 + m = (n + m) + 1 by omega, runR_ok h0]
      exact ih _ h
    · rw [runR_err h0] at h
      exact absurd h h0

/-! ### where a generation reaches -/

/-- a box that holds a list -/
def InBox (a b c d : Int) (l : List (Int × Int)) : Prop := ∀ p ∈ l, a ≤ p.1 ∧ p.1 ≤ b ∧ c ≤ p.2 ∧ p.2 ≤ d
theorem next_box {a b c d : Int} {l : List (Int × Int)} (h : InBox a b c d l) : InBox (a - 1) (b + 1) (c - 1) (d + 1) (nextL l) := by
  intro p hp
  obtain ⟨q, hq, hn⟩ := (mem_cand l p).1 (alive_cand ((mem_nextL l p).1 hp))
  have := h q hq
  omega

theorem length_le_of_subset {α : Type} [DecidableEq α] : ∀ (l m : List α), l.Nodup → (∀ y ∈ l, y ∈ m) → l.length ≤ m.length
  | [], _, _, _ => Nat.zero_le _
  | x :: l, m, hn, h => by
    obtain ⟨h1, h2⟩ := List.nodup_cons.1 hn
    have hx : x ∈ m := h x (by simp)
    have := length_le_of_subset l (m.erase x) h2 fun y hy => by
      have hne : y ≠ x := fun e => h1 (e ▸ hy)
      exact (List.mem_erase_of_ne hne).2 (h y (by simp [hy]))
    rw [List.length_erase_of_mem hx] at this
    have hpos := List.length_pos_of_mem hx
    simp only [List.length_cons]
    omega
theorem rises_nodup {l : List (Int × Int)} (h : Rises l) : l.Nodup := by
  refine List.Pairwise.imp ?_ h
  intro p q hpq e
  rw [e, lessB_irrefl] at hpq
  cases hpq

/-- all cells of a box -/
def boxL (a c : Int) (w h : Nat) : List (Int × Int) := (List.range h).flatMap fun (j : Nat) => (List.range w).map fun (i : Nat) => (a + (i : Int), c + (j : Int))
theorem mem_boxL {a c : Int} {w h : Nat} {p : Int × Int} (h1 : a ≤ p.1 ∧ p.1 < a + w ∧ c ≤ p.2 ∧ p.2 < c + h) : p ∈ boxL a c w h := by
  unfold boxL
  rw [List.mem_flatMap]
  refine ⟨(p.2 - c).toNat, List.mem_range.2 (by omega), List.mem_map.2 ⟨(p.1 - a).toNat, List.mem_range.2 (by omega), ?_⟩⟩
  obtain ⟨x, y⟩ := p
  simp only at h1
  simp only [Prod.mk.injEq]
  omega
theorem length_boxL (a c : Int) (w h : Nat) : (boxL a c w h).length = h * w := by
  unfold boxL
  rw [List.length_flatMap]
  simp only [List.length_map, List.length_range]
  induction h with
  | zero => simp
  | succ h ih => rw [List.range_succ, List.map_append, List.sum_append, ih]; simp [Nat.succ_mul]
theorem box_len {a b c d : Int} {l : List (Int × Int)} (h : InBox a b c d l) (hs : Rises l) (w t : Nat) (hw : b < a + w) (ht : d < c + t) : l.length ≤ t * w := by
  rw [← length_boxL a c w t]
  refine length_le_of_subset _ _ (rises_nodup hs) fun p hp => mem_boxL ?_
  have := h p hp
  omega

/-- A generation within bounds that is not too long is one. -/
theorem nextR_ok {l : List (Int × Int)} (h : rightB l = true) (hin : ∀ p ∈ nextL l, inB p = true) (hl : (nextL l).length ≤ 2000) : nextR l = (0, nextL l) := by
  rw [nextR_yes h]
  unfold ofR
  rw [if_neg, setL_of_rises (rises_nextL l), if_neg (by omega)]
  rw [List.any_eq_true]
  rintro ⟨p, hp, e⟩
  rw [hin p hp] at e
  cases e

/-- generations of lists, without bounds -/
def iterL : Nat → List (Int × Int) → List (Int × Int)
  | 0, l => l
  | n + 1, l => iterL n (nextL l)
theorem iterL_succ (n : Nat) (l : List (Int × Int)) : iterL (n + 1) l = nextL (iterL n l) := by
  induction n generalizing l with
  | zero => rfl
  | succ n ih => exact ih (nextL l)
theorem iterL_add (n m : Nat) (l : List (Int × Int)) : iterL (n + m) l = iterL m (iterL n l) := by
  induction n generalizing l with
  | zero => rw [Nat.zero_add]; rfl
  | succ n ih => rw [show n + 1 + m = (n + m) + 1 by omega]; exact ih (nextL l)
theorem iter_box {a b c d : Int} {l : List (Int × Int)} (h : InBox a b c d l) (n : Nat) : InBox (a - n) (b + n) (c - n) (d + n) (iterL n l) := by
  induction n with
  | zero => intro p hp; have := h p hp; simp; omega
  | succ n ih =>
    rw [iterL_succ]
    have := next_box ih
    intro p hp
    have := this p hp
    push_cast
    omega
theorem rises_iterL {l : List (Int × Int)} (h : Rises l) (n : Nat) : Rises (iterL n l) := by
  cases n with
  | zero => exact h
  | succ n => rw [iterL_succ]; exact rises_nextL _
/-- so many generations, as long as none is too long, nor out of bounds. -/
theorem runR_iter (n : Nat) (l : List (Int × Int)) (h : rightB l = true) (hk : ∀ k, 0 < k → k ≤ n → (∀ p ∈ iterL k l, inB p = true) ∧ (iterL k l).length ≤ 2000) : runR n l = (0, iterL n l) := by
  induction n generalizing l with
  | zero => rfl
  | succ n ih =>
    have h1 := hk 1 (by omega) (by omega)
    have e : nextR l = (0, nextL l) := nextR_ok h h1.1 h1.2
    rw [runR_ok (by rw [e]), e]
    refine ih (nextL l) ((rightB_iff _).2 ⟨h1.2, h1.1, rises_nextL l⟩) fun k h0 hkn => ?_
    exact hk (k + 1) (by omega) (by omega)

end Go.Proofs.YtacpncmdgkljdaaDoor.Cel
