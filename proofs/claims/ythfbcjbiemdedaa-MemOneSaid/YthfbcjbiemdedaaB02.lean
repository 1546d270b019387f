/-
  Texts that the claims of this seat share, part 2.
-/
import Derived.Test.YthfbcjbiemdedaaB01
import Derived.Test.YthfbcjbiemdedaaB00
import Derived.Deep.RegionWith
set_option linter.unusedVariables false
set_option linter.unusedSimpArgs false
namespace Go.Proofs.Ythfbcjbiemdedaa
set_option maxRecDepth 100000
set_option linter.unusedVariables false
set_option linter.unusedSimpArgs false
open Go.RowKit Go.Sort

/-- four numbers lie here -/
def A4At (w : World) (b o : Nat) (y : Ac) : Prop := w.cell? ⟨b, o, none⟩ = some (.int .i64 y.1) ∧ w.cell? ⟨b, o + 1, none⟩ = some (.int .i64 y.2.1) ∧ w.cell? ⟨b, o + 2, none⟩ = some (.int .i64 y.2.2.1) ∧ w.cell? ⟨b, o + 3, none⟩ = some (.int .i64 y.2.2.2)
theorem A4At.below {w w' : World} {b o B : Nat} {y : Ac} (h : A4At w b o y) (hb : Below B w w') (hx : b < B) : A4At w' b o y := by
  obtain ⟨h0, h1, h2, h3⟩ := h
  exact ⟨(hb.cell (p := ⟨b, o, none⟩) hx).trans h0, (hb.cell (p := ⟨b, o + 1, none⟩) hx).trans h1, (hb.cell (p := ⟨b, o + 2, none⟩) hx).trans h2, (hb.cell (p := ⟨b, o + 3, none⟩) hx).trans h3⟩
/-- The slice at A reads as four numbers each. -/
def RdA (w : World) (B : Nat) (A : Option Addr) (l : List Ac) : Prop :=
  ∀ j, j < l.length → ∃ b off, A = some ⟨b, off, none⟩ ∧ b < B ∧ A4At w b (off + j * 4) (l.getD j deadA)
theorem RdA.below {w w' : World} {B B' : Nat} {A : Option Addr} {l : List Ac} (h : RdA w B A l) (hb : Below B' w w') (hB : B ≤ B') : RdA w' B A l := fun j hj => by
  obtain ⟨b, off, e, hlt, h0⟩ := h j hj
  exact ⟨b, off, e, hlt, h0.below hb (Nat.lt_of_lt_of_le hlt hB)⟩
theorem RdA.more {w : World} {B B' : Nat} {A : Option Addr} {l : List Ac} (h : RdA w B A l) (hB : B ≤ B') : RdA w B' A l := fun j hj => by
  obtain ⟨b, off, e, hlt, h0⟩ := h j hj
  exact ⟨b, off, e, by omega, h0⟩
abbrev NowA (w : World) (A : Option Addr) (l : List Ac) : Prop := RdA w w.heap.size A l
theorem RdA.now {w w' : World} {A : Option Addr} {l : List Ac} (h : NowA w A l) (hb : Below w.heap.size w w') : NowA w' A l := (RdA.below h hb (Nat.le_refl _)).more hb.size
/-- what Play answers -/
abbrev PlT := List Int × List Int × Int
def PlAns (d : PlT) (w : World) (r : Ending) (w' : World) : Prop := ∃ A c A2 c2, r = .returned (.tuple #[.slice A d.1.length c, .slice A2 d.2.1.length c2, .int .i64 d.2.2]) ∧ d.1.length ≤ c ∧ Now w' A d.1 ∧ d.2.1.length ≤ c2 ∧ Now w' A2 d.2.1 ∧ Below w.heap.size w w'
theorem drop_get {l : List Ac} {k : Nat} (h : k < l.length) : l.drop k = l.getD k deadA :: l.drop (k + 1) := by
  rw [List.drop_eq_getElem_cons h, List.getD_eq_getElem?_getD, List.getElem?_eq_getElem h]; rfl
theorem playA_bad {m0 : List Int} {y : Ac} {r : List Ac} {m f : List Int} (h : (doA m y).2.2.2 ≠ 0) : playA m0 (y :: r) m f = (m0, [], (doA m y).2.2.2) := by rw [playA_cons, if_neg h]
theorem playA_ok {m0 : List Int} {y : Ac} {r : List Ac} {m f : List Int} (h : (doA m y).2.2.2 = 0) : playA m0 (y :: r) m f = playA m0 r (doA m y).1 (f ++ [(doA m y).2.1]) := by rw [playA_cons, if_pos h]

set_option maxHeartbeats 4000000 in
theorem refPlay_any (A AL : Option Addr) (m : List Int) (l : List Ac) (c cL : Nat) (w : World) (hR : Now w A m) (hc : m.length ≤ c) (hl : m.length ≤ 17592186044416) (hm : ∀ x ∈ m, I64 x)
    (hA : NowA w AL l) (hF : ∀ j, j < l.length → Fine4A (l.getD j deadA)) (hll : l.length ≤ 17592186044416) :
    Calls Try.prog 16 #[.slice A m.length c, .slice AL l.length cL] w (PlAns (playA m l m []) w) := by
  obtain ⟨v, w1, hrun, ho, hb1⟩ := copy_run A m c w hR hl
  obtain ⟨A1, c1, rfl, hc1, hN1⟩ := own_slice ho
  have HN1 := Lib.hid hN1
  have HB1 := Lib.hid hb1
  have HC1 := Lib.hid hc1
  have HRun := Lib.hid hrun
  have HM := Lib.hid hm
  have HR := Lib.hid hR
  have HA := Lib.hid hA
  have HF := Lib.hid hF
  clear hN1 hb1 hrun hm hR hA hF ho hc1
  go_enter Try.func16, Try.ntmps16
  go_wp2_with (at_builtin; refine Lib.wpList_append_run _ rfl (.const (.slice none 0 0)) (.tmp 14) 22 22 rfl _ _ rfl rfl _ _ HRun.out ?_)
  clear HRun
  go_loopw [7, 8, 9] (fun x f i wr => ∃ (k : Nat) (mm ff : List Int) (Ax Af : Option Addr) (cx cf : Nat), k ≤ l.length ∧ i = .int .i64 k ∧ x = .slice Ax mm.length cx ∧ f = .slice Af k cf ∧
    Hid (mm.length = m.length ∧ (∀ x ∈ mm, I64 x) ∧ mm.length ≤ cx ∧ Now wr Ax mm ∧ Own wr w.heap.size (.slice Af k cf) ff ∧ playA m (l.drop k) mm ff = playA m l m [] ∧ Below w.heap.size w wr) ∧ Hid (ff.length = k)) (fun _ _ i _ => l.length - (intOf i).toNat)
  case atStart => exact ⟨0, m, [], A1, none, c1, 0, Nat.zero_le _, rfl, rfl, rfl, (show Hid _ from ⟨rfl, HM.out, HC1.out, HN1.out, World.ownsRow_nil _ _ _ _, rfl, HB1.out⟩), (show Hid _ from rfl)⟩
  case round =>
    obtain ⟨k, mm, ff, Ax, Af, cx, cf, hk, rfl, rfl, rfl, HH, HK⟩ := hrel
    by_cases hlt : k < l.length
    · have hltz : (k : Int) < (l.length : Int) := by omega
      have H := HH.out
      obtain ⟨b, off, rfl, hbB, x0, x1, x2, x3⟩ := HA.out k hlt
      have y0 := (H.2.2.2.2.2.2.cell (p := ⟨b, off + k * 4, none⟩) hbB).trans x0
      have y1 := (H.2.2.2.2.2.2.cell (p := ⟨b, off + k * 4 + 1, none⟩) hbB).trans x1
      have y2 := (H.2.2.2.2.2.2.cell (p := ⟨b, off + k * 4 + 2, none⟩) hbB).trans x2
      have y3 := (H.2.2.2.2.2.2.cell (p := ⟨b, off + k * 4 + 3, none⟩) hbB).trans x3
      have hdr := drop_get hlt
      have hpl := H.2.2.2.2.2.1
      rw [hdr] at hpl
      have hfy := HF.out k hlt
      obtain ⟨y, hy⟩ : ∃ y, y = l.getD k deadA := ⟨_, rfl⟩
      rw [← hy] at y0 y1 y2 y3 hpl hfy
      have hcon := refDo_any y mm Ax cx wr hfy H.2.1 H.2.2.2.1 (by have := H.1; omega)
      have HP := Lib.hid hpl
      clear x0 x1 x2 x3 hdr hpl hy hfy H
      go_wp2_with fail
      refine hcon.mono ?_
      rintro r w2 ⟨A2, c2, rfl, hO2, hb2⟩
      clear hcon y0 y1 y2 y3
      obtain ⟨d, hd⟩ : ∃ d, d = doA mm y := ⟨_, rfl⟩
      rw [← hd] at hO2 ⊢
      have HD := Lib.hid hd
      have HO2 := Lib.hid hO2
      clear hd hO2
      have hbw := Qt.more HH.out.2.2.2.2.2.2 HH.out.2.2.2.2.2.2.size hb2
      by_cases h0 : d.2.2.2 = 0
      · have hfine := (doA_fine y HH.out.2.1).1
        have hlen := doA_len mm y
        rw [← HD.out] at hfine hlen
        have hpo := playA_ok (m0 := m) (r := l.drop (k + 1)) (f := ff) (show (doA mm y).2.2.2 = 0 by rw [← HD.out]; exact h0)
        rw [HP.out, ← HD.out] at hpo
        have ho1 := HH.out.2.2.2.2.1
        have ho2 := own_next ho1 hb2
        obtain ⟨v', w3, hrun, hown, hg⟩ := pushW_any d.2.1 hbw.size ho2 (by have := HK.out; omega)
        obtain ⟨A3, c3, rfl, hc3, hN3⟩ := own_slice hown
        have hb3 : Below w.heap.size w w3 := hbw.grown hg hbw.size (fun k e => (World.ownsRow.lt ho2 k e).1)
        have hO3 : Own w3 wr.heap.size (.slice A2 d.1.length c2) d.1 := HO2.out.kept hg (by
          cases hq : (Value.slice A2 d.1.length c2).ownBlock with
          | none => exact .inl rfl
          | some q =>
            right
            intro e
            have h1 := (World.ownsRow.lt HO2.out q hq).1
            have h2 := (World.ownsRow.lt ho1 q e.symm).2
            omega)
        obtain ⟨A4, c4, he4, hc4, hN4⟩ := own_slice hO3
        injection he4 with e1 e2 e3
        subst e1 e3
        have hfl : (ff ++ [d.2.1]).length = k + 1 := by rw [List.length_append, HK.out]; rfl
        rw [hfl] at hrun hown
        have HN := Lib.hid (And.intro (show d.1.length = m.length by rw [hlen, HH.out.1]) (And.intro hfine (And.intro hc4 (And.intro hN4 (And.intro hown (And.intro hpo.symm hb3))))))
        have HK2 := Lib.hid hfl
        have HRun := Lib.hid hrun
        have h0' : (d.2.2.2 != 0) = false := by rw [h0]; rfl
        clear hfine hlen hpo ho1 ho2 hrun hown hg hc3 hN3 hb3 hO3 hN4 hc4 hfl h0 hbw hb2
        go_wp2_with (at_builtin; refine Lib.wpList_append_run _ rfl (.tmp 39) (.tmp 41) 22 22 rfl _ _ rfl rfl _ _ HRun.out ?_)
        go_roundw
        case measure => simp [intOf]; omega
        case rel => exact ⟨k + 1, d.1, _, A2, A3, c2, c3, by omega, by go_num, rfl, rfl, HN, HK2⟩
      · have hpo := playA_bad (m0 := m) (r := l.drop (k + 1)) (m := mm) (f := ff) (y := y) (by rw [← HD.out]; exact h0)
        rw [HP.out, ← HD.out] at hpo
        obtain ⟨v', w3, hrun, hown, hb3⟩ := copy_run A m c w2 (Now.below HR.out hbw) hl
        obtain ⟨A3, c3, rfl, hc3, hN3⟩ := own_slice hown
        have HRun := Lib.hid hrun
        have HPO := Lib.hid hpo
        have HB3 := Lib.hid (Qt.more hbw hbw.size hb3)
        have HN3 := Lib.hid (And.intro hc3 hN3)
        have h0' : (d.2.2.2 != 0) = true := by rw [bne_iff_ne]; exact h0
        clear hpo hrun hown hc3 hN3 hb3 h0 hbw hb2
        go_wp2_with (at_builtin; refine Lib.wpList_append_run _ rfl (.const (.slice none 0 0)) (.tmp 35) 22 22 rfl _ _ rfl rfl _ _ HRun.out ?_)
        go_ret3
        rw [HPO.out]
        exact ⟨A3, c3, none, 0, rfl, HN3.out.1, HN3.out.2, Nat.le_refl _, now_nil _ _, HB3.out⟩
    · have hltz : ¬ (k : Int) < (l.length : Int) := by omega
      obtain rfl : k = l.length := by omega
      have H := HH.out
      rw [List.drop_length] at H
      have HH2 := Lib.hid H
      clear HH H
      go_wp2_with fail
      go_ret3
      obtain ⟨h1, h2, h3, h4, h5, h6, h7⟩ := HH2.out
      rw [← h6]
      obtain ⟨A3, c3, e, hc3, hN3⟩ := own_slice h5
      injection e with e1 e2 e3
      subst e1 e3
      have hK := HK.out
      refine ⟨Ax, cx, Af, cf, ?_, h3, h4, hc3, hN3, h7⟩
      show _ = Ending.returned (.tuple #[.slice Ax mm.length cx, .slice Af ff.length cf, .int .i64 0])
      rw [hK]
      rfl
end Go.Proofs.Ythfbcjbiemdedaa
namespace Go.Proofs.Ythfbcjbiemdedaa
set_option maxRecDepth 100000
set_option linter.unusedVariables false
set_option linter.unusedSimpArgs false
open Go.RowKit Go.Sort

theorem makeW (n : Nat) (hn : n ≤ 17592186044416) (u : World) : ∃ u', (Instr.makeSlice 22 (.int .i64 (n : Int)) (.int .i64 (n : Int))).run Try.prog u = .ok (.slice (some ⟨u.heap.size, 0, none⟩) n n) u' ∧
    Own u' u.heap.size (.slice (some ⟨u.heap.size, 0, none⟩) n n) (List.replicate n 0) ∧ u.grownBy u' none := by
  obtain ⟨i0, hi, hz0, hz1, hz2⟩ := info_parts info_int
  obtain ⟨u', h1, h2, h3⟩ := run_make_full (P := Try.prog) u u.heap.size 22 3 i0 _ 1 Try.underlying22 hi hz0 hz1 .i64 .i64 n (by rw [hz2]; omega) (by unfold maxLen; omega) (Nat.le_refl _)
  refine ⟨u', h1, ?_, h3⟩
  have e : (madeCells (Value.int .i64 0).cells (n * 1)).toList = (List.replicate n (0 : Int)).map (Value.int .i64) := by
    rw [Nat.mul_one]
    show (madeCells #[Value.int .i64 0] n).toList = _
    rw [toList_madeCells_one, List.map_replicate]
  rw [e] at h2
  show World.ownsRow _ _ _ _ _ _ _
  rw [List.length_replicate]
  exact h2
theorem found_set {ff : List Int} {n k : Nat} (h : ff.length = k) (hk : k < n) (x : Int) : (ff ++ List.replicate (n - k) 0).set k x = (ff ++ [x]) ++ List.replicate (n - (k + 1)) 0 := by
  obtain ⟨j, rfl⟩ : ∃ j, n = k + 1 + j := ⟨n - k - 1, by omega⟩
  rw [show k + 1 + j - k = j + 1 by omega, show k + 1 + j - (k + 1) = j by omega, List.replicate_succ, List.set_append_right _ _ (by omega), h, Nat.sub_self, List.set_cons_zero, List.append_assoc]
  rfl
set_option maxHeartbeats 4000000 in
theorem memPlay_any (A AL : Option Addr) (m : List Int) (l : List Ac) (c cL : Nat) (w : World) (hR : Now w A m) (hc : m.length ≤ c) (hl : m.length ≤ 17592186044416) (hm : ∀ x ∈ m, I64 x)
    (hA : NowA w AL l) (hF : ∀ j, j < l.length → Fine4A (l.getD j deadA)) (hll : l.length ≤ 17592186044416) :
    Calls Try.prog 15 #[.slice A m.length c, .slice AL l.length cL] w (PlAns (playA m l m []) w) := by
  have hclone := clone_any A m c w hR hl
  have HM := Lib.hid hm
  have HR := Lib.hid hR
  have HA := Lib.hid hA
  have HF := Lib.hid hF
  clear hm hR hA hF
  go_enter Try.func15, Try.ntmps15
  go_wp2_with fail
  refine hclone.mono ?_
  rintro r w1 ⟨v, rfl, ho, hb1⟩
  obtain ⟨A1, c1, rfl, hc1, _⟩ := own_slice ho
  obtain ⟨w2, hmk, hof, hg2⟩ := makeW l.length hll w1
  have hne : ∀ g, (Value.slice A1 m.length c1).ownBlock = some g → g < w1.heap.size := fun g e => (World.ownsRow.lt ho g e).2
  have HO1 := Lib.hid (ho.kept hg2 (by cases (Value.slice A1 m.length c1).ownBlock <;> simp))
  have HOF := Lib.hid (own_mono hof hb1.size)
  have HB2 := Lib.hid (hb1.grown hg2 hb1.size (fun k e => by cases e))
  have HC1 := Lib.hid hc1
  have HNE := Lib.hid hne
  have hqB := hb1.size
  generalize w1.heap.size = q at *
  clear hclone ho hb1 hof hg2 hc1 hne
  go_wp2_with fail
  clear hmk
  go_loopw [19] (fun i wr => ∃ (k : Nat) (mm ff : List Int), k ≤ l.length ∧ i = .int .i64 k ∧
    Hid (mm.length = m.length ∧ (∀ x ∈ mm, I64 x) ∧ Own wr w.heap.size (.slice A1 m.length c1) mm ∧ Own wr w.heap.size (.slice (some ⟨q, 0, none⟩) l.length l.length) (ff ++ List.replicate (l.length - k) 0) ∧ playA m (l.drop k) mm ff = playA m l m [] ∧ Below w.heap.size w wr ∧ ff.length = k)) (fun i _ => l.length - (intOf i).toNat)
  case atStart => exact ⟨0, m, [], Nat.zero_le _, rfl, (show Hid _ from ⟨rfl, HM.out, HO1.out, HOF.out, rfl, HB2.out, rfl⟩)⟩
  case round =>
    obtain ⟨k, mm, ff, hk, rfl, HH⟩ := hrel
    by_cases hlt : k < l.length
    · have hltz : (k : Int) < (l.length : Int) := by omega
      obtain ⟨hml, hfm, hOm, hOf, hpl, hbel, hfk⟩ := HH.out
      obtain ⟨b, off, rfl, hbB, x0, x1, x2, x3⟩ := HA.out k hlt
      have y0 := (hbel.cell (p := ⟨b, off + k * 4, none⟩) hbB).trans x0
      have y1 := (hbel.cell (p := ⟨b, off + k * 4 + 1, none⟩) hbB).trans x1
      have y2 := (hbel.cell (p := ⟨b, off + k * 4 + 2, none⟩) hbB).trans x2
      have y3 := (hbel.cell (p := ⟨b, off + k * 4 + 3, none⟩) hbB).trans x3
      rw [drop_get hlt] at hpl
      have hfy := HF.out k hlt
      obtain ⟨y, hy⟩ : ∃ y, y = l.getD k deadA := ⟨_, rfl⟩
      rw [← hy] at y0 y1 y2 y3 hpl hfy
      have hal := (Below.refl wr.heap.size wr).alloc (Nat.le_refl _) (.cells #[.int .i64 y.1, .int .i64 y.2.1, .int .i64 y.2.2.1, .int .i64 y.2.2.2] 25)
      have hOm2 := own_next hOm hal
      have hOf2 := own_next hOf hal
      have hbel2 := Qt.more hbel hbel.size hal
      have hcon := wdo_any y mm A1 c1 _ hfy hfm hbel2.size (by rw [hml]; exact hOm2) (by omega)
      rw [hml] at hcon
      have H1 := Lib.hid (And.intro hml (And.intro hfm (And.intro hOm2 (And.intro hOf2 (And.intro hpl (And.intro hbel2 hfk))))))
      clear x0 x1 x2 x3 hpl hy hfy hOm hOf hbel hal hOm2 hOf2 hbel2 HH hml hfm hfk
      go_wp2_with fail
      generalize wr.alloc (.cells #[.int .i64 y.1, .int .i64 y.2.1, .int .i64 y.2.2.1, .int .i64 y.2.2.2] 25) = w4 at *
      refine hcon.mono ?_
      rintro r w5 ⟨rfl, hO5, hg5⟩
      obtain ⟨hml, hfm, hOm, hOf, hpl, hbel, hfk⟩ := H1.out
      obtain ⟨d, hd⟩ : ∃ d, d = doA mm y := ⟨_, rfl⟩
      rw [← hd] at hO5 ⊢
      have HD := Lib.hid hd
      have hlen : d.1.length = m.length := by rw [hd, doA_len, hml]
      have hfine : ∀ x ∈ d.1, I64 x := by rw [hd]; exact (doA_fine y hfm).1
      have hOf5 := hOf.kept hg5 (by
        right
        intro e
        have := HNE.out q e.symm
        omega)
      have hbel5 := hbel.grown hg5 hbel.size (fun g e => (World.ownsRow.lt hO5 g e).1)
      have hwl : (ff ++ List.replicate (l.length - k) 0).length = l.length := by rw [List.length_append, List.length_replicate, hfk]; omega
      have hOf6 : Own w5 w.heap.size (.slice (some ⟨q, 0, none⟩) (ff ++ List.replicate (l.length - k) 0).length l.length) (ff ++ List.replicate (l.length - k) 0) := by rw [hwl]; exact hOf5
      obtain ⟨q', hq', _, _, hfz, hcell⟩ := own_row hOf6 (by omega)
      obtain rfl : q' = q := by injection hq' with e; injection e with e; exact e.symm
      have cq := hcell k (by omega)
      have cf := hfz k
      obtain ⟨hs1, hs2⟩ := own_set hOf6 k d.2.1
      rw [found_set hfk hlt] at hs1
      have hO7 := hO5.kept hs2 (by
        cases hq : (Value.slice A1 m.length c1).ownBlock with
        | none => exact .inl rfl
        | some g =>
          right
          intro e
          injection e with e
          have := HNE.out g hq
          omega)
      have hbel7 := hbel5.grown hs2 hbel5.size (fun g e => by injection e with e; omega)
      rw [hwl] at hs1
      have HZ := Lib.hid (And.intro hlen (And.intro hfine (And.intro hO7 (And.intro hs1 hbel7))))
      have HBe := Lib.hid hbel5
      clear hO5 hg5 hml hfm hOm hOf hbel hd hlen hfine hOf5 hbel5 hwl hOf6 hq' hfz hcell hs1 hs2 hO7 hbel7 hcon y0 y1 y2 y3
      by_cases h0 : d.2.2.2 = 0
      · have hpo := playA_ok (m0 := m) (r := l.drop (k + 1)) (f := ff) (show (doA mm y).2.2.2 = 0 by rw [← HD.out]; exact h0)
        rw [hpl, ← HD.out] at hpo
        have HPO := Lib.hid (And.intro hpo.symm (show (ff ++ [d.2.1]).length = k + 1 by rw [List.length_append, hfk]; rfl))
        have h0' : (d.2.2.2 != 0) = false := by rw [h0]; rfl
        clear hpl hpo h0 hfk H1
        go_wp2_with fail
        go_roundw
        case measure => simp [intOf]; omega
        case rel => exact ⟨k + 1, d.1, ff ++ [d.2.1], by omega, by go_num, (show Hid _ from ⟨HZ.out.1, HZ.out.2.1, HZ.out.2.2.1, HZ.out.2.2.2.1, HPO.out.1, HZ.out.2.2.2.2, HPO.out.2⟩)⟩
      · have hpo := playA_bad (m0 := m) (r := l.drop (k + 1)) (m := mm) (f := ff) (y := y) (by rw [← HD.out]; exact h0)
        rw [hpl, ← HD.out] at hpo
        have HPO := Lib.hid hpo
        have h0' : (d.2.2.2 != 0) = true := by rw [bne_iff_ne]; exact h0
        clear hpl hpo h0 hfk H1
        go_wp2_with fail
        go_ret3
        rw [HPO.out]
        exact ⟨A, c, none, 0, rfl, hc, Now.below HR.out HZ.out.2.2.2.2, Nat.le_refl _, now_nil _ _, HZ.out.2.2.2.2⟩
    · have hltz : ¬ (k : Int) < (l.length : Int) := by omega
      obtain rfl : k = l.length := by omega
      go_wp2_with fail
      go_ret3
      obtain ⟨hml, hfm, hOm, hOf, hpl, hbel, hfk⟩ := HH.out
      rw [List.drop_length] at hpl
      rw [← hpl]
      rw [Nat.sub_self, List.replicate_zero, List.append_nil] at hOf
      obtain ⟨A3, c3, e3, hc3, hN3⟩ := own_slice hOf
      obtain ⟨A4, c4, e4, hc4, hN4⟩ := own_slice hOm
      injection e3 with e1 e2 e3
      injection e4 with e4 e5 e6
      subst e1 e3 e4 e6
      refine ⟨A1, c1, some ⟨q, 0, none⟩, l.length, ?_, hc4, hN4, hc3, hN3, hbel⟩
      show _ = Ending.returned (.tuple #[.slice A1 mm.length c1, .slice (some ⟨q, 0, none⟩) ff.length l.length, .int .i64 0])
      rw [hml, hfk]
      rfl
end Go.Proofs.Ythfbcjbiemdedaa
namespace Go.Proofs.Ythfbcjbiemdedaa.Qt
open Go Go.Sort Go.RowKit

section
variable {P : Program} {ops : Array Oper} {md : Region.Mode} {C : World → Prop}

/-- whatever stands behind n waits for something that stands at n or behind it -/
def depB (md : Region.Mode) (ops : Array Oper) (n : Nat) : Bool :=
  (List.range ops.size).all fun t => decide (t ≤ n) || (List.range t).any fun j => decide (n ≤ j) && Region.waitsFor md ops t j

end
end Go.Proofs.Ythfbcjbiemdedaa.Qt
namespace Go.Proofs.Ythfbcjbiemdedaa.Qt
open Go Go.Sort Go.RowKit

/-- It ends as it should, nothing else. -/
def Qn (K : Act → World → Prop) : Exit → Act → World → Prop := fun x a w => x = .normal ∧ K a w

section
variable {P : Program} {ops : Array Oper} {md : Region.Mode} {C : World → Prop}

def PureV (P : Program) (ops : Array Oper) (o : Oper) (v : Value) (a : Act) : Prop :=
  Region.wanted o (yielded ops a.tmps) = true ∧ ∀ w, (execOp a.eval o).run P w = .ok (.value v) w

theorem no_letsOut {K : Act → World → Prop} (h : LetsOut (Qn K)) : False := by
  obtain ⟨a, w, h1, _⟩ := h
  cases h1

theorem upon_qn {o : Oper} {a : Act} {K K' : Act → World → Prop} {Kf : Act → World → Prop} {Q' : Exit → Act → World → Prop} (h : ∀ a w, K a w → K' a w) (r : Result Next) (hh : o.upon P a K (Qn Kf) r) : o.upon P a K' Q' r := by
  cases r with
  | ok n w' =>
    cases n <;> simp only [Oper.upon] at hh ⊢ <;>
      first
        | exact h _ _ hh
        | exact Calls.mono hh (fun e w'' he => by cases e <;> first | exact h _ _ he | exact absurd he.1 (by simp) | exact (no_letsOut he).elim)
        | exact Rows.mono hh (fun _ _ he => h _ _ he)
  | halt x w' => cases x <;> simp only [Oper.upon] at hh ⊢ <;> first | exact hh | exact absurd hh.1 (by simp)

theorem wpOp_qn {i : Nat} {a : Act} {w : World} {K K' : Act → World → Prop} {Kf : Act → World → Prop} {Q' : Exit → Act → World → Prop} (h : ∀ a w, K a w → K' a w) (hh : wpOp P ops (Qn Kf) i K a w) : wpOp P ops Q' i K' a w := by
  unfold wpOp at *
  split
  · exact h _ _ (by simpa [*] using hh)
  · rename_i o ho
    simp only [ho] at hh
    split
    · rename_i hw
      simp only [hw, if_true] at hh
      rcases hh with hh | hh
      · left; unfold Oper.wp at *; exact upon_qn h _ hh
      · exact (no_letsOut hh.2).elim
    · rename_i hw; simp only [hw] at hh; exact h _ _ hh

theorem any_qn {Kf : Act → World → Prop} {Q : Exit → Act → World → Prop} (hQ : ∀ a w, Kf a w → Q .normal a w) (f : Nat) : ∀ listed a w, wpAny P md ops (Qn Kf) f listed a w → wpAny P md ops Q f listed a w := by
  induction f with
  | zero => intro listed a w h; exact ⟨h.1, hQ _ _ h.2.2⟩
  | succ f ih => intro listed a w h; exact ⟨fun h0 => hQ _ _ (h.1 h0).2, fun i hi => wpOp_qn (fun a' w' h' => ih _ a' w' h') (h.2 i hi)⟩

theorem upon_put {o : Oper} {a : Act} {d : Option Nat} {v : Value} {K : Act → World → Prop} {Kf : Act → World → Prop} {R : Act → Prop} (hc : ∀ (a : Act) u, (a.put d v).put o.dst u = (a.put o.dst u).put d v)
    (hk : ∀ a u, R a → R (a.put o.dst u)) (hd : ∀ (a : Act) ds, R a → R { a with defers := ds }) (ha : R a) (r : Result Next) (hh : o.upon P (a.put d v) K (Qn Kf) r) :
    o.upon P a (fun a' w' => R a' ∧ K (a'.put d v) w') (Qn Kf) r := by
  cases r with
  | ok n w' =>
    cases n <;> simp only [Oper.upon] at hh ⊢ <;>
      first
        | (rw [hc] at hh; exact ⟨hk _ _ ha, hh⟩)
        | exact Calls.mono hh (fun e w'' he => by cases e <;> first | (simp only [hc] at he; exact ⟨hk _ _ ha, he⟩) | exact absurd he.1 (by simp) | exact (no_letsOut he).elim)
        | exact Rows.mono hh (fun _ _ he => by rw [hc] at he; exact ⟨hk _ _ ha, he⟩)
        | (rename_i dd
           have e : ({ a.put d v with defers := dd :: (a.put d v).defers } : Act) = ({ a with defers := dd :: a.defers } : Act).put d v := by cases d <;> rfl
           rw [e, hc] at hh
           exact ⟨hk _ _ (hd _ _ ha), hh⟩)
  | halt x w' => cases x <;> simp only [Oper.upon] at hh ⊢ <;> first | exact hh | exact absurd hh.1 (by simp)

theorem wpOp_put {j : Nat} {oi oj : Oper} {v : Value} (hj : ops[j]? = some oj) (hap : oi.apart ops oj = true) (hsi : ∀ cs b, oi.op ≠ .select cs b) (hsj : ∀ cs b, oj.op ≠ .select cs b) {K : Act → World → Prop} {Kf : Act → World → Prop} {a : Act} {w : World}
    (hp : PureV P ops oi v a) (h : wpOp P ops (Qn Kf) j K (a.put oi.dst v) w) : wpOp P ops (Qn Kf) j (fun a' w' => PureV P ops oi v a' ∧ K (a'.put oi.dst v) w') a w := by
  obtain ⟨h1, h2, h3⟩ := Oper.apart_spec hap
  have keep : ∀ (a : Act) u, PureV P ops oi v a → PureV P ops oi v (a.put oj.dst u) := fun a u hp => by
    unfold PureV at *
    rw [execOp_put oi hsi a oj.dst u h3, wanted_put oi a oj.dst u h3]
    exact hp
  unfold wpOp at *
  simp only [hj] at *
  rw [wanted_put oj a oi.dst v h1] at h
  split
  · rename_i hw
    simp only [hw, if_true] at h
    rcases h with h | h
    · left
      unfold Oper.wp at *
      rw [execOp_put oj hsj a oi.dst v h1] at h
      exact upon_put (R := PureV P ops oi v) (fun a u => Act.put_comm a v u h2) keep (fun _ _ h => h) hp _ h
    · exact (no_letsOut h.2).elim
  · rename_i hw
    simp only [hw] at h
    exact ⟨keep _ _ hp, by rw [← Act.put_comm a v undef h2]; exact h⟩

theorem PureV.op {i : Nat} {oi : Oper} {v : Value} {a : Act} (hi : ops[i]? = some oi) (hp : PureV P ops oi v a) {K : Act → World → Prop} {Q : Exit → Act → World → Prop} {w : World} (h : K (a.put oi.dst v) w) : wpOp P ops Q i K a w := by
  unfold wpOp
  simp only [hi, hp.1, if_true]
  left
  unfold Oper.wp
  rw [hp.2 w]
  exact h

/-- It may come first. -/
theorem any_first {Kf : Act → World → Prop} {i : Nat} {oi : Oper} {v : Value} (hi : ops[i]? = some oi) (hsel : ∀ (j : Nat) (o : Oper) cs b, ops[j]? = some o → o.op ≠ .select cs b) (f : Nat) :
    ∀ (listed : Array Bool) (a : Act) (w : World),
      (∀ j oj, ops[j]? = some oj → j ≠ i → listed.getD j true = false → (∀ e ∈ oj.after, Region.binds md e = true → e.on ≠ i) → oi.apart ops oj = true) →
      i ∈ Region.ready md ops listed → PureV P ops oi v a →
      wpAny P md ops (Qn Kf) f (listed.setIfInBounds i true) (a.put oi.dst v) w → wpAny P md ops (Qn Kf) (f + 1) listed a w := by
  induction f with
  | zero =>
    intro listed a w _ hr hp H
    refine ⟨fun h => (by rw [h] at hr; cases hr), fun j hj => ?_⟩
    by_cases hji : j = i
    · subst hji; exact hp.op hi H
    · have := ready_mono hj hji
      rw [H.1] at this
      cases this
  | succ f ih =>
    intro listed a w hfree hr hp H
    refine ⟨fun h => (by rw [h] at hr; cases hr), fun j hj => ?_⟩
    by_cases hji : j = i
    · subst hji; exact hp.op hi H
    · obtain ⟨hjun, oj, hoj, hall⟩ := mem_ready.1 hj
      have hun := (mem_ready.1 hr).1
      have hnot : ∀ e ∈ oj.after, Region.binds md e = true → e.on ≠ i := fun e he hb heq => by
        have h1 := hall e he hb
        rw [heq, getD_both hun] at h1
        cases h1
      refine wpOp_mono (fun a' w' h3 => ih (listed.setIfInBounds j true) a' w' (fun k ok hk hki hku hno => hfree k ok hk hki ?_ hno) (ready_mono hr (Ne.symm hji)) h3.1 ?_)
        (wpOp_put hoj (hfree j oj hoj hji hjun hnot) (fun cs b => hsel i oi cs b hi) (fun cs b => hsel j oj cs b hoj) hp (H.2 j (ready_mono hj hji)))
      · by_cases hjk : j = k
        · subst hjk; exact hjun
        · rwa [getD_set_ne true hjk] at hku
      · rw [Array.setIfInBounds_comm _ _ hji]; exact h3.2

/-! ### operations that only move come first, then the rest in the one order that is left -/

/-! ### Operation 0 first, then quiet ones in whatever order, then the rest in one order -/
def sinkFrom (md : Region.Mode) (ops : Array Oper) (s n : Nat) : Bool :=
  (List.range n).all fun i => decide (i < s) || (List.range (n + 1)).any fun j => decide (i < j) && Region.waitsFor md ops j i

theorem last_waits' {s n : Nat} {listed : Array Bool} (hs : sinkFrom md ops s n = true) (hn : n < ops.size) (inv : HeadInv md ops n listed) (d : Nat) :
    ∀ i, n - i ≤ d → s ≤ i → i < n → listed.getD i true = false → n ∉ Region.ready md ops listed := by
  induction d with
  | zero => intro i hd _ hi; omega
  | succ d ih =>
    intro i hd hsi hi hun hr
    have h0 := List.all_eq_true.1 hs i (List.mem_range.2 hi)
    simp only [Bool.or_eq_true, decide_eq_true_eq] at h0
    rcases h0 with h0 | h0
    · omega
    obtain ⟨j, hj, hj2⟩ := List.any_eq_true.1 h0
    simp only [Bool.and_eq_true, decide_eq_true_eq] at hj2
    obtain ⟨oj, hoj, e, he, hb, hon⟩ := Region.waitsFor_spec hj2.2
    have hjn := List.mem_range.1 hj
    by_cases hl : listed.getD j false = true
    · have h2 := inv.closed j oj hoj hl e he hb
      rw [hon, getD_both hun] at h2
      cases h2
    · rcases Nat.lt_or_eq_of_le (Nat.le_of_lt_succ hjn) with hlt | heq
      · exact ih j (by omega) (by omega) hlt (getD_in (by rw [inv.size]; omega) (by simpa using hl)) hr
      · subst heq
        obtain ⟨_, ot, hot, hall⟩ := mem_ready.1 hr
        obtain rfl : oj = ot := Option.some.inj (hoj.symm.trans hot)
        have h2 := hall e he hb
        rw [hon, getD_both hun] at h2
        cases h2

theorem rest_waits' {s n : Nat} {listed : Array Bool} (hs : sinkFrom md ops s n = true) (hd : depB md ops n = true) (hn : n < ops.size) (inv : HeadInv md ops n listed) {i : Nat} (hsi : s ≤ i) (hi : i < n) (hun : listed.getD i true = false) :
    ∀ t, n ≤ t → t ∉ Region.ready md ops listed := by
  intro t ht hr
  rcases Nat.lt_or_eq_of_le ht with hlt | heq
  · obtain ⟨_, ot, hot, hall⟩ := mem_ready.1 hr
    have hts : t < ops.size := (Array.getElem?_eq_some_iff.1 hot).1
    have h1 := List.all_eq_true.1 hd t (List.mem_range.2 hts)
    simp only [Bool.or_eq_true, decide_eq_true_eq] at h1
    rcases h1 with h1 | h1
    · omega
    · obtain ⟨j, hj, hj2⟩ := List.any_eq_true.1 h1
      simp only [Bool.and_eq_true, decide_eq_true_eq] at hj2
      obtain ⟨oj, hoj, e, he, hb, hon⟩ := Region.waitsFor_spec hj2.2
      obtain rfl : oj = ot := Option.some.inj (hoj.symm.trans hot)
      have h2 := hall e he hb
      have hjt := List.mem_range.1 hj
      rw [hon, getD_both (inv.tail j hj2.1 (by omega))] at h2
      cases h2
  · subst heq
    exact last_waits' hs hn inv _ i (Nat.le_refl _) hsi hi hun hr

theorem late_first {s n i : Nat} {oi : Oper} {v : Value} {L : Array Bool → Act → Prop} (hi : ops[i]? = some oi) (hsel : ∀ (j : Nat) (o : Oper) cs b, ops[j]? = some o → o.op ≠ .select cs b)
    (hs : sinkFrom md ops s n = true) (hc : depB md ops n = true) (hn : n < ops.size) (hsi : s ≤ i) (hin : i < n) (hdone : ∀ listed a, L listed a → ∀ j ∈ Region.ready md ops listed, n ≤ j) (f : Nat) :
    ∀ (listed : Array Bool) (a : Act), HeadInv md ops n listed →
      (∀ j oj, ops[j]? = some oj → j ≠ i → listed.getD j true = false → (∀ e ∈ oj.after, Region.binds md e = true → e.on ≠ i) → oi.apart ops oj = true) →
      i ∈ Region.ready md ops listed → YieldsIn P ops C oi v a →
      headAny P md ops C n L f (listed.setIfInBounds i true) (a.put oi.dst v) → headAny P md ops C n L (f + 1) listed a := by
  induction f with
  | zero =>
    intro listed a inv _ hr hy H
    refine ⟨fun h => (by rw [h] at hr; cases hr), fun j hj => ?_⟩
    have hjn : j < n := Nat.lt_of_not_le fun h => rest_waits' hs hc hn inv hsi hin (mem_ready.1 hr).1 j h hj
    refine ⟨hjn, ?_⟩
    by_cases hji : j = i
    · subst hji; exact hy.qOp hi H
    · exact absurd (hdone _ _ H j (ready_mono hj hji)) (by omega)
  | succ f ih =>
    intro listed a inv hfree hr hy H
    have hun := (mem_ready.1 hr).1
    refine ⟨fun h => (by rw [h] at hr; cases hr), fun j hj => ?_⟩
    have hjn : j < n := Nat.lt_of_not_le fun h => rest_waits' hs hc hn inv hsi hin hun j h hj
    refine ⟨hjn, ?_⟩
    by_cases hji : j = i
    · subst hji; exact hy.qOp hi H
    · obtain ⟨hjun, oj, hoj, hall⟩ := mem_ready.1 hj
      have hnot : ∀ e ∈ oj.after, Region.binds md e = true → e.on ≠ i := fun e he hb heq => by
        have h1 := hall e he hb
        rw [heq, getD_both hun] at h1
        cases h1
      have hq := qOp_put hoj (hfree j oj hoj hji hjun hnot) (fun cs b => hsel i oi cs b hi) (fun cs b => hsel j oj cs b hoj) hy (H.2 j (ready_mono hj hji)).2
      refine qOp_mono (fun a' h3 => ih (listed.setIfInBounds j true) a' (inv.set hj hjn) (fun k ok hk hki hku hno => hfree k ok hk hki ?_ hno) (ready_mono hr (Ne.symm hji)) h3.1 ?_) hq
      · by_cases hjk : j = k
        · subst hjk; exact hjun
        · rwa [getD_set_ne true hjk] at hku
      · rw [Array.setIfInBounds_comm _ _ hji]; exact h3.2

theorem late_lex {s n g : Nat} {Lq : Act → Prop} (hsel : Region.noSelect ops = true) (hs : sinkFrom md ops s n = true) (hc : depB md ops n = true) (hn : n < ops.size) (l : List Oper) :
    ∀ (k : Nat) (listed : Array Bool) (a : Act), s ≤ k → (∀ j, j < l.length → l[j]? = ops[k + j]?) → k + l.length = n → HeadInv md ops n listed →
    Region.lexHead md ops g l.length k listed = true → wpQuiet P ops C Lq l a →
    headAny P md ops C n (fun listed' a' => Region.seqB md ops g n listed' = true ∧ Lq a') l.length listed a := by
  induction l with
  | nil =>
    intro k listed a _ _ hk _ hB h
    obtain rfl : k = n := by simpa using hk
    exact ⟨by simpa [Region.lexHead] using hB, h⟩
  | cons o l ih =>
    intro k listed a hsk hl hk inv hB h
    have h0 : ops[k]? = some o := by simpa using (hl 0 (by simp)).symm
    simp only [List.length_cons, Region.lexHead, Bool.and_eq_true] at hB
    have hkn : k < n := by simp only [List.length_cons] at hk; omega
    have hr' : k ∈ Region.ready md ops listed := by simpa using hB.1.1
    have hst : qOp P ops C k (wpQuiet P ops C Lq l) a := by unfold qOp; simp only [h0]; exact h
    obtain ⟨v, hy, hK⟩ := yieldsIn_of_qOp h0 hst
    exact late_first h0 (Region.noSelect_spec hsel) hs hc hn hsk hkn (fun listed' a' hL => seqB_ready hL.1) l.length listed a inv (Region.free_spec h0 hB.1.2) hr' hy
      (ih (k + 1) _ _ (by omega) (fun j hj => by have := hl (j + 1) (by simp; omega); simpa [Nat.add_assoc, Nat.add_comm 1 j] using this) (by simp only [List.length_cons] at hk; omega) (inv.set hr' hkn) hB.2 hK)

def lateB (md : Region.Mode) (ops : Array Oper) (n : Nat) : Bool :=
  Region.noSelect ops && decide (n < ops.size) && sinkFrom md ops 1 n && depB md ops n && (Region.ready md ops (Array.replicate ops.size false)).contains 0 && Region.free md ops (Array.replicate ops.size false) 0 &&
    Region.lexHead md ops (ops.size - n) (n - 1) 1 ((Array.replicate ops.size false).setIfInBounds 0 true)

theorem region_late {id : Nat} {Q : Exit → Act → World → Prop} {a : Act} {w : World} {l : List Oper} {o : Oper} {v : Value} (n : Nat) (hn0 : 0 < n) (hm : P.follows .mixedOrders = true) (hB : lateB .any l.toArray n = true) (ho : l[0]? = some o) (hp : PureV P l.toArray o v a)
    (h : wpQuiet P l.toArray (fun w' => ∃ p : Regrown, w' = grow (redrawn w p.d) p.os) (fun a' => ∀ w', Below w.heap.size w w' → wpList P l.toArray (Qn fun a w => Q .normal a w) (l.drop n) a' w') ((l.take n).drop 1) (a.put o.dst v)) : (Code.region id l.toArray true).wp P Q a w := by
  simp only [lateB, Bool.and_eq_true, decide_eq_true_eq] at hB
  obtain ⟨⟨⟨⟨⟨⟨hsel, hn⟩, hs⟩, hc⟩, hr0⟩, hf0⟩, hlex⟩ := hB
  have hn' : n < l.length := by simpa using hn
  have htl : ((l.take n).drop 1).length = n - 1 := by simp; omega
  have hdl : (l.drop n).length = l.toArray.size - n := by simp
  have ho' : l.toArray[0]? = some o := by simpa using ho
  have hr0' : 0 ∈ Region.ready .any l.toArray (Array.replicate l.toArray.size false) := by simpa using hr0
  have inv0 : HeadInv .any l.toArray n (Array.replicate l.toArray.size false) :=
    ⟨by simp, fun j oj _ hl => (by rw [getD_replicate_false] at hl; cases hl), fun t _ ht => getD_in (by simpa using ht) (getD_replicate_false _ _)⟩
  have inv1 := inv0.set hr0' hn0
  have H := late_lex (P := P) (C := fun w' => ∃ p : Regrown, w' = grow (redrawn w p.d) p.os) (md := .any) (g := l.toArray.size - n) hsel hs hc hn ((l.take n).drop 1) 1 _ (a.put o.dst v) (Nat.le_refl _)
    (fun j hj => by rw [htl] at hj; rw [List.getElem?_drop, List.getElem?_take, if_pos (by omega)]; simp) (by rw [htl]; omega) inv1 (by rw [htl]; exact hlex) h
  refine wp_region_any hm ?_
  have e := any_of_head (Q := Qn fun a w => Q .normal a w) (g := l.toArray.size - n) (fun listed a' w' hw' hL => by
    obtain ⟨p, hp'⟩ := hw'
    have := wpAny_of_seq (md := .any) (Q' := Qn fun a w => Q .normal a w) (l.drop n) n listed a' w' (fun j => by simp [List.getElem?_drop]) (by rw [hdl]; exact hL.1) (hL.2 w' (hp' ▸ below_regrown w p.d p.os))
    rwa [hdl] at this) _ _ _ w.drew ⟨⟨w.drawn + 1, #[]⟩, by rw [grow_empty]; rfl⟩ H
  have e2 := any_first (P := P) (md := .any) (Kf := fun a w => Q .normal a w) ho' (Region.noSelect_spec hsel) _ _ a w.drew (Region.free_spec ho' hf0) hr0' hp e
  rw [htl, show n - 1 + (l.toArray.size - n) + 1 = l.toArray.size by omega] at e2
  exact any_qn (fun a w h => h) _ _ _ _ e2
end
end Go.Proofs.Ythfbcjbiemdedaa.Qt
namespace Go.Proofs.Ythfbcjbiemdedaa
set_option maxRecDepth 100000
set_option linter.unusedVariables false
set_option linter.unusedSimpArgs false
open Go.RowKit Go.Sort

/-- the four cells of an access -/
def cellsA (y : Ac) : List Value := [.int .i64 y.1, .int .i64 y.2.1, .int .i64 y.2.2.1, .int .i64 y.2.2.2]
def flA (l : List Ac) : List Value := l.flatMap cellsA
theorem flA_append (l m : List Ac) : flA (l ++ m) = flA l ++ flA m := by unfold flA; simp
theorem length_flA (l : List Ac) : (flA l).length = l.length * 4 := by
  induction l with
  | nil => rfl
  | cons x l ih => simp only [flA, cellsA, List.flatMap_cons, List.length_append, List.length_cons, List.length_nil] at ih ⊢; omega
theorem flA_get (l : List Ac) (j : Nat) (h : j < l.length) : (flA l)[j * 4]? = some (.int .i64 (l.getD j deadA).1) ∧ (flA l)[j * 4 + 1]? = some (.int .i64 (l.getD j deadA).2.1) ∧ (flA l)[j * 4 + 2]? = some (.int .i64 (l.getD j deadA).2.2.1) ∧ (flA l)[j * 4 + 3]? = some (.int .i64 (l.getD j deadA).2.2.2) := by
  induction l generalizing j with
  | nil => exact absurd h (Nat.not_lt_zero j)
  | cons x l ih =>
    cases j with
    | zero => simp [flA, cellsA]
    | succ j =>
      have := ih j (by simpa using h)
      have e1 : (j + 1) * 4 = j * 4 + 1 + 1 + 1 + 1 := by omega
      have e2 : flA (x :: l) = .int .i64 x.1 :: .int .i64 x.2.1 :: .int .i64 x.2.2.1 :: .int .i64 x.2.2.2 :: flA l := rfl
      rw [e1, e2]
      simpa using this
theorem flA_cell1 (m : List Ac) : ∀ u ∈ flA m, u.oneCell' = true := by
  intro u hu
  obtain ⟨x, _, hx⟩ := List.mem_flatMap.1 hu
  simp only [cellsA, List.mem_cons, List.not_mem_nil, or_false] at hx
  rcases hx with rfl | rfl | rfl | rfl <;> rfl
abbrev OwnA (w : World) (B : Nat) (v : Value) (l : List Ac) : Prop := w.ownsRow B 25 4 v l.length (flA l)
theorem OwnA.slice {w : World} {B : Nat} {v : Value} {l : List Ac} (h : OwnA w B v l) : ∃ A c, v = .slice A l.length c ∧ l.length ≤ c ∧ NowA w A l := by
  rcases h.2 with ⟨rfl, h0⟩ | ⟨g, cap, cur, rfl, hb, hh, hn, hcap, hsz, htake⟩
  · have : l = [] := by simpa using h0
    subst this
    exact ⟨none, 0, rfl, Nat.le_refl _, fun j hj => absurd hj (Nat.not_lt_zero j)⟩
  · refine ⟨some ⟨g, 0, none⟩, cap, rfl, hn, fun j hj => ?_⟩
    obtain ⟨f0, f1, f2, f3⟩ := flA_get l j hj
    refine ⟨g, 0, rfl, (World.ownsRow.lt h g rfl).2, ?_⟩
    rw [Nat.zero_add]
    exact ⟨(World.ownsRow.cellAt h (j * 4) (by omega)).trans f0, (World.ownsRow.cellAt h (j * 4 + 1) (by omega)).trans f1, (World.ownsRow.cellAt h (j * 4 + 2) (by omega)).trans f2, (World.ownsRow.cellAt h (j * 4 + 3) (by omega)).trans f3⟩
theorem OwnA.next {w w' : World} {B : Nat} {v : Value} {l : List Ac} (h : OwnA w B v l) (hb : Below w.heap.size w w') : OwnA w' B v l :=
  World.ownsRow.kept h (row := none) ⟨hb.os, hb.tape, hb.output, hb.size, fun k hk _ => hb.block k hk⟩ (by cases v.ownBlock <;> simp)
theorem info_acc : (Try.prog.info? 25).map (fun i => (i.zero, i.size, i.bytes)) = some (some (.agg #[.int .i64 0, .int .i64 0, .int .i64 0, .int .i64 0]), 4, 32) := by kernel_rfl
theorem nowA_at {w : World} {m : List Ac} {b off : Nat} (h : ∀ j, j < m.length → A4At w b (off + j * 4) (m.getD j deadA)) :
    ∀ j u, (flA m)[j]? = some u → w.cell? ((⟨b, off, none⟩ : Addr).add j) = some u := by
  intro j u hu
  rw [Addr.add_lit]
  have hj : j < m.length * 4 := by
    rcases Nat.lt_or_ge j (m.length * 4) with h1 | h1
    · exact h1
    · rw [List.getElem?_eq_none (by rw [length_flA]; exact h1)] at hu; cases hu
  obtain ⟨h0, h1, h2, h3⟩ := h (j / 4) (by omega)
  obtain ⟨f0, f1, f2, f3⟩ := flA_get m (j / 4) (by omega)
  have hc : j % 4 = 0 ∨ j % 4 = 1 ∨ j % 4 = 2 ∨ j % 4 = 3 := by omega
  rcases hc with hp | hp | hp | hp
  · have e : j = j / 4 * 4 := by omega
    rw [e] at hu ⊢
    rw [f0] at hu
    rw [← hu]
    exact h0
  · have e : j = j / 4 * 4 + 1 := by omega
    rw [e] at hu ⊢
    rw [f1] at hu
    rw [← hu, ← Nat.add_assoc]
    exact h1
  · have e : j = j / 4 * 4 + 2 := by omega
    rw [e] at hu ⊢
    rw [f2] at hu
    rw [← hu, ← Nat.add_assoc]
    exact h2
  · have e : j = j / 4 * 4 + 3 := by omega
    rw [e] at hu ⊢
    rw [f3] at hu
    rw [← hu, ← Nat.add_assoc]
    exact h3
theorem nowA_row {w : World} {A : Option Addr} {l : List Ac} (h : NowA w A l) (hn : 0 < l.length) : ∃ b off, A = some ⟨b, off, none⟩ ∧ b < w.heap.size ∧ ∀ j, j < l.length → A4At w b (off + j * 4) (l.getD j deadA) := by
  obtain ⟨b, off, e, hlt, _⟩ := h 0 hn
  refine ⟨b, off, e, hlt, fun j hj => ?_⟩
  obtain ⟨b', off', e', _, h0⟩ := h j hj
  rw [e] at e'
  injection e' with e'
  injection e' with e1 e2
  subst e1 e2
  exact h0
theorem appendA_none {w : World} {B : Nat} {v : Value} {out : List Ac} (c : Nat) (ho : OwnA w B v out) :
    (Builtin.append_ #[26, 26] 26 #[v, .slice none 0 c]).run Try.prog w = .ok v w := by
  obtain ⟨i0, hi, hz0, hz1, hz2⟩ := info_parts info_acc
  rcases ho.2 with ⟨rfl, _⟩ | ⟨g, cap, cur, rfl, _, _, hnc, _⟩
  · simp [Builtin.append_, run_underlying Try.underlying26, sizeOf, typeInfo, hi, Builtin.lenOf, Builtin.firstCells]
  · simp [Builtin.append_, run_underlying Try.underlying26, sizeOf, typeInfo, hi, Builtin.lenOf, Builtin.firstCells, storeCells, hnc]
theorem appA_any {w : World} {B : Nat} {v : Value} {out m : List Ac} {A : Option Addr} (c : Nat) (hB : B ≤ w.heap.size) (ho : OwnA w B v out) (hm : NowA w A m) (hl : out.length + m.length ≤ 1000000) :
    ∃ v' w', (Builtin.append_ #[26, 26] 26 #[v, .slice A m.length c]).run Try.prog w = .ok v' w' ∧ OwnA w' B v' (out ++ m) ∧ w.grownBy w' v.ownBlock := by
  obtain ⟨i0, hi, hz0, hz1, hz2⟩ := info_parts info_acc
  by_cases h0 : m.length = 0
  · have : m = [] := List.eq_nil_of_length_eq_zero h0
    subst this
    cases A with
    | none => exact ⟨v, w, appendA_none c ho, by rw [List.append_nil]; exact ho, ⟨rfl, rfl, rfl, Nat.le_refl _, fun _ _ _ => rfl⟩⟩
    | some a =>
      obtain ⟨v', w', hr, h2, h3, _⟩ := run_append_own (P := Try.prog) (w := w) B 26 26 25 i0 (.agg #[.int .i64 0, .int .i64 0, .int .i64 0, .int .i64 0]) 4 32 Try.underlying26 hi hz0 hz1 hz2 rfl (by decide) v out.length (flA out) ho a 0 c [] rfl (fun j u h => by simp at h) (fun u h => by cases h) (by unfold maxLen; omega) (by omega) hB
      exact ⟨v', w', hr, by rw [List.append_nil] at h2 ⊢; exact h2, h3⟩
  · obtain ⟨b, off, rfl, _, hcell⟩ := nowA_row hm (by omega)
    obtain ⟨v', w', hr, h2, h3, _⟩ := run_append_own (P := Try.prog) (w := w) B 26 26 25 i0 (.agg #[.int .i64 0, .int .i64 0, .int .i64 0, .int .i64 0]) 4 32 Try.underlying26 hi hz0 hz1 hz2 rfl (by decide) v out.length (flA out) ho ⟨b, off, none⟩ m.length c (flA m) (length_flA m) (nowA_at hcell) (flA_cell1 m) (by unfold maxLen; omega) (by omega) hB
    refine ⟨v', w', hr, ?_, h3⟩
    show World.ownsRow _ _ _ _ _ _ (flA (out ++ m))
    rw [flA_append, List.length_append]
    exact h2
theorem nowA_new (w : World) (y : Ac) : NowA (w.alloc (.cells #[.int .i64 y.1, .int .i64 y.2.1, .int .i64 y.2.2.1, .int .i64 y.2.2.2] 25)) (some ⟨w.heap.size, 0, none⟩) [y] := fun j hj => by
  have hj1 : j = 0 := by simp at hj; omega
  subst hj1
  exact ⟨w.heap.size, 0, rfl, by simp, by simp, by simp, by simp, by simp⟩
/-- one access more, that lies in a new block -/
theorem pushA_any {w : World} {B : Nat} {v : Value} {out : List Ac} (y : Ac) (hB : B ≤ w.heap.size) (ho : OwnA w B v out) (hl : out.length ≤ 999999) :
    ∃ v' w', (Builtin.append_ #[26, 26] 26 #[v, .slice (some ⟨w.heap.size, 0, none⟩) 1 1]).run Try.prog (w.alloc (.cells #[.int .i64 y.1, .int .i64 y.2.1, .int .i64 y.2.2.1, .int .i64 y.2.2.2] 25)) = .ok v' w' ∧ OwnA w' B v' (out ++ [y]) ∧ w.grownBy w' v.ownBlock ∧ Below B w w' := by
  have ho' : OwnA (w.alloc (.cells #[.int .i64 y.1, .int .i64 y.2.1, .int .i64 y.2.2.1, .int .i64 y.2.2.2] 25)) B v out := World.ownsRow.alloc ho _
  obtain ⟨v', w', hr, h1, h2⟩ := appA_any (m := [y]) 1 (by simp; omega) ho' (nowA_new w y) (by simp; omega)
  exact ⟨v', w', hr, h1, (World.grownBy_alloc w _ _).trans h2, Below.grown ((Below.refl _ _).alloc hB _) h2 (by simp; omega) (fun k e => (World.ownsRow.lt ho' k e).1)⟩
theorem pick10_any (c n : Int) (w : World) (hc : I64 c) (hn : 1 ≤ n) (hn2 : n ≤ 9223372036854775807) :
    Calls Try.prog 10 #[.int .i64 c, .int .i64 n] w fun e w' => e = .returned (.int .i64 (pickI c n)) ∧ w = w' := by
  obtain ⟨h1, h2⟩ := hc
  generalize hr : pickI c n = r
  have HR := Lib.hid hr
  clear hr
  go_enter Try.func10, Try.ntmps10
  go_wp2
  all_goals go_ret
  all_goals refine ⟨?_, rfl⟩
  all_goals (refine Qt.ret_int ?_; rw [← HR.out]; unfold pickI)
  · rw [if_pos (by assumption), ← Int.neg_tmod, Int.tmod_eq_emod_of_nonneg (by omega)]
  · rw [if_neg (by omega)]
/-- what a raw access is read as -/
def accOf (n : Int) (r : Ac) : Ac := (1 + pickI r.1 4, pickI r.2.1 n, pickI r.2.2.1 4, pickI r.2.2.2 4)
def accsTo (n : Int) (raw : List Ac) (k : Nat) : List Ac := (raw.take k).map (accOf n)
def accs (n : Int) (raw : List Ac) : List Ac := accsTo n raw (min raw.length 40)
theorem accsTo_len (n : Int) (raw : List Ac) {k : Nat} (h : k ≤ raw.length) : (accsTo n raw k).length = k := by unfold accsTo; simp; omega
theorem accsTo_succ (n : Int) {raw : List Ac} {k : Nat} (h : k < raw.length) : accsTo n raw (k + 1) = accsTo n raw k ++ [accOf n (raw.getD k deadA)] := by
  unfold accsTo
  rw [List.take_add_one, List.map_append, List.getD_eq_getElem?_getD, List.getElem?_eq_getElem h]
  rfl
def AccR (l : List Ac) (w : World) (r : Ending) (w' : World) : Prop := ∃ v, r = .returned v ∧ OwnA w' w.heap.size v l ∧ Below w.heap.size w w'
set_option maxHeartbeats 4000000 in
theorem accs_any (A : Option Addr) (raw : List Ac) (c : Nat) (n : Int) (w : World) (hR : NowA w A raw) (hl : raw.length ≤ 9223372036854775807) (hw : ∀ j, j < raw.length → Fine4A (raw.getD j deadA)) (hn : 1 ≤ n) (hn2 : n ≤ 1000000) :
    Calls Try.prog 14 #[.slice A raw.length c, .int .i64 n] w (AccR (accs n raw) w) := by
  have HW := Lib.hid hw
  have HR := Lib.hid hR
  clear hw hR
  go_enter Try.func14, Try.ntmps14
  go_wp2
  go_loopw [5, 6] (fun v i wr => ∃ k : Nat, k ≤ raw.length ∧ k ≤ 40 ∧ i = .int .i64 k ∧ Hid (OwnA wr w.heap.size v (accsTo n raw k)) ∧ Below w.heap.size w wr) (fun _ i _ => 40 - (intOf i).toNat)
  case atStart => exact ⟨0, Nat.zero_le _, by omega, rfl, World.ownsRow_nil _ _ _ _, Below.refl _ _⟩
  case round =>
    obtain ⟨k, hk, hk40, rfl, HO, hb⟩ := hrel
    by_cases hlt : k < raw.length ∧ k < 40
    · obtain ⟨hlt1, hlt2⟩ := hlt
      have hltz : (k : Int) < (raw.length : Int) := by omega
      obtain ⟨b, off, rfl, hbB, x0, x1, x2, x3⟩ := HR.out k hlt1
      have fy := HW.out k hlt1
      have hsu := accsTo_succ n hlt1
      have hlen := accsTo_len n raw hk
      obtain ⟨⟨a, b1, c1, d⟩, hy⟩ : ∃ y, y = raw.getD k deadA := ⟨_, rfl⟩
      rw [← hy] at x0 x1 x2 x3 fy hsu
      have HSU := Lib.hid hsu
      simp only at x0 x1 x2 x3
      have q0 := Qt.cell_in (Qt.keep hb x0)
      have q1 := Qt.cell_in (Qt.keep hb x1)
      have q2 := Qt.cell_in (Qt.keep hb x2)
      have q3 := Qt.cell_in (Qt.keep hb x3)
      have p0 := fun W (_ : Below wr.heap.size wr W) => pick10_any a 4 W fy.1 (by omega) (by omega)
      have p1 := fun W (_ : Below wr.heap.size wr W) => pick10_any b1 n W fy.2.1 (by omega) (by omega)
      have p2 := fun W (_ : Below wr.heap.size wr W) => pick10_any c1 4 W fy.2.2.1 (by omega) (by omega)
      have p3 := fun W (_ : Below wr.heap.size wr W) => pick10_any d 4 W fy.2.2.2 (by omega) (by omega)
      have l0 := pickI_bd a 4 (by omega)
      clear x0 x1 x2 x3 hsu hy fy
      go_wp2_with fail
      obtain ⟨A2, c2, hv, hc2, _⟩ := HO.out.slice
      rw [hlen] at hv hc2
      subst hv
      refine Qt.region_late (v := .slice A2 k c2) 28 (by decide) (by kernel_rfl) (by kernel_rfl) rfl ⟨rfl, fun _ => rfl⟩ ?_
      simp only [List.take_succ_cons, List.take_zero, List.drop_succ_cons, List.drop_zero, Act.put, List.setIfInBounds_toArray, List.set_cons_succ, List.set_cons_zero]
      iterate 27 (go_big_quiet_step (first
        | (go_at_call_of 10 a; exact Qt.at_same p0)
        | (go_at_call_of 10 b1; exact Qt.at_same p1)
        | (go_at_call_of 10 c1; exact Qt.at_same p2)
        | (go_at_call_of 10 d; exact Qt.at_same p3)))
      refine wpQuiet_nil ?_
      intro w1 hb1
      have hb3 := Qt.more hb hb.size hb1
      obtain ⟨v', w', hrun, hown, _, hb2⟩ := pushA_any (accOf n (a, b1, c1, d)) hb3.size (HO.out.next hb1) (by rw [hlen]; omega)
      have HRun := Lib.hid hrun
      have HOw : Hid (OwnA w' w.heap.size v' (accsTo n raw (k + 1))) := by show OwnA _ _ _ _; rw [HSU.out]; exact hown
      have HB3 := Lib.hid (hb3.trans hb2)
      clear hrun hown hb3 hb2 hb1 p0 p1 p2 p3 q0 q1 q2 q3
      go_wp2_with (at_builtin; refine Lib.wpList_append_run _ rfl (.tmp 17) (.tmp 45) 26 26 rfl _ _ rfl rfl _ _ HRun.out ?_)
      refine ⟨rfl, ?_⟩
      go_wp2
      go_roundw
      case measure => simp [intOf]; omega
      case rel => exact ⟨k + 1, by omega, by omega, by go_num, HOw, HB3.out⟩
    · have hmin : min raw.length 40 = k := by omega
      have hfin : accs n raw = accsTo n raw k := by unfold accs; rw [hmin]
      have HFin := Lib.hid hfin
      clear hmin hfin
      by_cases h1 : k < raw.length
      · have h2 : ¬ (k < 40) := by omega
        obtain rfl : k = 40 := by omega
        have hltz : ((40 : Nat) : Int) < (raw.length : Int) := by omega
        go_wp2
        go_ret
        exact ⟨_, rfl, by rw [HFin.out]; exact HO.out, hb⟩
      · have hltz : ¬ (k : Int) < (raw.length : Int) := by omega
        go_wp2
        go_ret
        exact ⟨_, rfl, by rw [HFin.out]; exact HO.out, hb⟩
end Go.Proofs.Ythfbcjbiemdedaa
namespace Go.Proofs.Ythfbcjbiemdedaa
set_option maxRecDepth 100000
set_option linter.unusedVariables false
set_option linter.unusedSimpArgs false
open Go.RowKit Go.Sort

theorem now_lit (w : World) (x : Int) : Now (w.alloc (.cells #[.int .i64 x] 3)) (some ⟨w.heap.size, 0, none⟩) [x] := fun j hj => by
  have hj1 : j = 0 := by simp at hj; omega
  subst hj1
  exact ⟨w.heap.size, 0, rfl, by simp, by simp⟩
theorem now_lit3 (w : World) (x y z : Int) : Now (w.alloc (.cells #[.int .i64 x, .int .i64 y, .int .i64 z] 3)) (some ⟨w.heap.size, 0, none⟩) [x, y, z] := fun j hj => by
  have hj1 : j = 0 ∨ j = 1 ∨ j = 2 := by simp at hj; omega
  rcases hj1 with rfl | rfl | rfl
  all_goals exact ⟨w.heap.size, 0, rfl, by simp, by simp⟩
theorem nowA_lit3 (w : World) (x y z : Ac) : NowA (w.alloc (.cells #[.int .i64 x.1, .int .i64 x.2.1, .int .i64 x.2.2.1, .int .i64 x.2.2.2, .int .i64 y.1, .int .i64 y.2.1, .int .i64 y.2.2.1, .int .i64 y.2.2.2, .int .i64 z.1, .int .i64 z.2.1, .int .i64 z.2.2.1, .int .i64 z.2.2.2] 25)) (some ⟨w.heap.size, 0, none⟩) [x, y, z] := fun j hj => by
  have hj1 : j = 0 ∨ j = 1 ∨ j = 2 := by simp at hj; omega
  rcases hj1 with rfl | rfl | rfl
  all_goals exact ⟨w.heap.size, 0, rfl, by simp, by simp, by simp, by simp, by simp⟩
theorem fine_lit {y : Ac} (h : decide (-10 ≤ y.1 ∧ y.1 ≤ 10 ∧ -10 ≤ y.2.1 ∧ y.2.1 ≤ 10 ∧ -10 ≤ y.2.2.1 ∧ y.2.2.1 ≤ 10 ∧ -10 ≤ y.2.2.2 ∧ y.2.2.2 ≤ 10) = true) : Fine4A y := by
  simp only [decide_eq_true_eq] at h
  unfold Fine4A I64
  omega
set_option maxHeartbeats 8000000 in
theorem awake10_any (w : World) : Calls Try.prog 9 #[] w fun e w' => e = .returned (.bool true) ∧ Below w.heap.size w w' := by
  have hI : ∀ x : Int, -10 ≤ x → x ≤ 10 → ∀ y ∈ [x], I64 y := fun x h1 h2 y hy => by simp only [List.mem_singleton] at hy; subst hy; unfold I64; omega
  have HI := Lib.hid hI
  clear hI
  have hba := (Below.refl w.heap.size w).alloc (Nat.le_refl _) (.cells #[.int .i64 0] 3)
  have hbb := hba.alloc (by simp) (.cells #[.int .i64 3, .int .i64 0, .int .i64 0, .int .i64 5, .int .i64 3, .int .i64 0, .int .i64 0, .int .i64 7, .int .i64 1, .int .i64 0, .int .i64 0, .int .i64 0] 25)
  have h1 := memPlay_any (some ⟨w.heap.size, 0, none⟩) (some ⟨w.heap.size + 1, 0, none⟩) [0] [(3, 0, 0, 5), (3, 0, 0, 7), (1, 0, 0, 0)] 1 3 ((w.alloc (.cells #[.int .i64 0] 3)).alloc (.cells #[.int .i64 3, .int .i64 0, .int .i64 0, .int .i64 5, .int .i64 3, .int .i64 0, .int .i64 0, .int .i64 7, .int .i64 1, .int .i64 0, .int .i64 0, .int .i64 0] 25))
    ((now_lit w 0).below ((Below.refl _ _).alloc (Nat.le_refl _) _)) (by simp) (by simp) (HI.out 0 (by decide) (by decide))
    (by have := nowA_lit3 (w.alloc (.cells #[.int .i64 0] 3)) (3, 0, 0, 5) (3, 0, 0, 7) (1, 0, 0, 0); simpa using this)
    (by
      intro j hj
      have hj1 : j = 0 ∨ j = 1 ∨ j = 2 := by simp at hj; omega
      rcases hj1 with rfl | rfl | rfl
      all_goals exact fine_lit (by decide)) (by simp)
  rw [show playA [0] [(3, 0, 0, 5), (3, 0, 0, 7), (1, 0, 0, 0)] [0] [] = ([5], [0, 5, 5], 0) by decide +kernel] at h1
  have HB := Lib.hid hbb
  clear hba hbb
  go_enter Try.func9, Try.ntmps9
  go_wp2_with fail
  refine h1.mono ?_
  rintro r w1 ⟨A1, c1, A2, c2, rfl, hc1, hN1, hc2, hN2, hb1⟩
  have HB1 := Lib.hid (Qt.more HB.out HB.out.size hb1)
  have HN1 := Lib.hid hN1
  have HN2 := Lib.hid hN2
  clear h1 hb1 hN1 hN2 HB
  -- Do, an addition
  have h2 := memDo_any (4, 0, 0, -1) [4] (some ⟨w1.heap.size, 0, none⟩) 1 (w1.alloc (.cells #[.int .i64 4] 3)) (fine_lit (by decide)) (HI.out 4 (by decide) (by decide)) (now_lit w1 4) (by simp) (by simp)
  rw [show doA [4] (4, 0, 0, -1) = ([3], 4, true, 0) by decide +kernel] at h2
  go_wp2_with fail
  refine h2.mono ?_
  rintro r w2 ⟨A3, c3, rfl, hc3, hN3, hb2⟩
  have hbx := Qt.more ((Below.refl w1.heap.size w1).alloc (Nat.le_refl _) (.cells #[.int .i64 4] 3)) (by simp) hb2
  have HB2 := Lib.hid (Qt.more HB1.out HB1.out.size hbx)
  have HN12 := Lib.hid (HN1.out.below hbx)
  have HN22 := Lib.hid (HN2.out.below hbx)
  have HN32 := Lib.hid hN3
  clear h2 hbx hb2 hN3 HN1 HN2 HB1
  -- Do, of no word
  have h3 := memDo_any (1, 0, 0, 0) [] none 0 w2 (fine_lit (by decide)) (by simp) (now_nil _ _) (by simp) (by simp)
  rw [show doA [] (1, 0, 0, 0) = ([], 0, false, 2) by decide +kernel] at h3
  go_wp2_with fail
  refine h3.mono ?_
  rintro r w3 ⟨A4, c4, rfl, hc4, _, hb3⟩
  have HB3 := Lib.hid (Qt.more HB2.out HB2.out.size hb3)
  have HN13 := Lib.hid (HN12.out.below hb3)
  have HN23 := Lib.hid (HN22.out.below hb3)
  have HN33 := Lib.hid (HN32.out.below hb3)
  clear h3 hb3 HN12 HN22 HN32 HB2
  -- Do, a swap that is not done
  have h4 := memDo_any (3, 0, 3, 0) [4] (some ⟨w3.heap.size, 0, none⟩) 1 (w3.alloc (.cells #[.int .i64 4] 3)) (fine_lit (by decide)) (HI.out 4 (by decide) (by decide)) (now_lit w3 4) (by simp) (by simp)
  rw [show doA [4] (3, 0, 3, 0) = ([4], 4, false, 0) by decide +kernel] at h4
  go_wp2_with fail
  refine h4.mono ?_
  rintro r w4 ⟨A5, c5, rfl, hc5, _, hb4⟩
  have hbx := Qt.more ((Below.refl w3.heap.size w3).alloc (Nat.le_refl _) (.cells #[.int .i64 4] 3)) (by simp) hb4
  have HB4 := Lib.hid (Qt.more HB3.out HB3.out.size hbx)
  have HN14 := Lib.hid (HN13.out.below hbx)
  have HN24 := Lib.hid (HN23.out.below hbx)
  have HN34 := Lib.hid (HN33.out.below hbx)
  clear h4 hbx hb4 HN13 HN23 HN33 HB3
  -- Do, of no kind
  have h5 := memDo_any (0, 0, 0, 0) [4] (some ⟨w4.heap.size, 0, none⟩) 1 (w4.alloc (.cells #[.int .i64 4] 3)) (fine_lit (by decide)) (HI.out 4 (by decide) (by decide)) (now_lit w4 4) (by simp) (by simp)
  rw [show doA [4] (0, 0, 0, 0) = ([4], 0, false, 1) by decide +kernel] at h5
  go_wp2_with fail
  refine h5.mono ?_
  rintro r w5 ⟨A6, c6, rfl, hc6, _, hb5⟩
  have hbx := Qt.more ((Below.refl w4.heap.size w4).alloc (Nat.le_refl _) (.cells #[.int .i64 4] 3)) (by simp) hb5
  have HB5 := Lib.hid (Qt.more HB4.out HB4.out.size hbx)
  have HN15 := Lib.hid (HN14.out.below hbx)
  have HN25 := Lib.hid (HN24.out.below hbx)
  have HN35 := Lib.hid (HN34.out.below hbx)
  clear h5 hbx hb5 HN14 HN24 HN34 HB4
  go_wp2_with fail
  have hw6 := (Below.refl w5.heap.size w5).alloc (Nat.le_refl _) (.cells #[.int .i64 5] 3)
  refine (ints_yes (HN15.out.below hw6) (now_lit w5 5) rfl rfl (by simp) rfl).mono ?_
  rintro r w6 ⟨rfl, hb6⟩
  have hbx := Qt.more hw6 hw6.size hb6
  have HB6 := Lib.hid (Qt.more HB5.out HB5.out.size hbx)
  have HN26 := Lib.hid (HN25.out.below hbx)
  have HN36 := Lib.hid (HN35.out.below hbx)
  clear hw6 hb6 hbx HN15 HN25 HN35 HB5
  go_wp2_with fail
  have hw7 := (Below.refl w6.heap.size w6).alloc (Nat.le_refl _) (.cells #[.int .i64 0, .int .i64 5, .int .i64 5] 3)
  refine (ints_yes (HN26.out.below hw7) (now_lit3 w6 0 5 5) rfl rfl (by simp) rfl).mono ?_
  rintro r w7 ⟨rfl, hb7⟩
  have hbx := Qt.more hw7 hw7.size hb7
  have HB7 := Lib.hid (Qt.more HB6.out HB6.out.size hbx)
  have HN37 := Lib.hid (HN36.out.below hbx)
  clear hw7 hb7 hbx HN26 HN36 HB6
  go_wp2_with fail
  have hw8 := (Below.refl w7.heap.size w7).alloc (Nat.le_refl _) (.cells #[.int .i64 3] 3)
  refine (ints_yes (HN37.out.below hw8) (now_lit w7 3) rfl rfl (by simp) rfl).mono ?_
  rintro r w8 ⟨rfl, hb8⟩
  have HB8 := Lib.hid (Qt.more HB7.out HB7.out.size (Qt.more hw8 hw8.size hb8))
  clear hw8 hb8 HN37 HB7
  go_wp2_with fail
  go_ret
  exact ⟨rfl, HB8.out⟩
end Go.Proofs.Ythfbcjbiemdedaa
namespace Go.Proofs.Ythfbcjbiemdedaa
set_option maxRecDepth 100000
set_option linter.unusedVariables false
set_option linter.unusedSimpArgs false
open Go.RowKit Go.Sort

theorem fine4 {a b c d : Int} (h : (-1152921504606846976 ≤ a ∧ a ≤ 1152921504606846976) ∧ (-1152921504606846976 ≤ b ∧ b ≤ 1152921504606846976) ∧ (-1152921504606846976 ≤ c ∧ c ≤ 1152921504606846976) ∧ (-1152921504606846976 ≤ d ∧ d ≤ 1152921504606846976)) : Fine4A (a, b, c, d) := by
  show I64 a ∧ I64 b ∧ I64 c ∧ I64 d
  unfold I64
  omega
theorem swap_yes (a x z : Int) (h1 : -1152921504606846975 ≤ z) (h2 : z ≤ 1152921504606846975) : doA [a, x] (3, 1, x, z) = ([a, z], x, true, 0) := by
  simp [doA, knownA, mayW, toA, h1, h2]
theorem swap_no (a x y z : Int) (h : y ≠ x) (h1 : -1152921504606846975 ≤ z) (h2 : z ≤ 1152921504606846975) : doA [a, y] (3, 1, x, z) = ([a, y], y, false, 0) := by
  simp [doA, knownA, mayW, toA, h1, h2, h]
theorem now_lit2 (w : World) (x y : Int) : Now (w.alloc (.cells #[.int .i64 x, .int .i64 y] 3)) (some ⟨w.heap.size, 0, none⟩) [x, y] := fun j hj => by
  have hj1 : j = 0 ∨ j = 1 := by simp at hj; omega
  rcases hj1 with rfl | rfl
  all_goals exact ⟨w.heap.size, 0, rfl, by simp, by simp⟩
set_option maxHeartbeats 8000000 in
theorem memWins_law (old : Int) (A : Option Addr) (news : List Int) (c : Nat) (w : World) (ho : I64 old) (hR : Now w A news) (hl : news.length ≤ 9223372036854775807) (hw : ∀ j, j < news.length → I64 (news.getD j 0)) :
    Calls Try.prog 5 #[.int .i64 old, .slice A news.length c] w fun e w' => e = .returned (.bool true) ∧ Below w.heap.size w w' := by
  have HR := Lib.hid hR
  have HW := Lib.hid hw
  clear hR hw
  go_enter Try.func5, Try.ntmps5
  go_wp2_with fail
  refine (awake10_any w).mono ?_
  rintro r w1 ⟨rfl, hb1⟩
  have HB1 := Lib.hid hb1
  clear hb1
  go_wp2_with fail
  refine (pick10_any old 100 w1 ho (by decide) (by decide)).mono ?_
  rintro r w2 ⟨rfl, rfl⟩
  have hx := pickI_bd old 100 (by decide)
  obtain ⟨x, hxx⟩ : ∃ x, x = pickI old 100 := ⟨_, rfl⟩
  rw [← hxx] at hx ⊢
  clear hxx ho
  have HN0 := Lib.hid (now_lit2 w1 7 x)
  have HB2 : Hid (Below w.heap.size w (w1.alloc (.cells #[.int .i64 7, .int .i64 x] 3))) := HB1.out.alloc HB1.out.size _
  clear HB1
  go_wp2_with fail
  generalize w1.alloc (.cells #[.int .i64 7, .int .i64 x] 3) = w3 at *
  generalize w1.heap.size = q at *
  go_loopw [7, 8] (fun m i wr => ∃ (k : Nat) (A1 : Option Addr) (c1 : Nat), k ≤ 20 ∧ k ≤ news.length ∧ i = .int .i64 k ∧ m = .slice A1 2 c1 ∧ 2 ≤ c1 ∧ Hid (Now wr A1 [7, if k = 0 then x else x + 1 + pickI (news.getD 0 0) 100] ∧ Below w.heap.size w wr)) (fun _ i _ => 20 - (intOf i).toNat)
  case atStart => exact ⟨0, _, 2, by omega, Nat.zero_le _, rfl, rfl, by omega, (show Hid _ from ⟨HN0.out, HB2.out⟩)⟩
  case round =>
    obtain ⟨k, A1, c1, hk20, hk, rfl, rfl, hc1, HH⟩ := hrel
    by_cases hlt : k < news.length ∧ k < 20
    · obtain ⟨hlt1, hlt2⟩ := hlt
      have hltz : (k : Int) < (news.length : Int) := by omega
      obtain ⟨b, off, rfl, hbB, hcell⟩ := Rd.at_ HR.out (by omega)
      have y0 := (HH.out.2.cell (p := ⟨b, off + 0, none⟩) hbB).trans (hcell 0 (by omega))
      have y1 := (HH.out.2.cell (p := ⟨b, off + k, none⟩) hbB).trans (hcell k hlt1)
      have i0 := HW.out 0 (by omega)
      have i1 := HW.out k hlt1
      obtain ⟨n0, hn0⟩ : ∃ n0, n0 = news.getD 0 0 := ⟨_, rfl⟩
      obtain ⟨n1, hn1⟩ : ∃ n1, n1 = news.getD k 0 := ⟨_, rfl⟩
      have HN := HH.out.1
      rw [← hn0] at y0 i0 HN
      rw [← hn1] at y1 i1
      have HY := Lib.hid (And.intro hn0 hn1)
      clear hn0 hn1 hcell
      have z0 := pickI_bd n0 100 (by decide)
      have z1 := pickI_bd n1 100 (by decide)
      have hp1 := pick10_any n1 100 wr i1 (by decide) (by decide)
      obtain ⟨p0, hp0⟩ : ∃ p0, p0 = pickI n0 100 := ⟨_, rfl⟩
      obtain ⟨p1, hpp⟩ : ∃ p1, p1 = pickI n1 100 := ⟨_, rfl⟩
      rw [← hp0] at z0 HN
      rw [← hpp] at z1 hp1
      have HP := Lib.hid (And.intro hp0 hpp)
      have HNN := Lib.hid HN
      have hA0 : off + 0 = off := Nat.add_zero _
      rw [hA0] at y0
      clear hp0 hpp HN hA0
      go_wp2_with fail
      refine hp1.mono ?_
      rintro r w4 ⟨rfl, rfl⟩
      clear hp1
      have hM : ∀ v ∈ [7, if k = 0 then x else x + 1 + p0], I64 v := fun v hv => by
        simp only [List.mem_cons, List.not_mem_nil, or_false] at hv
        unfold I64
        rcases hv with rfl | rfl
        · omega
        · split <;> omega
      have hdo := memDo_any (3, 1, x, x + 1 + p1) [7, if k = 0 then x else x + 1 + p0] A1 c1 wr (fine4 (by omega)) hM HNN.out hc1 (by simp)
      have hd : doA [7, if k = 0 then x else x + 1 + p0] (3, 1, x, x + 1 + p1) = ([7, x + 1 + p0], if k = 0 then x else x + 1 + p0, decide (k = 0), 0) := by
        by_cases hk0 : k = 0
        · rw [if_pos hk0, decide_eq_true hk0]
          have e1 : p1 = p0 := by rw [HP.out.2, HP.out.1, HY.out.2, HY.out.1, hk0]
          rw [e1]
          exact swap_yes 7 x _ (by omega) (by omega)
        · rw [if_neg hk0, decide_eq_false hk0]
          exact swap_no 7 x _ _ (by omega) (by omega) (by omega)
      rw [hd] at hdo
      obtain ⟨xx, hxx⟩ : ∃ xx, xx = if k = 0 then x else x + 1 + p0 := ⟨_, rfl⟩
      rw [← hxx] at hdo
      clear hM hd hxx
      go_wp2_with fail
      refine hdo.mono ?_
      rintro r w5 ⟨A2, c2, rfl, hc2, hN2, hb5⟩
      have hb6 := Qt.more HH.out.2 HH.out.2.size hb5
      obtain ⟨g, hgo, hA2, hgB, hg⟩ := Rd.at_ hN2 (by simp)
      subst hA2
      have m0 := Qt.cell_in (show w5.cell? ⟨g, hgo, none⟩ = some (.int .i64 7) by have := hg 0 (by simp); simpa using this)
      have m1 := Qt.cell_in (show w5.cell? ⟨g, hgo + 1, none⟩ = some (.int .i64 (x + 1 + p0)) by have := hg 1 (by simp); simpa using this)
      have v0 := Qt.cell_in (Qt.keep hb5 y0)
      have hpk := fun W (_ : Below w5.heap.size w5 W) => pick10_any n0 100 W i0 (by decide) (by decide)
      rw [← HP.out.1] at hpk
      have HN2 := Lib.hid hN2
      have HB6 := Lib.hid hb6
      have hke : ((k : Int) == 0) = decide (k = 0) := by
        by_cases hk0 : k = 0
        · subst hk0; rfl
        · rw [decide_eq_false hk0]; exact beq_eq_false_iff_ne.2 (by omega)
      have s1 : IntKind.i64.wrap (x + 1) = x + 1 := by rw [IntKind.wrap_i64]; omega
      have s2 : IntKind.i64.wrap (x + 1 + p0) = x + 1 + p0 := by rw [IntKind.wrap_i64]; omega
      clear hdo hN2 hb5 hb6 hg y0 y1 HH
      go_wp2_with fail
      obtain ⟨d, hd⟩ : ∃ d, d = decide (k = 0) := ⟨_, rfl⟩
      rw [← hd] at hke ⊢
      clear hd
      refine Qt.below_all (by kernel_rfl) (by kernel_rfl) ?_
      cases d
      all_goals
        repeat (go_big_quiet_step (first | (go_at_call 10; exact Qt.at_same hpk)))
        refine wpQuiet_nil ?_
        intro w7 hb7
        have HN3 := Lib.hid (HN2.out.below hb7)
        have HB7 := Lib.hid (Qt.more HB6.out HB6.out.size hb7)
        clear hpk m0 m1 v0 hb7 hke s1 s2
        go_wp2_with fail
        go_roundw
        case measure => simp [intOf]; omega
        case rel => exact ⟨k + 1, _, c2, by omega, by omega, by go_num, rfl, hc2, (show Hid _ from ⟨by rw [if_neg (by omega), ← HY.out.1, ← HP.out.1]; exact HN3.out, HB7.out⟩)⟩
    · by_cases h1 : k < news.length
      · have h2 : ¬ (k < 20) := by omega
        obtain rfl : k = 20 := by omega
        have hltz : ((20 : Nat) : Int) < (news.length : Int) := by omega
        go_wp2_with fail
        go_ret
        exact ⟨rfl, HH.out.2⟩
      · have hltz : ¬ (k : Int) < (news.length : Int) := by omega
        go_wp2_with fail
        go_ret
        exact ⟨rfl, HH.out.2⟩
end Go.Proofs.Ythfbcjbiemdedaa
namespace Go.Proofs.Ythfbcjbiemdedaa
set_option linter.unusedVariables false
set_option linter.unusedSimpArgs false

/-- what stands at an access's place then -/
def nwA (y : Ac) (x : Int) : Int := if y.1 = 1 then x else if y.1 = 3 ∧ x ≠ y.2.2.1 then x else toA y x
def dnA (y : Ac) (x : Int) : Bool := decide (¬ (y.1 = 3 ∧ x ≠ y.2.2.1))
/-- a small access to so many words -/
structure OkA (L : Nat) (y : Ac) : Prop where
  k1 : 1 ≤ y.1
  k4 : y.1 ≤ 4
  a0 : 0 ≤ y.2.1
  aL : y.2.1 < L
  n0 : -1000 ≤ y.2.2.2
  n1 : y.2.2.2 ≤ 1000
def SmallW (b : Int) (m : List Int) : Prop := ∀ x ∈ m, -b ≤ x ∧ x ≤ b
theorem SmallW.get {b : Int} {m : List Int} (h : SmallW b m) (hb : 0 ≤ b) (j : Nat) : -b ≤ m.getD j 0 ∧ m.getD j 0 ≤ b := by
  rw [List.getD_eq_getElem?_getD]
  by_cases hj : j < m.length
  · rw [List.getElem?_eq_getElem hj]; exact h _ (List.getElem_mem hj)
  · rw [List.getElem?_eq_none (by omega)]; simp; omega
theorem set_self {m : List Int} {j : Nat} (h : j < m.length) : m.set j (m.getD j 0) = m := by
  rw [List.getD_eq_getElem?_getD, List.getElem?_eq_getElem h]
  exact List.set_getElem_self h
theorem nwA_bd {y : Ac} {x b : Int} (hn0 : -1000 ≤ y.2.2.2) (hn1 : y.2.2.2 ≤ 1000) (h : -b ≤ x ∧ x ≤ b) (hb : 0 ≤ b) : -(b + 1000) ≤ nwA y x ∧ nwA y x ≤ b + 1000 := by
  unfold nwA toA
  split
  · omega
  split
  · omega
  split <;> omega
theorem doA_small {m : List Int} {y : Ac} {b : Int} (ho : OkA m.length y) (hs : SmallW b m) (hb : 0 ≤ b) (hb2 : b + 1000 ≤ 1152921504606846975) (hl : m.length ≤ 100000) :
    doA m y = (m.set y.2.1.toNat (nwA y (m.getD y.2.1.toNat 0)), m.getD y.2.1.toNat 0, dnA y (m.getD y.2.1.toNat 0), 0) := by
  obtain ⟨k1, k4, a0, aL, n0, n1⟩ := ho
  have hx := hs.get hb y.2.1.toNat
  have hk : knownA y.1 = true := by simp [knownA, k1, k4]
  have hj : y.2.1.toNat < m.length := by omega
  obtain ⟨x, hxx⟩ : ∃ x, x = m.getD y.2.1.toNat 0 := ⟨_, rfl⟩
  have hset : m.set y.2.1.toNat x = m := by rw [hxx]; exact set_self hj
  unfold doA
  rw [if_neg (by
    rintro (h | h)
    · rw [hk] at h; cases h
    · omega), if_neg (by omega)]
  rw [← hxx] at hx ⊢
  by_cases h1 : y.1 = 1
  · rw [if_pos h1]
    unfold nwA dnA
    rw [if_pos h1, hset, decide_eq_true (by omega)]
  · rw [if_neg h1]
    have hm : mayW (toA y x) = true := by
      unfold mayW toA
      rw [Bool.and_eq_true, decide_eq_true_eq, decide_eq_true_eq]
      split <;> omega
    rw [if_neg (by rw [hm]; simp)]
    unfold nwA dnA
    rw [if_neg h1]
    by_cases h3 : y.1 = 3 ∧ x ≠ y.2.2.1
    · rw [if_pos h3, if_pos h3, hset, decide_eq_false (by simpa using h3)]
    · rw [if_neg h3, if_neg h3, decide_eq_true h3]
theorem small_set {m : List Int} {b : Int} {j : Nat} {v : Int} (hs : SmallW b m) (hv : -(b + 1000) ≤ v ∧ v ≤ b + 1000) (hb : 0 ≤ b) : SmallW (b + 1000) (m.set j v) := fun x hx => by
  rcases List.mem_or_eq_of_mem_set hx with h | h
  · have := hs x h; omega
  · rw [h]; exact hv
theorem good_of (l : List Ac) : ∀ (m : List Int) (b : Int), SmallW b m → 0 ≤ b → (∀ y ∈ l, OkA m.length y) → b + 1000 * l.length ≤ 1152921504606846975 → m.length ≤ 100000 → GoodA m l ∧ SmallW (b + 1000 * l.length) (wordsA m l) := by
  induction l with
  | nil => intro m b hs hb _ _ _; exact ⟨trivial, by simpa [wordsA] using hs⟩
  | cons y l ih =>
    intro m b hs hb ho hb2 hl
    rw [List.length_cons] at hb2
    have hd := doA_small (ho y (by simp)) hs hb (by omega) hl
    have hs2 : SmallW (b + 1000) (doA m y).1 := by
      rw [hd]
      exact small_set hs (nwA_bd (ho y (by simp)).n0 (ho y (by simp)).n1 (hs.get hb _) hb) hb
    obtain ⟨h1, h2⟩ := ih (doA m y).1 (b + 1000) hs2 (by omega) (fun z hz => by rw [doA_len]; exact ho z (by simp [hz])) (by omega) (by rw [doA_len]; exact hl)
    refine ⟨⟨by rw [hd], h1⟩, ?_⟩
    show SmallW _ (wordsA (doA m y).1 l)
    rw [List.length_cons, show b + 1000 * ((l.length + 1 : Nat) : Int) = b + 1000 + 1000 * (l.length : Int) by omega]
    exact h2
theorem getD_setW {m : List Int} {i j : Nat} (h : i ≠ j) (v : Int) : (m.set i v).getD j 0 = m.getD j 0 := by
  rw [List.getD_eq_getElem?_getD, List.getD_eq_getElem?_getD, List.getElem?_set_ne h]
/-- two accesses to unlike words, in either order -/
theorem two_apart {m : List Int} {y z : Ac} {b : Int} (hy : OkA m.length y) (hz : OkA m.length z) (hne : y.2.1 ≠ z.2.1) (hs : SmallW b m) (hb : 0 ≤ b) (hb2 : b + 3000 ≤ 1152921504606846975) (hl : m.length ≤ 100000) :
    ∃ W p q, playA m [y, z] m [] = (W, [p, q], 0) ∧ playA m [z, y] m [] = (W, [q, p], 0) ∧ W.length = m.length := by
  have hyz : y.2.1.toNat ≠ z.2.1.toNat := by have := hy.a0; have := hz.a0; omega
  have two : ∀ (u v : Ac), OkA m.length u → OkA m.length v → u.2.1.toNat ≠ v.2.1.toNat →
      playA m [u, v] m [] = ((m.set u.2.1.toNat (nwA u (m.getD u.2.1.toNat 0))).set v.2.1.toNat (nwA v (m.getD v.2.1.toNat 0)), [m.getD u.2.1.toNat 0, m.getD v.2.1.toNat 0], 0) := by
    intro u v hu hv huv
    have h1 := doA_small hu hs hb (by omega) hl
    have hs2 := small_set (j := u.2.1.toNat) hs (nwA_bd hu.n0 hu.n1 (hs.get hb u.2.1.toNat) hb) hb
    have h2 := doA_small (m := m.set u.2.1.toNat (nwA u (m.getD u.2.1.toNat 0))) (y := v) (b := b + 1000) (by rw [List.length_set]; exact hv) hs2 (by omega) (by omega) (by rw [List.length_set]; exact hl)
    rw [playA_cons, h1]
    simp only [if_true]
    rw [playA_cons, h2]
    simp only [if_true]
    rw [getD_setW huv]
    rfl
  refine ⟨_, _, _, two y z hy hz hyz, ?_, by simp⟩
  rw [two z y hz hy (Ne.symm hyz), List.set_comm _ _ hyz]
/-- an addition -/
def addA (n : Int) : Ac := (4, 1, 0, n)
def sumI : List Int → Int
  | [] => 0
  | x :: l => x + sumI l
theorem sumI_append (l m : List Int) : sumI (l ++ m) = sumI l + sumI m := by
  induction l with
  | nil => simp [sumI]
  | cons x l ih => simp [sumI, ih]; omega
theorem sumI_turn (l : List Int) (k : Nat) : sumI (l.drop k ++ l.take k) = sumI l := by
  rw [sumI_append, Int.add_comm, ← sumI_append, List.take_append_drop]
theorem adds_play (l : List Int) : ∀ (s b : Int), -b ≤ s → s ≤ b → 0 ≤ b → (∀ x ∈ l, -500 ≤ x ∧ x ≤ 500) → b + 1000 * l.length ≤ 1000000000 →
    GoodA [5, s, 6] (l.map addA) ∧ wordsA [5, s, 6] (l.map addA) = [5, s + sumI l, 6] := by
  induction l with
  | nil => intro s b _ _ _ _ _; simp [GoodA, wordsA, sumI]
  | cons x l ih =>
    intro s b h1 h2 hb hx hl
    have hx0 := hx x (by simp)
    rw [List.length_cons] at hl
    have hd : doA [5, s, 6] (addA x) = ([5, s + x, 6], s, true, 0) := by
      have hm : mayW (s + x) = true := by unfold mayW; rw [Bool.and_eq_true, decide_eq_true_eq, decide_eq_true_eq]; omega
      simp [doA, addA, knownA, toA, hm]
    obtain ⟨h3, h4⟩ := ih (s + x) (b + 1000) (by omega) (by omega) (by omega) (fun z hz => hx z (by simp [hz])) (by omega)
    rw [List.map_cons]
    refine ⟨⟨by rw [hd], by rw [hd]; exact h3⟩, ?_⟩
    show wordsA (doA [5, s, 6] (addA x)).1 _ = _
    rw [hd, h4]
    simp [sumI]
    omega
/-- what the additions find -/
theorem adds_found (l : List Int) : ∀ (s b : Int), -b ≤ s → s ≤ b → 0 ≤ b → (∀ x ∈ l, -500 ≤ x ∧ x ≤ 500) → b + 1000 * l.length ≤ 1000000000 → ∀ i, i < l.length → (foundA [5, s, 6] (l.map addA)).getD i 0 = s + sumI (l.take i) := by
  induction l with
  | nil => intro s b _ _ _ _ _ i hi; exact absurd hi (Nat.not_lt_zero i)
  | cons x l ih =>
    intro s b h1 h2 hb hx hl i hi
    have hx0 := hx x (by simp)
    rw [List.length_cons] at hl
    have hd : doA [5, s, 6] (addA x) = ([5, s + x, 6], s, true, 0) := by
      have hm : mayW (s + x) = true := by unfold mayW; rw [Bool.and_eq_true, decide_eq_true_eq, decide_eq_true_eq]; omega
      simp [doA, addA, knownA, toA, hm]
    rw [List.map_cons]
    show ((doA [5, s, 6] (addA x)).2.1 :: foundA (doA [5, s, 6] (addA x)).1 (l.map addA)).getD i 0 = _
    rw [hd]
    cases i with
    | zero => simp [sumI]
    | succ i =>
      have := ih (s + x) (b + 1000) (by omega) (by omega) (by omega) (fun z hz => hx z (by simp [hz])) (by omega) i (by simpa using hi)
      simp only [List.getD_cons_succ]
      rw [this]
      simp [sumI]
      omega
end Go.Proofs.Ythfbcjbiemdedaa
namespace Go.Proofs.Ythfbcjbiemdedaa
set_option maxRecDepth 100000
set_option linter.unusedVariables false
set_option linter.unusedSimpArgs false
open Go.RowKit Go.Sort

theorem append_guarded {P : Program} (w : World) {ops : Array Oper} {rest : List Oper} {o : Oper} {a : Act} {Q : Exit → Act → World → Prop} (hg : Region.wanted o (yielded ops a.tmps) = true) (s x : Operand) (t tn : TypeId)
    (ho : o.op = .call { callee := .builtin .append, args := #[s, x], argTypes := #[t, tn] }) (vs vx : Value) (hs : a.eval s = vs) (hx : a.eval x = vx)
    (v' : Value) (w' : World) (hr : (Builtin.append_ #[t, tn] o.type #[vs, vx]).run P w = .ok v' w') (h : wpList P ops Q rest (a.put o.dst v') w') : wpList P ops Q (o :: rest) a w := by
  unfold wpList
  rw [if_pos hg]
  exact .inl (Lib.wp_append_run w s x t tn ho vs vx hs hx v' w' hr h)
theorem accs_ok {n : Int} (hn : 1 ≤ n) (raw : List Ac) : ∀ y ∈ accs n raw, 1 ≤ y.1 ∧ y.1 ≤ 4 ∧ 0 ≤ y.2.1 ∧ y.2.1 < n ∧ 0 ≤ y.2.2.1 ∧ y.2.2.1 ≤ 3 ∧ 0 ≤ y.2.2.2 ∧ y.2.2.2 ≤ 3 := by
  intro y hy
  unfold accs accsTo at hy
  obtain ⟨r, _, rfl⟩ := List.mem_map.1 hy
  have h1 := pickI_bd r.1 4 (by omega)
  have h2 := pickI_bd r.2.1 n hn
  have h3 := pickI_bd r.2.2.1 4 (by omega)
  have h4 := pickI_bd r.2.2.2 4 (by omega)
  simp only [accOf]
  omega
theorem accs_len (n : Int) (raw : List Ac) : (accs n raw).length ≤ 40 := by
  unfold accs
  rw [accsTo_len n raw (Nat.min_le_left _ _)]
  omega
theorem mem_getD {l : List Ac} {j : Nat} (h : j < l.length) : l.getD j deadA ∈ l := by
  rw [List.getD_eq_getElem?_getD, List.getElem?_eq_getElem h]
  exact List.getElem_mem h
theorem accs_fine {n : Int} (hn : 1 ≤ n) (hn2 : n ≤ 1000000) {raw l : List Ac} (hs : ∀ y ∈ l, y ∈ accs n raw) : ∀ j, j < l.length → Fine4A (l.getD j deadA) := fun j hj => by
  have h := accs_ok hn raw _ (hs _ (mem_getD hj))
  obtain ⟨⟨a, b, c, d⟩, e⟩ : ∃ y, y = l.getD j deadA := ⟨_, rfl⟩
  rw [← e] at h ⊢
  simp only at h
  exact fine4 (by omega)
theorem small_i64 {b : Int} {m : List Int} (h : SmallW b m) (hb : b ≤ 1152921504606846975) : ∀ x ∈ m, I64 x := fun x hx => by
  have := h x hx
  unfold I64
  omega
/-- where an own slice of accesses lies -/
theorem ownA_shape {w : World} {B : Nat} {v : Value} {l : List Ac} (h : OwnA w B v l) : ∃ A c, v = .slice A l.length c ∧ l.length ≤ c ∧ c ≤ maxLen ∧ NowA w A l ∧ ((A = none ∧ c = 0 ∧ l.length = 0) ∨ ∃ g, A = some ⟨g, 0, none⟩) := by
  obtain ⟨A, c, e, hc, hN⟩ := h.slice
  rcases h.2 with ⟨h1, h0⟩ | ⟨g, cap, cur, h1, _, _, _, hcap, _⟩
  · rw [e] at h1
    injection h1 with e1 e2 e3
    subst e1 e3
    exact ⟨none, 0, e, hc, by unfold maxLen; omega, hN, .inl ⟨rfl, rfl, h0⟩⟩
  · rw [e] at h1
    injection h1 with e1 e2 e3
    subst e1 e3
    exact ⟨_, _, e, hc, hcap, hN, .inr ⟨g, rfl⟩⟩
theorem sliceA_to {A : Option Addr} {n c t : Nat} (hs : (A = none ∧ c = 0 ∧ n = 0) ∨ ∃ g, A = some ⟨g, 0, none⟩) (ht : t ≤ n) (hc : n ≤ c) (hm : c ≤ maxLen) :
    ∀ W, (Instr.slice 26 (.slice A n c) none (some (.int .i64 (t : Int))) none).run Try.prog W = .ok (.slice A t c) W := by
  unfold maxLen at hm
  intro W
  rcases hs with ⟨rfl, rfl, rfl⟩ | ⟨g, rfl⟩
  · obtain rfl : t = 0 := by omega
    go_simp
  · have htc : t ≤ c := by omega
    go_simp
theorem sliceA_from {w : World} {A : Option Addr} {l : List Ac} {n c t : Nat} (hs : (A = none ∧ c = 0 ∧ n = 0) ∨ ∃ g, A = some ⟨g, 0, none⟩) (hN : NowA w A l) (hn : n = l.length) (ht : t ≤ n) (hc : n ≤ c) (hm : c ≤ maxLen) :
    ∃ AT cT, NowA w AT (l.drop t) ∧ n - t ≤ cT ∧ ∀ W, (Instr.slice 26 (.slice A n c) (some (.int .i64 (t : Int))) none none).run Try.prog W = .ok (.slice AT (n - t) cT) W := by
  subst hn
  unfold maxLen at hm
  rcases hs with ⟨rfl, rfl, h0⟩ | ⟨g, rfl⟩
  · obtain rfl : l = [] := List.eq_nil_of_length_eq_zero h0
    obtain rfl : t = 0 := by simpa using ht
    refine ⟨none, 0, (fun j hj => by simp at hj), by simp, fun W => ?_⟩
    go_simp
  · refine ⟨if c = t then (some ⟨g, 0, none⟩ : Option Addr) else some ⟨g, t * 4, none⟩, c - t, ?_, by omega, fun W => ?_⟩
    · by_cases htl2 : t < l.length
      · rw [if_neg (by omega)]
        intro j hj
        rw [List.length_drop] at hj
        obtain ⟨b, off, e, hb, h4⟩ := hN (t + j) (by omega)
        injection e with e
        injection e with e1 e2
        subst e1 e2
        refine ⟨g, t * 4, rfl, hb, ?_⟩
        have e5 : (l.drop t).getD j deadA = l.getD (t + j) deadA := by simp [List.getD_eq_getElem?_getD, List.getElem?_drop]
        rw [e5]
        rw [show 0 + (t + j) * 4 = t * 4 + j * 4 by omega] at h4
        exact h4
      · rw [List.drop_eq_nil_of_le (by omega)]
        exact fun j hj => absurd hj (Nat.not_lt_zero j)
    · go_simp
theorem now_lit5 (w : World) (a b c d e : Int) : Now (w.alloc (.cells #[.int .i64 a, .int .i64 b, .int .i64 c, .int .i64 d, .int .i64 e] 3)) (some ⟨w.heap.size, 0, none⟩) [a, b, c, d, e] := fun j hj => by
  have hj1 : j = 0 ∨ j = 1 ∨ j = 2 ∨ j = 3 ∨ j = 4 := by simp at hj; omega
  rcases hj1 with rfl | rfl | rfl | rfl | rfl
  all_goals exact ⟨w.heap.size, 0, rfl, by simp, by simp⟩
set_option maxHeartbeats 8000000 in
theorem memParts_law (A : Option Addr) (raw : List Ac) (c : Nat) (at_ : Int) (w : World) (hR : NowA w A raw) (hl : raw.length ≤ 9223372036854775807) (hc : raw.length ≤ c) (hw : ∀ j, j < raw.length → Fine4A (raw.getD j deadA)) (ha : I64 at_) :
    Calls Try.prog 6 #[.slice A raw.length c, .int .i64 at_] w fun e w' => e = .returned (.bool true) ∧ Below w.heap.size w w' := by
  have HR := Lib.hid hR
  have HW := Lib.hid hw
  clear hR hw
  go_enter Try.func6, Try.ntmps6
  go_wp2_with fail
  refine (awake10_any w).mono ?_
  rintro r w1 ⟨rfl, hb1⟩
  have HB1 := Lib.hid hb1
  clear hb1
  have HN0 := Lib.hid (now_lit5 w1 0 1 2 3 0)
  have HB2 : Hid (Below w.heap.size w (w1.alloc (.cells #[.int .i64 0, .int .i64 1, .int .i64 2, .int .i64 3, .int .i64 0] 3))) := HB1.out.alloc HB1.out.size _
  clear HB1
  go_wp2_with fail
  generalize w1.alloc (.cells #[.int .i64 0, .int .i64 1, .int .i64 2, .int .i64 3, .int .i64 0] 3) = w2 at *
  generalize w1.heap.size = q at *
  refine (accs_any A raw c 5 w2 (HR.out.below HB2.out (Nat.le_refl _) |>.more HB2.out.size) hl HW.out (by decide) (by decide)).mono ?_
  rintro r w3 ⟨v, rfl, hv, hb3⟩
  obtain ⟨A1, c1, rfl, hc1, hm1, hN1, hsh⟩ := ownA_shape hv
  have hlen := accs_len 5 raw
  have hok := accs_ok (n := 5) (by decide) raw
  have hfine := fun (l : List Ac) => accs_fine (n := 5) (by decide) (by decide) (raw := raw) (l := l)
  obtain ⟨L, hL⟩ : ∃ L, L = accs 5 raw := ⟨_, rfl⟩
  rw [← hL] at hc1 hN1 hsh hlen hok hfine ⊢
  have HB3 := Lib.hid (Qt.more HB2.out HB2.out.size hb3)
  have HN3 := Lib.hid (HN0.out.below hb3)
  have HNA := Lib.hid hN1
  have HOK := Lib.hid hok
  have HFI := Lib.hid hfine
  clear hv hL hN1 hb3 hok hfine HN0 HB2
  go_wp2_with fail
  have hpk := pick10_any at_ ((L.length : Int) + 1) w3 ha (by omega) (by omega)
  have hkb := pickI_bd at_ ((L.length : Int) + 1) (by omega)
  obtain ⟨k, hk⟩ : ∃ k : Nat, pickI at_ ((L.length : Int) + 1) = k := ⟨(pickI at_ ((L.length : Int) + 1)).toNat, by omega⟩
  rw [hk] at hpk hkb
  refine hpk.mono ?_
  rintro r w4 ⟨rfl, rfl⟩
  have hkl : k ≤ L.length := by omega
  clear hpk hk hkb ha
  obtain ⟨hg1, hg2⟩ := good_of L [0, 1, 2, 3, 0] 3 (by intro x hx; simp at hx; omega) (by decide) (fun y hy => by have := HOK.out y hy; exact ⟨by omega, by omega, by omega, by simp; omega, by omega, by omega⟩) (by omega) (by simp)
  have hspl := List.take_append_drop k L
  have hga := (goodA_append (L.take k) (L.drop k) [0, 1, 2, 3, 0]).1 (by rw [hspl]; exact hg1)
  have p1 := playA_good [0, 1, 2, 3, 0] L [0, 1, 2, 3, 0] [] hg1
  have p2 := playA_good [0, 1, 2, 3, 0] (L.take k) [0, 1, 2, 3, 0] [] hga.1
  have p3 := playA_good (wordsA [0, 1, 2, 3, 0] (L.take k)) (L.drop k) (wordsA [0, 1, 2, 3, 0] (L.take k)) [] hga.2
  have hwE : wordsA (wordsA [0, 1, 2, 3, 0] (L.take k)) (L.drop k) = wordsA [0, 1, 2, 3, 0] L := by rw [← wordsA_append, hspl]
  have hfE : foundA [0, 1, 2, 3, 0] (L.take k) ++ foundA (wordsA [0, 1, 2, 3, 0] (L.take k)) (L.drop k) = foundA [0, 1, 2, 3, 0] L := by rw [← foundA_append, hspl]
  have hg3 := good_of (L.take k) [0, 1, 2, 3, 0] 3 (by intro x hx; simp at hx; omega) (by decide) (fun y hy => by have := HOK.out y (List.mem_of_mem_take hy); exact ⟨by omega, by omega, by omega, by simp; omega, by omega, by omega⟩) (by rw [List.length_take]; omega) (by simp)
  have hi64 := small_i64 hg3.2 (by rw [List.length_take]; omega)
  have hl1 := foundA_len L [0, 1, 2, 3, 0]
  have hl2 := foundA_len (L.take k) [0, 1, 2, 3, 0]
  have hl3 := foundA_len (L.drop k) (wordsA [0, 1, 2, 3, 0] (L.take k))
  have hm1' := wordsA_len L [0, 1, 2, 3, 0]
  have hm2' := wordsA_len (L.take k) [0, 1, 2, 3, 0]
  have hm3' := wordsA_len (L.drop k) (wordsA [0, 1, 2, 3, 0] (L.take k))
  rw [List.nil_append] at p1 p2 p3
  obtain ⟨W1, hW1⟩ : ∃ x, x = wordsA [0, 1, 2, 3, 0] L := ⟨_, rfl⟩
  obtain ⟨W2, hW2⟩ : ∃ x, x = wordsA [0, 1, 2, 3, 0] (L.take k) := ⟨_, rfl⟩
  obtain ⟨F1, hF1⟩ : ∃ x, x = foundA [0, 1, 2, 3, 0] L := ⟨_, rfl⟩
  obtain ⟨F2, hF2⟩ : ∃ x, x = foundA [0, 1, 2, 3, 0] (L.take k) := ⟨_, rfl⟩
  rw [← hW2] at p2 p3 hwE hfE hi64 hl3 hm2' hm3'
  obtain ⟨F3, hF3⟩ : ∃ x, x = foundA W2 (L.drop k) := ⟨_, rfl⟩
  obtain ⟨W3, hW3⟩ : ∃ x, x = wordsA W2 (L.drop k) := ⟨_, rfl⟩
  rw [← hW1] at p1 hwE hm1'
  rw [← hW3] at p3 hwE hm3'
  rw [← hF1] at p1 hfE hl1
  rw [← hF2] at p2 hfE hl2
  rw [← hF3] at p3 hfE hl3
  rw [List.length_take] at hl2
  rw [List.length_drop] at hl3
  have HL := Lib.hid (And.intro hl1 (And.intro hl2 (And.intro hl3 (And.intro hm1' (And.intro hm2' hm3')))))
  have HE := Lib.hid (And.intro hwE hfE)
  have HI := Lib.hid hi64
  have HI0 : Hid (∀ x ∈ [(0 : Int), 1, 2, 3, 0], I64 x) := fun x hx => by simp at hx; unfold I64; omega
  clear hg1 hg2 hga hg3 hW1 hW2 hW3 hF1 hF2 hF3 hl1 hl2 hl3 hm1' hm2' hm3' hwE hfE hi64 hspl
  -- all of it
  have h1 := memPlay_any (some ⟨q, 0, none⟩) A1 [0, 1, 2, 3, 0] L 5 c1 w3 HN3.out (by simp) (by simp) HI0.out HNA.out (HFI.out _ (fun y hy => hy)) (by omega)
  rw [p1] at h1
  go_wp2_with fail
  refine h1.mono ?_
  rintro r w5 ⟨B1, d1, B2, d2, rfl, hd1, hB1, hd2, hB2, hb5⟩
  have HB5 := Lib.hid (Qt.more HB3.out HB3.out.size hb5)
  have HN5 := Lib.hid (HN3.out.below hb5)
  have HNA5 := Lib.hid (HNA.out.now hb5)
  have HR5 := Lib.hid (And.intro hB1 hB2)
  clear h1 p1 hB1 hB2 hb5 HB3 HN3 HNA
  -- its beginning
  have hto := sliceA_to (t := k) hsh hkl hc1 hm1
  obtain ⟨AT, cT, hNT, hcT, hfrom⟩ := sliceA_from hsh HNA5.out rfl hkl hc1 hm1
  have HNT := Lib.hid hNT
  have hA5 : NowA w5 A1 (L.take k) := fun j hj => by
    rw [List.length_take] at hj
    obtain ⟨b, off, e, hb, h4⟩ := HNA5.out j (by omega)
    refine ⟨b, off, e, hb, ?_⟩
    have e5 : (L.take k).getD j deadA = L.getD j deadA := by rw [List.getD_eq_getElem?_getD, List.getD_eq_getElem?_getD, List.getElem?_take, if_pos (by omega)]
    rw [e5]
    exact h4
  have h2 := memPlay_any (some ⟨q, 0, none⟩) A1 [0, 1, 2, 3, 0] (L.take k) 5 c1 w5 HN5.out (by simp) (by simp) HI0.out hA5 (HFI.out _ (fun y hy => List.mem_of_mem_take hy)) (by rw [List.length_take]; omega)
  rw [p2, show (L.take k).length = k by rw [List.length_take]; omega] at h2
  clear hA5 hNT
  go_wp2_with fail
  refine h2.mono ?_
  rintro r w6 ⟨B3, d3, B4, d4, rfl, hd3, hB3, hd4, hB4, hb6⟩
  have HB6 := Lib.hid (Qt.more HB5.out HB5.out.size hb6)
  have HR6 := Lib.hid (And.intro (HR5.out.1.below hb6) (HR5.out.2.below hb6))
  have hT6 := HNT.out.now hb6
  have HR7 := Lib.hid (And.intro hB3 hB4)
  have h3 := memPlay_any B3 AT W2 (L.drop k) d3 cT w6 hB3 hd3 (by have := HL.out; simp at this; omega) HI.out hT6 (HFI.out _ (fun y hy => List.mem_of_mem_drop hy)) (by rw [List.length_drop]; omega)
  rw [p3, List.length_drop] at h3
  clear h2 p2 p3 hB3 hB4 hb6 hT6 HB5 HR5 HNA5 HN5
  -- its end
  go_wp2_with fail
  refine h3.mono ?_
  rintro r w7 ⟨B5, d5, B6, d6, rfl, hd5, hB5, hd6, hB6, hb7⟩
  have HB7 := Lib.hid (Qt.more HB6.out HB6.out.size hb7)
  have HR8 := Lib.hid (And.intro (HR6.out.1.below hb7) (HR6.out.2.below hb7))
  have HR9 := Lib.hid (HR7.out.2.below hb7)
  have HR10 := Lib.hid (And.intro hB5 hB6)
  clear h3 hB5 hB6 hb7 HR6 HR7 HB6 hfrom hto
  go_wp2_with fail
  have hLL := HL.out
  refine (ints_yes HR8.out.1 HR10.out.1 rfl rfl (by simp at hLL; omega) HE.out.1.symm).mono ?_
  rintro r w8 ⟨rfl, hb8⟩
  have HB8 := Lib.hid (Qt.more HB7.out HB7.out.size hb8)
  have HS1 := Lib.hid (HR8.out.2.below hb8)
  have HS2 := Lib.hid (HR9.out.below hb8)
  have HS3 := Lib.hid (HR10.out.2.below hb8)
  clear hb8 HR8 HR9 HR10 HB7 hLL
  obtain ⟨v9, w9, hrun9, ho9, hb9⟩ := copy_run B4 F2 d4 w8 HS2.out (by have := HL.out; omega)
  obtain ⟨v10, w10, hrun10, ho10, hg10⟩ := appW_any d6 hb9.size ho9 (HS3.out.below hb9) (by have := HL.out; omega)
  rw [HE.out.2] at ho10
  obtain ⟨A10, c10, rfl, hc10, hN10⟩ := own_slice ho10
  have hb10 := hb9.grown hg10 hb9.size (fun k e => (World.ownsRow.lt ho9 k e).1)
  have HRun9 := Lib.hid hrun9
  have HRun10 := Lib.hid hrun10
  have HB10 := Lib.hid (Qt.more HB8.out HB8.out.size hb10)
  have hint := ints_yes (c := d2) (c' := c10) (HS1.out.below hb10) hN10 rfl rfl (by have := HL.out; omega) rfl
  clear hrun9 hrun10 ho9 hb9 ho10 hg10 hb10 hN10 hc10 hd1 hd2 hd3 hd4 hd5 hd6 hcT hm1 hc1 hkl hlen hsh HI0 HI HFI HOK HR HW HNT HS1 HS2 HS3 HB8
  go_wp2_with (at_builtin; refine append_guarded _ rfl (.const (.slice none 0 0)) (.tmp 72) 22 22 rfl (.slice none 0 0) (.slice B4 F2.length d4) rfl rfl _ _ HRun9.out ?_; clear HRun9; go_wp2_with (at_builtin; refine append_guarded _ rfl (.tmp 73) (.tmp 74) 22 22 rfl v9 (.slice B6 F3.length d6) rfl rfl _ _ HRun10.out ?_; clear HRun10))
  refine hint.mono ?_
  rintro r w11 ⟨rfl, hb11⟩
  have HB11 := Lib.hid (Qt.more HB10.out HB10.out.size hb11)
  clear hb11 hint
  go_wp2_with fail
  go_ret
  exact ⟨rfl, HB11.out⟩
end Go.Proofs.Ythfbcjbiemdedaa
namespace Go.Proofs.Ythfbcjbiemdedaa.Qt
open Go Go.Sort Go.RowKit

inductive Scr where
  | done : Scr
  | pure : Nat → Scr → Scr
  | only : Nat → Scr → Scr
  | two : Nat → Nat → Scr → Scr → Scr
  | three : Nat → Nat → Nat → Scr → Scr → Scr → Scr

def Scr.len : Scr → Nat
  | .done => 0
  | .pure _ s => s.len + 1
  | .only _ s => s.len + 1
  | .two _ _ s _ => s.len + 1
  | .three _ _ _ s _ _ => s.len + 1

section
variable {P : Program} {ops : Array Oper} {md : Region.Mode}

end
end Go.Proofs.Ythfbcjbiemdedaa.Qt
