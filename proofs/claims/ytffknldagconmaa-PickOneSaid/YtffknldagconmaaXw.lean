/-
  PickOne: one worker alone has all turns; a worker without steps has none, and the others' turns are as if it were not there.
-/
import Derived.Test.YtffknldagconmaaB04
import Derived.Test.YtffknldagconmaaB06
namespace Go.Proofs.Ytffknldagconmaa
set_option maxRecDepth 100000
set_option linter.unusedVariables false
set_option linter.unusedSimpArgs false
open Go.RowKit Go.Sort

/-- a worker without steps, put in at a place -/
def insP (l : List Int) (k : Nat) : List Int := (l.take k ++ [0]) ++ l.drop k
def shiftP (k p : Nat) : Nat := if k ≤ p then p + 1 else p
def shiftI (k : Nat) (p : Int) : Int := if (k : Int) ≤ p then p + 1 else p
theorem insP_len (l : List Int) {k : Nat} (h : k ≤ l.length) : (insP l k).length = l.length + 1 := by unfold insP; simp; omega
theorem insP_get (l : List Int) {k : Nat} (h : k ≤ l.length) (p : Nat) : (insP l k).getD p 0 = if p < k then l.getD p 0 else if p = k then 0 else l.getD (p - 1) 0 := by
  unfold insP
  simp only [List.getD_eq_getElem?_getD, List.getElem?_append, List.length_append, List.length_take, List.length_singleton, List.getElem?_take, List.getElem?_drop]
  by_cases h1 : p < k
  · rw [if_pos h1, if_pos (by omega), if_pos (by omega), if_pos h1]
  · by_cases h2 : p = k
    · subst h2
      rw [if_neg h1, if_pos rfl, if_pos (by omega), if_neg (by omega), show p - min p l.length = 0 by omega, if_neg h1]
      rfl
    · rw [if_neg h1, if_neg h2, if_neg (by omega), show k + (p - (min k l.length + 1)) = p - 1 by omega, if_neg h1]
theorem cntP_ins (l : List Int) {k : Nat} (h : k ≤ l.length) (p : Nat) : cntP (insP l k) p = cntP l (if p ≤ k then p else p - 1) := by
  induction p with
  | zero => rw [if_pos (Nat.zero_le _)]; rfl
  | succ p ih =>
    rw [cntP_succ, ih, insP_get l h]
    by_cases h1 : p < k
    · rw [if_pos (by omega), if_pos h1, if_pos (by omega), cntP_succ]
    · by_cases h2 : p = k
      · subst h2
        rw [if_pos (Nat.le_refl _), if_neg (by omega), if_pos rfl, if_neg (by omega), livI_no (by decide), show p + 1 - 1 = p by omega]; rfl
      · rw [if_neg (by omega), if_neg h1, if_neg h2, if_neg (by omega), show p + 1 - 1 = (p - 1) + 1 by omega, cntP_succ]
theorem many_ins (l : List Int) {k : Nat} (h : k ≤ l.length) : manyP (insP l k) = manyP l := by
  unfold manyP
  rw [insP_len l h, cntP_ins l h, if_neg (by omega), show l.length + 1 - 1 = l.length by omega]
theorem ins_shift (l : List Int) {k : Nat} (h : k ≤ l.length) (p : Nat) : (insP l k).getD (shiftP k p) 0 = l.getD p 0 ∧ cntP (insP l k) (shiftP k p) = cntP l p := by
  unfold shiftP
  rw [cntP_ins l h, insP_get l h]
  by_cases h1 : k ≤ p
  · rw [if_pos h1, if_neg (by omega), if_neg (by omega), if_neg (by omega), show p + 1 - 1 = p by omega]
    exact ⟨rfl, rfl⟩
  · rw [if_neg h1, if_pos (by omega), if_pos (by omega)]
    exact ⟨rfl, rfl⟩
theorem kth_ins (l : List Int) {k r : Nat} (h : k ≤ l.length) (hr : r < manyP l) : kthP (insP l k) r = shiftP k (kthP l r) := by
  obtain ⟨_, h2, h3⟩ := kth_ok hr
  obtain ⟨s1, s2⟩ := ins_shift l h (kthP l r)
  exact kth_eq (by rw [s1]; exact h2) (by rw [s2]; exact h3)
theorem upto_ins (l : List Int) {k : Nat} (h : k ≤ l.length) {last : Int} (hl : -1 ≤ last) : uptoP (insP l k) (shiftI k last) = uptoP l last := by
  unfold uptoP shiftI
  rw [cntP_ins l h]
  by_cases h1 : (k : Int) ≤ last
  · rw [if_pos h1, if_neg (by omega), show (last + 1 + 1).toNat - 1 = (last + 1).toNat by omega]
  · rw [if_neg h1, if_pos (by omega)]
theorem next_ins (picks : List Int) (step : Int) (l : List Int) {k : Nat} (h : k ≤ l.length) {last : Int} (hl : -1 ≤ last) (hm : 0 < manyP l) : nextN picks step (insP l k) (shiftI k last) = shiftP k (nextN picks step l last) := by
  unfold nextN
  rw [many_ins l h, upto_ins l h hl]
  exact kth_ins l h (rankP_lt _ _ _ hm)
theorem list_ext0 {l m : List Int} (hlen : l.length = m.length) (h : ∀ j, l.getD j 0 = m.getD j 0) : l = m := eq_of_all hlen fun j _ => h j
theorem getD_set11 (l : List Int) (p q : Nat) (x : Int) : (l.set p x).getD q 0 = if p = q ∧ p < l.length then x else l.getD q 0 := by
  rw [List.getD_eq_getElem?_getD, List.getElem?_set]
  by_cases h : p = q
  · subst h
    by_cases h2 : p < l.length
    · rw [if_pos rfl, if_pos h2, if_pos ⟨rfl, h2⟩]; rfl
    · rw [if_pos rfl, if_neg h2, if_neg (fun h => h2 h.2), getD_past l (by omega)]; rfl
  · rw [if_neg h, if_neg (fun h2 => h h2.1), List.getD_eq_getElem?_getD]
theorem set_ins (l : List Int) {k p : Nat} (h : k ≤ l.length) (hp : p < l.length) (x : Int) : (insP l k).set (shiftP k p) x = insP (l.set p x) k := by
  have hs : shiftP k p < l.length + 1 := by unfold shiftP; split <;> omega
  refine list_ext0 (by rw [List.length_set, insP_len l h, insP_len _ (by rw [List.length_set]; exact h), List.length_set]) fun q => ?_
  have e1 := insP_get (l.set p x) (k := k) (by rw [List.length_set]; exact h) q
  rw [getD_set11, insP_len l h, insP_get l h, e1, getD_set11, getD_set11]
  clear e1
  unfold shiftP
  by_cases h1 : k ≤ p
  · rw [if_pos h1]
    by_cases h2 : p + 1 = q
    · rw [if_pos ⟨h2, by omega⟩, if_neg (by omega), if_neg (by omega), if_pos ⟨by omega, by omega⟩]
    · rw [if_neg (fun h => h2 h.1)]
      by_cases h3 : q < k
      · rw [if_pos h3, if_pos h3, if_neg (by omega)]
      · rw [if_neg h3, if_neg h3]
        by_cases h4 : q = k
        · rw [if_pos h4, if_pos h4]
        · rw [if_neg h4, if_neg h4, if_neg (by omega)]
  · rw [if_neg h1]
    by_cases h2 : p = q
    · rw [if_pos ⟨h2, by omega⟩, if_pos (by omega), if_pos ⟨h2, by omega⟩]
    · rw [if_neg (fun h => h2 h.1)]
      by_cases h3 : q < k
      · rw [if_pos h3, if_pos h3, if_neg (fun h => h2 h.1)]
      · rw [if_neg h3, if_neg h3]
        by_cases h4 : q = k
        · rw [if_pos h4, if_pos h4]
        · rw [if_neg h4, if_neg h4, if_neg (by omega)]
theorem totP_append (a b : List Int) : totP (a ++ b) = totP a + totP b := by
  induction a with
  | nil => simp [totP]
  | cons x a ih => simp only [List.cons_append, totP, ih]; omega
theorem tot_ins (l : List Int) (k : Nat) : totP (insP l k) = totP l := by
  unfold insP
  rw [totP_append, totP_append]
  have := totP_append (l.take k) (l.drop k)
  rw [List.take_append_drop] at this
  rw [this]
  simp [totP]
theorem st_ins (picks l : List Int) {k : Nat} (h : k ≤ l.length) : ∀ j, j ≤ totP l → stP picks (insP l k) j = (insP (stP picks l j).1 k, shiftI k (stP picks l j).2) := by
  intro j
  induction j with
  | zero =>
    intro _
    show (insP l k, (-1 : Int)) = (insP l k, shiftI k (-1))
    unfold shiftI
    rw [if_neg (by omega)]
  | succ j ih =>
    intro hj
    have i := ih (by omega)
    obtain ⟨t1, t2, t3, _⟩ := tnP_ok picks l (show j < totP l by omega)
    have hl := (stP_ok picks l j (by omega)).2
    have hla := stP_last picks (l := l) (show j ≤ totP l by omega)
    have htn : tnP picks (insP l k) j = shiftP k (tnP picks l j) := by
      unfold tnP
      rw [i]
      exact next_ins picks j _ (by omega) hla.1 t1
    rw [stP_succ, stP_succ, htn, i]
    have hget := (ins_shift (stP picks l j).1 (show k ≤ (stP picks l j).1.length by omega) (tnP picks l j)).1
    simp only
    rw [hget, set_ins _ (by omega) (by omega)]
    congr 1
    unfold shiftP shiftI
    by_cases hk : k ≤ tnP picks l j
    · rw [if_pos hk, if_pos (by omega)]; omega
    · rw [if_neg hk, if_neg (by omega)]
theorem tn_ins (picks l : List Int) {k j : Nat} (h : k ≤ l.length) (hj : j < totP l) : tnP picks (insP l k) j = shiftP k (tnP picks l j) := by
  obtain ⟨t1, t2, t3, _⟩ := tnP_ok picks l hj
  have hl := (stP_ok picks l j (by omega)).2
  have hla := stP_last picks (l := l) (show j ≤ totP l by omega)
  unfold tnP
  rw [st_ins picks l h j (by omega)]
  exact next_ins picks j _ (by omega) hla.1 t1
theorem insP_bd {l : List Int} (hm : ∀ k, 0 ≤ l.getD k 0 ∧ l.getD k 0 ≤ 1000000) {k : Nat} (h : k ≤ l.length) (p : Nat) : 0 ≤ (insP l k).getD p 0 ∧ (insP l k).getD p 0 ≤ 1000000 := by
  rw [insP_get l h]
  split
  · exact hm p
  · split
    · decide
    · exact hm _
theorem one_tot (n : Nat) : totP [(n : Int)] = n := by simp [totP]
theorem app_bel {W : World} {B : Nat} {v : Value} {out m : List Int} {A : Option Addr} (c : Nat) (hB : B ≤ W.heap.size) (ho : Own W B v out) (hm : Now W A m) (hl : out.length + m.length ≤ 1000000) :
    ∃ v' W', (Builtin.append_ #[22, 22] 22 #[v, .slice A m.length c]).run Try.prog W = .ok v' W' ∧ Own W' B v' (out ++ m) ∧ Below B W W' := by
  obtain ⟨v', W', h1, h2, h3⟩ := app_any c hB ho hm hl
  exact ⟨v', W', h1, h2, (Below.refl _ _).grown h3 hB (fun k e => (World.ownsRow.lt ho k e).1)⟩
set_option maxHeartbeats 16000000 in
theorem pickOne_law (A : Option Addr) (picks : List Int) (c : Nat) (B : Option Addr) (raw : List Int) (d : Nat) (at_ : Int) (w : World) (hP : InL w A picks c) (hR : InL w B raw d) (ha : I64 at_) :
    Calls Try.prog 8 #[.slice A picks.length c, .slice B raw.length d, .int .i64 at_] w fun e w' => e = .returned (.bool true) ∧ Below w.heap.size w w' := by
  have HP := Lib.hid hP
  have HR := Lib.hid hR
  have HA := Lib.hid ha
  clear hP hR ha
  go_enter Try.func8, Try.ntmps8
  go_wp2_with fail
  refine (awake11_any w).mono ?_
  rintro r w1 ⟨rfl, hb1⟩
  have HB1 := Lib.hid hb1
  clear hb1
  go_wp2_with fail
  refine (left11_any B raw d w1 (HR.out.now.below HB1.out) HR.out.len HR.out.fit).mono ?_
  rintro r w2 ⟨v2, rfl, ho2, hb2⟩
  obtain ⟨A2, c2, rfl, hc2, hm2, hN2, hsh⟩ := own_parts ho2
  have HB2 := Lib.hid (Qt.more HB1.out HB1.out.size hb2)
  have HN2 := Lib.hid hN2
  clear hb2 ho2 hN2 HB1 HR
  have hll := leftP_len raw
  have htt := left_tot raw
  have HM := Lib.hid (left_bd raw)
  generalize leftP raw = l at *
  have hpk := which11_any at_ ((l.length : Int) + 1) w2 HA.out (by omega) (by omega)
  have hpb := pickI_bd at_ ((l.length : Int) + 1) (by omega)
  obtain ⟨k, hk⟩ : ∃ k : Nat, pickI at_ ((l.length : Int) + 1) = k := ⟨(pickI at_ ((l.length : Int) + 1)).toNat, by omega⟩
  rw [hk] at hpk hpb
  have hkl : k ≤ l.length := by omega
  clear hk
  go_wp2_with fail
  refine hpk.mono ?_
  rintro r w3 ⟨rfl, hw3⟩
  subst hw3
  clear hpk
  have hto := slice_to (t := k) hsh hkl hc2 hm2
  obtain ⟨AT, cT, hNT, hcT, hfrom⟩ := slice_from hsh HN2.out rfl hkl hc2 hm2
  have hTK : Now w2 A2 (l.take k) := fun j hj => by
    rw [List.length_take] at hj
    obtain ⟨b, off, e, hb, h0⟩ := HN2.out j (by omega)
    refine ⟨b, off, e, hb, ?_⟩
    rw [h0, List.getD_eq_getElem?_getD, List.getD_eq_getElem?_getD, List.getElem?_take, if_pos (by omega)]
  have hlt : (l.take k).length = k := by rw [List.length_take]; omega
  have hld : (l.drop k).length = l.length - k := by rw [List.length_drop]
  have HNT := Lib.hid hNT
  have HTK := Lib.hid hTK
  have HLT := Lib.hid (And.intro hlt hld)
  have HSH := Lib.hid (And.intro hsh (And.intro hc2 (And.intro hm2 hpb)))
  clear hNT hTK hlt hld hsh hc2 hm2 hpb hcT
  go_wp2_with fail
  refine region_calm_to (fun W => Below w2.heap.size w2 W) (fun (a0 a9 : Act) (w9 : World) => ∃ (bq : Nat) (v29 v31 v35 : Value), a9 = (((((((((((a0.put (some 26) (.slice A2 l.length c2)).put (some 27) (.int .i64 (k : Int))).put (some 28) (.slice A2 k c2)).put (some 29) v29).put (some 30) (.slice (some ⟨bq, 0, none⟩) 1 1)).put (some 31) v31).put (some 32) (.slice A2 l.length c2)).put (some 33) (.int .i64 (k : Int))).put (some 34) (.slice AT (l.length - k) cT)).put (some 35) v35).put (some 10) v35) ∧ Own w9 w2.heap.size v35 (insP l k) ∧ Below w2.heap.size w2 w9) (.calm 0 (.calm 1 (.calm 2 (.calm 6 (.calm 7 (.calm 8 (.two 3 4 (.only 4 (.only 5 (.only 9 (.calm 10 .done)))) (.only 3 (.only 5 (.only 9 (.calm 10 .done))))))))))) (by kernel_rfl) (by kernel_rfl) (by kernel_rfl) (by rfl) (below_drew _) ?_ ?_
  · skip
    refine ⟨_, _, (.slice A2 l.length c2), rfl, rfl, ⟨rfl, fun W hW => by first | exact ⟨rfl, rfl⟩ | (simp only [Act.eval, execOp]; go_simp; try exact ⟨rfl, rfl⟩)⟩, ?_⟩
    simp only [Act.put, List.getElem_toArray, List.getElem_cons_zero, List.getElem_cons_succ, List.setIfInBounds_toArray, List.set_cons_succ, List.set_cons_zero]
    refine ⟨_, _, (.int .i64 (k : Int)), rfl, rfl, ⟨rfl, fun W hW => by first | exact ⟨rfl, rfl⟩ | (simp only [Act.eval, execOp]; go_simp; try exact ⟨rfl, rfl⟩)⟩, ?_⟩
    simp only [Act.put, List.getElem_toArray, List.getElem_cons_zero, List.getElem_cons_succ, List.setIfInBounds_toArray, List.set_cons_succ, List.set_cons_zero]
    refine ⟨_, _, (.slice A2 k c2), rfl, rfl, ⟨rfl, fun W hW => by rw [exec_to (x := .tmp 26) (y := .tmp 27) rfl rfl rfl hto]; exact ⟨rfl, rfl⟩⟩, ?_⟩
    simp only [Act.put, List.getElem_toArray, List.getElem_cons_zero, List.getElem_cons_succ, List.setIfInBounds_toArray, List.set_cons_succ, List.set_cons_zero]
    refine ⟨_, _, (.slice A2 l.length c2), rfl, rfl, ⟨rfl, fun W hW => by first | exact ⟨rfl, rfl⟩ | (simp only [Act.eval, execOp]; go_simp; try exact ⟨rfl, rfl⟩)⟩, ?_⟩
    simp only [Act.put, List.getElem_toArray, List.getElem_cons_zero, List.getElem_cons_succ, List.setIfInBounds_toArray, List.set_cons_succ, List.set_cons_zero]
    refine ⟨_, _, (.int .i64 (k : Int)), rfl, rfl, ⟨rfl, fun W hW => by first | exact ⟨rfl, rfl⟩ | (simp only [Act.eval, execOp]; go_simp; try exact ⟨rfl, rfl⟩)⟩, ?_⟩
    simp only [Act.put, List.getElem_toArray, List.getElem_cons_zero, List.getElem_cons_succ, List.setIfInBounds_toArray, List.set_cons_succ, List.set_cons_zero]
    refine ⟨_, _, (.slice AT (l.length - k) cT), rfl, rfl, ⟨rfl, fun W hW => by rw [exec_from (x := .tmp 32) (y := .tmp 33) rfl rfl rfl hfrom]; exact ⟨rfl, rfl⟩⟩, ?_⟩
    simp only [Act.put, List.getElem_toArray, List.getElem_cons_zero, List.getElem_cons_succ, List.setIfInBounds_toArray, List.set_cons_succ, List.set_cons_zero]
    have hb0 := below_drew w2
    generalize w2.drew = x0 at *
    refine ⟨?_, ?_⟩
    · skip
      obtain ⟨v29, x1, hr3, ho29, hbx⟩ := app_bel (B := x0.heap.size) (out := []) c2 (Nat.le_refl _) (World.ownsRow_nil x0 x0.heap.size 3 1) (HTK.out.below hb0) (by rw [HLT.out.1]; simp; omega)
      rw [HLT.out.1] at hr3
      rw [List.nil_append] at ho29
      have hb1 := Qt.more hb0 hb0.size hbx
      replace ho29 := own_more ho29 hb0.size
      clear hbx
      refine ⟨_, rfl, ?_⟩
      refine Lib.wpList_append_run _ rfl (.const (.slice none 0 0)) (.tmp 28) 22 22 rfl (.slice none 0 0) (.slice A2 k c2) rfl rfl _ _ hr3 ?_
      simp only [Act.put, List.getElem_toArray, List.getElem_cons_zero, List.getElem_cons_succ, List.setIfInBounds_toArray, List.set_cons_succ, List.set_cons_zero]
      clear hr3
      refine ⟨rfl, hb1, ?_⟩
      have hq := now_lits x1 [0]
      simp only [List.map_cons, List.map_nil] at hq
      have hbx := (Below.refl x1.heap.size x1).alloc (Nat.le_refl _) (.cells #[.int .i64 0] 3)
      have ho29 := own_next ho29 hbx
      have hb2 := Qt.more hb1 hb1.size hbx
      obtain ⟨bq, hbq⟩ : ∃ bq, bq = x1.heap.size := ⟨_, rfl⟩
      have HBQ := Lib.hid hbq
      rw [← hbq] at hq
      clear hbx hbq
      refine ⟨_, rfl, ?_⟩
      go_wp2_with fail
      rw [← HBQ.out]
      clear HBQ
      generalize x1.alloc (.cells #[.int .i64 0] 3) = x2 at *
      refine ⟨rfl, hb2, ?_⟩
      obtain ⟨v31, x3, hr5, ho31, hb5⟩ := app_bel 1 hb2.size ho29 hq (by rw [HLT.out.1]; simp; omega)
      have hb3 := hb2.trans hb5
      clear hb5 hq ho29
      refine ⟨_, rfl, ?_⟩
      refine Lib.wpList_append_run _ rfl (.tmp 29) (.tmp 30) 22 22 rfl v29 (.slice (some ⟨bq, 0, none⟩) 1 1) rfl rfl _ _ hr5 ?_
      simp only [Act.put, List.getElem_toArray, List.getElem_cons_zero, List.getElem_cons_succ, List.setIfInBounds_toArray, List.set_cons_succ, List.set_cons_zero]
      clear hr5
      refine ⟨rfl, hb3, ?_⟩
      obtain ⟨v35, x4, hr9, ho35, hb9⟩ := app_bel cT hb3.size ho31 (HNT.out.below hb3) (by rw [List.length_append, HLT.out.1, HLT.out.2]; simp; omega)
      rw [HLT.out.2] at hr9
      have hb4 := hb3.trans hb9
      clear hb9 ho31
      refine ⟨_, rfl, ?_⟩
      refine Lib.wpList_append_run _ rfl (.tmp 31) (.tmp 34) 22 22 rfl v31 (.slice AT (l.length - k) cT) rfl rfl _ _ hr9 ?_
      simp only [Act.put, List.getElem_toArray, List.getElem_cons_zero, List.getElem_cons_succ, List.setIfInBounds_toArray, List.set_cons_succ, List.set_cons_zero]
      clear hr9
      refine ⟨rfl, hb4, ?_⟩
      refine ⟨_, _, v35, rfl, rfl, ⟨rfl, fun W hW => by first | exact ⟨rfl, rfl⟩ | (simp only [Act.eval, execOp]; go_simp; try exact ⟨rfl, rfl⟩)⟩, ?_⟩
      simp only [Act.put, List.getElem_toArray, List.getElem_cons_zero, List.getElem_cons_succ, List.setIfInBounds_toArray, List.set_cons_succ, List.set_cons_zero]
      exact ⟨bq, v29, v31, v35, by first | rfl | simp only [Act.put, List.getElem_toArray, List.getElem_cons_zero, List.getElem_cons_succ, List.setIfInBounds_toArray, List.set_cons_succ, List.set_cons_zero], ho35, hb4⟩
    · skip
      have hq := now_lits x0 [0]
      simp only [List.map_cons, List.map_nil] at hq
      have hbx := (Below.refl x0.heap.size x0).alloc (Nat.le_refl _) (.cells #[.int .i64 0] 3)
      have hb1 := Qt.more hb0 hb0.size hbx
      obtain ⟨bq, hbq⟩ : ∃ bq, bq = x0.heap.size := ⟨_, rfl⟩
      have HBQ := Lib.hid hbq
      rw [← hbq] at hq
      clear hbx hbq
      refine ⟨_, rfl, ?_⟩
      go_wp2_with fail
      rw [← HBQ.out]
      clear HBQ
      generalize x0.alloc (.cells #[.int .i64 0] 3) = x1 at *
      refine ⟨rfl, hb1, ?_⟩
      obtain ⟨v29, x2, hr3, ho29, hbx⟩ := app_bel (B := x1.heap.size) (out := []) c2 (Nat.le_refl _) (World.ownsRow_nil x1 x1.heap.size 3 1) (HTK.out.below hb1) (by rw [HLT.out.1]; simp; omega)
      rw [HLT.out.1] at hr3
      rw [List.nil_append] at ho29
      have hb2 := Qt.more hb1 hb1.size hbx
      replace ho29 := own_more ho29 hb1.size
      replace hq := hq.below hbx
      clear hbx
      refine ⟨_, rfl, ?_⟩
      refine Lib.wpList_append_run _ rfl (.const (.slice none 0 0)) (.tmp 28) 22 22 rfl (.slice none 0 0) (.slice A2 k c2) rfl rfl _ _ hr3 ?_
      simp only [Act.put, List.getElem_toArray, List.getElem_cons_zero, List.getElem_cons_succ, List.setIfInBounds_toArray, List.set_cons_succ, List.set_cons_zero]
      clear hr3
      refine ⟨rfl, hb2, ?_⟩
      obtain ⟨v31, x3, hr5, ho31, hb5⟩ := app_bel 1 hb2.size ho29 hq (by rw [HLT.out.1]; simp; omega)
      have hb3 := hb2.trans hb5
      clear hb5 hq ho29
      refine ⟨_, rfl, ?_⟩
      refine Lib.wpList_append_run _ rfl (.tmp 29) (.tmp 30) 22 22 rfl v29 (.slice (some ⟨bq, 0, none⟩) 1 1) rfl rfl _ _ hr5 ?_
      simp only [Act.put, List.getElem_toArray, List.getElem_cons_zero, List.getElem_cons_succ, List.setIfInBounds_toArray, List.set_cons_succ, List.set_cons_zero]
      clear hr5
      refine ⟨rfl, hb3, ?_⟩
      obtain ⟨v35, x4, hr9, ho35, hb9⟩ := app_bel cT hb3.size ho31 (HNT.out.below hb3) (by rw [List.length_append, HLT.out.1, HLT.out.2]; simp; omega)
      rw [HLT.out.2] at hr9
      have hb4 := hb3.trans hb9
      clear hb9 ho31
      refine ⟨_, rfl, ?_⟩
      refine Lib.wpList_append_run _ rfl (.tmp 31) (.tmp 34) 22 22 rfl v31 (.slice AT (l.length - k) cT) rfl rfl _ _ hr9 ?_
      simp only [Act.put, List.getElem_toArray, List.getElem_cons_zero, List.getElem_cons_succ, List.setIfInBounds_toArray, List.set_cons_succ, List.set_cons_zero]
      clear hr9
      refine ⟨rfl, hb4, ?_⟩
      refine ⟨_, _, v35, rfl, rfl, ⟨rfl, fun W hW => by first | exact ⟨rfl, rfl⟩ | (simp only [Act.eval, execOp]; go_simp; try exact ⟨rfl, rfl⟩)⟩, ?_⟩
      simp only [Act.put, List.getElem_toArray, List.getElem_cons_zero, List.getElem_cons_succ, List.setIfInBounds_toArray, List.set_cons_succ, List.set_cons_zero]
      exact ⟨bq, v29, v31, v35, by first | rfl | simp only [Act.put, List.getElem_toArray, List.getElem_cons_zero, List.getElem_cons_succ, List.setIfInBounds_toArray, List.set_cons_succ, List.set_cons_zero], ho35, hb4⟩
  rintro a9 w9 ⟨bq, v29, v31, v35, rfl, ho9, hb9⟩
  simp only [Act.put, List.getElem_toArray, List.getElem_cons_zero, List.getElem_cons_succ, List.setIfInBounds_toArray, List.set_cons_succ, List.set_cons_zero]
  obtain ⟨AM, cM, rfl, hcM, hNM⟩ := own_slice ho9
  have hil := insP_len l hkl
  rw [hil] at hcM
  rw [hil]
  have HB9 := Lib.hid (Qt.more HB2.out HB2.out.size hb9)
  have HNM := Lib.hid hNM
  have HN29 := Lib.hid (HN2.out.below hb9)
  have h3 := turns11_any A A2 picks l c c2 w9 (HP.out.below HB9.out) HN29.out (by omega) HM.out (by omega)
  clear ho9 hb9 hNM hto hfrom HNT HTK HLT HN2 HB2 hcM
  go_wp2_with fail
  refine h3.mono ?_
  rintro r w3 ⟨v3, rfl, ho3, hb3⟩
  obtain ⟨A3, c3, rfl, hc3, hN3⟩ := own_slice ho3
  rw [turns_len] at hc3
  rw [turns_len]
  have HB3 := Lib.hid (Qt.more HB9.out HB9.out.size hb3)
  have HN3 := Lib.hid hN3
  have h4 := turns11_any A AM picks (insP l k) c cM w3 (HP.out.below HB3.out) (HNM.out.below hb3) (by omega) (insP_bd HM.out hkl) (by rw [tot_ins]; omega)
  rw [hil] at h4
  clear h3 ho3 hb3 hN3 HNM HN29 HB9 hil
  go_wp2_with fail
  refine h4.mono ?_
  rintro r w4 ⟨v4, rfl, ho4, hb4⟩
  obtain ⟨A4, c4, rfl, hc4, hN4⟩ := own_slice ho4
  rw [turns_len, tot_ins] at hc4
  rw [turns_len, tot_ins]
  have HB4 := Lib.hid (Qt.more HB3.out HB3.out.size hb4)
  have HN4 := Lib.hid hN4
  have HN34 := Lib.hid (HN3.out.below hb4)
  have htt2 : ((totP l : Int) != (totP l : Int)) = false := by simp
  clear h4 ho4 hb4 hN4 HN3 HB3
  go_wp2_with fail
  go_loopw [13] (fun i wr => ∃ j : Nat, j ≤ totP l ∧ i = .int .i64 j ∧ wr = w4) (fun i _ => totP l - (intOf i).toNat)
  case atStart => exact ⟨0, Nat.zero_le _, rfl, rfl⟩
  case round =>
    obtain ⟨j, hj, rfl, hwr⟩ := hrel
    subst hwr
    by_cases hlt : j < totP l
    · have hjz : (j : Int) < (totP l : Int) := by omega
      have hg1 := turns_get picks l hlt
      have hg2 := turns_get picks (insP l k) (show j < totP (insP l k) by rw [tot_ins]; exact hlt)
      rw [tn_ins picks l hkl hlt] at hg2
      obtain ⟨b1, o1, rfl, hb1, hc1⟩ := Rd.at_ HN34.out (by rw [turns_len]; omega)
      obtain ⟨b2, o2, rfl, hb2, hc2⟩ := Rd.at_ HN4.out (by rw [turns_len, tot_ins]; omega)
      have y1 := hc1 j (by rw [turns_len]; exact hlt)
      have y2 := hc2 j (by rw [turns_len, tot_ins]; exact hlt)
      rw [hg1] at y1
      rw [hg2] at y2
      have htl := (tnP_ok picks l hlt).2.1
      generalize tnP picks l j = T at *
      clear hg1 hg2 hc1 hc2
      unfold shiftP at y2
      by_cases hkT : k ≤ T
      · rw [if_pos hkT] at y2
        have hkz : (k : Int) ≤ (T : Int) := by omega
        rw [show (((T + 1 : Nat)) : Int) = (T : Int) + 1 by omega] at y2
        have hne : ((T : Int) + 1 != (T : Int) + 1) = false := by simp
        go_wp2_with fail
        go_roundw
        case measure => simp [intOf]; omega
        case rel => exact ⟨j + 1, by omega, by go_num, by first | trivial | rfl⟩
      · rw [if_neg hkT] at y2
        have hkz : ¬ (k : Int) ≤ (T : Int) := by omega
        have hne : ((T : Int) != (T : Int)) = false := by simp
        go_wp2_with fail
        go_roundw
        case measure => simp [intOf]; omega
        case rel => exact ⟨j + 1, by omega, by go_num, by first | trivial | rfl⟩
    · obtain rfl : j = totP l := by omega
      have hjz : ¬ (totP l : Int) < (totP l : Int) := by omega
      have hpk := which11_any at_ 50 wr HA.out (by decide) (by decide)
      have hpb := pickI_bd at_ 50 (by decide)
      obtain ⟨n, hn⟩ : ∃ n : Nat, pickI at_ 50 = n := ⟨(pickI at_ 50).toNat, by omega⟩
      rw [hn] at hpk hpb
      have hn50 : n < 50 := by omega
      clear hn hpb
      go_wp2_with fail
      refine hpk.mono ?_
      rintro r w5 ⟨rfl, hw5⟩
      subst hw5
      clear hpk
      have hal := (Below.refl wr.heap.size wr).alloc (Nat.le_refl _) (.cells #[.int .i64 (n : Int)] 3)
      have hnl := now_lits wr [(n : Int)]
      simp only [List.map_cons, List.map_nil] at hnl
      have h5 := turns11_any A (some ⟨wr.heap.size, 0, none⟩) picks [(n : Int)] c 1 (wr.alloc (.cells #[.int .i64 (n : Int)] 3)) ((HP.out.below HB4.out).below hal) hnl (by simp) (fun q => by
        cases q with
        | zero => simp only [List.getD_cons_zero]; omega
        | succ q => rw [getD_past _ (by simp)]; decide) (by rw [one_tot]; omega)
      rw [show ([(n : Int)] : List Int).length = 1 from rfl] at h5
      have HB5 := Lib.hid (HB4.out.alloc HB4.out.size (.cells #[.int .i64 (n : Int)] 3))
      clear hal hnl
      go_wp2_with fail
      refine h5.mono ?_
      rintro r w6 ⟨v6, rfl, ho6, hb6⟩
      obtain ⟨A6, c6, rfl, hc6, hN6⟩ := own_slice ho6
      rw [turns_len, one_tot] at hc6
      rw [turns_len, one_tot]
      have HB6 := Lib.hid (Qt.more HB5.out HB5.out.size hb6)
      have HN6 := Lib.hid hN6
      clear h5 ho6 hb6 hN6 HB5 HB4
      go_wp2_with fail
      go_loopw [17] (fun i wr => ∃ j : Nat, j ≤ n ∧ i = .int .i64 j ∧ wr = w6) (fun i _ => n - (intOf i).toNat)
      case atStart => exact ⟨0, Nat.zero_le _, rfl, rfl⟩
      case round =>
        obtain ⟨j, hj2, rfl, hwr2⟩ := hrel
        subst hwr2
        by_cases hlt2 : j < n
        · have hjz2 : (j : Int) < (n : Int) := by omega
          have hg1 := turns_get picks [(n : Int)] (j := j) (by rw [one_tot]; exact hlt2)
          have htl := (tnP_ok picks [(n : Int)] (j := j) (by rw [one_tot]; exact hlt2)).2.1
          rw [show tnP picks [(n : Int)] j = 0 by simpa using htl] at hg1
          obtain ⟨b1, o1, rfl, hb1, hc1⟩ := Rd.at_ HN6.out (by rw [turns_len, one_tot]; omega)
          have y1 := hc1 j (by rw [turns_len, one_tot]; exact hlt2)
          rw [hg1] at y1
          rw [show (((0 : Nat)) : Int) = 0 from rfl] at y1
          clear hg1 hc1 htl
          go_wp2_with fail
          go_roundw
          case measure => simp [intOf]; omega
          case rel => exact ⟨j + 1, by omega, by go_num, by first | trivial | rfl⟩
        · obtain rfl : j = n := by omega
          have hjz2 : ¬ (j : Int) < (j : Int) := by omega
          have hjj : ((j : Int) == (j : Int)) = true := by simp
          go_wp2_with fail
          go_ret
          exact ⟨rfl, HB6.out⟩
end Go.Proofs.Ytffknldagconmaa
