/-
  Whether items are the same; the laws' own first calls, whose answers are fixed: they are as they should be.
-/
import Derived.Test.YtildobjgohddoaaDoorUh
namespace Go.Proofs.YtildobjgohddoaaDoor
set_option linter.unusedVariables false
set_option linter.unusedSimpArgs false
open Go.RowKit Go.Sort

theorem eq_of_allE {l m : List Ite} (hlen : l.length = m.length) (h : ∀ j, j < l.length → l.getD j noE = m.getD j noE) : l = m := by
  refine List.ext_getElem hlen fun j h1 h2 => ?_
  have := h j h1
  rwa [List.getD_eq_getElem?_getD, List.getD_eq_getElem?_getD, List.getElem?_eq_getElem h1, List.getElem?_eq_getElem h2] at this

theorem sameE_len (A A' : Option Addr) (n m c c' : Nat) (w : World) (hne : n ≠ m) :
    Calls Tryd.prog 14 #[.slice A n c, .slice A' m c'] w fun e w' => e = .returned (.bool false) ∧ Below w.heap.size w w' := by
  have hz : ((n : Int) == (m : Int)) = false := beq_eq_false_iff_ne.2 (by omega)
  have hz2 : ((n : Int) != (m : Int)) = true := by rw [bne, hz]; rfl
  go_enter Tryd.func14, Tryd.ntmps14
  go_wp2
  go_ret
  exact ⟨rfl, Below.refl _ _⟩

set_option maxHeartbeats 2000000 in
theorem sameE_eq (A A' : Option Addr) (l m : List Ite) (c c' : Nat) (w : World) (hR : NowE w A l) (hR' : NowE w A' m) (hl : l.length ≤ 1000000) (hlm : l.length = m.length) :
    Calls Tryd.prog 14 #[.slice A l.length c, .slice A' l.length c'] w fun e w' => e = .returned (.bool (decide (l = m))) ∧ Below w.heap.size w w' := by
  generalize hr : decide (l = m) = r
  have HR := Lib.hid hr
  have HLM := Lib.hid hlm
  clear hr hlm
  go_enter Tryd.func14, Tryd.ntmps14
  go_wp2
  go_loopw [5] (fun i wr => ∃ k : Nat, k ≤ l.length ∧ i = .int .i64 k ∧ Hid (∀ j, j < k → l.getD j noE = m.getD j noE) ∧ Below w.heap.size w wr) (fun i _ => l.length - (intOf i).toNat)
  case atStart => exact ⟨0, Nat.zero_le _, rfl, (show Hid _ from fun j hj => absurd hj (Nat.not_lt_zero j)), Below.refl _ _⟩
  case round =>
    obtain ⟨k, hk, rfl, HK, hb⟩ := hrel
    by_cases hlt : k < l.length
    · have hltz : (k : Int) < (l.length : Int) := by omega
      obtain ⟨b, off, rfl, hbB, hcell⟩ := hR.at_ (by omega)
      obtain ⟨b2, off2, rfl, hbB2, hcell2⟩ := hR'.at_ (by have := HLM.out; omega)
      obtain ⟨⟨t, x, y⟩, hxy⟩ : ∃ p, p = l.getD k noE := ⟨_, rfl⟩
      obtain ⟨⟨ct, cx, cy⟩, hcxy⟩ : ∃ p, p = m.getD k noE := ⟨_, rfl⟩
      obtain ⟨a0, a1, a2⟩ := hcell k hlt
      obtain ⟨e0, e1, e2⟩ := hcell2 k (by have := HLM.out; omega)
      rw [← hxy] at a0 a1 a2
      rw [← hcxy] at e0 e1 e2
      simp only at a0 a1 a2 e0 e1 e2
      obtain ⟨tn, htn⟩ : ∃ tn : Nat, tn = t.toNat := ⟨_, rfl⟩
      obtain ⟨cn, hcn⟩ : ∃ cn : Nat, cn = ct.toNat := ⟨_, rfl⟩
      have htt : tn = cn ↔ t = ct := by rw [htn, hcn]; exact UInt8.toNat_inj
      rw [← htn] at a0
      rw [← hcn] at e0
      have k0 := Qt.cell_in (Qt.keep hb a0)
      have k1 := Qt.cell_in (Qt.keep hb a1)
      have k2 := Qt.cell_in (Qt.keep hb a2)
      have k3 := Qt.cell_in (Qt.keep hb e0)
      have k4 := Qt.cell_in (Qt.keep hb e1)
      have k5 := Qt.cell_in (Qt.keep hb e2)
      have HXY := Lib.hid hxy
      have HCXY := Lib.hid hcxy
      have HTT := Lib.hid htt
      clear hxy hcxy hcell hcell2 a0 a1 a2 e0 e1 e2 htn hcn htt
      have hcase : (tn = cn ∧ x = cx ∧ y = cy) ∨ (tn = cn ∧ x = cx ∧ ¬ y = cy) ∨ (tn = cn ∧ ¬ x = cx) ∨ ¬ (tn : Int) = (cn : Int) := by omega
      rcases hcase with ⟨rfl, rfl, rfl⟩ | ⟨rfl, rfl, hy⟩ | ⟨rfl, hx⟩ | ht
      · go_wp2
        refine Qt.below_all (by kernel_rfl) (by kernel_rfl) ?_
        repeat (go_big_quiet_step (fail))
        refine wpQuiet_nil ?_
        intro w1 hb1
        clear k0 k1 k2 k3 k4 k5
        go_wp2
        go_roundw
        case measure => simp [intOf]; omega
        case rel =>
          refine ⟨k + 1, by omega, by go_num, (show Hid _ from fun j hj => ?_), Qt.more hb hb.size hb1⟩
          by_cases hjk : j = k
          · subst hjk; rw [← HXY.out, ← HCXY.out, HTT.out.1 trivial]
          · exact HK.out j (by omega)
      all_goals
        have hne : l ≠ m := by
          intro e
          subst e
          have := HXY.out.trans HCXY.out.symm
          simp only [Prod.mk.injEq] at this
          have h2 := HTT.out.2 this.1
          omega
        have HNE := Lib.hid hne
        clear hne
        go_wp2
        refine Qt.below_all (by kernel_rfl) (by kernel_rfl) ?_
        repeat (go_big_quiet_step (fail))
        refine wpQuiet_nil ?_
        intro w1 hb1
        clear k0 k1 k2 k3 k4 k5
        go_wp2
        go_ret
        exact ⟨by rw [← HR.out, decide_eq_false HNE.out]; rfl, Qt.more hb hb.size hb1⟩
    · have hltz : ¬ (k : Int) < (l.length : Int) := by omega
      have he : l = m := eq_of_allE HLM.out fun j hj => HK.out j (by omega)
      have HE := Lib.hid he
      clear he
      go_wp2
      go_ret
      exact ⟨by rw [← HR.out, decide_eq_true HE.out]; rfl, hb⟩

/-- .. of slices that read as lists, whatever their places. -/
theorem sameE_any {A A' : Option Addr} {l m : List Ite} {n n' c c' : Nat} {w : World} (hR : NowE w A l) (hR' : NowE w A' m) (hn : n = l.length) (hn' : n' = m.length) (hl : n ≤ 1000000) :
    Calls Tryd.prog 14 #[.slice A n c, .slice A' n' c'] w fun e w' => e = .returned (.bool (decide (l = m))) ∧ Below w.heap.size w w' := by
  subst hn hn'
  by_cases h : l.length = m.length
  · have := sameE_eq A A' l m c c' w hR hR' hl h
    rwa [← h]
  · rw [decide_eq_false fun e => h (congrArg List.length e)]
    exact sameE_len A A' _ _ c c' w h

/-! ### the first calls -/
theorem aw_lex (l : List UInt8) {m : List Itm} {x : Int} {p : Nat} {w : World} (hl : l.length ≤ 100) (hp : lexA l = (m, x, p)) :
    Calls Tryd.prog 12 #[.string (str l)] w fun e w' => ∃ A c, e = .returned (.tuple #[.slice A m.length c, .int .i64 x, .int .i64 p]) ∧ Hid (NowE w' A (m.map up)) ∧ m.length ≤ c ∧ Below w.heap.size w w' := by
  refine (lex_any l w (by omega)).mono ?_
  rintro e w' ⟨v, rfl, ⟨A, c, rfl, hc, hN⟩, hb⟩
  rw [hp] at hN hc ⊢
  rw [List.length_map] at hc
  refine ⟨A, c, ?_, hN, hc, hb⟩
  simp only [List.length_map]
theorem aw_1 : lexA [50, 98, 111, 32, 36, 33, 120] = ([(98, 2, 0), (111, 1, 2), (36, 1, 4)], 0, 5) := by rfl
theorem aw_2 : lexA [98, 48, 111, 33] = ([], 30, 1) := by rfl
theorem aw_3 : lexA [32, 51] = ([], 30, 1) := by rfl
theorem aw_4 : lexA [98, 111] = ([], 31, 2) := by rfl
theorem aw_5 : lexA [49, 48, 57, 57, 53, 49, 49, 54, 50, 55, 55, 55, 55, 98, 33] = ([], 2, 0) := by rfl
def awL : List Ite := [(98, 2, 0), (111, 1, 2), (36, 1, 4)]
theorem aw_text : textE awL = [50, 98, 111, 36] := by
  have e : Lib.decDigits 2 = [50] := by rw [dec_small (by omega)]; rfl
  have e1 : itemE (98, 2, 0) = [50, 98] := by
    show (if okE (98, 2, 0) = true then numL 2 ++ [98] else []) = _
    rw [if_pos (by decide)]
    show (if (2 : Nat) = 1 then [] else Lib.decDigits 2) ++ [98] = _
    rw [if_neg (by decide), e]
    rfl
  have e2 : itemE (111, 1, 2) = [111] := itemE_one (by decide) rfl
  have e3 : itemE (36, 1, 4) = [36] := itemE_one (by decide) rfl
  unfold textE awL
  rw [List.flatMap_cons, List.flatMap_cons, List.flatMap_cons, e1, e2, e3]
  rfl

set_option maxHeartbeats 4000000 in
set_option maxRecDepth 100000 in
theorem awake_any (w : World) (hT : Tab w) : Calls Tryd.prog 8 #[] w fun e w' => e = .returned (.bool true) ∧ Below w.heap.size w w' := by
  go_enter Tryd.func8, Tryd.ntmps8
  go_wp2_with fail
  refine (aw_lex [50, 98, 111, 32, 36, 33, 120] (by decide) aw_1).mono ?_
  rintro e w1 ⟨A, c, rfl, HN, hc, hb1⟩
  have B1 : Hid (Below w.heap.size w w1) := hb1
  clear hb1
  go_wp2_with fail
  refine (aw_lex [98, 48, 111, 33] (by decide) aw_2).mono ?_
  rintro e w2 ⟨A2, c2, rfl, _, _, hb⟩
  have B2 := Lib.hid (Qt.more B1.out B1.out.size hb)
  have HN2 := Lib.hid (HN.out.below hb)
  clear hb HN B1
  go_wp2_with fail
  refine (aw_lex [32, 51] (by decide) aw_3).mono ?_
  rintro e w3 ⟨A3, c3, rfl, _, _, hb⟩
  have B3 := Lib.hid (Qt.more B2.out B2.out.size hb)
  have HN3 := Lib.hid (HN2.out.below hb)
  clear hb HN2 B2
  go_wp2_with fail
  refine (aw_lex [98, 111] (by decide) aw_4).mono ?_
  rintro e w4 ⟨A4, c4, rfl, _, _, hb⟩
  have B4 := Lib.hid (Qt.more B3.out B3.out.size hb)
  have HN4 := Lib.hid (HN3.out.below hb)
  clear hb HN3 B3
  go_wp2_with fail
  refine (aw_lex [49, 48, 57, 57, 53, 49, 49, 54, 50, 55, 55, 55, 55, 98, 33] (by decide) aw_5).mono ?_
  rintro e w5 ⟨A5, c5, rfl, _, _, hb⟩
  have B5 := Lib.hid (Qt.more B4.out B4.out.size hb)
  have HN5 : Hid (NowE w5 A awL) := Lib.hid (HN4.out.below hb)
  have HT5 := Lib.hid (hT.below B5.out)
  clear hb HN4 B4
  obtain ⟨b, off, rfl, _, hcell⟩ := HN5.out.at_ (by decide)
  have a0 : w5.cell? ⟨b, off, none⟩ = some (.int .u8 98) := (hcell 0 (by decide)).1
  have a1 : w5.cell? ⟨b, off + 1, none⟩ = some (.int .i64 2) := (hcell 0 (by decide)).2.1
  have a2 : w5.cell? ⟨b, off + 2, none⟩ = some (.int .i64 0) := (hcell 0 (by decide)).2.2
  have b0 : w5.cell? ⟨b, off + 6, none⟩ = some (.int .u8 36) := (hcell 2 (by decide)).1
  have b1 : w5.cell? ⟨b, off + 7, none⟩ = some (.int .i64 1) := (hcell 2 (by decide)).2.1
  have b2 : w5.cell? ⟨b, off + 8, none⟩ = some (.int .i64 4) := (hcell 2 (by decide)).2.2
  clear hcell
  have htx := tokText_any (some ⟨b, off, none⟩) awL c w5 HN5.out (by decide) (by intro x hx; simp [awL] at hx; unfold I64; rcases hx with rfl | rfl | rfl <;> decide) HT5.out
  unfold TextR at htx
  rw [aw_text] at htx
  have htx2 : Calls Tryd.prog 15 #[.slice (some ⟨b, off, none⟩) 3 c] w5 fun e w' => e = .returned (.string ⟨#[50, 98, 111, 36]⟩) ∧ Below w5.heap.size w5 w' := htx
  clear htx
  go_wp2_with fail
  refine htx2.mono ?_
  rintro e w6 ⟨rfl, hb6⟩
  go_wp2
  go_ret
  exact ⟨rfl, Qt.more B5.out B5.out.size hb6⟩

end Go.Proofs.YtildobjgohddoaaDoor
