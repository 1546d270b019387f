/-
  The document's Same: whether two slices of cells read as one list.
-/
import Derived.Test.YtafoleafhkadiaaCc
namespace Go.Proofs.Ytafoleafhkadiaa
open Go.RowKit Go.Sort

theorem eq_of_all {l m : List (Int × Int)} (hlen : l.length = m.length) (h : ∀ j, j < l.length → l.getD j (0, 0) = m.getD j (0, 0)) : l = m := by
  refine List.ext_getElem hlen fun j h1 h2 => ?_
  have := h j h1
  rwa [List.getD_eq_getElem?_getD, List.getD_eq_getElem?_getD, List.getElem?_eq_getElem h1, List.getElem?_eq_getElem h2] at this

theorem same_len (A A' : Option Addr) (n m c c' : Nat) (w : World) (hne : n ≠ m) :
    Calls Try.prog 16 #[.slice A n c, .slice A' m c'] w fun e w' => e = .returned (.bool false) ∧ Below w.heap.size w w' := by
  have hz : ((n : Int) == (m : Int)) = false := beq_eq_false_iff_ne.2 (by omega)
  have hz2 : ((n : Int) != (m : Int)) = true := by rw [bne, hz]; rfl
  go_enter Try.func16, Try.ntmps16
  go_wp2
  go_ret
  exact ⟨rfl, Below.refl _ _⟩

theorem same_any (A A' : Option Addr) (l m : List (Int × Int)) (c c' : Nat) (w : World) (hR : Rd w w.heap.size A l) (hR' : Rd w w.heap.size A' m) (hl : l.length ≤ 1000000) (hlm : l.length = m.length) :
    Calls Try.prog 16 #[.slice A l.length c, .slice A' l.length c'] w fun e w' => e = .returned (.bool (decide (l = m))) ∧ Below w.heap.size w w' := by
  generalize hr : decide (l = m) = r
  have HR := Lib.hid hr
  have HLM := Lib.hid hlm
  clear hr hlm
  go_enter Try.func16, Try.ntmps16
  go_wp2
  go_loopw [5] (fun i wr => ∃ k : Nat, k ≤ l.length ∧ i = .int .i64 k ∧ Hid (∀ j, j < k → l.getD j (0, 0) = m.getD j (0, 0)) ∧ Below w.heap.size w wr) (fun i _ => l.length - (intOf i).toNat)
  case atStart => exact ⟨0, Nat.zero_le _, rfl, (show Hid _ from fun j hj => absurd hj (Nat.not_lt_zero j)), Below.refl _ _⟩
  case round =>
    obtain ⟨k, hk, rfl, HK, hb⟩ := hrel
    by_cases hlt : k < l.length
    · have hltz : (k : Int) < (l.length : Int) := by omega
      obtain ⟨b, off, rfl, hbB, hcell⟩ := hR.at_ (by omega)
      obtain ⟨b2, off2, rfl, hbB2, hcell2⟩ := hR'.at_ (by have := HLM.out; omega)
      obtain ⟨⟨x, y⟩, hxy⟩ : ∃ p, p = l.getD k (0, 0) := ⟨_, rfl⟩
      obtain ⟨⟨cx, cy⟩, hcxy⟩ : ∃ p, p = m.getD k (0, 0) := ⟨_, rfl⟩
      obtain ⟨a0, a1⟩ := hcell k hlt
      obtain ⟨e0, e1⟩ := hcell2 k (by have := HLM.out; omega)
      rw [← hxy] at a0 a1
      rw [← hcxy] at e0 e1
      simp only at a0 a1 e0 e1
      have k0 := Qt.cell_in (Qt.keep hb a0)
      have k1 := Qt.cell_in (Qt.keep hb a1)
      have k2 := Qt.cell_in (Qt.keep hb e0)
      have k3 := Qt.cell_in (Qt.keep hb e1)
      have HXY := Lib.hid hxy
      have HCXY := Lib.hid hcxy
      clear hxy hcxy hcell hcell2 a0 a1 e0 e1
      have hcase : (x = cx ∧ y = cy) ∨ (x = cx ∧ ¬ y = cy) ∨ ¬ x = cx := by
        by_cases h1 : x = cx <;> by_cases h2 : y = cy <;> simp [h1, h2]
      rcases hcase with ⟨rfl, rfl⟩ | ⟨rfl, hy⟩ | hx
      · go_wp2
        refine Qt.below_all (by kernel_rfl) (by kernel_rfl) ?_
        repeat (go_big_quiet_step (fail))
        refine wpQuiet_nil ?_
        intro w1 hb1
        clear k0 k1 k2 k3
        go_wp2
        go_roundw
        case measure => simp [intOf]; omega
        case rel =>
          refine ⟨k + 1, by omega, by go_num, (show Hid _ from fun j hj => ?_), Qt.more hb hb.size hb1⟩
          by_cases hjk : j = k
          · subst hjk; rw [← HXY.out, ← HCXY.out]
          · exact HK.out j (by omega)
      all_goals
        have hne : l ≠ m := by
          intro e
          subst e
          have := HXY.out.trans HCXY.out.symm
          simp at this
          omega
        have HNE := Lib.hid hne
        clear hne
        go_wp2
        refine Qt.below_all (by kernel_rfl) (by kernel_rfl) ?_
        repeat (go_big_quiet_step (fail))
        refine wpQuiet_nil ?_
        intro w1 hb1
        clear k0 k1 k2 k3
        go_wp2
        go_ret
        exact ⟨by rw [← HR.out, decide_eq_false HNE.out]; rfl, Qt.more hb hb.size hb1⟩
    · have hltz : ¬ (k : Int) < (l.length : Int) := by omega
      have he : l = m := eq_of_all HLM.out fun j hj => HK.out j (by omega)
      have HE := Lib.hid he
      clear he
      go_wp2
      go_ret
      exact ⟨by rw [← HR.out, decide_eq_true HE.out]; rfl, hb⟩

/-- .. of slices that read as lists, whatever their places. -/
theorem same_holds {A A' : Option Addr} {l m : List (Int × Int)} {c c' : Nat} {w : World} (hR : Rd w w.heap.size A l) (hR' : Rd w w.heap.size A' m) (hl : l.length ≤ 1000000) :
    Calls Try.prog 16 #[.slice A l.length c, .slice A' m.length c'] w fun e w' => e = .returned (.bool (decide (l = m))) ∧ Below w.heap.size w w' := by
  by_cases h : l.length = m.length
  · have := same_any A A' l m c c' w hR hR' hl h
    rwa [← h]
  · rw [decide_eq_false fun e => h (congrArg List.length e)]
    exact same_len A A' _ _ c c' w h

end Go.Proofs.Ytafoleafhkadiaa
