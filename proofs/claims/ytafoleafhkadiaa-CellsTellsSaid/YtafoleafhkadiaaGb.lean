/-
  The document's answer of layer 1: Of.
-/
import Derived.Test.YtafoleafhkadiaaGa
import Derived.Test.YtafoleafhkadiaaEc
namespace Go.Proofs.Ytafoleafhkadiaa
open Go.RowKit Go.Sort

theorem ofR_out {l : List (Int × Int)} {k : Nat} (hk : k < l.length) (h : inB (l.getD k (0, 0)) = false) : ofR l = (2, []) := by
  unfold ofR
  rw [if_pos]
  exact List.any_eq_true.2 ⟨_, getD_mem hk, by rw [h]; rfl⟩
theorem ofR_in {l : List (Int × Int)} (h : ∀ j, j < l.length → inB (l.getD j (0, 0)) = true) : ofR l = if 2000 < (setL l).length then (3, []) else (0, setL l) := by
  unfold ofR
  rw [if_neg]
  rw [List.any_eq_true]
  rintro ⟨p, hp, e⟩
  obtain ⟨j, hj, he⟩ := List.getElem_of_mem hp
  have := h j hj
  rw [List.getD_eq_getElem?_getD, List.getElem?_eq_getElem hj, Option.getD_some, he] at this
  rw [this] at e
  cases e

set_option maxHeartbeats 1000000 in
set_option maxRecDepth 100000 in
theorem refOf_any (A : Option Addr) (l : List (Int × Int)) (c : Nat) (w : World) (hR : Rd w w.heap.size A l) (hl : l.length ≤ 900000) (hc : l.length ≤ c) :
    Calls Try.prog 15 #[.slice A l.length c] w (Ans w (ofR l)) := by
  obtain ⟨r, hr⟩ : ∃ r, r = ofR l := ⟨_, rfl⟩
  rw [← hr]
  have HR := Lib.hid hr
  clear hr
  go_enter Try.func15, Try.ntmps15
  go_wp2
  go_loopw [4] (fun i wr => ∃ k : Nat, k ≤ l.length ∧ i = .int .i64 k ∧ Hid (∀ j, j < k → inB (l.getD j (0, 0)) = true) ∧ Below w.heap.size w wr) (fun i _ => l.length - (intOf i).toNat)
  case atStart => exact ⟨0, Nat.zero_le _, rfl, fun j hj => absurd hj (Nat.not_lt_zero j), Below.refl _ _⟩
  case round =>
    obtain ⟨k, hk, rfl, HK, hb⟩ := hrel
    by_cases hlt : k < l.length
    · have hltz : (k : Int) < (l.length : Int) := by omega
      obtain ⟨b, off, rfl, hbB, hcell⟩ := hR.at_ (by omega)
      obtain ⟨⟨x, y⟩, hxy⟩ : ∃ p, p = l.getD k (0, 0) := ⟨_, rfl⟩
      have a0 := (hcell k hlt).1
      have a1 := (hcell k hlt).2
      rw [← hxy] at a0 a1
      simp only at a0 a1
      have c0 := Qt.keep hb a0
      have c1 := Qt.keep hb a1
      have HXY := Lib.hid hxy
      clear hxy a0 a1 hcell
      cases hin : inB (x, y)
      · have E : Hid (ofR l = (2, [])) := ofR_out hlt (by rw [← HXY.out]; exact hin)
        go_wp2_with (go_at_call 45; refine (refIn_no (x, y) hin _).mono ?_; rintro e w1 ⟨rfl, hb1⟩)
        go_ret2
        rw [HR.out, E.out]
        exact Ans.nil 2 (Qt.more hb hb.size hb1)
      · go_wp2_with (go_at_call 45; refine (refIn_yes (x, y) hin _).mono ?_; rintro e w1 ⟨rfl, hb1⟩)
        go_roundw
        case measure => simp [intOf]; omega
        case rel =>
          refine ⟨k + 1, by omega, by go_num, (show Hid _ from fun j hj => ?_), Qt.more hb hb.size hb1⟩
          by_cases hjk : j = k
          · subst hjk; rw [← HXY.out]; exact hin
          · exact HK.out j (by omega)
    · have hltz : ¬ (k : Int) < (l.length : Int) := by omega
      have E := Lib.hid (ofR_in fun j hj => HK.out j (by omega))
      have HB := Lib.hid hb
      clear hb HK
      go_wp2
      go_loopw [5, 6] (fun v i wr => ∃ k : Nat, k ≤ l.length ∧ i = .int .i64 k ∧ Aside (Reads wr v (setL (l.take k)) ∧ Below w.heap.size w wr)) (fun _ i _ => l.length - (intOf i).toNat)
      case atStart => exact ⟨0, Nat.zero_le _, rfl, ⟨none, 0, rfl, Nat.le_refl _, Rd.nil _ _ _⟩, HB.out⟩
      case round =>
        obtain ⟨k, hk, rfl, HK⟩ := hrel
        obtain ⟨A', c', rfl, hc', hR'⟩ := HK.out.1
        have hlen : (setL (l.take k)).length ≤ k := Nat.le_trans (length_setL _) (by rw [List.length_take]; omega)
        by_cases hlt : k < l.length
        · have hltz : (k : Int) < (l.length : Int) := by omega
          obtain ⟨b, off, rfl, hbB, hcell⟩ := hR.at_ (by omega)
          obtain ⟨⟨x, y⟩, hxy⟩ : ∃ p, p = l.getD k (0, 0) := ⟨_, rfl⟩
          have a0 := (hcell k hlt).1
          have a1 := (hcell k hlt).2
          rw [← hxy] at a0 a1
          simp only at a0 a1
          have c0 := Qt.keep HK.out.2 a0
          have c1 := Qt.keep HK.out.2 a1
          have HT : Hid (setL (l.take (k + 1)) = putL (x, y) (setL (l.take k))) := (show setL (l.take (k + 1)) = putL (x, y) (setL (l.take k)) from by rw [take_snoc hlt, setL_snoc, ← hxy])
          clear hxy a0 a1 hcell
          obtain ⟨s, hs⟩ : ∃ s, s = setL (l.take k) := ⟨_, rfl⟩
          rw [← hs] at hR' hc' hlen HK HT ⊢
          clear hs
          go_wp2_with (go_at_call 37; refine (put_any A' s c' (x, y) _ hR' (by omega) hc').mono ?_; rintro e w1 ⟨v1, rfl, hown, hb1⟩; have HO := Lib.hid hown; have HB1 := Lib.hid hb1; clear hown hb1)
          go_roundw
          case measure => simp [intOf]; omega
          case rel =>
            obtain ⟨A2, c2, e2, h1, h2⟩ := HO.out.rd
            exact ⟨k + 1, by omega, by go_num, ⟨by rw [HT.out]; exact ⟨A2, c2, e2, h1, h2⟩, Qt.more HK.out.2 HK.out.2.size HB1.out⟩⟩
        · have hltz : ¬ (k : Int) < (l.length : Int) := by omega
          obtain rfl : k = l.length := by omega
          rw [List.take_length] at HK hR' hc' hlen ⊢
          by_cases hlong : 2000 < (setL l).length
          · have hz : (2000 : Int) < ((setL l).length : Int) := by omega
            have E2 : Hid (r = (3, [])) := (show r = (3, []) from by rw [HR.out, E.out, if_pos hlong])
            go_wp2
            go_ret2
            rw [E2.out]
            exact Ans.nil 3 HK.out.2
          · have hz : ¬ (2000 : Int) < ((setL l).length : Int) := by omega
            have E2 : Hid (r = (0, setL l)) := (show r = (0, setL l) from by rw [HR.out, E.out, if_neg hlong])
            go_wp2
            go_ret2
            rw [E2.out]
            exact ⟨_, rfl, ⟨A', c', rfl, hc', hR'⟩, HK.out.2⟩

end Go.Proofs.Ytafoleafhkadiaa
