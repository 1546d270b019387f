/-
  The laws' bits of a node of a level of more than four: no text; the text of any node.
-/
import Derived.Test.YtcmdhochofoohaaRu
namespace Go.Proofs.Ytcmdhochofoohaa
set_option maxRecDepth 100000
set_option linter.unusedVariables false
set_option linter.unusedSimpArgs false
open Go.RowKit Go.Sort

set_option maxHeartbeats 4000000 in
set_option maxRecDepth 100000 in
theorem bits_high (A : Option Addr) (l : List Nd) (c : Nat) (room : Int) (hs : l.length ≤ 100000) (n : Nat) (hn : n < l.length) (hlev : 4 < (l.getD n deadN).1) (w : World) (hR : RdN w w.heap.size A l) :
    Calls Try.prog 27 #[storeV A l.length c room, .int .i64 n] w fun e w' => e = .returned (.string ⟨#[]⟩) ∧ Below w.heap.size w w' := by
  have hb1 : Below w.heap.size w (w.alloc (.cells #[.slice A l.length c, .int .i64 room] 25)) := (Below.refl _ _).alloc (Nat.le_refl _) _
  obtain ⟨q, o, rfl, hq, hnd⟩ := hR.at_ (by omega)
  have x := hnd n hn
  obtain ⟨⟨lv, K, pp⟩, hx⟩ : ∃ x, x = l.getD n deadN := ⟨_, rfl⟩
  rw [← hx] at x hlev
  obtain ⟨x0, x1, x2, x3, x4, x5⟩ := x
  replace x0 := Qt.keep hb1 x0
  replace x1 := Qt.keep hb1 x1
  replace x2 := Qt.keep hb1 x2
  replace x3 := Qt.keep hb1 x3
  replace x4 := Qt.keep hb1 x4
  replace x5 := Qt.keep hb1 x5
  have d1 : decide ((n : Int) < 0) = false := decide_eq_false (by omega)
  have d2 : decide (l.length ≤ n) = false := decide_eq_false (by omega)
  have hnz : (n : Int) < (l.length : Int) := by omega
  simp only at x0 x1 x2 x3 x4 x5 hlev
  have hg : lv > 4 := hlev
  have hbw := fun o : Obj => hb1.alloc hb1.size o
  have HBW := Lib.hid hbw
  unfold storeV
  clear hnd hR hbw hb1 hx hlev
  go_enter Try.func27, Try.ntmps27
  go_wp2_with fail
  go_ret
  exact ⟨rfl, HBW.out _⟩
/-- the text of any node, as the laws have it -/
def txN (l : List Nd) (n : Nat) : ByteArray := if 4 < (l.getD n deadN).1 then ⟨#[]⟩ else txB (bitsN l (l.getD n deadN).1.toNat n)
theorem bits_all (A : Option Addr) (l : List Nd) (c : Nat) (room : Int) (hRt : Right6 l room) (hc : l.length ≤ c) (n : Nat) (hn : n < l.length) (w : World) (hR : RdN w w.heap.size A l) :
    Calls Try.prog 27 #[storeV A l.length c room, .int .i64 n] w fun e w' => e = .returned (.string (txN l n)) ∧ Below w.heap.size w w' := by
  have hb := right_bd hRt n hn
  unfold txN
  by_cases h : 4 < (l.getD n deadN).1
  · rw [if_pos h]
    exact bits_high A l c room hRt.small n hn h w hR
  · rw [if_neg h]
    exact bits_any A l c room hRt hc (l.getD n deadN).1.toNat (by omega) n hn (by omega) w hR
end Go.Proofs.Ytcmdhochofoohaa
