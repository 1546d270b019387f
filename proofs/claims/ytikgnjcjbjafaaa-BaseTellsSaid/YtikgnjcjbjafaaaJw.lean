/-
  The document's answers of layer 8: Sixteen.
-/
import Derived.Test.YtikgnjcjbjafaaaB15
import Derived.Test.YtikgnjcjbjafaaaB19
import Derived.Test.YtikgnjcjbjafaaaKe
import Derived.Test.YtikgnjcjbjafaaaB06
namespace Go.Proofs.Ytikgnjcjbjafaaa
set_option maxRecDepth 100000
set_option linter.unusedVariables false
set_option linter.unusedSimpArgs false
open Go.RowKit Go.Sort

/-- the first of the sixteen -/
def sxTo (l : List Nd) (n k : Nat) : List Int := (List.range k).map fun i => ((sx l n (i / 4) (i % 4) : Nat) : Int)
theorem sxTo_succ (l : List Nd) (n k : Nat) : sxTo l n (k + 1) = sxTo l n k ++ [((sx l n (k / 4) (k % 4) : Nat) : Int)] := by
  unfold sxTo
  rw [List.range_succ, List.map_append]
  rfl
theorem sxTo_len (l : List Nd) (n k : Nat) : (sxTo l n k).length = k := by unfold sxTo; simp
theorem sxTo_get (l : List Nd) (n : Nat) {k i : Nat} (h : i < k) : (sxTo l n k).getD i 0 = ((sx l n (i / 4) (i % 4) : Nat) : Int) := by
  unfold sxTo
  rw [List.getD_eq_getElem?_getD, List.getElem?_map, List.getElem?_range h]
  rfl
/-- What Sixteen answers. -/
def OutI (L : List Int) (w : World) (r : Ending) (w' : World) : Prop := ∃ A c, r = .returned (.slice A L.length c) ∧ L.length ≤ c ∧ Now w' A L ∧ Below w.heap.size w w'
/-- what is known in Sixteen -/
structure SiAt (w wr : World) (A : Option Addr) (n c : Nat) (room : Int) (v : Value) (L : List Int) : Prop where
  st : wr.heap[w.heap.size]? = some (.cells #[.slice A n c, .int .i64 room] 27 (0, 0))
  own : Own wr (w.heap.size + 1) v L
  bel : Below w.heap.size w wr
theorem SiAt.s0 {w wr : World} {A : Option Addr} {n c : Nat} {room : Int} {v : Value} {L : List Int} (h : SiAt w wr A n c room v L) : wr.cell? ⟨w.heap.size, 0, none⟩ = some (.slice A n c) := by rw [Lib.cell_of_heap h.st]; rfl
theorem SiAt.next {w wr w' : World} {A : Option Addr} {n c : Nat} {room : Int} {v v' : Value} {L L' : List Int} (h : SiAt w wr A n c room v L) (hb : Below (w.heap.size + 1) wr w') (ho : Own w' (w.heap.size + 1) v' L') : SiAt w w' A n c room v' L' :=
  ⟨(hb.block _ (by omega)).trans h.st, ho, ⟨hb.os.trans h.bel.os, hb.tape.trans h.bel.tape, hb.output.trans h.bel.output, Nat.le_trans h.bel.size hb.size, fun k hk => (hb.block k (by omega)).trans (h.bel.block k hk)⟩⟩
set_option maxHeartbeats 16000000 in
theorem refSixteen_any {room0 : Int} {l : List Nd} (hr : Right6 l room0) (A : Option Addr) (c : Nat) (room : Int) {e n : Nat} (w : World) (hn : Is l (e + 2) n) (hR : RdN w w.heap.size A l) :
    Calls Try.prog 105 #[storeV A l.length c room, .int .i64 (n : Nat)] w (OutI (sxTo l n 16) w) := by
  obtain ⟨b0, off, rfl, hbB, hcell⟩ := hR.at_ (by have := hr.two; omega)
  have hA : ∀ K, K < 4 → w.cell? ⟨b0, off + n * 6 + 1 + K, none⟩ = some (.int .i64 ((kidN l n K : Nat) : Int)) := fun K hK => by
    rw [← kid_cast hr hn hK]
    obtain ⟨_, h1, h2, h3, h4, _⟩ := hcell n hn.lt
    rcases (by omega : K = 0 ∨ K = 1 ∨ K = 2 ∨ K = 3) with rfl | rfl | rfl | rfl
    · exact h1
    · exact h2
    · exact h3
    · exact h4
  have hB : ∀ K J, K < 4 → J < 4 → w.cell? ⟨b0, off + (kidN l n K) * 6 + 1 + J, none⟩ = some (.int .i64 ((kidN l (kidN l n K) J : Nat) : Int)) := fun K J hK hJ => by
    have hk := kid_is hr hn hK
    rw [← kid_cast hr hk hJ]
    obtain ⟨_, h1, h2, h3, h4, _⟩ := hcell _ hk.lt
    rcases (by omega : J = 0 ∨ J = 1 ∨ J = 2 ∨ J = 3) with rfl | rfl | rfl | rfl
    · exact h1
    · exact h2
    · exact h3
    · exact h4
  have hkl : ∀ K, K < 4 → ((kidN l n K : Nat) : Int) < (l.length : Int) := fun K hK => by have := (kid_is hr hn hK).lt; omega
  have hnz : (n : Int) < (l.length : Int) := by have := hn.lt; omega
  have hal := (Below.refl w.heap.size w).alloc (Nat.le_refl _) (.cells #[.slice (some ⟨b0, off, none⟩) l.length c, .int .i64 room] 27)
  have HS0 := Lib.hid (show SiAt w (w.alloc (.cells #[.slice (some ⟨b0, off, none⟩) l.length c, .int .i64 room] 27)) (some ⟨b0, off, none⟩) l.length c room (.slice none 0 0) (sxTo l n (4 * 0)) from ⟨heap_new rfl, World.ownsRow_nil _ _ _ _, hal⟩)
  have HA := Lib.hid hA
  have HB := Lib.hid hB
  have HKL := Lib.hid hkl
  clear hA hB hkl hcell hal hR
  unfold storeV
  go_enter Try.func105, Try.ntmps105
  go_wp2_with fail
  generalize (w.alloc (.cells #[.slice (some ⟨b0, off, none⟩) l.length c, .int .i64 room] 27)) = w1 at *
  go_loopw [5, 6] (fun v u wr => ∃ y : Nat, y ≤ 4 ∧ u = .int .i64 y ∧ Hid (SiAt w wr (some ⟨b0, off, none⟩) l.length c room v (sxTo l n (4 * y)))) (fun _ u _ => 4 - (intOf u).toNat)
  case atStart => exact ⟨0, Nat.zero_le _, rfl, HS0.out⟩
  case round =>
    obtain ⟨y, hy, rfl, HH⟩ := hrel
    by_cases hlt : y < 4
    · have hltz : (y : Int) < 4 := by omega
      go_wp2_with fail
      obtain ⟨wo, hwo⟩ : ∃ wo, wo = wr := ⟨_, rfl⟩
      rw [← hwo] at HH ⊢
      clear hwo
      go_loopw [5, 7] (fun v u wr => ∃ x : Nat, x ≤ 4 ∧ u = .int .i64 x ∧ Hid (SiAt w wr (some ⟨b0, off, none⟩) l.length c room v (sxTo l n (4 * y + x)))) (fun _ u _ => 4 - (intOf u).toNat)
      case atStart => exact ⟨0, Nat.zero_le _, rfl, HH.out⟩
      case round =>
        obtain ⟨x, hx, rfl, HI⟩ := hrel
        by_cases hlx : x < 4
        · have hlxz : (x : Int) < 4 := by omega
          have hst := sxTo_succ l n (4 * y + x)
          rw [show (4 * y + x) / 4 = y by omega, show (4 * y + x) % 4 = x by omega] at hst
          have hsl := sxTo_len l n (4 * y + x)
          have s0 := HI.out.s0
          have f1 := Qt.keep HI.out.bel (HA.out (y / 2 * 2 + x / 2) (by omega))
          have f2 := Qt.keep HI.out.bel (HB.out (y / 2 * 2 + x / 2) (y % 2 * 2 + x % 2) (by omega) (by omega))
          have hkz := HKL.out (y / 2 * 2 + x / 2) (by omega)
          unfold sx at hst
          generalize kidN l (kidN l n (y / 2 * 2 + x / 2)) (y % 2 * 2 + x % 2) = q at *
          generalize kidN l n (y / 2 * 2 + x / 2) = K at *
          have hsz : w.heap.size + 1 ≤ wr.heap.size := lt_heap6 HI.out.st
          obtain ⟨v', w', hrun, hown, hb2⟩ := push_any (q : Int) hsz HI.out.own (by omega)
          rw [← hst] at hown
          have HN := Lib.hid (HI.out.next hb2 hown)
          clear hst hown hb2 hsl HI HH
          go_wp2_with (at_builtin; refine Lib.wpList_append_run _ rfl (.tmp 30) (.tmp 44) 60 60 rfl _ _ rfl rfl _ _ hrun ?_)
          go_roundw
          case measure => simp [intOf]; omega
          case rel => exact ⟨x + 1, by omega, by go_num, HN.out⟩
        · obtain rfl : x = 4 := by omega
          have hlxz : ¬ ((4 : Nat) : Int) < 4 := by decide
          have HE := HI.out
          rw [show 4 * y + 4 = 4 * (y + 1) by omega] at HE
          have HE2 := Lib.hid HE
          clear HE HI HH
          go_wp2_with fail
          go_roundw
          case measure => simp [intOf]; omega
          case rel => exact ⟨y + 1, by omega, by go_num, HE2.out⟩
    · obtain rfl : y = 4 := by omega
      have hltz : ¬ ((4 : Nat) : Int) < 4 := by decide
      have HBL := Lib.hid HH.out.bel
      obtain ⟨A9, c9, rfl, hc9, hR9⟩ := Own.reads HH.out.own
      have HR9 := Lib.hid hR9
      clear HH hR9
      go_wp2_with fail
      go_ret
      exact ⟨A9, c9, rfl, hc9, HR9.out, HBL.out⟩
end Go.Proofs.Ytikgnjcjbjafaaa
