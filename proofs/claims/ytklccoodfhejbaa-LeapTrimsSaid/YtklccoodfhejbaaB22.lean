/-
  Texts that the claims of this seat share, part 22.
-/
import Derived.Test.YtklccoodfhejbaaB10
import Derived.Test.YtklccoodfhejbaaB21
import Derived.Test.YtklccoodfhejbaaB03
import Derived.Test.YtklccoodfhejbaaB04
set_option linter.unusedVariables false
set_option linter.unusedSimpArgs false
namespace Go.Proofs.Ytklccoodfhejbaa
set_option maxRecDepth 100000
set_option linter.unusedVariables false
set_option linter.unusedSimpArgs false
open Go.RowKit Go.Sort

theorem storeR_box7 {l : List Nd} {room : Int} {w : World} {e : Ending} {w' : World} (h : StoreR l room w e w') : ∃ A c, e = .returned (.agg #[.slice A l.length c, .int .i64 room]) ∧ l.length ≤ c ∧ NowN w' A l ∧ Below w.heap.size w w' := by
  obtain ⟨v, rfl, ⟨A, c, rfl, hc, hN⟩, hb⟩ := h
  exact ⟨A, c, rfl, hc, hN, hb⟩
end Go.Proofs.Ytklccoodfhejbaa
namespace Go.Proofs.Ytklccoodfhejbaa
set_option linter.unusedVariables false
set_option linter.unusedSimpArgs false
open Go.RowKit Go.Sort

/-- Two stores as they lie in boxes. -/
structure TwoAt (w wr : World) (A : Option Addr) (n c : Nat) (room : Int) (B : Option Addr) (m d : Nat) (ro : Int) : Prop where
  one : wr.heap[w.heap.size]? = some (.cells #[.slice A n c, .int .i64 room] 26 (0, 0))
  two : wr.heap[w.heap.size + 1]? = some (.cells #[.slice B m d, .int .i64 ro] 26 (0, 0))
  bel : Below w.heap.size w wr
section
variable {w wr w' : World} {A B : Option Addr} {n c m d : Nat} {room ro : Int}
theorem TwoAt.below (h : TwoAt w wr A n c room B m d ro) (hb : Below wr.heap.size wr w') : TwoAt w w' A n c room B m d ro :=
  ⟨(hb.block _ (lt_heap6 h.one)).trans h.one, (hb.block _ (lt_heap6 h.two)).trans h.two, Qt.more h.bel h.bel.size hb⟩
theorem TwoAt.a0 (h : TwoAt w wr A n c room B m d ro) : wr.cell? ⟨w.heap.size, 0, none⟩ = some (.slice A n c) := by rw [Lib.cell_of_heap h.one]; rfl
theorem TwoAt.a1 (h : TwoAt w wr A n c room B m d ro) : wr.cell? ⟨w.heap.size, 1, none⟩ = some (.int .i64 room) := by rw [Lib.cell_of_heap h.one]; rfl
theorem TwoAt.b0 (h : TwoAt w wr A n c room B m d ro) : wr.cell? ⟨w.heap.size + 1, 0, none⟩ = some (.slice B m d) := by rw [Lib.cell_of_heap h.two]; rfl
theorem TwoAt.b1 (h : TwoAt w wr A n c room B m d ro) : wr.cell? ⟨w.heap.size + 1, 1, none⟩ = some (.int .i64 ro) := by rw [Lib.cell_of_heap h.two]; rfl
end
theorem twoAt_0 (w : World) (A : Option Addr) (n c : Nat) (room : Int) (B : Option Addr) (m d : Nat) (ro : Int) : TwoAt w ((w.alloc (.cells #[.slice A n c, .int .i64 room] 26)).alloc (.cells #[.slice B m d, .int .i64 ro] 26)) A n c room B m d ro := by
  have h1 := storeAt_0 w A n c room
  have hs := lt_heap6 h1.store
  have hsz : (w.alloc (.cells #[.slice A n c, .int .i64 room] 26)).heap.size = w.heap.size + 1 := by simp
  refine ⟨(Lib.alloc_old _ _ _ (by omega)).trans h1.store, ?_, h1.bel.alloc (by omega) _⟩
  rw [← hsz]
  exact heap_alloc_new _ _
theorem ext_nd {l m : List Nd} (h : l.length = m.length) (hq : ∀ q, q < l.length → l.getD q deadN = m.getD q deadN) : l = m := by
  refine List.ext_getElem h fun i h1 h2 => ?_
  have := hq i h1
  simpa [List.getD, h1, h2] using this

set_option maxHeartbeats 4000000 in
set_option maxRecDepth 100000 in
theorem refSame6_any (A : Option Addr) (l : List Nd) (c : Nat) (room : Int) (B : Option Addr) (m : List Nd) (d : Nat) (ro : Int) (w : World) (hR : RdN w w.heap.size A l) (hS : RdN w w.heap.size B m) (hl : l.length ≤ 1000000) (hm : m.length ≤ 1000000) :
    Calls Try.prog 17 #[storeV A l.length c room, storeV B m.length d ro] w fun e w' => e = .returned (.bool (decide (room = ro ∧ l = m))) ∧ Below w.heap.size w w' := by
  have HH0 := Lib.hid (twoAt_0 w A l.length c room B m.length d ro)
  have a0 := HH0.out.a0
  have a1 := HH0.out.a1
  have b0 := HH0.out.b0
  have b1 := HH0.out.b1
  have hbel := HH0.out.bel
  unfold storeV
  by_cases h1 : room = ro
  · subst h1
    by_cases h2 : l.length = m.length
    · have h2z : (l.length : Int) = (m.length : Int) := by omega
      have hyes : (∀ q, q < l.length → l.getD q deadN = m.getD q deadN) → decide (room = room ∧ l = m) = true := fun h => decide_eq_true ⟨rfl, ext_nd h2 h⟩
      have hno : ∀ q, l.getD q deadN ≠ m.getD q deadN → decide (room = room ∧ l = m) = false := fun q h => decide_eq_false fun hh => h (by rw [hh.2])
      generalize decide (room = room ∧ l = m) = r at *
      have HY := Lib.hid hyes
      have HN := Lib.hid hno
      have H2 := Lib.hid h2
      rw [← h2] at b0 hm
      clear hyes hno h2z
      go_enter Try.func17, Try.ntmps17
      rw [← h2]
      clear h2
      go_wp2
      clear a0 a1 b0 b1 hbel
      go_loopw [5] (fun i wr => ∃ j : Nat, j ≤ l.length ∧ i = .int .i64 j ∧ Hid (TwoAt w wr A l.length c room B l.length d room ∧ ∀ q, q < j → l.getD q deadN = m.getD q deadN)) (fun i _ => l.length - (intOf i).toNat)
      case atStart => exact ⟨0, Nat.zero_le _, rfl, H2.out ▸ HH0.out, fun q h => absurd h (Nat.not_lt_zero q)⟩
      case round =>
        obtain ⟨j, hj, rfl, HH⟩ := hrel
        have H := HH.out.1
        have s0 := H.a0
        by_cases hlt : j < l.length
        · have hltz : (j : Int) < (l.length : Int) := by omega
          obtain ⟨c0, off, rfl, hbB, hcell⟩ := hR.at_ (by omega)
          obtain ⟨n0, n1, n2, n3, n4, n5⟩ := hcell j hlt
          obtain ⟨e0, off2, rfl, hbE, hcel2⟩ := hS.at_ (by have := H2.out; omega)
          obtain ⟨m0, m1, m2, m3, m4, m5⟩ := hcel2 j (by have := H2.out; omega)
          have hne := fun W => neqN (l.getD j deadN) (m.getD j deadN) W
          have hn := HN.out j
          have hstep : l.getD j deadN = m.getD j deadN → ∀ q, q < j + 1 → l.getD q deadN = m.getD q deadN := by
            intro he q hq
            rcases Nat.lt_or_ge q j with h | h
            · exact HH.out.2 q h
            · obtain rfl : q = j := by omega
              exact he
          have HS := Lib.hid hstep
          obtain ⟨x, hx⟩ : ∃ x, x = l.getD j deadN := ⟨_, rfl⟩
          obtain ⟨y, hy⟩ : ∃ y, y = m.getD j deadN := ⟨_, rfl⟩
          rw [← hx] at n0 n1 n2 n3 n4 n5
          rw [← hy] at m0 m1 m2 m3 m4 m5
          rw [← hx, ← hy] at hne hn
          have HX := Lib.hid (show (x = y → l.getD j deadN = m.getD j deadN) from fun h => by rw [← hx, ← hy, h])
          have q0 := Qt.cell_in (Qt.keep H.bel n0)
          have q1 := Qt.cell_in (Qt.keep H.bel n1)
          have q2 := Qt.cell_in (Qt.keep H.bel n2)
          have q3 := Qt.cell_in (Qt.keep H.bel n3)
          have q4 := Qt.cell_in (Qt.keep H.bel n4)
          have q5 := Qt.cell_in (Qt.keep H.bel n5)
          have p0 := Qt.cell_in (Qt.keep H.bel m0)
          have p1 := Qt.cell_in (Qt.keep H.bel m1)
          have p2 := Qt.cell_in (Qt.keep H.bel m2)
          have p3 := Qt.cell_in (Qt.keep H.bel m3)
          have p4 := Qt.cell_in (Qt.keep H.bel m4)
          have p5 := Qt.cell_in (Qt.keep H.bel m5)
          have t0 := Qt.cell_in H.a0
          have t1 := Qt.cell_in H.b0
          clear n0 n1 n2 n3 n4 n5 m0 m1 m2 m3 m4 m5 hstep hx hy hcell hcel2
          by_cases hxy : x = y
          · have HE := HX.out hxy
            rw [decide_eq_true hxy] at hne
            clear hn hxy
            go_wp2_with fail
            refine Qt.below_all (by kernel_rfl) (by kernel_rfl) ?_
            repeat (go_big_quiet_step (fail))
            refine wpQuiet_nil ?_
            intro w1 hb1
            have H1 := H.below hb1
            clear q0 q1 q2 q3 q4 q5 p0 p1 p2 p3 p4 p5 t0 t1 hne s0 H hb1
            have HN2 : Hid (TwoAt w w1 (some ⟨c0, off, none⟩) l.length c room (some ⟨e0, off2, none⟩) l.length d room ∧ ∀ q, q < j + 1 → l.getD q deadN = m.getD q deadN) := ⟨H1, HS.out HE⟩
            clear HE HX HS HH H1
            go_wp2
            go_roundw
            case measure => simp [intOf]; omega
            case rel => exact ⟨j + 1, by omega, by go_num, HN2.out⟩
          · have hr := hn hxy
            rw [decide_eq_false hxy] at hne
            subst hr
            clear hn HX HS HH hxy
            go_wp2_with fail
            refine Qt.below_all (by kernel_rfl) (by kernel_rfl) ?_
            repeat (go_big_quiet_step (fail))
            refine wpQuiet_nil ?_
            intro w1 hb1
            have H1 := H.below hb1
            clear q0 q1 q2 q3 q4 q5 p0 p1 p2 p3 p4 p5 t0 t1 hne s0 H hb1
            have hbel := H1.bel
            clear H1
            go_wp2
            go_ret
            exact ⟨rfl, hbel⟩
        · obtain rfl : j = l.length := by omega
          have hltz : ¬ (l.length : Int) < (l.length : Int) := by omega
          have hr := HY.out HH.out.2
          subst hr
          have hbel := H.bel
          clear HH H
          go_wp2
          go_ret
          exact ⟨rfl, hbel⟩
    · have hf : decide (room = room ∧ l = m) = false := decide_eq_false fun h => h2 (by rw [h.2])
      rw [hf]
      have h2z : ¬ (l.length : Int) = (m.length : Int) := by omega
      clear hf
      go_enter Try.func17, Try.ntmps17
      go_wp2
      go_ret
      exact ⟨rfl, hbel⟩
  · have hf : decide (room = ro ∧ l = m) = false := decide_eq_false fun h => h1 h.1
    rw [hf]
    clear hf
    go_enter Try.func17, Try.ntmps17
    go_wp2
    go_ret
    exact ⟨rfl, hbel⟩
end Go.Proofs.Ytklccoodfhejbaa
namespace Go.Proofs.Ytklccoodfhejbaa
set_option linter.unusedVariables false
set_option linter.unusedSimpArgs false
open Go.RowKit Go.Sort

theorem eq_of_all {l m : List Int} (hlen : l.length = m.length) (h : ∀ j, j < l.length → l.getD j 0 = m.getD j 0) : l = m := by
  refine List.ext_getElem hlen fun j h1 h2 => ?_
  have := h j h1
  rwa [List.getD_eq_getElem?_getD, List.getD_eq_getElem?_getD, List.getElem?_eq_getElem h1, List.getElem?_eq_getElem h2] at this

end Go.Proofs.Ytklccoodfhejbaa
