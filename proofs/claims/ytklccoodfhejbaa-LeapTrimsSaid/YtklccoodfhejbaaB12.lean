/-
  Texts that the claims of this seat share, part 12.
-/
import Derived.Test.YtklccoodfhejbaaB11
import Derived.Test.YtklccoodfhejbaaB10
set_option linter.unusedVariables false
set_option linter.unusedSimpArgs false
namespace Go.Proofs.Ytklccoodfhejbaa
set_option maxRecDepth 100000
set_option linter.unusedVariables false
set_option linter.unusedSimpArgs false
open Go.RowKit Go.Sort

/-- sixteen numbers -/
abbrev row16 (v : Nat → Int) : Array Value := #[.int .i64 (v 0), .int .i64 (v 1), .int .i64 (v 2), .int .i64 (v 3), .int .i64 (v 4), .int .i64 (v 5), .int .i64 (v 6), .int .i64 (v 7), .int .i64 (v 8), .int .i64 (v 9), .int .i64 (v 10), .int .i64 (v 11), .int .i64 (v 12), .int .i64 (v 13), .int .i64 (v 14), .int .i64 (v 15)]
theorem row16_congr {v u : Nat → Int} (h : ∀ p, p < 16 → v p = u p) : row16 v = row16 u := by
  unfold row16
  rw [h 0 (by decide), h 1 (by decide), h 2 (by decide), h 3 (by decide), h 4 (by decide), h 5 (by decide), h 6 (by decide), h 7 (by decide), h 8 (by decide), h 9 (by decide), h 10 (by decide), h 11 (by decide), h 12 (by decide), h 13 (by decide), h 14 (by decide), h 15 (by decide)]
/-- sixteen numbers in a box -/
def S16 (w : World) (b : Nat) (v : Nat → Int) : Prop := w.heap[b]? = some (.cells (row16 v) 119 (0, 0))
theorem S16.below {w w' : World} {b : Nat} {v : Nat → Int} (h : S16 w b v) (hb : Below w.heap.size w w') : S16 w' b v := (hb.block _ (lt_heap6 h)).trans h
theorem S16.kp {w w' : World} {b : Nat} {v : Nat → Int} (h : S16 w b v) (hk : Kp w w') : S16 w' b v := hk _ _ _ _ h ⟨.inl (by decide), by decide⟩
theorem S16.c {w : World} {b : Nat} {v : Nat → Int} (h : S16 w b v) {p : Nat} (hp : p < 16) : w.cell? ⟨b, p, none⟩ = some (.int .i64 (v p)) := by
  rw [Lib.cell_of_heap h]
  have : ∀ p, p < 16 → (row16 v)[p]? = some (.int .i64 (v p)) := by
    intro p hp
    rcases (by omega : p = 0 ∨ p = 1 ∨ p = 2 ∨ p = 3 ∨ p = 4 ∨ p = 5 ∨ p = 6 ∨ p = 7 ∨ p = 8 ∨ p = 9 ∨ p = 10 ∨ p = 11 ∨ p = 12 ∨ p = 13 ∨ p = 14 ∨ p = 15) with rfl | rfl | rfl | rfl | rfl | rfl | rfl | rfl | rfl | rfl | rfl | rfl | rfl | rfl | rfl | rfl <;> rfl
  exact this p hp
theorem S16.f {w : World} {b : Nat} {v : Nat → Int} (h : S16 w b v) (p : Nat) : w.frozen? ⟨b, p, none⟩ = false := Lib.frozen_of_heap h p
theorem S16.set {w : World} {b : Nat} {v : Nat → Int} (h : S16 w b v) {p : Nat} (hp : p < 16) (x : Int) : S16 (w.setCell ⟨b, p, none⟩ (.int .i64 x)) b (fun i => if i = p then x else v i) := by
  unfold S16 at h ⊢
  have hs : (w.setCell ⟨b, p, none⟩ (.int .i64 x)).heap[b]? = some (.cells ((row16 v).setIfInBounds p (.int .i64 x)) 119 (0, 0)) := by
    simp [World.setCell, Array.getElem?_modify, h]
  rw [hs]
  congr 2
  rcases (by omega : p = 0 ∨ p = 1 ∨ p = 2 ∨ p = 3 ∨ p = 4 ∨ p = 5 ∨ p = 6 ∨ p = 7 ∨ p = 8 ∨ p = 9 ∨ p = 10 ∨ p = 11 ∨ p = 12 ∨ p = 13 ∨ p = 14 ∨ p = 15) with rfl | rfl | rfl | rfl | rfl | rfl | rfl | rfl | rfl | rfl | rfl | rfl | rfl | rfl | rfl | rfl <;> rfl
/-- when a place among the sixteen is written -/
def whenW (p : Nat) : Nat := (p / 4 / 2 * 2 + p % 4 / 2) * 4 + (p / 4 % 2 * 2 + p % 4 % 2)
/-- the sixteen behind so many steps -/
def vTo (l : List Nd) (n t : Nat) (p : Nat) : Int := if whenW p < t then ((sx l n (p / 4) (p % 4) : Nat) : Int) else 0
def v16 (l : List Nd) (n : Nat) (p : Nat) : Int := ((sx l n (p / 4) (p % 4) : Nat) : Int)
theorem vTo_zero (l : List Nd) (n : Nat) : row16 (vTo l n 0) = row16 fun _ => 0 := row16_congr fun p _ => if_neg (Nat.not_lt_zero _)
theorem whenW_lt {p : Nat} (hp : p < 16) : whenW p < 16 := by unfold whenW; omega
theorem vTo_all (l : List Nd) (n : Nat) : row16 (vTo l n 16) = row16 (v16 l n) := row16_congr fun p hp => if_pos (whenW_lt hp)
theorem when_at : ∀ i, i < 4 → ∀ j, j < 4 → ∀ p, p < 16 → (whenW p = i * 4 + j ↔ p = (i / 2 * 2 + j / 2) * 4 + (i % 2 * 2 + j % 2)) := by decide
theorem S16.next {w : World} {b : Nat} {l : List Nd} {n i j : Nat} (h : S16 w b (vTo l n (i * 4 + j))) (hi : i < 4) (hj : j < 4) {P : Nat} (hP : P = (i / 2 * 2 + j / 2) * 4 + (i % 2 * 2 + j % 2)) : S16 (w.setCell ⟨b, P, none⟩ (.int .i64 ((kidN l (kidN l n i) j : Nat) : Int))) b (vTo l n (i * 4 + (j + 1))) := by
  have h2 := h.set (p := P) (by omega) ((kidN l (kidN l n i) j : Nat) : Int)
  unfold S16 at h2 ⊢
  rw [h2]
  congr 2
  refine row16_congr fun p hp => ?_
  have hw : whenW P = i * 4 + j := (when_at i hi j hj P (by omega)).2 hP
  have hs : sx l n (P / 4) (P % 4) = kidN l (kidN l n i) j := by
    unfold sx
    rw [show P / 4 / 2 * 2 + P % 4 / 2 = i by omega, show P / 4 % 2 * 2 + P % 4 % 2 = j by omega]
  by_cases hpp : p = P
  · subst hpp
    rw [if_pos rfl]
    unfold vTo
    rw [if_pos (by omega), hs]
  · rw [if_neg hpp]
    have hne : ¬ whenW p = i * 4 + j := fun e => hpp (((when_at i hi j hj p hp).1 e).trans hP.symm)
    unfold vTo
    by_cases hlt : whenW p < i * 4 + j
    · rw [if_pos hlt, if_pos (by omega)]
    · rw [if_neg hlt, if_neg (by omega)]
/-- What is known within sixteen. -/
structure SxAt (w wr : World) (g : Nat) (v : Nat → Int) : Prop where
  mb : MB wr w.heap.size g
  res : S16 wr (w.heap.size + 1) (fun _ => 0)
  out : S16 wr (w.heap.size + 1 + 1) v
  bel : Below w.heap.size w wr
theorem SxAt.next {w wr : World} {g : Nat} {l : List Nd} {n i j : Nat} (h : SxAt w wr g (vTo l n (i * 4 + j))) (hi : i < 4) (hj : j < 4) {P : Nat} (hP : P = (i / 2 * 2 + j / 2) * 4 + (i % 2 * 2 + j % 2)) : SxAt w (wr.setCell ⟨w.heap.size + 1 + 1, P, none⟩ (.int .i64 ((kidN l (kidN l n i) j : Nat) : Int))) g (vTo l n (i * 4 + (j + 1))) := by
  refine ⟨?_, ?_, h.out.next hi hj hP, h.bel.setCell (by show w.heap.size ≤ _ + 1 + 1; omega) _⟩
  · unfold MB
    rw [Below.heap_setCell _ _ _ _ (by show w.heap.size ≠ w.heap.size + 1 + 1; omega)]
    exact h.mb
  · unfold S16
    rw [Below.heap_setCell _ _ _ _ (by show w.heap.size + 1 ≠ w.heap.size + 1 + 1; omega)]
    exact h.res
set_option maxHeartbeats 16000000 in
theorem sixteen_any (room : Int) (n0 g b e : Nat) (l : List Nd) (n : Nat) (w : World) (hix : Ix n0 w g b l room) (hr : Right6 l room) (hn : Is l (e + 2) n) : Calls Try.prog 91 #[makerV g, .int .i64 (n : Int)] w fun r w' => r = .returned (.agg (row16 (v16 l n))) ∧ Below w.heap.size w w' := by
  have hal1 := (Below.refl w.heap.size w).alloc (Nat.le_refl _) (.cells #[.pointer (some ⟨g, 0, none⟩)] 73)
  have hal2 := hal1.alloc hal1.size (.cells (row16 fun _ => 0) 119)
  have hal3 := hal2.alloc hal2.size (.cells (row16 fun _ => 0) 119)
  have hS0 : SxAt w (((w.alloc (.cells #[.pointer (some ⟨g, 0, none⟩)] 73)).alloc (.cells (row16 fun _ => 0) 119)).alloc (.cells (row16 fun _ => 0) 119)) g (vTo l n 0) := by
    refine ⟨heap_old (heap_old (heap_new rfl)), heap_old (heap_new (by simp)), ?_, hal3⟩
    unfold S16
    rw [vTo_zero]
    exact heap_new (by simp)
  obtain ⟨q, cap, g0, g1, hrd, hcap, hnd⟩ := ix_rd hix hr.two
  have hgl : g < w.heap.size := block_lt_of_cell g0
  have hql : q < w.heap.size := block_lt_of_cell (hnd 0 (by have := hr.two; omega)).1
  have hnz : (n : Int) < (l.length : Int) := by have := hn.lt; omega
  have hk : ∀ W, Below w.heap.size w W → Hid (W.cell? ⟨g, 0, none⟩ = some (.slice (some ⟨q, 0, none⟩) l.length cap) ∧ ∀ i, i < l.length → NdAt W q (i * 6) (l.getD i deadN)) := fun W hb => ⟨Qt.keep hb g0, fun i hi => NdAt.below (hnd i hi) hb hql⟩
  have HK := Lib.hid hk
  have HS0 := Lib.hid hS0
  have HR := Lib.hid hr
  have HN := Lib.hid hn
  clear hix hr hn hal1 hal2 hal3 hS0 hk hnd g0 g1 hrd
  go_enter Try.func91, Try.ntmps91
  have m0 := HS0.out.mb.c
  have kn := (HK.out _ HS0.out.bel).out
  have k0 := kn.1
  have y := kn.2 n (by omega)
  obtain ⟨_, y1, y2, y3, y4, _⟩ := y
  rw [show (l.getD n deadN).2.1.1 = ((kidN l n 0 : Nat) : Int) from kid_cast HR.out HN.out (i := 0) (by decide)] at y1
  rw [show (l.getD n deadN).2.1.2.1 = ((kidN l n 1 : Nat) : Int) from kid_cast HR.out HN.out (i := 1) (by decide)] at y2
  rw [show (l.getD n deadN).2.1.2.2.1 = ((kidN l n 2 : Nat) : Int) from kid_cast HR.out HN.out (i := 2) (by decide)] at y3
  rw [show (l.getD n deadN).2.1.2.2.2 = ((kidN l n 3 : Nat) : Int) from kid_cast HR.out HN.out (i := 3) (by decide)] at y4
  clear kn
  go_wp2_with fail
  generalize (((w.alloc (.cells #[.pointer (some ⟨g, 0, none⟩)] 73)).alloc (.cells (row16 fun _ => 0) 119)).alloc (.cells (row16 fun _ => 0) 119)) = wx at *
  clear k0 y1 y2 y3 y4 m0
  go_loopw [20] (fun u wr => ∃ i : Nat, i ≤ 4 ∧ u = .int .i64 i ∧ Hid (SxAt w wr g (vTo l n (i * 4)))) (fun u _ => 4 - (intOf u).toNat)
  case atStart => exact ⟨0, by decide, rfl, HS0.out⟩
  case round =>
    obtain ⟨i, hi, rfl, HH⟩ := hrel
    by_cases hlt : i < 4
    · have hkid := kid_is HR.out HN.out hlt
      have hkn := hkid.lt
      have m0 := HH.out.mb.c
      have kn := (HK.out _ HH.out.bel).out
      have k0 := kn.1
      obtain ⟨_, y1, y2, y3, y4, _⟩ := kn.2 (kidN l n i) hkn
      rw [show (l.getD (kidN l n i) deadN).2.1.1 = ((kidN l (kidN l n i) 0 : Nat) : Int) from kid_cast HR.out hkid (i := 0) (by decide)] at y1
      rw [show (l.getD (kidN l n i) deadN).2.1.2.1 = ((kidN l (kidN l n i) 1 : Nat) : Int) from kid_cast HR.out hkid (i := 1) (by decide)] at y2
      rw [show (l.getD (kidN l n i) deadN).2.1.2.2.1 = ((kidN l (kidN l n i) 2 : Nat) : Int) from kid_cast HR.out hkid (i := 2) (by decide)] at y3
      rw [show (l.getD (kidN l n i) deadN).2.1.2.2.2 = ((kidN l (kidN l n i) 3 : Nat) : Int) from kid_cast HR.out hkid (i := 3) (by decide)] at y4
      have hkz : ((kidN l n i : Nat) : Int) < (l.length : Int) := by omega
      clear kn
      rcases (by omega : i = 0 ∨ i = 1 ∨ i = 2 ∨ i = 3) with rfl | rfl | rfl | rfl
      · have ix : ∀ W, (Instr.index 33 (.agg #[.int .i64 ((kidN l n 0 : Nat) : Int), .int .i64 ((kidN l n 1 : Nat) : Int), .int .i64 ((kidN l n 2 : Nat) : Int), .int .i64 ((kidN l n 3 : Nat) : Int)]) (.int .i64 0)).run Try.prog W = .ok (.int .i64 ((kidN l n 0 : Nat) : Int)) W := fun W => kd_index (((kidN l n 0 : Nat) : Int), ((kidN l n 1 : Nat) : Int), ((kidN l n 2 : Nat) : Int), ((kidN l n 3 : Nat) : Int)) 0 (by decide) W
        have jx0 : ∀ W, (Instr.index 33 (.agg #[.int .i64 ((kidN l (kidN l n 0) 0 : Nat) : Int), .int .i64 ((kidN l (kidN l n 0) 1 : Nat) : Int), .int .i64 ((kidN l (kidN l n 0) 2 : Nat) : Int), .int .i64 ((kidN l (kidN l n 0) 3 : Nat) : Int)]) (.int .i64 0)).run Try.prog W = .ok (.int .i64 ((kidN l (kidN l n 0) 0 : Nat) : Int)) W := fun W => kd_index (((kidN l (kidN l n 0) 0 : Nat) : Int), ((kidN l (kidN l n 0) 1 : Nat) : Int), ((kidN l (kidN l n 0) 2 : Nat) : Int), ((kidN l (kidN l n 0) 3 : Nat) : Int)) 0 (by decide) W
        have jx1 : ∀ W, (Instr.index 33 (.agg #[.int .i64 ((kidN l (kidN l n 0) 0 : Nat) : Int), .int .i64 ((kidN l (kidN l n 0) 1 : Nat) : Int), .int .i64 ((kidN l (kidN l n 0) 2 : Nat) : Int), .int .i64 ((kidN l (kidN l n 0) 3 : Nat) : Int)]) (.int .i64 1)).run Try.prog W = .ok (.int .i64 ((kidN l (kidN l n 0) 1 : Nat) : Int)) W := fun W => kd_index (((kidN l (kidN l n 0) 0 : Nat) : Int), ((kidN l (kidN l n 0) 1 : Nat) : Int), ((kidN l (kidN l n 0) 2 : Nat) : Int), ((kidN l (kidN l n 0) 3 : Nat) : Int)) 1 (by decide) W
        have jx2 : ∀ W, (Instr.index 33 (.agg #[.int .i64 ((kidN l (kidN l n 0) 0 : Nat) : Int), .int .i64 ((kidN l (kidN l n 0) 1 : Nat) : Int), .int .i64 ((kidN l (kidN l n 0) 2 : Nat) : Int), .int .i64 ((kidN l (kidN l n 0) 3 : Nat) : Int)]) (.int .i64 2)).run Try.prog W = .ok (.int .i64 ((kidN l (kidN l n 0) 2 : Nat) : Int)) W := fun W => kd_index (((kidN l (kidN l n 0) 0 : Nat) : Int), ((kidN l (kidN l n 0) 1 : Nat) : Int), ((kidN l (kidN l n 0) 2 : Nat) : Int), ((kidN l (kidN l n 0) 3 : Nat) : Int)) 2 (by decide) W
        have jx3 : ∀ W, (Instr.index 33 (.agg #[.int .i64 ((kidN l (kidN l n 0) 0 : Nat) : Int), .int .i64 ((kidN l (kidN l n 0) 1 : Nat) : Int), .int .i64 ((kidN l (kidN l n 0) 2 : Nat) : Int), .int .i64 ((kidN l (kidN l n 0) 3 : Nat) : Int)]) (.int .i64 3)).run Try.prog W = .ok (.int .i64 ((kidN l (kidN l n 0) 3 : Nat) : Int)) W := fun W => kd_index (((kidN l (kidN l n 0) 0 : Nat) : Int), ((kidN l (kidN l n 0) 1 : Nat) : Int), ((kidN l (kidN l n 0) 2 : Nat) : Int), ((kidN l (kidN l n 0) 3 : Nat) : Int)) 3 (by decide) W
        have HJ := Lib.hid (And.intro jx0 (And.intro jx1 (And.intro jx2 jx3)))
        have H0 := HH
        clear jx0 jx1 jx2 jx3 HH
        go_wp2_with fail
        clear y1 y2 y3 y4 k0 m0 ix
        go_loopw [34] (fun u wr => ∃ j : Nat, j ≤ 4 ∧ u = .int .i64 j ∧ Hid (SxAt w wr g (vTo l n (0 * 4 + j)))) (fun u _ => 4 - (intOf u).toNat)
        case atStart => exact ⟨0, by decide, rfl, H0.out⟩
        case round =>
          obtain ⟨j, hj, rfl, HI⟩ := hrel
          by_cases hjl : j < 4
          · rcases (by omega : j = 0 ∨ j = 1 ∨ j = 2 ∨ j = 3) with rfl | rfl | rfl | rfl
            · have jx := HJ.out.1
              have fr := HI.out.out.f 0
              have oc := HI.out.out.c (p := 0) (by decide)
              have HNX := Lib.hid (HI.out.next (i := 0) (j := 0) (P := 0) (by decide) (by decide) (by decide))
              clear HI HJ
              go_wp2_with fail
              go_roundw
              case measure => decide
              case rel => exact ⟨1, by decide, by go_num, HNX.out⟩
            · have jx := HJ.out.2.1
              have fr := HI.out.out.f 1
              have oc := HI.out.out.c (p := 1) (by decide)
              have HNX := Lib.hid (HI.out.next (i := 0) (j := 1) (P := 1) (by decide) (by decide) (by decide))
              clear HI HJ
              go_wp2_with fail
              go_roundw
              case measure => decide
              case rel => exact ⟨2, by decide, by go_num, HNX.out⟩
            · have jx := HJ.out.2.2.1
              have fr := HI.out.out.f 4
              have oc := HI.out.out.c (p := 4) (by decide)
              have HNX := Lib.hid (HI.out.next (i := 0) (j := 2) (P := 4) (by decide) (by decide) (by decide))
              clear HI HJ
              go_wp2_with fail
              go_roundw
              case measure => decide
              case rel => exact ⟨3, by decide, by go_num, HNX.out⟩
            · have jx := HJ.out.2.2.2
              have fr := HI.out.out.f 5
              have oc := HI.out.out.c (p := 5) (by decide)
              have HNX := Lib.hid (HI.out.next (i := 0) (j := 3) (P := 5) (by decide) (by decide) (by decide))
              clear HI HJ
              go_wp2_with fail
              go_roundw
              case measure => decide
              case rel => exact ⟨4, by decide, by go_num, HNX.out⟩
          · obtain rfl : j = 4 := by omega
            clear HJ
            go_wp2_with fail
            go_roundw
            case measure => decide
            case rel => exact ⟨1, by decide, by go_num, HI.out⟩
      · have ix : ∀ W, (Instr.index 33 (.agg #[.int .i64 ((kidN l n 0 : Nat) : Int), .int .i64 ((kidN l n 1 : Nat) : Int), .int .i64 ((kidN l n 2 : Nat) : Int), .int .i64 ((kidN l n 3 : Nat) : Int)]) (.int .i64 1)).run Try.prog W = .ok (.int .i64 ((kidN l n 1 : Nat) : Int)) W := fun W => kd_index (((kidN l n 0 : Nat) : Int), ((kidN l n 1 : Nat) : Int), ((kidN l n 2 : Nat) : Int), ((kidN l n 3 : Nat) : Int)) 1 (by decide) W
        have jx0 : ∀ W, (Instr.index 33 (.agg #[.int .i64 ((kidN l (kidN l n 1) 0 : Nat) : Int), .int .i64 ((kidN l (kidN l n 1) 1 : Nat) : Int), .int .i64 ((kidN l (kidN l n 1) 2 : Nat) : Int), .int .i64 ((kidN l (kidN l n 1) 3 : Nat) : Int)]) (.int .i64 0)).run Try.prog W = .ok (.int .i64 ((kidN l (kidN l n 1) 0 : Nat) : Int)) W := fun W => kd_index (((kidN l (kidN l n 1) 0 : Nat) : Int), ((kidN l (kidN l n 1) 1 : Nat) : Int), ((kidN l (kidN l n 1) 2 : Nat) : Int), ((kidN l (kidN l n 1) 3 : Nat) : Int)) 0 (by decide) W
        have jx1 : ∀ W, (Instr.index 33 (.agg #[.int .i64 ((kidN l (kidN l n 1) 0 : Nat) : Int), .int .i64 ((kidN l (kidN l n 1) 1 : Nat) : Int), .int .i64 ((kidN l (kidN l n 1) 2 : Nat) : Int), .int .i64 ((kidN l (kidN l n 1) 3 : Nat) : Int)]) (.int .i64 1)).run Try.prog W = .ok (.int .i64 ((kidN l (kidN l n 1) 1 : Nat) : Int)) W := fun W => kd_index (((kidN l (kidN l n 1) 0 : Nat) : Int), ((kidN l (kidN l n 1) 1 : Nat) : Int), ((kidN l (kidN l n 1) 2 : Nat) : Int), ((kidN l (kidN l n 1) 3 : Nat) : Int)) 1 (by decide) W
        have jx2 : ∀ W, (Instr.index 33 (.agg #[.int .i64 ((kidN l (kidN l n 1) 0 : Nat) : Int), .int .i64 ((kidN l (kidN l n 1) 1 : Nat) : Int), .int .i64 ((kidN l (kidN l n 1) 2 : Nat) : Int), .int .i64 ((kidN l (kidN l n 1) 3 : Nat) : Int)]) (.int .i64 2)).run Try.prog W = .ok (.int .i64 ((kidN l (kidN l n 1) 2 : Nat) : Int)) W := fun W => kd_index (((kidN l (kidN l n 1) 0 : Nat) : Int), ((kidN l (kidN l n 1) 1 : Nat) : Int), ((kidN l (kidN l n 1) 2 : Nat) : Int), ((kidN l (kidN l n 1) 3 : Nat) : Int)) 2 (by decide) W
        have jx3 : ∀ W, (Instr.index 33 (.agg #[.int .i64 ((kidN l (kidN l n 1) 0 : Nat) : Int), .int .i64 ((kidN l (kidN l n 1) 1 : Nat) : Int), .int .i64 ((kidN l (kidN l n 1) 2 : Nat) : Int), .int .i64 ((kidN l (kidN l n 1) 3 : Nat) : Int)]) (.int .i64 3)).run Try.prog W = .ok (.int .i64 ((kidN l (kidN l n 1) 3 : Nat) : Int)) W := fun W => kd_index (((kidN l (kidN l n 1) 0 : Nat) : Int), ((kidN l (kidN l n 1) 1 : Nat) : Int), ((kidN l (kidN l n 1) 2 : Nat) : Int), ((kidN l (kidN l n 1) 3 : Nat) : Int)) 3 (by decide) W
        have HJ := Lib.hid (And.intro jx0 (And.intro jx1 (And.intro jx2 jx3)))
        have H0 := HH
        clear jx0 jx1 jx2 jx3 HH
        go_wp2_with fail
        clear y1 y2 y3 y4 k0 m0 ix
        go_loopw [34] (fun u wr => ∃ j : Nat, j ≤ 4 ∧ u = .int .i64 j ∧ Hid (SxAt w wr g (vTo l n (1 * 4 + j)))) (fun u _ => 4 - (intOf u).toNat)
        case atStart => exact ⟨0, by decide, rfl, H0.out⟩
        case round =>
          obtain ⟨j, hj, rfl, HI⟩ := hrel
          by_cases hjl : j < 4
          · rcases (by omega : j = 0 ∨ j = 1 ∨ j = 2 ∨ j = 3) with rfl | rfl | rfl | rfl
            · have jx := HJ.out.1
              have fr := HI.out.out.f 2
              have oc := HI.out.out.c (p := 2) (by decide)
              have HNX := Lib.hid (HI.out.next (i := 1) (j := 0) (P := 2) (by decide) (by decide) (by decide))
              clear HI HJ
              go_wp2_with fail
              go_roundw
              case measure => decide
              case rel => exact ⟨1, by decide, by go_num, HNX.out⟩
            · have jx := HJ.out.2.1
              have fr := HI.out.out.f 3
              have oc := HI.out.out.c (p := 3) (by decide)
              have HNX := Lib.hid (HI.out.next (i := 1) (j := 1) (P := 3) (by decide) (by decide) (by decide))
              clear HI HJ
              go_wp2_with fail
              go_roundw
              case measure => decide
              case rel => exact ⟨2, by decide, by go_num, HNX.out⟩
            · have jx := HJ.out.2.2.1
              have fr := HI.out.out.f 6
              have oc := HI.out.out.c (p := 6) (by decide)
              have HNX := Lib.hid (HI.out.next (i := 1) (j := 2) (P := 6) (by decide) (by decide) (by decide))
              clear HI HJ
              go_wp2_with fail
              go_roundw
              case measure => decide
              case rel => exact ⟨3, by decide, by go_num, HNX.out⟩
            · have jx := HJ.out.2.2.2
              have fr := HI.out.out.f 7
              have oc := HI.out.out.c (p := 7) (by decide)
              have HNX := Lib.hid (HI.out.next (i := 1) (j := 3) (P := 7) (by decide) (by decide) (by decide))
              clear HI HJ
              go_wp2_with fail
              go_roundw
              case measure => decide
              case rel => exact ⟨4, by decide, by go_num, HNX.out⟩
          · obtain rfl : j = 4 := by omega
            clear HJ
            go_wp2_with fail
            go_roundw
            case measure => decide
            case rel => exact ⟨2, by decide, by go_num, HI.out⟩
      · have ix : ∀ W, (Instr.index 33 (.agg #[.int .i64 ((kidN l n 0 : Nat) : Int), .int .i64 ((kidN l n 1 : Nat) : Int), .int .i64 ((kidN l n 2 : Nat) : Int), .int .i64 ((kidN l n 3 : Nat) : Int)]) (.int .i64 2)).run Try.prog W = .ok (.int .i64 ((kidN l n 2 : Nat) : Int)) W := fun W => kd_index (((kidN l n 0 : Nat) : Int), ((kidN l n 1 : Nat) : Int), ((kidN l n 2 : Nat) : Int), ((kidN l n 3 : Nat) : Int)) 2 (by decide) W
        have jx0 : ∀ W, (Instr.index 33 (.agg #[.int .i64 ((kidN l (kidN l n 2) 0 : Nat) : Int), .int .i64 ((kidN l (kidN l n 2) 1 : Nat) : Int), .int .i64 ((kidN l (kidN l n 2) 2 : Nat) : Int), .int .i64 ((kidN l (kidN l n 2) 3 : Nat) : Int)]) (.int .i64 0)).run Try.prog W = .ok (.int .i64 ((kidN l (kidN l n 2) 0 : Nat) : Int)) W := fun W => kd_index (((kidN l (kidN l n 2) 0 : Nat) : Int), ((kidN l (kidN l n 2) 1 : Nat) : Int), ((kidN l (kidN l n 2) 2 : Nat) : Int), ((kidN l (kidN l n 2) 3 : Nat) : Int)) 0 (by decide) W
        have jx1 : ∀ W, (Instr.index 33 (.agg #[.int .i64 ((kidN l (kidN l n 2) 0 : Nat) : Int), .int .i64 ((kidN l (kidN l n 2) 1 : Nat) : Int), .int .i64 ((kidN l (kidN l n 2) 2 : Nat) : Int), .int .i64 ((kidN l (kidN l n 2) 3 : Nat) : Int)]) (.int .i64 1)).run Try.prog W = .ok (.int .i64 ((kidN l (kidN l n 2) 1 : Nat) : Int)) W := fun W => kd_index (((kidN l (kidN l n 2) 0 : Nat) : Int), ((kidN l (kidN l n 2) 1 : Nat) : Int), ((kidN l (kidN l n 2) 2 : Nat) : Int), ((kidN l (kidN l n 2) 3 : Nat) : Int)) 1 (by decide) W
        have jx2 : ∀ W, (Instr.index 33 (.agg #[.int .i64 ((kidN l (kidN l n 2) 0 : Nat) : Int), .int .i64 ((kidN l (kidN l n 2) 1 : Nat) : Int), .int .i64 ((kidN l (kidN l n 2) 2 : Nat) : Int), .int .i64 ((kidN l (kidN l n 2) 3 : Nat) : Int)]) (.int .i64 2)).run Try.prog W = .ok (.int .i64 ((kidN l (kidN l n 2) 2 : Nat) : Int)) W := fun W => kd_index (((kidN l (kidN l n 2) 0 : Nat) : Int), ((kidN l (kidN l n 2) 1 : Nat) : Int), ((kidN l (kidN l n 2) 2 : Nat) : Int), ((kidN l (kidN l n 2) 3 : Nat) : Int)) 2 (by decide) W
        have jx3 : ∀ W, (Instr.index 33 (.agg #[.int .i64 ((kidN l (kidN l n 2) 0 : Nat) : Int), .int .i64 ((kidN l (kidN l n 2) 1 : Nat) : Int), .int .i64 ((kidN l (kidN l n 2) 2 : Nat) : Int), .int .i64 ((kidN l (kidN l n 2) 3 : Nat) : Int)]) (.int .i64 3)).run Try.prog W = .ok (.int .i64 ((kidN l (kidN l n 2) 3 : Nat) : Int)) W := fun W => kd_index (((kidN l (kidN l n 2) 0 : Nat) : Int), ((kidN l (kidN l n 2) 1 : Nat) : Int), ((kidN l (kidN l n 2) 2 : Nat) : Int), ((kidN l (kidN l n 2) 3 : Nat) : Int)) 3 (by decide) W
        have HJ := Lib.hid (And.intro jx0 (And.intro jx1 (And.intro jx2 jx3)))
        have H0 := HH
        clear jx0 jx1 jx2 jx3 HH
        go_wp2_with fail
        clear y1 y2 y3 y4 k0 m0 ix
        go_loopw [34] (fun u wr => ∃ j : Nat, j ≤ 4 ∧ u = .int .i64 j ∧ Hid (SxAt w wr g (vTo l n (2 * 4 + j)))) (fun u _ => 4 - (intOf u).toNat)
        case atStart => exact ⟨0, by decide, rfl, H0.out⟩
        case round =>
          obtain ⟨j, hj, rfl, HI⟩ := hrel
          by_cases hjl : j < 4
          · rcases (by omega : j = 0 ∨ j = 1 ∨ j = 2 ∨ j = 3) with rfl | rfl | rfl | rfl
            · have jx := HJ.out.1
              have fr := HI.out.out.f 8
              have oc := HI.out.out.c (p := 8) (by decide)
              have HNX := Lib.hid (HI.out.next (i := 2) (j := 0) (P := 8) (by decide) (by decide) (by decide))
              clear HI HJ
              go_wp2_with fail
              go_roundw
              case measure => decide
              case rel => exact ⟨1, by decide, by go_num, HNX.out⟩
            · have jx := HJ.out.2.1
              have fr := HI.out.out.f 9
              have oc := HI.out.out.c (p := 9) (by decide)
              have HNX := Lib.hid (HI.out.next (i := 2) (j := 1) (P := 9) (by decide) (by decide) (by decide))
              clear HI HJ
              go_wp2_with fail
              go_roundw
              case measure => decide
              case rel => exact ⟨2, by decide, by go_num, HNX.out⟩
            · have jx := HJ.out.2.2.1
              have fr := HI.out.out.f 12
              have oc := HI.out.out.c (p := 12) (by decide)
              have HNX := Lib.hid (HI.out.next (i := 2) (j := 2) (P := 12) (by decide) (by decide) (by decide))
              clear HI HJ
              go_wp2_with fail
              go_roundw
              case measure => decide
              case rel => exact ⟨3, by decide, by go_num, HNX.out⟩
            · have jx := HJ.out.2.2.2
              have fr := HI.out.out.f 13
              have oc := HI.out.out.c (p := 13) (by decide)
              have HNX := Lib.hid (HI.out.next (i := 2) (j := 3) (P := 13) (by decide) (by decide) (by decide))
              clear HI HJ
              go_wp2_with fail
              go_roundw
              case measure => decide
              case rel => exact ⟨4, by decide, by go_num, HNX.out⟩
          · obtain rfl : j = 4 := by omega
            clear HJ
            go_wp2_with fail
            go_roundw
            case measure => decide
            case rel => exact ⟨3, by decide, by go_num, HI.out⟩
      · have ix : ∀ W, (Instr.index 33 (.agg #[.int .i64 ((kidN l n 0 : Nat) : Int), .int .i64 ((kidN l n 1 : Nat) : Int), .int .i64 ((kidN l n 2 : Nat) : Int), .int .i64 ((kidN l n 3 : Nat) : Int)]) (.int .i64 3)).run Try.prog W = .ok (.int .i64 ((kidN l n 3 : Nat) : Int)) W := fun W => kd_index (((kidN l n 0 : Nat) : Int), ((kidN l n 1 : Nat) : Int), ((kidN l n 2 : Nat) : Int), ((kidN l n 3 : Nat) : Int)) 3 (by decide) W
        have jx0 : ∀ W, (Instr.index 33 (.agg #[.int .i64 ((kidN l (kidN l n 3) 0 : Nat) : Int), .int .i64 ((kidN l (kidN l n 3) 1 : Nat) : Int), .int .i64 ((kidN l (kidN l n 3) 2 : Nat) : Int), .int .i64 ((kidN l (kidN l n 3) 3 : Nat) : Int)]) (.int .i64 0)).run Try.prog W = .ok (.int .i64 ((kidN l (kidN l n 3) 0 : Nat) : Int)) W := fun W => kd_index (((kidN l (kidN l n 3) 0 : Nat) : Int), ((kidN l (kidN l n 3) 1 : Nat) : Int), ((kidN l (kidN l n 3) 2 : Nat) : Int), ((kidN l (kidN l n 3) 3 : Nat) : Int)) 0 (by decide) W
        have jx1 : ∀ W, (Instr.index 33 (.agg #[.int .i64 ((kidN l (kidN l n 3) 0 : Nat) : Int), .int .i64 ((kidN l (kidN l n 3) 1 : Nat) : Int), .int .i64 ((kidN l (kidN l n 3) 2 : Nat) : Int), .int .i64 ((kidN l (kidN l n 3) 3 : Nat) : Int)]) (.int .i64 1)).run Try.prog W = .ok (.int .i64 ((kidN l (kidN l n 3) 1 : Nat) : Int)) W := fun W => kd_index (((kidN l (kidN l n 3) 0 : Nat) : Int), ((kidN l (kidN l n 3) 1 : Nat) : Int), ((kidN l (kidN l n 3) 2 : Nat) : Int), ((kidN l (kidN l n 3) 3 : Nat) : Int)) 1 (by decide) W
        have jx2 : ∀ W, (Instr.index 33 (.agg #[.int .i64 ((kidN l (kidN l n 3) 0 : Nat) : Int), .int .i64 ((kidN l (kidN l n 3) 1 : Nat) : Int), .int .i64 ((kidN l (kidN l n 3) 2 : Nat) : Int), .int .i64 ((kidN l (kidN l n 3) 3 : Nat) : Int)]) (.int .i64 2)).run Try.prog W = .ok (.int .i64 ((kidN l (kidN l n 3) 2 : Nat) : Int)) W := fun W => kd_index (((kidN l (kidN l n 3) 0 : Nat) : Int), ((kidN l (kidN l n 3) 1 : Nat) : Int), ((kidN l (kidN l n 3) 2 : Nat) : Int), ((kidN l (kidN l n 3) 3 : Nat) : Int)) 2 (by decide) W
        have jx3 : ∀ W, (Instr.index 33 (.agg #[.int .i64 ((kidN l (kidN l n 3) 0 : Nat) : Int), .int .i64 ((kidN l (kidN l n 3) 1 : Nat) : Int), .int .i64 ((kidN l (kidN l n 3) 2 : Nat) : Int), .int .i64 ((kidN l (kidN l n 3) 3 : Nat) : Int)]) (.int .i64 3)).run Try.prog W = .ok (.int .i64 ((kidN l (kidN l n 3) 3 : Nat) : Int)) W := fun W => kd_index (((kidN l (kidN l n 3) 0 : Nat) : Int), ((kidN l (kidN l n 3) 1 : Nat) : Int), ((kidN l (kidN l n 3) 2 : Nat) : Int), ((kidN l (kidN l n 3) 3 : Nat) : Int)) 3 (by decide) W
        have HJ := Lib.hid (And.intro jx0 (And.intro jx1 (And.intro jx2 jx3)))
        have H0 := HH
        clear jx0 jx1 jx2 jx3 HH
        go_wp2_with fail
        clear y1 y2 y3 y4 k0 m0 ix
        go_loopw [34] (fun u wr => ∃ j : Nat, j ≤ 4 ∧ u = .int .i64 j ∧ Hid (SxAt w wr g (vTo l n (3 * 4 + j)))) (fun u _ => 4 - (intOf u).toNat)
        case atStart => exact ⟨0, by decide, rfl, H0.out⟩
        case round =>
          obtain ⟨j, hj, rfl, HI⟩ := hrel
          by_cases hjl : j < 4
          · rcases (by omega : j = 0 ∨ j = 1 ∨ j = 2 ∨ j = 3) with rfl | rfl | rfl | rfl
            · have jx := HJ.out.1
              have fr := HI.out.out.f 10
              have oc := HI.out.out.c (p := 10) (by decide)
              have HNX := Lib.hid (HI.out.next (i := 3) (j := 0) (P := 10) (by decide) (by decide) (by decide))
              clear HI HJ
              go_wp2_with fail
              go_roundw
              case measure => decide
              case rel => exact ⟨1, by decide, by go_num, HNX.out⟩
            · have jx := HJ.out.2.1
              have fr := HI.out.out.f 11
              have oc := HI.out.out.c (p := 11) (by decide)
              have HNX := Lib.hid (HI.out.next (i := 3) (j := 1) (P := 11) (by decide) (by decide) (by decide))
              clear HI HJ
              go_wp2_with fail
              go_roundw
              case measure => decide
              case rel => exact ⟨2, by decide, by go_num, HNX.out⟩
            · have jx := HJ.out.2.2.1
              have fr := HI.out.out.f 14
              have oc := HI.out.out.c (p := 14) (by decide)
              have HNX := Lib.hid (HI.out.next (i := 3) (j := 2) (P := 14) (by decide) (by decide) (by decide))
              clear HI HJ
              go_wp2_with fail
              go_roundw
              case measure => decide
              case rel => exact ⟨3, by decide, by go_num, HNX.out⟩
            · have jx := HJ.out.2.2.2
              have fr := HI.out.out.f 15
              have oc := HI.out.out.c (p := 15) (by decide)
              have HNX := Lib.hid (HI.out.next (i := 3) (j := 3) (P := 15) (by decide) (by decide) (by decide))
              clear HI HJ
              go_wp2_with fail
              go_roundw
              case measure => decide
              case rel => exact ⟨4, by decide, by go_num, HNX.out⟩
          · obtain rfl : j = 4 := by omega
            clear HJ
            go_wp2_with fail
            go_roundw
            case measure => decide
            case rel => exact ⟨4, by decide, by go_num, HI.out⟩
    · obtain rfl : i = 4 := by omega
      have hall : S16 wr (w.heap.size + 1 + 1) (v16 l n) := by
        have := HH.out.out
        unfold S16 at this ⊢
        rw [← vTo_all]
        exact this
      have hres := HH.out.res
      have hbel := HH.out.bel
      have c0 := hall.c (p := 0) (by decide)
      have c1 := hall.c (p := 1) (by decide)
      have c2 := hall.c (p := 2) (by decide)
      have c3 := hall.c (p := 3) (by decide)
      have c4 := hall.c (p := 4) (by decide)
      have c5 := hall.c (p := 5) (by decide)
      have c6 := hall.c (p := 6) (by decide)
      have c7 := hall.c (p := 7) (by decide)
      have c8 := hall.c (p := 8) (by decide)
      have c9 := hall.c (p := 9) (by decide)
      have c10 := hall.c (p := 10) (by decide)
      have c11 := hall.c (p := 11) (by decide)
      have c12 := hall.c (p := 12) (by decide)
      have c13 := hall.c (p := 13) (by decide)
      have c14 := hall.c (p := 14) (by decide)
      have c15 := hall.c (p := 15) (by decide)
      have r0 := hres.c (p := 0) (by decide)
      have f0 := hres.f 0
      have r1 := hres.c (p := 1) (by decide)
      have f1 := hres.f 1
      have r2 := hres.c (p := 2) (by decide)
      have f2 := hres.f 2
      have r3 := hres.c (p := 3) (by decide)
      have f3 := hres.f 3
      have r4 := hres.c (p := 4) (by decide)
      have f4 := hres.f 4
      have r5 := hres.c (p := 5) (by decide)
      have f5 := hres.f 5
      have r6 := hres.c (p := 6) (by decide)
      have f6 := hres.f 6
      have r7 := hres.c (p := 7) (by decide)
      have f7 := hres.f 7
      have r8 := hres.c (p := 8) (by decide)
      have f8 := hres.f 8
      have r9 := hres.c (p := 9) (by decide)
      have f9 := hres.f 9
      have r10 := hres.c (p := 10) (by decide)
      have f10 := hres.f 10
      have r11 := hres.c (p := 11) (by decide)
      have f11 := hres.f 11
      have r12 := hres.c (p := 12) (by decide)
      have f12 := hres.f 12
      have r13 := hres.c (p := 13) (by decide)
      have f13 := hres.f 13
      have r14 := hres.c (p := 14) (by decide)
      have f14 := hres.f 14
      have r15 := hres.c (p := 15) (by decide)
      have f15 := hres.f 15
      have HROW := Lib.hid (show ((((((((((((((((wr.setCell ⟨w.heap.size + 1, 0, none⟩ (.int .i64 (v16 l n 0))).setCell ⟨w.heap.size + 1, 1, none⟩ (.int .i64 (v16 l n 1))).setCell ⟨w.heap.size + 1, 2, none⟩ (.int .i64 (v16 l n 2))).setCell ⟨w.heap.size + 1, 3, none⟩ (.int .i64 (v16 l n 3))).setCell ⟨w.heap.size + 1, 4, none⟩ (.int .i64 (v16 l n 4))).setCell ⟨w.heap.size + 1, 5, none⟩ (.int .i64 (v16 l n 5))).setCell ⟨w.heap.size + 1, 6, none⟩ (.int .i64 (v16 l n 6))).setCell ⟨w.heap.size + 1, 7, none⟩ (.int .i64 (v16 l n 7))).setCell ⟨w.heap.size + 1, 8, none⟩ (.int .i64 (v16 l n 8))).setCell ⟨w.heap.size + 1, 9, none⟩ (.int .i64 (v16 l n 9))).setCell ⟨w.heap.size + 1, 10, none⟩ (.int .i64 (v16 l n 10))).setCell ⟨w.heap.size + 1, 11, none⟩ (.int .i64 (v16 l n 11))).setCell ⟨w.heap.size + 1, 12, none⟩ (.int .i64 (v16 l n 12))).setCell ⟨w.heap.size + 1, 13, none⟩ (.int .i64 (v16 l n 13))).setCell ⟨w.heap.size + 1, 14, none⟩ (.int .i64 (v16 l n 14))).setCell ⟨w.heap.size + 1, 15, none⟩ (.int .i64 (v16 l n 15))).heap[w.heap.size + 1]? = some (.cells (row16 (v16 l n)) 119 (0, 0)) by unfold S16 at hres; simp [World.setCell, Array.getElem?_modify, hres])
      have HBEL := Lib.hid ((((((((((((((((hbel.setCell (p := ⟨w.heap.size + 1, 0, none⟩) (by show w.heap.size ≤ _ + 1; omega) (.int .i64 (v16 l n 0))).setCell (p := ⟨w.heap.size + 1, 1, none⟩) (by show w.heap.size ≤ _ + 1; omega) (.int .i64 (v16 l n 1))).setCell (p := ⟨w.heap.size + 1, 2, none⟩) (by show w.heap.size ≤ _ + 1; omega) (.int .i64 (v16 l n 2))).setCell (p := ⟨w.heap.size + 1, 3, none⟩) (by show w.heap.size ≤ _ + 1; omega) (.int .i64 (v16 l n 3))).setCell (p := ⟨w.heap.size + 1, 4, none⟩) (by show w.heap.size ≤ _ + 1; omega) (.int .i64 (v16 l n 4))).setCell (p := ⟨w.heap.size + 1, 5, none⟩) (by show w.heap.size ≤ _ + 1; omega) (.int .i64 (v16 l n 5))).setCell (p := ⟨w.heap.size + 1, 6, none⟩) (by show w.heap.size ≤ _ + 1; omega) (.int .i64 (v16 l n 6))).setCell (p := ⟨w.heap.size + 1, 7, none⟩) (by show w.heap.size ≤ _ + 1; omega) (.int .i64 (v16 l n 7))).setCell (p := ⟨w.heap.size + 1, 8, none⟩) (by show w.heap.size ≤ _ + 1; omega) (.int .i64 (v16 l n 8))).setCell (p := ⟨w.heap.size + 1, 9, none⟩) (by show w.heap.size ≤ _ + 1; omega) (.int .i64 (v16 l n 9))).setCell (p := ⟨w.heap.size + 1, 10, none⟩) (by show w.heap.size ≤ _ + 1; omega) (.int .i64 (v16 l n 10))).setCell (p := ⟨w.heap.size + 1, 11, none⟩) (by show w.heap.size ≤ _ + 1; omega) (.int .i64 (v16 l n 11))).setCell (p := ⟨w.heap.size + 1, 12, none⟩) (by show w.heap.size ≤ _ + 1; omega) (.int .i64 (v16 l n 12))).setCell (p := ⟨w.heap.size + 1, 13, none⟩) (by show w.heap.size ≤ _ + 1; omega) (.int .i64 (v16 l n 13))).setCell (p := ⟨w.heap.size + 1, 14, none⟩) (by show w.heap.size ≤ _ + 1; omega) (.int .i64 (v16 l n 14))).setCell (p := ⟨w.heap.size + 1, 15, none⟩) (by show w.heap.size ≤ _ + 1; omega) (.int .i64 (v16 l n 15)))
      clear HH hall hres hbel
      go_wp2_with fail
      refine bodyPost_ret (results_cell1 rfl _ _ _ _ _ _ _ rfl HROW.out Try.underlying119 rfl (by kernel_rfl)) rfl ?_
      exact ⟨rfl, HBEL.out⟩
end Go.Proofs.Ytklccoodfhejbaa
