/-
  The document's answers of layer 8: the kids of a square among sixteen; May.
-/
import Derived.Test.YtikgnjcjbjafaaaJw
import Derived.Test.YtikgnjcjbjafaaaB16
namespace Go.Proofs.Ytikgnjcjbjafaaa
set_option maxRecDepth 100000
set_option linter.unusedVariables false
set_option linter.unusedSimpArgs false
open Go.RowKit Go.Sort

set_option maxHeartbeats 16000000 in
theorem refSquare8_any (A : Option Addr) (L : List Int) (c y x : Nat) (w : World) (hR : Now w A L) (hl : L.length = 16) (hy : y < 3) (hx : x < 3) :
    Calls Try.prog 104 #[.slice A L.length c, .int .i64 (y : Nat), .int .i64 (x : Nat)] w fun r w' => r = .returned (.agg #[.int .i64 (L.getD (4 * y + x) 0), .int .i64 (L.getD (4 * y + x + 1) 0), .int .i64 (L.getD (4 * y + x + 4) 0), .int .i64 (L.getD (4 * y + x + 5) 0)]) ∧ Below w.heap.size w w' := by
  obtain ⟨b0, off, rfl, hbB, hcell⟩ := Rd.at_ hR (by omega)
  have hal := (Below.refl w.heap.size w).alloc (Nat.le_refl _) (.cells #[.int .i64 0, .int .i64 0, .int .i64 0, .int .i64 0] 52)
  have hrow : (w.alloc (.cells #[.int .i64 0, .int .i64 0, .int .i64 0, .int .i64 0] 52)).heap[w.heap.size]? = some (.cells #[.int .i64 0, .int .i64 0, .int .i64 0, .int .i64 0] 52 (0, 0)) := heap_new rfl
  have k0 := Qt.cell_in (Qt.keep hal (hcell (4 * y + x) (by omega)))
  have k1 := Qt.cell_in (Qt.keep hal (hcell (4 * y + x + 1) (by omega)))
  have k2 := Qt.cell_in (Qt.keep hal (hcell (4 * y + x + 4) (by omega)))
  have k3 := Qt.cell_in (Qt.keep hal (hcell (4 * y + x + 5) (by omega)))
  generalize L.getD (4 * y + x) 0 = v0 at *
  generalize L.getD (4 * y + x + 1) 0 = v1 at *
  generalize L.getD (4 * y + x + 4) 0 = v2 at *
  generalize L.getD (4 * y + x + 5) 0 = v3 at *
  have hlz : (L.length : Int) = 16 := by omega
  have z0 : 4 * (y : Int) + x < (L.length : Int) := by omega
  have z1 : 4 * (y : Int) + x + 1 < (L.length : Int) := by omega
  have z2 : 4 * (y : Int) + x + 4 < (L.length : Int) := by omega
  have z3 : 4 * (y : Int) + x + 5 < (L.length : Int) := by omega
  have HB := Lib.hid hal
  have HW := Lib.hid hrow
  clear hcell hal hrow hR hbB hl hlz
  go_enter Try.func104, Try.ntmps104
  go_wp2_with fail
  generalize (w.alloc (.cells #[.int .i64 0, .int .i64 0, .int .i64 0, .int .i64 0] 52)) = w1 at *
  refine Qt.below_tail 32 (by kernel_rfl) (by kernel_rfl) ?_
  simp only [List.take_succ_cons, List.take_zero, List.drop_succ_cons, List.drop_zero]
  iterate 32 (go_big_quiet_step (fail))
  refine wpQuiet_nil ?_
  intro w6 hb6
  have hrow := (hb6.block _ (lt_heap6 HW.out)).trans HW.out
  have hb' := Qt.more HB.out HB.out.size hb6
  have f0 : w6.frozen? ⟨w.heap.size, 0, none⟩ = false := Lib.frozen_of_heap hrow 0
  have f1 : w6.frozen? ⟨w.heap.size, 1, none⟩ = false := Lib.frozen_of_heap hrow 1
  have f2 : w6.frozen? ⟨w.heap.size, 2, none⟩ = false := Lib.frozen_of_heap hrow 2
  have f3 : w6.frozen? ⟨w.heap.size, 3, none⟩ = false := Lib.frozen_of_heap hrow 3
  have g0 : w6.cell? ⟨w.heap.size, 0, none⟩ = some (.int .i64 0) := by rw [Lib.cell_of_heap hrow]; rfl
  have g1 : w6.cell? ⟨w.heap.size, 1, none⟩ = some (.int .i64 0) := by rw [Lib.cell_of_heap hrow]; rfl
  have g2 : w6.cell? ⟨w.heap.size, 2, none⟩ = some (.int .i64 0) := by rw [Lib.cell_of_heap hrow]; rfl
  have g3 : w6.cell? ⟨w.heap.size, 3, none⟩ = some (.int .i64 0) := by rw [Lib.cell_of_heap hrow]; rfl
  have HROW := Lib.hid (show ((((w6.setCell ⟨w.heap.size, 0, none⟩ (.int .i64 v0)).setCell ⟨w.heap.size, 1, none⟩ (.int .i64 v1)).setCell ⟨w.heap.size, 2, none⟩ (.int .i64 v2)).setCell ⟨w.heap.size, 3, none⟩ (.int .i64 v3)).heap[w.heap.size]? = some (.cells #[.int .i64 v0, .int .i64 v1, .int .i64 v2, .int .i64 v3] 52 (0, 0)) from by simp [World.setCell, Array.getElem?_modify, hrow])
  have HB4 := Lib.hid ((((hb'.setCell (p := ⟨w.heap.size, 0, none⟩) (Nat.le_refl _) (.int .i64 v0)).setCell (p := ⟨w.heap.size, 1, none⟩) (Nat.le_refl _) (.int .i64 v1)).setCell (p := ⟨w.heap.size, 2, none⟩) (Nat.le_refl _) (.int .i64 v2)).setCell (p := ⟨w.heap.size, 3, none⟩) (Nat.le_refl _) (.int .i64 v3))
  clear k0 k1 k2 k3 hrow hb' hb6 HB HW
  go_wp2_with fail
  refine bodyPost_ret (results_cell1 rfl _ _ _ _ _ _ _ rfl HROW.out Try.underlying52 rfl (by kernel_rfl)) rfl ?_
  exact ⟨rfl, HB4.out⟩
/-- a place of a node of a level from one on, in a store that is right -/
def mayB (l : List Nd) (room n lev : Int) : Bool := right6 l room && decide (0 ≤ n ∧ n < (l.length : Int) ∧ lev ≤ (ndAt l n).1)
set_option maxHeartbeats 16000000 in
theorem refMay_any (A : Option Addr) (l : List Nd) (c : Nat) (room n lev : Int) (w : World) (hR : RdN w w.heap.size A l) (hl : l.length ≤ 1000000) (hw : ∀ i, i < l.length → -9223372036854775808 ≤ (l.getD i deadN).1 ∧ (l.getD i deadN).1 ≤ 9223372036854775807) :
    Calls Try.prog 65 #[storeV A l.length c room, .int .i64 n, .int .i64 lev] w fun r w' => r = .returned (.bool (mayB l room n lev)) ∧ Below w.heap.size w w' := by
  have hG0 := storeAt_0 w A l.length c room
  have hright := refRight6_any A l c room _ ((hR.below hG0.bel (Nat.le_refl _)).more hG0.bel.size) hl hw
  have HG := Lib.hid hG0
  have s0 := hG0.s0
  have s1 := hG0.s1
  have HR := Lib.hid hR
  unfold storeV at hright ⊢
  clear hG0 hR
  obtain ⟨z, hz⟩ : ∃ z, z = mayB l room n lev := ⟨_, rfl⟩
  rw [← hz]
  unfold mayB at hz
  by_cases hq : right6 l room = true
  · rw [hq, Bool.true_and] at hz
    rw [hq] at hright
    by_cases h1 : 0 ≤ n
    · by_cases h2 : n < (l.length : Int)
      · obtain ⟨m, rfl⟩ : ∃ m : Nat, n = (m : Int) := ⟨n.toNat, by omega⟩
        rw [ndAt_nat] at hz
        obtain ⟨b0, off, rfl, hbB, hcell⟩ := HR.out.at_ (by omega)
        have x0 := (hcell m (by omega)).1
        have HX := Lib.hid x0
        generalize (l.getD m deadN).1 = v at *
        by_cases h3 : lev ≤ v
        · rw [decide_eq_true ⟨h1, h2, h3⟩] at hz
          have h3' : ¬ v < lev := by omega
          subst hz
          clear hcell x0
          go_enter Try.func65, Try.ntmps65
          go_wp2_with fail
          refine hright.mono ?_
          rintro r w1 ⟨rfl, hb1⟩
          have H1 := HG.out.below7 hb1
          have t0 := H1.s0
          have y0 := Qt.keep H1.bel HX.out
          have HB := Lib.hid H1.bel
          clear hb1 hright s0 s1 H1
          go_wp2_with fail
          go_ret
          exact ⟨rfl, HB.out⟩
        · rw [decide_eq_false (fun h => h3 h.2.2)] at hz
          subst hz
          have hd : decide (lev ≤ v) = false := decide_eq_false h3
          clear hcell x0
          go_enter Try.func65, Try.ntmps65
          go_wp2_with fail
          refine hright.mono ?_
          rintro r w1 ⟨rfl, hb1⟩
          have H1 := HG.out.below7 hb1
          have t0 := H1.s0
          have y0 := Qt.keep H1.bel HX.out
          have HB := Lib.hid H1.bel
          clear hb1 hright s0 s1 H1
          go_wp2_with fail
          go_ret
          exact ⟨rfl, HB.out⟩
      · rw [decide_eq_false (fun h => h2 h.2.1)] at hz
        subst hz
        go_enter Try.func65, Try.ntmps65
        go_wp2_with fail
        refine hright.mono ?_
        rintro r w1 ⟨rfl, hb1⟩
        have H1 := HG.out.below7 hb1
        have t0 := H1.s0
        have HB := Lib.hid H1.bel
        clear hb1 hright s0 s1 H1
        go_wp2_with fail
        go_ret
        exact ⟨rfl, HB.out⟩
    · rw [decide_eq_false (fun h => h1 h.1)] at hz
      subst hz
      go_enter Try.func65, Try.ntmps65
      go_wp2_with fail
      refine hright.mono ?_
      rintro r w1 ⟨rfl, hb1⟩
      have H1 := HG.out.below7 hb1
      have t0 := H1.s0
      have HB := Lib.hid H1.bel
      clear hb1 hright s0 s1 H1
      go_wp2_with fail
      go_ret
      exact ⟨rfl, HB.out⟩
  · have hq : right6 l room = false := by simpa using hq
    rw [hq, Bool.false_and] at hz
    rw [hq] at hright
    subst hz
    go_enter Try.func65, Try.ntmps65
    go_wp2_with fail
    refine hright.mono ?_
    rintro r w1 ⟨rfl, hb1⟩
    have H1 := HG.out.below7 hb1
    have t0 := H1.s0
    have HB := Lib.hid H1.bel
    clear hb1 hright s0 s1 H1
    go_wp2_with fail
    go_ret
    exact ⟨rfl, HB.out⟩
end Go.Proofs.Ytikgnjcjbjafaaa
