/-
  Texts that the claims of this seat share, part 7.
-/
import Derived.Test.YtkneecdpkdnjfaaB06
import Derived.Test.YtkneecdpkdnjfaaB00
import Derived.Test.YtkneecdpkdnjfaaB03
import Derived.Test.YtkneecdpkdnjfaaRows
set_option linter.unusedVariables false
set_option linter.unusedSimpArgs false
namespace Go.Proofs.Ytkneecdpkdnjfaa
set_option maxRecDepth 100000
set_option linter.unusedVariables false
set_option linter.unusedSimpArgs false
open Go.RowKit Go.Sort

theorem hpath_no (k : Kd) (s : Int) (w : World) (hs : I64 s) (c0 : 4000 < s) :
    Calls Try.prog 13 #[kidsV k, .int .i64 s] w fun e w' => e = .returned (.slice none 0 0) ∧ Below w.heap.size w w' := by
  obtain ⟨s1, s2⟩ := hs
  have HB := Lib.hid ((Below.refl w.heap.size w).alloc (Nat.le_refl _) (.cells #[.int .i64 k.1, .int .i64 k.2.1, .int .i64 k.2.2.1, .int .i64 k.2.2.2] 22))
  unfold kidsV
  have c1 : ¬ s < 1 := by omega
  have c2 : ¬ s ≤ 4000 := by omega
  go_enter Try.func13, Try.ntmps13
  go_wp2_with fail
  all_goals go_ret
  all_goals exact ⟨rfl, HB.out⟩
def k1234 : Kd := (1, 2, 3, 4)
def k0000 : Kd := (0, 0, 0, 0)
def k0001 : Kd := (0, 0, 0, 1)
theorem fine_of {k : Kd} (h : decide (-1000 ≤ k.1 ∧ k.1 ≤ 1000 ∧ -1000 ≤ k.2.1 ∧ k.2.1 ≤ 1000 ∧ -1000 ≤ k.2.2.1 ∧ k.2.2.1 ≤ 1000 ∧ -1000 ≤ k.2.2.2 ∧ k.2.2.2 ≤ 1000) = true) : Fine4 k := by
  simp only [decide_eq_true_eq] at h
  unfold Fine4 I64
  omega
theorem path1234 : pathH (ofH k1234) 3 (manyH 3) = [2, 0, 1] := by decide +kernel
theorem of0000 : ofH k0000 = 1391498689 := by decide +kernel
theorem of0001 : ofH k0001 = 1374719342 := by decide +kernel
set_option maxHeartbeats 8000000 in
theorem awake13_any (w : World) : Calls Try.prog 8 #[] w fun e w' => e = .returned (.bool true) ∧ Below w.heap.size w w' := by
  have h1 := hpath_any k1234 3 w (fine_of (by decide)) (by unfold I64; omega)
  rw [path1234] at h1
  have ho0 : ∀ W, Calls Try.prog 15 #[.agg #[.int .i64 0, .int .i64 0, .int .i64 0, .int .i64 0]] W fun e w' => e = .returned (.int .i64 1391498689) ∧ Below W.heap.size W w' := fun W => by
    have := of13_any k0000 W (fine_of (by decide))
    rwa [of0000] at this
  have ho1 : ∀ W, Calls Try.prog 15 #[.agg #[.int .i64 0, .int .i64 0, .int .i64 0, .int .i64 1]] W fun e w' => e = .returned (.int .i64 1374719342) ∧ Below W.heap.size W w' := fun W => by
    have := of13_any k0001 W (fine_of (by decide))
    rwa [of0001] at this
  have hr0 : ∀ W, Calls Try.prog 16 #[.agg #[.int .i64 0, .int .i64 0, .int .i64 0, .int .i64 0]] W fun e w' => e = .returned (.int .i64 1391498689) ∧ Below W.heap.size W w' := fun W => by
    have := ref13Of_any k0000 W (fine_of (by decide))
    rwa [of0000] at this
  have hs1 : ∀ W, Calls Try.prog 10 #[.int .i64 7, .int .i64 5, .int .i64 4] W fun e w' => e = .returned (.int .i64 0) ∧ W = w' := fun W => slot13_any 7 5 4 W (by unfold I64; omega) (by unfold I64; omega) (by unfold I64; omega)
  have hs2 : ∀ W, Calls Try.prog 10 #[.int .i64 7, .int .i64 6, .int .i64 4] W fun e w' => e = .returned (.int .i64 1) ∧ W = w' := fun W => slot13_any 7 6 4 W (by unfold I64; omega) (by unfold I64; omega) (by unfold I64; omega)
  have hs3 : ∀ W, Calls Try.prog 10 #[.int .i64 7, .int .i64 6, .int .i64 0] W fun e w' => e = .returned (.int .i64 0) ∧ W = w' := fun W => slot13_any 7 6 0 W (by unfold I64; omega) (by unfold I64; omega) (by unfold I64; omega)
  have hp9 : ∀ W, Calls Try.prog 13 #[.agg #[.int .i64 0, .int .i64 0, .int .i64 0, .int .i64 0], .int .i64 4001] W fun e w' => e = .returned (.slice none 0 0) ∧ Below W.heap.size W w' := fun W => hpath_no k0000 4001 W (by unfold I64; omega) (by omega)
  have HH := Lib.hid (And.intro ho0 (And.intro ho1 (And.intro hr0 (And.intro hs1 (And.intro hs2 (And.intro hs3 hp9))))))
  clear ho0 ho1 hr0 hs1 hs2 hs3 hp9
  go_enter Try.func8, Try.ntmps8
  go_wp2_with fail
  refine h1.mono ?_
  rintro r w1 ⟨v, rfl, ho, hb1⟩
  obtain ⟨A1, c1, rfl, hc1, hN1⟩ := own_slice ho
  have hR := ho.2
  obtain ⟨g, rfl, _, _, _, hcell⟩ := own_row ho (by simp)
  have y0 := hcell 0 (by simp)
  have y1 := hcell 1 (by simp)
  have y2 := hcell 2 (by simp)
  simp only [List.getD_cons_zero, List.getD_cons_succ] at y0 y1 y2
  have HB := Lib.hid hb1
  clear h1 ho hb1 hN1 hcell hR
  go_wp2_with fail
  have q0 := Qt.cell_in y0
  have q1 := Qt.cell_in y1
  have q2 := Qt.cell_in y2
  refine Qt.below_all (by kernel_rfl) (by kernel_rfl) ?_
  iterate 19 (go_big_quiet_step (first | fail))
  go_big_quiet_step (first | (go_at_call 15; exact Qt.at_call' fun W _ => HH.out.1 W))
  iterate 1 (go_big_quiet_step (first | fail))
  go_big_quiet_step (first | (go_at_call 16; exact Qt.at_call' fun W _ => HH.out.2.2.1 W))
  iterate 4 (go_big_quiet_step (first | fail))
  go_big_quiet_step (first | (go_at_call 15; exact Qt.at_call' fun W _ => HH.out.1 W))
  iterate 1 (go_big_quiet_step (first | fail))
  go_big_quiet_step (first | (go_at_call 15; exact Qt.at_call' fun W _ => HH.out.2.1 W))
  iterate 3 (go_big_quiet_step (first | fail))
  go_big_quiet_step (first | (go_at_call 10; exact Qt.at_same fun W _ => HH.out.2.2.2.1 W))
  iterate 3 (go_big_quiet_step (first | fail))
  go_big_quiet_step (first | (go_at_call 10; exact Qt.at_same fun W _ => HH.out.2.2.2.2.1 W))
  iterate 3 (go_big_quiet_step (first | fail))
  go_big_quiet_step (first | (go_at_call 10; exact Qt.at_same fun W _ => HH.out.2.2.2.2.2.1 W))
  iterate 4 (go_big_quiet_step (first | fail))
  go_big_quiet_step (first | (go_at_call 13; exact Qt.at_call' fun W _ => HH.out.2.2.2.2.2.2 W))
  iterate 4 (go_big_quiet_step (first | fail))
  refine wpQuiet_nil ?_
  intro w9 hb9
  have HF := Lib.hid (Qt.more HB.out HB.out.size hb9)
  clear hb9 q0 q1 q2 y0 y1 y2
  go_wp2_with fail
  go_ret
  exact ⟨rfl, HF.out⟩
end Go.Proofs.Ytkneecdpkdnjfaa
namespace Go.Proofs.Ytkneecdpkdnjfaa
set_option maxRecDepth 100000
set_option linter.unusedVariables false
set_option linter.unusedSimpArgs false
open Go.RowKit Go.Sort

theorem slot_yes {h i s : Int} (h0 : 0 ≤ h ∧ h < 2147483648) (i0 : 0 ≤ i ∧ i < 2147483648) (s0 : 1 ≤ s) : slotH h i s = (h + i) % s := by
  unfold slotH
  rw [if_neg (by omega)]
set_option maxHeartbeats 8000000 in
theorem hashSlots_law (h i s : Int) (w : World) (hh : I64 h) (hi : I64 i) (hs : I64 s) :
    Calls Try.prog 6 #[.int .i64 h, .int .i64 i, .int .i64 s] w fun e w' => e = .returned (.bool true) ∧ Below w.heap.size w w' := by
  have hp1 := fun W => pick_any s 4000 W hs.1 hs.2 (by omega) (by omega)
  have hp2 := fun W => pick_any h 2147483648 W hh.1 hh.2 (by omega) (by omega)
  have hp3 := fun W => pick_any i 1073741824 W hi.1 hi.2 (by omega) (by omega)
  have b1 := pickI_bd s 4000 (by omega)
  have b2 := pickI_bd h 2147483648 (by omega)
  have b3 := pickI_bd i 1073741824 (by omega)
  obtain ⟨n0, hn0⟩ : ∃ n0, n0 = pickI s 4000 := ⟨_, rfl⟩
  obtain ⟨a, ha⟩ : ∃ a, a = pickI h 2147483648 := ⟨_, rfl⟩
  obtain ⟨b, hb⟩ : ∃ b, b = pickI i 1073741824 := ⟨_, rfl⟩
  rw [← hn0] at hp1 b1
  rw [← ha] at hp2 b2
  rw [← hb] at hp3 b3
  clear hn0 ha hb
  have fa : I64 a := ⟨by omega, by omega⟩
  have fn : I64 (1 + n0) := ⟨by omega, by omega⟩
  have hx := fun W => slot13_any a b (1 + n0) W fa ⟨by omega, by omega⟩ fn
  have hy := fun W => slot13_any a (b + 1) (1 + n0) W fa ⟨by omega, by omega⟩ fn
  have hz := fun W => slot13_any a (b + (1 + n0)) (1 + n0) W fa ⟨by omega, by omega⟩ fn
  have ht := fun W => slot13_any a 0 (1 + n0) W fa ⟨by omega, by omega⟩ fn
  rw [slot_yes b2 (by omega) (by omega)] at hx hy hz ht
  obtain ⟨n, hn⟩ : ∃ n, n = 1 + n0 := ⟨_, rfl⟩
  rw [← hn] at hx hy hz ht
  obtain ⟨x, hxx⟩ : ∃ x, x = (a + b) % n := ⟨_, rfl⟩
  have x1 : 0 ≤ x := by rw [hxx]; exact Int.emod_nonneg _ (by omega)
  have x2 : x < n := by rw [hxx]; exact Int.emod_lt_of_pos _ (by omega)
  have ey : (a + (b + 1)) % n = (x + 1).tmod n := by
    rw [Int.tmod_eq_emod_of_nonneg (by omega), hxx, ← Int.add_assoc, Int.emod_add_emod]
  have ez : (a + (b + n)) % n = x := by
    rw [hxx, ← Int.add_assoc, Int.add_emod_right]
  have et : (a + 0) % n = a.tmod n := by rw [Int.tmod_eq_emod_of_nonneg b2.1, Int.add_zero]
  rw [← hxx] at hx
  rw [ey] at hy
  rw [ez] at hz
  rw [et] at ht
  have y1 : 0 ≤ (x + 1).tmod n := by rw [← ey]; exact Int.emod_nonneg _ (by omega)
  have t1 : 0 ≤ a.tmod n := by rw [← et]; exact Int.emod_nonneg _ (by omega)
  have HH := Lib.hid (And.intro hx (And.intro hy (And.intro hz ht)))
  have HP := Lib.hid (And.intro hp1 (And.intro hp2 hp3))
  have HN := Lib.hid hn
  have nb : 1 ≤ n ∧ n ≤ 4000 := by omega
  clear hx hy hz ht hp1 hp2 hp3 hxx ey ez et
  go_enter Try.func6, Try.ntmps6
  go_wp2_with fail
  refine (awake13_any w).mono ?_
  rintro r w1 ⟨rfl, hb1⟩
  have HB := Lib.hid hb1
  clear hb1
  go_wp2_with fail
  refine (HP.out.1 w1).mono ?_
  rintro r w2 ⟨rfl, rfl⟩
  go_wp2_with fail
  refine (HP.out.2.1 w1).mono ?_
  rintro r w2 ⟨rfl, rfl⟩
  go_wp2_with fail
  refine (HP.out.2.2 w1).mono ?_
  rintro r w2 ⟨rfl, rfl⟩
  rw [← HN.out]
  clear hn
  go_wp2_with fail
  refine (HH.out.1 w1).mono ?_
  rintro r w2 ⟨rfl, rfl⟩
  go_wp2_with fail
  refine Qt.below_all (by kernel_rfl) (by kernel_rfl) ?_
  iterate 15 (go_big_quiet_step (first | fail))
  go_big_quiet_step (first | (go_at_call 10; exact Qt.at_same fun W _ => HH.out.2.1 W))
  iterate 12 (go_big_quiet_step (first | fail))
  go_big_quiet_step (first | (go_at_call 10; exact Qt.at_same fun W _ => HH.out.2.2.1 W))
  iterate 6 (go_big_quiet_step (first | fail))
  go_big_quiet_step (first | (go_at_call 10; exact Qt.at_same fun W _ => HH.out.2.2.2 W))
  iterate 6 (go_big_quiet_step (first | fail))
  refine wpQuiet_nil ?_
  intro w9 hb9
  have HF := Lib.hid (Qt.more HB.out HB.out.size hb9)
  clear hb9
  go_wp2_with fail
  go_ret
  exact ⟨rfl, HF.out⟩
end Go.Proofs.Ytkneecdpkdnjfaa
namespace Go.Proofs.Ytkneecdpkdnjfaa
set_option maxRecDepth 100000
set_option linter.unusedVariables false
set_option linter.unusedSimpArgs false
open Go.RowKit Go.Sort

/-! ### four numbers in a box -/
def Bx4 (W : World) (A : Nat) (f : Nat → Int) : Prop := W.heap[A]? = some (.cells #[.int .i64 (f 0), .int .i64 (f 1), .int .i64 (f 2), .int .i64 (f 3)] 22 (0, 0))
theorem Bx4.lt {W : World} {A : Nat} {f : Nat → Int} (h : Bx4 W A f) : A < W.heap.size := lt_heap6 h
theorem Bx4.below {W W' : World} {A : Nat} {f : Nat → Int} (h : Bx4 W A f) (hb : Below W.heap.size W W') : Bx4 W' A f := (hb.block A h.lt).trans h
theorem Bx4.c {W : World} {A : Nat} {f : Nat → Int} (h : Bx4 W A f) {j : Nat} (hj : j < 4) : W.cell? ⟨A, j, none⟩ = some (.int .i64 (f j)) := by
  rw [Lib.cell_of_heap h]
  match j, hj with
  | 0, _ => rfl
  | 1, _ => rfl
  | 2, _ => rfl
  | 3, _ => rfl
theorem Bx4.fr {W : World} {A : Nat} {f : Nat → Int} (h : Bx4 W A f) (j : Nat) : W.frozen? ⟨A, j, none⟩ = false := Lib.frozen_of_heap h j
theorem Bx4.congr {W : World} {A : Nat} {f g : Nat → Int} (h : Bx4 W A f) (he : ∀ i, i < 4 → f i = g i) : Bx4 W A g := by
  unfold Bx4 at *
  rw [← he 0 (by omega), ← he 1 (by omega), ← he 2 (by omega), ← he 3 (by omega)]
  exact h
theorem Bx4.other {W : World} {A A' : Nat} {f : Nat → Int} (h : Bx4 W A f) (hne : A ≠ A') (i : Nat) (v : Value) : Bx4 (W.setCell ⟨A', i, none⟩ v) A f := (heap_other (Ne.symm hne)).trans h
theorem Bx4.set {W : World} {A : Nat} {f : Nat → Int} (h : Bx4 W A f) {j : Nat} (hj : j < 4) (x : Int) : Bx4 (W.setCell ⟨A, j, none⟩ (.int .i64 x)) A (fun i => if i = j then x else f i) := by
  unfold Bx4 at *
  have e : (W.setCell ⟨A, j, none⟩ (.int .i64 x)).heap[A]? = some (.cells (#[Value.int .i64 (f 0), .int .i64 (f 1), .int .i64 (f 2), .int .i64 (f 3)].setIfInBounds j (.int .i64 x)) 22 (0, 0)) := by
    simp [World.setCell, Array.getElem?_modify, h]
  rw [e]
  match j, hj with
  | 0, _ => rfl
  | 1, _ => rfl
  | 2, _ => rfl
  | 3, _ => rfl
theorem bx4_kd (w : World) (k : Kd) : Bx4 (w.alloc (.cells #[.int .i64 k.1, .int .i64 k.2.1, .int .i64 k.2.2.1, .int .i64 k.2.2.2] 22)) w.heap.size (kdH k) := heap_alloc_new w _
theorem bx4_new (w : World) (f : Nat → Int) : Bx4 (w.alloc (.cells #[.int .i64 (f 0), .int .i64 (f 1), .int .i64 (f 2), .int .i64 (f 3)] 22)) w.heap.size f := heap_alloc_new w _
def toKd (f : Nat → Int) : Kd := (f 0, f 1, f 2, f 3)
theorem toKd_at (f : Nat → Int) {i : Nat} (hi : i < 4) : kdH (toKd f) i = f i := by
  match i, hi with
  | 0, _ => rfl
  | 1, _ => rfl
  | 2, _ => rfl
  | 3, _ => rfl
theorem toKd_fine {f : Nat → Int} (h : ∀ i, i < 4 → I64 (f i)) : Fine4 (toKd f) := ⟨h 0 (by omega), h 1 (by omega), h 2 (by omega), h 3 (by omega)⟩
/-- told up to a place -/
def upTo4 (f : Nat → Int) (j : Nat) : Nat → Int := fun i => if i < j then f i else 0
theorem upTo4_set (f : Nat → Int) (j i : Nat) : (if i = j then f j else upTo4 f j i) = upTo4 f (j + 1) i := by
  unfold upTo4
  by_cases h : i = j
  · subst h
    rw [if_pos rfl, if_pos (by omega)]
  · rw [if_neg h]
    by_cases h2 : i < j
    · rw [if_pos h2, if_pos (by omega)]
    · rw [if_neg h2, if_neg (by omega)]
theorem upTo4_all (f : Nat → Int) {i : Nat} (h : i < 4) : upTo4 f 4 i = f i := if_pos h

/-! ### HashBits -/
def pA (raw : Kd) (i : Nat) : Int := pickI (kdH raw i) 2147483648
def pB (raw ahead : Kd) (i : Nat) : Int := pA raw i + pickI (kdH ahead i) 1073741824 * 2147483648
theorem pA_bd (raw : Kd) (i : Nat) : 0 ≤ pA raw i ∧ pA raw i < 2147483648 := pickI_bd _ _ (by omega)
theorem pB_bd (raw ahead : Kd) (i : Nat) : 0 ≤ pB raw ahead i ∧ pB raw ahead i < 2305843009213693952 := by
  have h1 := pA_bd raw i
  have h2 := pickI_bd (kdH ahead i) 1073741824 (by omega)
  unfold pB
  omega
structure HbI (w wr : World) (R0 R1 A B : Nat) (raw ahead : Kd) (j : Nat) : Prop where
  r0 : Bx4 wr R0 (kdH raw)
  r1 : Bx4 wr R1 (kdH ahead)
  a : Bx4 wr A (upTo4 (pA raw) j)
  b : Bx4 wr B (upTo4 (pB raw ahead) j)
  bel : Below w.heap.size w wr
  ord : R0 < A ∧ R1 < A ∧ A < B ∧ w.heap.size ≤ A
def pC (raw ahead : Kd) (i : Nat) : Int := pB raw ahead i - 4611686018427387904
theorem low_b (raw ahead : Kd) (i : Nat) : lowH (kdH (toKd (pB raw ahead)) i) = lowH (kdH (toKd (pA raw)) i) := by
  have key : ∀ a z : Int, lowH (a + z * 2147483648) = lowH a := fun a z => by unfold lowH; omega
  match i with
  | 0 => exact key _ _
  | 1 => exact key _ _
  | 2 => exact key _ _
  | _ + 3 => exact key _ _
theorem low_c (raw ahead : Kd) (i : Nat) : lowH (kdH (toKd (pC raw ahead)) i) = lowH (kdH (toKd (pA raw)) i) := by
  have key : ∀ a z : Int, lowH (a + z * 2147483648 - 4611686018427387904) = lowH a := fun a z => by unfold lowH; omega
  match i with
  | 0 => exact key _ _
  | 1 => exact key _ _
  | 2 => exact key _ _
  | _ + 3 => exact key _ _
def lessC (f : Nat → Int) (j : Nat) : Nat → Int := fun i => if i < j then f i - 4611686018427387904 else f i
theorem lessC_set (f : Nat → Int) (j i : Nat) : (if i = j then f j - 4611686018427387904 else lessC f j i) = lessC f (j + 1) i := by
  unfold lessC
  by_cases h : i = j
  · subst h
    rw [if_pos rfl, if_pos (by omega)]
  · rw [if_neg h]
    by_cases h2 : i < j
    · rw [if_pos h2, if_pos (by omega)]
    · rw [if_neg h2, if_neg (by omega)]
structure HcI (w wr : World) (A B C : Nat) (raw ahead : Kd) (j : Nat) : Prop where
  a : Bx4 wr A (pA raw)
  b : Bx4 wr B (pB raw ahead)
  c : Bx4 wr C (lessC (pB raw ahead) j)
  bel : Below w.heap.size w wr
  ord : A < C ∧ B < C ∧ w.heap.size ≤ C
set_option maxHeartbeats 8000000 in
theorem hashBits_law (raw ahead : Kd) (w : World) (hr : Fine4 raw) (ha : Fine4 ahead) :
    Calls Try.prog 7 #[kidsV raw, kidsV ahead] w fun e w' => e = .returned (.bool true) ∧ Below w.heap.size w w' := by
  have HR := Lib.hid (And.intro hr ha)
  clear hr ha
  unfold kidsV
  have x0 := bx4_kd w raw
  have x1 := bx4_kd (w.alloc (.cells #[.int .i64 raw.1, .int .i64 raw.2.1, .int .i64 raw.2.2.1, .int .i64 raw.2.2.2] 22)) ahead
  have hba := (Below.refl _ w).alloc (Nat.le_refl _) (.cells #[.int .i64 raw.1, .int .i64 raw.2.1, .int .i64 raw.2.2.1, .int .i64 raw.2.2.2] 22)
  have hbb := (Below.refl _ (w.alloc (.cells #[.int .i64 raw.1, .int .i64 raw.2.1, .int .i64 raw.2.2.1, .int .i64 raw.2.2.2] 22))).alloc (Nat.le_refl _) (.cells #[.int .i64 ahead.1, .int .i64 ahead.2.1, .int .i64 ahead.2.2.1, .int .i64 ahead.2.2.2] 22)
  have x0' := x0.below hbb
  have hbc := Qt.more hba hba.size hbb
  rw [World.size_alloc] at x1
  have HX := Lib.hid (And.intro x0' (And.intro x1 hbc))
  clear x0 x1 hba hbb x0' hbc
  go_enter Try.func7, Try.ntmps7
  go_wp2_with fail
  generalize (w.alloc (.cells #[.int .i64 raw.1, .int .i64 raw.2.1, .int .i64 raw.2.2.1, .int .i64 raw.2.2.2] 22)).alloc (.cells #[.int .i64 ahead.1, .int .i64 ahead.2.1, .int .i64 ahead.2.2.1, .int .i64 ahead.2.2.2] 22) = w1 at *
  refine (awake13_any w1).mono ?_
  rintro r w2 ⟨rfl, hb2⟩
  have z0 := HX.out.1.below hb2
  have z1 := HX.out.2.1.below hb2
  have z2 := Qt.more HX.out.2.2 HX.out.2.2.size hb2
  have HX2 := Lib.hid (And.intro z0 (And.intro z1 z2))
  clear z0 z1 z2 hb2 HX
  have hal1 := (Below.refl _ w2).alloc (Nat.le_refl _) (.cells #[.int .i64 0, .int .i64 0, .int .i64 0, .int .i64 0] 22)
  have hal2 := (Below.refl _ (w2.alloc (.cells #[.int .i64 0, .int .i64 0, .int .i64 0, .int .i64 0] 22))).alloc (Nat.le_refl _) (.cells #[.int .i64 0, .int .i64 0, .int .i64 0, .int .i64 0] 22)
  have a0 : Bx4 _ _ (upTo4 (pA raw) 0) := bx4_new w2 (upTo4 (pA raw) 0)
  have b0 : Bx4 _ _ (upTo4 (pB raw ahead) 0) := bx4_new (w2.alloc (.cells #[.int .i64 0, .int .i64 0, .int .i64 0, .int .i64 0] 22)) (upTo4 (pB raw ahead) 0)
  have a1 := a0.below hal2
  have hsx : (w2.alloc (.cells #[.int .i64 0, .int .i64 0, .int .i64 0, .int .i64 0] 22)).heap.size = w2.heap.size + 1 := World.size_alloc _ _
  rw [hsx] at b0
  have HI0 : Hid (HbI w ((w2.alloc (.cells #[.int .i64 0, .int .i64 0, .int .i64 0, .int .i64 0] 22)).alloc (.cells #[.int .i64 0, .int .i64 0, .int .i64 0, .int .i64 0] 22)) w.heap.size (w.heap.size + 1) w2.heap.size (w2.heap.size + 1) raw ahead 0) := by
    obtain ⟨z0, z1, z2⟩ := HX2.out
    have e0 := z0.lt
    have e1 := z1.lt
    have e2 := z2.size
    exact ⟨(z0.below hal1).below hal2, (z1.below hal1).below hal2, a1, b0, Qt.more (Qt.more z2 e2 hal1) (by rw [hsx]; omega) hal2, by omega⟩
  clear hal1 hal2 a0 b0 a1 hsx HX2
  go_wp2_with fail
  generalize (w2.alloc (.cells #[.int .i64 0, .int .i64 0, .int .i64 0, .int .i64 0] 22)).alloc (.cells #[.int .i64 0, .int .i64 0, .int .i64 0, .int .i64 0] 22) = w3 at *
  obtain ⟨A, hA⟩ : ∃ A, A = w2.heap.size := ⟨_, rfl⟩
  rw [← hA] at HI0 ⊢
  obtain ⟨B, hB⟩ : ∃ B, B = A + 1 := ⟨_, rfl⟩
  rw [← hB] at HI0 ⊢
  clear hA hB
  go_loopw [8] (fun i wr => ∃ j : Nat, j ≤ 4 ∧ i = .int .i64 j ∧ Hid (HbI w wr w.heap.size (w.heap.size + 1) A B raw ahead j)) (fun i _ => 4 - (intOf i).toNat)
  case atStart => exact ⟨0, by omega, rfl, HI0.out⟩
  case round =>
    obtain ⟨j, hj, rfl, HH⟩ := hrel
    by_cases hlt : j < 4
    · have c0 := HH.out.r0.c hlt
      have f1 := HH.out.a.fr j
      have d1 := HH.out.a.c hlt
      obtain ⟨p1, p2⟩ := kdH_fine HR.out.1 j
      have HP := Lib.hid (pick_any (kdH raw j) 2147483648 wr p1 p2 (by omega) (by omega))
      have HQ : Hid (Bx4 (wr.setCell ⟨A, j, none⟩ (.int .i64 (pA raw j))) A (upTo4 (pA raw) (j + 1)) ∧ Bx4 (wr.setCell ⟨A, j, none⟩ (.int .i64 (pA raw j))) w.heap.size (kdH raw) ∧ Bx4 (wr.setCell ⟨A, j, none⟩ (.int .i64 (pA raw j))) (w.heap.size + 1) (kdH ahead) ∧ Bx4 (wr.setCell ⟨A, j, none⟩ (.int .i64 (pA raw j))) B (upTo4 (pB raw ahead) j) ∧ Below w.heap.size w (wr.setCell ⟨A, j, none⟩ (.int .i64 (pA raw j)))) := by
        obtain ⟨g0, g1, g2, g3, g4, g5⟩ := HH.out
        exact ⟨(g2.set hlt (pA raw j)).congr fun i _ => upTo4_set (pA raw) j i, g0.other (by omega) _ _, g1.other (by omega) _ _, g3.other (by omega) _ _, g4.setCell (p := ⟨A, j, none⟩) (by show w.heap.size ≤ A; omega) _⟩
      have hpa : pickI (kdH raw j) 2147483648 = pA raw j := rfl
      rw [hpa] at HP
      have hab := pA_bd raw j
      have hbb := pB_bd raw ahead j
      have hpb := pickI_bd (kdH ahead j) 1073741824 (by omega)
      have HE : Hid (pB raw ahead j = pA raw j + pickI (kdH ahead j) 1073741824 * 2147483648 ∧ upTo4 (pA raw) (j + 1) j = pA raw j) := ⟨rfl, if_pos (by omega)⟩
      obtain ⟨q1, q2⟩ := kdH_fine HR.out.2 j
      have HP2 := Lib.hid (fun W => pick_any (kdH ahead j) 1073741824 W q1 q2 (by omega) (by omega))
      have hord := HH.out.ord
      clear hpa p1 p2 q1 q2
      generalize pA raw j = x at *
      obtain ⟨y, hy⟩ : ∃ y, y = pB raw ahead j := ⟨_, rfl⟩
      rw [← hy] at hbb HE
      have HY : Hid (pB raw ahead j = y) := hy.symm
      clear hy
      generalize pickI (kdH ahead j) 1073741824 = z at *
      go_wp2_with fail
      refine HP.out.mono ?_
      rintro r w4 ⟨rfl, rfl⟩
      clear c0
      go_wp2_with fail
      generalize wr.setCell ⟨A, j, none⟩ (.int .i64 x) = w5 at *
      have m1 := HQ.out.1
      have m2 := HQ.out.2.2.1
      have m3 := HQ.out.2.2.2.1
      obtain ⟨x0, hx0⟩ : ∃ x0, x0 = w5.drew := ⟨_, rfl⟩
      have m1x : Bx4 x0 A (upTo4 (pA raw) (j + 1)) := by rw [hx0]; exact m1
      have m2x : Bx4 x0 (w.heap.size + 1) (kdH ahead) := by rw [hx0]; exact m2
      have m3x : Bx4 x0 B (upTo4 (pB raw ahead) j) := by rw [hx0]; exact m3
      have HQ0 : Hid (Bx4 x0 w.heap.size (kdH raw) ∧ Below w.heap.size w x0) := by rw [hx0]; exact ⟨HQ.out.2.1, Qt.more HQ.out.2.2.2.2 HQ.out.2.2.2.2.size (below_drew _)⟩
      refine region_calm_to (fun W => Bx4 W A (upTo4 (pA raw) (j + 1)) ∧ Bx4 W (w.heap.size + 1) (kdH ahead)) (fun (a0 a9 : Act) (w9 : World) => a9 = (((((((((((a0.put (some 22) (.int .i64 (j : Int))).put (some 23) (.int .i64 (j : Int))).put (some 24) (.pointer (some ⟨A, j, none⟩))).put (some 25) (.int .i64 x)).put (some 26) (.int .i64 (j : Int))).put (some 27) (.pointer (some ⟨w.heap.size + 1, j, none⟩))).put (some 28) (.int .i64 (kdH ahead j))).put (some 29) (.int .i64 z)).put (some 30) (.int .i64 (z * 2147483648))).put (some 31) (.int .i64 y)).put (some 32) (.pointer (some ⟨B, j, none⟩))) ∧ w9 = x0.setCell ⟨B, j, none⟩ (.int .i64 y)) (.calm 0 (.calm 1 (.calm 2 (.calm 3 (.calm 4 (.calm 5 (.calm 6 (.only 7 (.only 8 (.only 9 (.only 10 (.only 11 .done)))))))))))) (by kernel_rfl) (by kernel_rfl) (by kernel_rfl) (by rfl) ⟨m1, m2⟩ ?_ ?_
      · skip
        rw [← hx0]
        clear hx0
        refine ⟨_, _, (.int .i64 (j : Int)), rfl, rfl, ⟨rfl, fun W hW => by first | exact ⟨rfl, rfl⟩ | (simp only [Act.eval, execOp]; go_simp; try exact ⟨rfl, rfl⟩)⟩, ?_⟩
        simp only [Act.put, List.getElem_toArray, List.getElem_cons_zero, List.getElem_cons_succ, List.setIfInBounds_toArray, List.set_cons_succ, List.set_cons_zero]
        refine ⟨_, _, (.int .i64 (j : Int)), rfl, rfl, ⟨rfl, fun W hW => by first | exact ⟨rfl, rfl⟩ | (simp only [Act.eval, execOp]; go_simp; try exact ⟨rfl, rfl⟩)⟩, ?_⟩
        simp only [Act.put, List.getElem_toArray, List.getElem_cons_zero, List.getElem_cons_succ, List.setIfInBounds_toArray, List.set_cons_succ, List.set_cons_zero]
        refine ⟨_, _, (.pointer (some ⟨A, j, none⟩)), rfl, rfl, ⟨rfl, fun W hW => by first | exact ⟨rfl, rfl⟩ | (simp only [Act.eval, execOp]; go_simp; try exact ⟨rfl, rfl⟩)⟩, ?_⟩
        simp only [Act.put, List.getElem_toArray, List.getElem_cons_zero, List.getElem_cons_succ, List.setIfInBounds_toArray, List.set_cons_succ, List.set_cons_zero]
        refine ⟨_, _, (.int .i64 x), rfl, rfl, ⟨rfl, fun W hW => by
          have e := hW.1.c hlt
          rw [HE.out.2] at e
          (simp only [Act.eval, execOp]; go_simp; try exact ⟨rfl, rfl⟩)⟩, ?_⟩
        simp only [Act.put, List.getElem_toArray, List.getElem_cons_zero, List.getElem_cons_succ, List.setIfInBounds_toArray, List.set_cons_succ, List.set_cons_zero]
        refine ⟨_, _, (.int .i64 (j : Int)), rfl, rfl, ⟨rfl, fun W hW => by first | exact ⟨rfl, rfl⟩ | (simp only [Act.eval, execOp]; go_simp; try exact ⟨rfl, rfl⟩)⟩, ?_⟩
        simp only [Act.put, List.getElem_toArray, List.getElem_cons_zero, List.getElem_cons_succ, List.setIfInBounds_toArray, List.set_cons_succ, List.set_cons_zero]
        refine ⟨_, _, (.pointer (some ⟨w.heap.size + 1, j, none⟩)), rfl, rfl, ⟨rfl, fun W hW => by first | exact ⟨rfl, rfl⟩ | (simp only [Act.eval, execOp]; go_simp; try exact ⟨rfl, rfl⟩)⟩, ?_⟩
        simp only [Act.put, List.getElem_toArray, List.getElem_cons_zero, List.getElem_cons_succ, List.setIfInBounds_toArray, List.set_cons_succ, List.set_cons_zero]
        refine ⟨_, _, (.int .i64 (kdH ahead j)), rfl, rfl, ⟨rfl, fun W hW => by
          have e := hW.2.c hlt
          (simp only [Act.eval, execOp]; go_simp; try exact ⟨rfl, rfl⟩)⟩, ?_⟩
        simp only [Act.put, List.getElem_toArray, List.getElem_cons_zero, List.getElem_cons_succ, List.setIfInBounds_toArray, List.set_cons_succ, List.set_cons_zero]
        refine ⟨_, rfl, ?_⟩
        go_wp2_with fail
        refine (HP2.out x0).mono ?_
        rintro r w6 ⟨rfl, rfl⟩
        go_wp2_with fail
        refine ⟨rfl, ⟨m1x, m2x⟩, ?_⟩
        refine ⟨_, rfl, ?_⟩
        go_wp2_with fail
        refine ⟨rfl, ⟨m1x, m2x⟩, ?_⟩
        refine ⟨_, rfl, ?_⟩
        go_wp2_with fail
        rw [← HE.out.1]
        refine ⟨rfl, ⟨m1x, m2x⟩, ?_⟩
        refine ⟨_, rfl, ?_⟩
        go_wp2_with fail
        refine ⟨rfl, ⟨m1x, m2x⟩, ?_⟩
        have f3 := m3x.fr j
        have d3 := m3x.c hlt
        refine ⟨_, rfl, ?_⟩
        go_wp2_with fail
        refine ⟨rfl, ⟨m1x.other (by omega) _ _, m2x.other (by omega) _ _⟩, ?_⟩
        exact ⟨rfl, rfl⟩
      · rintro a9 w9 ⟨rfl, rfl⟩
        have HN : Hid (HbI w (x0.setCell ⟨B, j, none⟩ (.int .i64 y)) w.heap.size (w.heap.size + 1) A B raw ahead (j + 1)) := by
          obtain ⟨g0, g1, g2, g3, g4, g5⟩ := HH.out
          refine ⟨HQ0.out.1.other (by omega) _ _, m2x.other (by omega) _ _, m1x.other (by omega) _ _, (m3x.set hlt y).congr fun i _ => ?_, HQ0.out.2.setCell (p := ⟨B, j, none⟩) (by show w.heap.size ≤ B; omega) _, g5⟩
          rw [← HY.out]
          exact upTo4_set (pB raw ahead) j i
        clear hx0 m1 m2 m3 m1x m2x m3x
        simp only [Act.put, List.getElem_toArray, List.getElem_cons_zero, List.getElem_cons_succ, List.setIfInBounds_toArray, List.set_cons_succ, List.set_cons_zero]
        go_wp2_with fail
        go_roundw
        case measure => simp [intOf]; omega
        case rel => exact ⟨j + 1, by omega, by go_num, HN.out⟩
    · obtain rfl : j = 4 := by omega
      obtain ⟨g0, g1, g2, g3, g4, g5⟩ := HH.out
      have ga := g2.congr (g := pA raw) fun i hi => upTo4_all _ hi
      have gb := g3.congr (g := pB raw ahead) fun i hi => upTo4_all _ hi
      have b0 := gb.c (j := 0) (by omega)
      have b1 := gb.c (j := 1) (by omega)
      have b2 := gb.c (j := 2) (by omega)
      have b3 := gb.c (j := 3) (by omega)
      have hal := (Below.refl _ wr).alloc (Nat.le_refl _) (.cells #[.int .i64 (pB raw ahead 0), .int .i64 (pB raw ahead 1), .int .i64 (pB raw ahead 2), .int .i64 (pB raw ahead 3)] 22)
      have gc := bx4_new wr (pB raw ahead)
      have HC0 : Hid (HcI w (wr.alloc (.cells #[.int .i64 (pB raw ahead 0), .int .i64 (pB raw ahead 1), .int .i64 (pB raw ahead 2), .int .i64 (pB raw ahead 3)] 22)) A B wr.heap.size raw ahead 0) := by
        have e1 := ga.lt
        have e2 := gb.lt
        refine ⟨ga.below hal, gb.below hal, gc.congr fun i hi => ?_, Qt.more g4 g4.size hal, by have := g4.size; omega⟩
        unfold lessC
        rw [if_neg (by omega)]
      have HY := Lib.hid (pB_bd raw ahead)
      clear g0 g1 g2 g3 g4 g5 ga gb hal gc
      go_wp2_with fail
      generalize wr.alloc (.cells #[.int .i64 (pB raw ahead 0), .int .i64 (pB raw ahead 1), .int .i64 (pB raw ahead 2), .int .i64 (pB raw ahead 3)] 22) = w4 at *
      obtain ⟨C, hC⟩ : ∃ C, C = wr.heap.size := ⟨_, rfl⟩
      rw [← hC] at HC0 ⊢
      clear hC b0 b1 b2 b3
      go_loopw [10] (fun i wr => ∃ j : Nat, j ≤ 4 ∧ i = .int .i64 j ∧ Hid (HcI w wr A B C raw ahead j)) (fun i _ => 4 - (intOf i).toNat)
      case atStart => exact ⟨0, by omega, rfl, HC0.out⟩
      case round =>
        obtain ⟨j, hj, rfl, HH⟩ := hrel
        by_cases hlt : j < 4
        · have c0 := HH.out.b.c hlt
          have f1 := HH.out.c.fr j
          have d1 := HH.out.c.c hlt
          have hbb := HY.out j
          have HQ : Hid (HcI w (wr.setCell ⟨C, j, none⟩ (.int .i64 (pB raw ahead j - 4611686018427387904))) A B C raw ahead (j + 1)) := by
            obtain ⟨g2, g3, g4, g5, g6⟩ := HH.out
            exact ⟨g2.other (by omega) _ _, g3.other (by omega) _ _, (g4.set hlt _).congr fun i _ => lessC_set _ j i, g5.setCell (p := ⟨C, j, none⟩) (by show w.heap.size ≤ C; omega) _, g6⟩
          generalize pB raw ahead j = y at *
          go_wp2_with fail
          go_roundw
          case measure => simp [intOf]; omega
          case rel => exact ⟨j + 1, by omega, by go_num, HQ.out⟩
        · obtain rfl : j = 4 := by omega
          obtain ⟨g2, g3, g4, g5, g6⟩ := HH.out
          have g4 := g4.congr (g := pC raw ahead) fun i hi => if_pos hi
          have qa0 := Qt.cell_in (g2.c (j := 0) (by omega))
          have qa1 := Qt.cell_in (g2.c (j := 1) (by omega))
          have qa2 := Qt.cell_in (g2.c (j := 2) (by omega))
          have qa3 := Qt.cell_in (g2.c (j := 3) (by omega))
          have qb0 := Qt.cell_in (g3.c (j := 0) (by omega))
          have qb1 := Qt.cell_in (g3.c (j := 1) (by omega))
          have qb2 := Qt.cell_in (g3.c (j := 2) (by omega))
          have qb3 := Qt.cell_in (g3.c (j := 3) (by omega))
          have qc0 := Qt.cell_in (g4.c (j := 0) (by omega))
          have qc1 := Qt.cell_in (g4.c (j := 1) (by omega))
          have qc2 := Qt.cell_in (g4.c (j := 2) (by omega))
          have qc3 := Qt.cell_in (g4.c (j := 3) (by omega))
          have HB := Lib.hid g5
          have e1 : ofH (toKd (pB raw ahead)) = ofH (toKd (pA raw)) := ofH_low (low_b raw ahead)
          have e2 : ofH (toKd (pC raw ahead)) = ofH (toKd (pA raw)) := ofH_low (low_c raw ahead)
          have ha := fun W => of13_any (toKd (pA raw)) W (toKd_fine fun i _ => by have := pA_bd raw i; unfold I64; omega)
          have hb := fun W => of13_any (toKd (pB raw ahead)) W (toKd_fine fun i _ => by have := pB_bd raw ahead i; unfold I64; omega)
          have hc := fun W => of13_any (toKd (pC raw ahead)) W (toKd_fine fun i _ => by have := pB_bd raw ahead i; unfold pC I64; omega)
          rw [e1] at hb
          rw [e2] at hc
          have hh := ofH_lt (toKd (pA raw))
          unfold kidsV toKd at ha hb hc
          simp only at ha hb hc
          clear e1 e2 g2 g3 g4 g5 g6
          generalize ofH (toKd (pA raw)) = h at *
          have HO := Lib.hid (And.intro ha (And.intro hb hc))
          clear ha hb hc
          go_wp2_with fail
          refine Qt.below_all (by kernel_rfl) (by kernel_rfl) ?_
          iterate 3 (go_big_quiet_step (first | fail))
          go_big_quiet_step (first | (go_at_call 15; exact Qt.at_call' fun W _ => HO.out.1 W))
          iterate 1 (go_big_quiet_step (first | fail))
          go_big_quiet_step (first | (go_at_call 15; exact Qt.at_call' fun W _ => HO.out.2.1 W))
          iterate 4 (go_big_quiet_step (first | fail))
          go_big_quiet_step (first | (go_at_call 15; exact Qt.at_call' fun W _ => HO.out.1 W))
          iterate 1 (go_big_quiet_step (first | fail))
          go_big_quiet_step (first | (go_at_call 15; exact Qt.at_call' fun W _ => HO.out.2.2 W))
          iterate 3 (go_big_quiet_step (first | fail))
          refine wpQuiet_nil ?_
          intro w9 hb9
          have HF := Lib.hid (Qt.more HB.out HB.out.size hb9)
          clear hb9
          clear qa0 qa1 qa2 qa3 qb0 qb1 qb2 qb3 qc0 qc1 qc2 qc3
          go_wp2_with fail
          go_ret
          exact ⟨rfl, HF.out⟩
end Go.Proofs.Ytkneecdpkdnjfaa
namespace Go.Proofs.Ytkneecdpkdnjfaa
set_option maxRecDepth 100000
set_option linter.unusedVariables false
set_option linter.unusedSimpArgs false
open Go.RowKit Go.Sort

theorem toKd_put (f : Nat → Int) {p : Nat} (hp : p < 4) (v : Int) : toKd (fun i => if i = p then v else f i) = putH (toKd f) p v := by
  match p, hp with
  | 0, _ => rfl
  | 1, _ => rfl
  | 2, _ => rfl
  | 3, _ => rfl
def oneB (raw : Kd) (p : Nat) (v : Int) : Nat → Int := fun i => if i = p then v else pA raw i
theorem one_iff (raw : Kd) {p : Nat} (hp : p < 4) {v : Int} (hv : 0 ≤ v ∧ v < 2147483648) : ofH (toKd (pA raw)) = ofH (toKd (oneB raw p v)) ↔ toKd (pA raw) = toKd (oneB raw p v) := by
  unfold oneB
  rw [toKd_put _ hp]
  refine one_other _ p v (fun i => ?_) hv
  match i with
  | 0 => exact pA_bd raw 0
  | 1 => exact pA_bd raw 1
  | 2 => exact pA_bd raw 2
  | _ + 3 => exact pA_bd raw 3
structure HoI (w wr : World) (R0 A : Nat) (raw : Kd) (j : Nat) : Prop where
  r0 : Bx4 wr R0 (kdH raw)
  a : Bx4 wr A (upTo4 (pA raw) j)
  bel : Below w.heap.size w wr
  ord : R0 < A ∧ w.heap.size ≤ A
set_option maxHeartbeats 8000000 in
theorem hashOne_law (raw : Kd) (at0 other : Int) (w : World) (hr : Fine4 raw) (ha : I64 at0) (ho : I64 other) :
    Calls Try.prog 5 #[kidsV raw, .int .i64 at0, .int .i64 other] w fun e w' => e = .returned (.bool true) ∧ Below w.heap.size w w' := by
  have HR := Lib.hid hr
  have hp1 := fun W => pick_any at0 4 W ha.1 ha.2 (by omega) (by omega)
  have hp2 := fun W => pick_any other 2147483648 W ho.1 ho.2 (by omega) (by omega)
  have b1 := pickI_bd at0 4 (by omega)
  have b2 := pickI_bd other 2147483648 (by omega)
  obtain ⟨p, hp⟩ : ∃ p : Nat, (p : Int) = pickI at0 4 := ⟨(pickI at0 4).toNat, by omega⟩
  obtain ⟨v, hv⟩ : ∃ v, v = pickI other 2147483648 := ⟨_, rfl⟩
  rw [← hp] at hp1 b1
  rw [← hv] at hp2 b2
  have HP := Lib.hid (And.intro hp1 hp2)
  clear hp hv hp1 hp2 hr
  unfold kidsV
  have x0 := bx4_kd w raw
  have hba := (Below.refl _ w).alloc (Nat.le_refl _) (.cells #[.int .i64 raw.1, .int .i64 raw.2.1, .int .i64 raw.2.2.1, .int .i64 raw.2.2.2] 22)
  have HX := Lib.hid (And.intro x0 hba)
  clear x0 hba
  go_enter Try.func5, Try.ntmps5
  go_wp2_with fail
  generalize w.alloc (.cells #[.int .i64 raw.1, .int .i64 raw.2.1, .int .i64 raw.2.2.1, .int .i64 raw.2.2.2] 22) = w1 at *
  refine (awake13_any w1).mono ?_
  rintro r w2 ⟨rfl, hb2⟩
  have z0 := HX.out.1.below hb2
  have z2 := Qt.more HX.out.2 HX.out.2.size hb2
  have hal1 := (Below.refl _ w2).alloc (Nat.le_refl _) (.cells #[.int .i64 0, .int .i64 0, .int .i64 0, .int .i64 0] 22)
  have a0 : Bx4 _ _ (upTo4 (pA raw) 0) := bx4_new w2 (upTo4 (pA raw) 0)
  have HI0 : Hid (HoI w (w2.alloc (.cells #[.int .i64 0, .int .i64 0, .int .i64 0, .int .i64 0] 22)) w.heap.size w2.heap.size raw 0) := by
    have e0 := z0.lt
    have e2 := z2.size
    exact ⟨z0.below hal1, a0, Qt.more z2 e2 hal1, by omega⟩
  clear hal1 a0 z0 z2 HX hb2
  go_wp2_with fail
  generalize w2.alloc (.cells #[.int .i64 0, .int .i64 0, .int .i64 0, .int .i64 0] 22) = w3 at *
  obtain ⟨A, hA⟩ : ∃ A, A = w2.heap.size := ⟨_, rfl⟩
  rw [← hA] at HI0 ⊢
  clear hA
  go_loopw [9] (fun i wr => ∃ j : Nat, j ≤ 4 ∧ i = .int .i64 j ∧ Hid (HoI w wr w.heap.size A raw j)) (fun i _ => 4 - (intOf i).toNat)
  case atStart => exact ⟨0, by omega, rfl, HI0.out⟩
  case round =>
    obtain ⟨j, hj, rfl, HH⟩ := hrel
    by_cases hlt : j < 4
    · have c0 := HH.out.r0.c hlt
      have f1 := HH.out.a.fr j
      have d1 := HH.out.a.c hlt
      obtain ⟨p1, p2⟩ := kdH_fine HR.out j
      have HPP := Lib.hid (pick_any (kdH raw j) 2147483648 wr p1 p2 (by omega) (by omega))
      have HQ : Hid (HoI w (wr.setCell ⟨A, j, none⟩ (.int .i64 (pA raw j))) w.heap.size A raw (j + 1)) := by
        obtain ⟨g0, g2, g4, g5⟩ := HH.out
        exact ⟨g0.other (by omega) _ _, (g2.set hlt (pA raw j)).congr fun i _ => upTo4_set (pA raw) j i, g4.setCell (p := ⟨A, j, none⟩) (by show w.heap.size ≤ A; omega) _, g5⟩
      have hpa : pickI (kdH raw j) 2147483648 = pA raw j := rfl
      rw [hpa] at HPP
      clear hpa p1 p2
      generalize pA raw j = x at *
      go_wp2_with fail
      refine HPP.out.mono ?_
      rintro r w4 ⟨rfl, rfl⟩
      go_wp2_with fail
      go_roundw
      case measure => simp [intOf]; omega
      case rel => exact ⟨j + 1, by omega, by go_num, HQ.out⟩
    · obtain rfl : j = 4 := by omega
      obtain ⟨g0, g2, g4, g5⟩ := HH.out
      have ga := g2.congr (g := pA raw) fun i hi => upTo4_all _ hi
      have b0 := ga.c (j := 0) (by omega)
      have b3 := ga.c (j := 1) (by omega)
      have b4 := ga.c (j := 2) (by omega)
      have b5 := ga.c (j := 3) (by omega)
      have hp4 : p < 4 := by omega
      have hal := (Below.refl _ wr).alloc (Nat.le_refl _) (.cells #[.int .i64 (pA raw 0), .int .i64 (pA raw 1), .int .i64 (pA raw 2), .int .i64 (pA raw 3)] 22)
      have gc := bx4_new wr (pA raw)
      have HC0 : Hid (Bx4 (wr.alloc (.cells #[.int .i64 (pA raw 0), .int .i64 (pA raw 1), .int .i64 (pA raw 2), .int .i64 (pA raw 3)] 22)) A (pA raw) ∧ Bx4 (wr.alloc (.cells #[.int .i64 (pA raw 0), .int .i64 (pA raw 1), .int .i64 (pA raw 2), .int .i64 (pA raw 3)] 22)) wr.heap.size (pA raw) ∧ Below w.heap.size w (wr.alloc (.cells #[.int .i64 (pA raw 0), .int .i64 (pA raw 1), .int .i64 (pA raw 2), .int .i64 (pA raw 3)] 22)) ∧ A < wr.heap.size ∧ w.heap.size ≤ wr.heap.size) :=
        ⟨ga.below hal, gc, Qt.more g4 g4.size hal, ga.lt, g4.size⟩
      clear g0 g2 g4 g5 ga hal gc
      go_wp2_with fail
      generalize wr.alloc (.cells #[.int .i64 (pA raw 0), .int .i64 (pA raw 1), .int .i64 (pA raw 2), .int .i64 (pA raw 3)] 22) = w4 at *
      refine (HP.out.1 w4).mono ?_
      rintro r w5 ⟨rfl, rfl⟩
      go_wp2_with fail
      refine (HP.out.2 w4).mono ?_
      rintro r w5 ⟨rfl, rfl⟩
      obtain ⟨C, hC⟩ : ∃ C, C = wr.heap.size := ⟨_, rfl⟩
      rw [← hC] at HC0 ⊢
      clear hC b0 b3 b4 b5
      obtain ⟨ga, gc, gb, o1, o2⟩ := HC0.out
      have f1 := gc.fr p
      have d1 := gc.c hp4
      have HD : Hid (Bx4 (w4.setCell ⟨C, p, none⟩ (.int .i64 v)) A (pA raw) ∧ Bx4 (w4.setCell ⟨C, p, none⟩ (.int .i64 v)) C (oneB raw p v) ∧ Below w.heap.size w (w4.setCell ⟨C, p, none⟩ (.int .i64 v))) :=
        ⟨ga.other (by omega) _ _, gc.set hp4 v, gb.setCell (p := ⟨C, p, none⟩) o2 _⟩
      clear ga gc gb HC0
      obtain ⟨w6, hw6⟩ : ∃ w6, w4.setCell ⟨C, p, none⟩ (.int .i64 v) = w6 := ⟨_, rfl⟩
      rw [hw6] at HD
      have HW6 := Lib.hid hw6
      clear hw6
      have hXY := one_iff raw hp4 b2
      have bv : ∀ i, i < 4 → I64 (oneB raw p v i) := fun i _ => by
        have := pA_bd raw i
        unfold oneB I64
        split <;> omega
      have hoa := fun W => of13_any (toKd (pA raw)) W (toKd_fine fun i _ => by have := pA_bd raw i; unfold I64; omega)
      have hob := fun W => of13_any (toKd (oneB raw p v)) W (toKd_fine bv)
      have hX := ofH_lt (toKd (pA raw))
      have hY := ofH_lt (toKd (oneB raw p v))
      unfold kidsV at hoa hob
      generalize ofH (toKd (pA raw)) = X at *
      generalize ofH (toKd (oneB raw p v)) = Y at *
      simp only [toKd] at hoa hob
      obtain ⟨d, hd⟩ : ∃ d, d = decide (toKd (pA raw) = toKd (oneB raw p v)) := ⟨_, rfl⟩
      have heq : ∀ W : World, (binOp .eql 22 (.agg #[.int .i64 (pA raw 0), .int .i64 (pA raw 1), .int .i64 (pA raw 2), .int .i64 (pA raw 3)]) (.agg #[.int .i64 (oneB raw p v 0), .int .i64 (oneB raw p v 1), .int .i64 (oneB raw p v 2), .int .i64 (oneB raw p v 3)])).run Try.prog W = .ok (.bool d) W := fun W => by
        have := eqlK (toKd (pA raw)) (toKd (oneB raw p v)) W
        rw [← hd] at this
        exact this
      have hxy : decide ((X : Int) = (Y : Int)) = d := by
        rw [hd, Bool.eq_iff_iff, decide_eq_true_eq, decide_eq_true_eq, ← hXY]
        omega
      have HO := Lib.hid (And.intro hoa hob)
      have HB := Lib.hid HD.out.2.2
      clear hoa hob hXY bv hd
      have qa0 := HD.out.1.c (j := 0) (by omega)
      have qc0 := HD.out.2.1.c (j := 0) (by omega)
      have qa1 := HD.out.1.c (j := 1) (by omega)
      have qc1 := HD.out.2.1.c (j := 1) (by omega)
      have qa2 := HD.out.1.c (j := 2) (by omega)
      have qc2 := HD.out.2.1.c (j := 2) (by omega)
      have qa3 := HD.out.1.c (j := 3) (by omega)
      have qc3 := HD.out.2.1.c (j := 3) (by omega)
      have HE := Lib.hid (And.intro heq hxy)
      clear heq hxy
      go_wp2_with (rw [HW6.out])
      clear f1 d1
      refine (HO.out.1 w6).mono ?_
      rintro r w7 ⟨rfl, hb7⟩
      have HD7 : Hid (Bx4 w7 A (pA raw) ∧ Bx4 w7 C (oneB raw p v) ∧ Below w.heap.size w w7) := ⟨HD.out.1.below hb7, HD.out.2.1.below hb7, Qt.more HD.out.2.2 HD.out.2.2.size hb7⟩
      clear qa0 qa1 qa2 qa3 qc0 qc1 qc2 qc3 HD HB hb7
      have qa0 := HD7.out.1.c (j := 0) (by omega)
      have qc0 := HD7.out.2.1.c (j := 0) (by omega)
      have qa1 := HD7.out.1.c (j := 1) (by omega)
      have qc1 := HD7.out.2.1.c (j := 1) (by omega)
      have qa2 := HD7.out.1.c (j := 2) (by omega)
      have qc2 := HD7.out.2.1.c (j := 2) (by omega)
      have qa3 := HD7.out.1.c (j := 3) (by omega)
      have qc3 := HD7.out.2.1.c (j := 3) (by omega)
      go_wp2_with fail
      refine (HO.out.2 w7).mono ?_
      rintro r w8 ⟨rfl, hb8⟩
      have HD8 : Hid (Bx4 w8 A (pA raw) ∧ Bx4 w8 C (oneB raw p v) ∧ Below w.heap.size w w8) := ⟨HD7.out.1.below hb8, HD7.out.2.1.below hb8, Qt.more HD7.out.2.2 HD7.out.2.2.size hb8⟩
      clear qa0 qa1 qa2 qa3 qc0 qc1 qc2 qc3 HD7 hb8
      have qa0 := HD8.out.1.c (j := 0) (by omega)
      have qc0 := HD8.out.2.1.c (j := 0) (by omega)
      have qa1 := HD8.out.1.c (j := 1) (by omega)
      have qc1 := HD8.out.2.1.c (j := 1) (by omega)
      have qa2 := HD8.out.1.c (j := 2) (by omega)
      have qc2 := HD8.out.2.1.c (j := 2) (by omega)
      have qa3 := HD8.out.1.c (j := 3) (by omega)
      have qc3 := HD8.out.2.1.c (j := 3) (by omega)
      obtain ⟨heq, hxy⟩ := HE.out
      by_cases hn : X = Y
      · subst hn
        have hdt : d = true := by rw [← hxy]; exact decide_eq_true rfl
        subst hdt
        have t1 : decide ((X : Int) < 2147483648) = true := decide_eq_true (by omega)
        clear hxy hX b1 b2 hp4 o1 o2 hlt hj
        go_wp2_with fail
        go_ret
        exact ⟨rfl, HD8.out.2.2⟩
      · have hz : ¬ (X : Int) = (Y : Int) := by omega
        have t3 : ((X : Int) == (Y : Int)) = false := beq_eq_false_iff_ne.2 hz
        have hdf : d = false := by rw [← hxy]; exact decide_eq_false hz
        subst hdf
        have t1 : decide ((X : Int) < 2147483648) = true := decide_eq_true (by omega)
        have t2 : decide ((Y : Int) < 2147483648) = true := decide_eq_true (by omega)
        clear hxy hX hY b1 b2 hp4 o1 o2 hlt hj
        go_wp2_with fail
        go_ret
        exact ⟨rfl, HD8.out.2.2⟩
end Go.Proofs.Ytkneecdpkdnjfaa
namespace Go.Proofs.Ytkneecdpkdnjfaa
set_option maxRecDepth 100000
set_option linter.unusedVariables false
set_option linter.unusedSimpArgs false
open Go.RowKit Go.Sort

def slotN (h n i : Nat) : Nat := (h + i) % n
theorem slotN_lt {h n i : Nat} (hn : 1 ≤ n) : slotN h n i < n := Nat.mod_lt _ (by omega)
theorem slot_nat {h n i : Nat} (hh : h < 2147483648) (hn : 1 ≤ n) (hi : i < 2147483648) : slotH (h : Int) (i : Int) (n : Int) = (slotN h n i : Int) := by
  rw [slot_yes (by omega) (by omega) (by omega)]
  unfold slotN
  rw [Int.natCast_emod, Int.natCast_add]
theorem slotN_next (h n i : Nat) : (slotN h n i + 1) % n = slotN h n (i + 1) := by
  unfold slotN
  rw [Nat.mod_add_mod, Nat.add_assoc]
theorem slotN_ne {h n i j : Nat} (hij : i < j) (hj : j < n) : slotN h n i ≠ slotN h n j := by
  unfold slotN
  intro e
  have h1 := Nat.sub_mod_eq_zero_of_mod_eq e.symm
  rw [show h + j - (h + i) = j - i by omega, Nat.mod_eq_of_lt (by omega)] at h1
  omega
/-- how often each slot was seen -/
def seenP (h n : Nat) : Nat → List Int
  | 0 => List.replicate n 0
  | j + 1 => (seenP h n j).set (slotN h n j) 1
theorem seenP_len (h n j : Nat) : (seenP h n j).length = n := by
  induction j with
  | zero => exact List.length_replicate
  | succ j ih => unfold seenP; rw [List.length_set, ih]
theorem seenP_not (h n j i : Nat) (hi : ∀ q, q < j → slotN h n q ≠ i) : (seenP h n j).getD i 0 = 0 := by
  induction j with
  | zero =>
    unfold seenP
    rw [List.getD_eq_getElem?_getD, List.getElem?_replicate]
    split <;> rfl
  | succ j ih =>
    unfold seenP
    rw [List.getD_eq_getElem?_getD, List.getElem?_set_ne (hi j (by omega)), ← List.getD_eq_getElem?_getD]
    exact ih fun q hq => hi q (by omega)
theorem seenP_next {h n j : Nat} (hj : j < n) : (seenP h n j).getD (slotN h n j) 0 = 0 := seenP_not _ _ _ _ fun q hq => slotN_ne hq hj
structure HpI (w wr : World) (R0 g S n h : Nat) (k : Kd) (j : Nat) : Prop where
  k : Bx4 wr R0 (kdH k)
  l : ∀ i, i < n → wr.cell? ⟨g, i, none⟩ = some (.int .i64 (slotN h n i : Int))
  s : Own wr w.heap.size (.slice (some ⟨S, 0, none⟩) n n) (seenP h n j)
  bel : Below w.heap.size w wr
  ord : R0 < S ∧ g < S
theorem HpI.below {w wr w' : World} {R0 g S n h : Nat} {k : Kd} {j : Nat} (i : HpI w wr R0 g S n h k j) (hb : Below wr.heap.size wr w') : HpI w w' R0 g S n h k j :=
  ⟨i.k.below hb, fun q hq => (hb.cell (p := ⟨g, q, none⟩) (cell_lt (i.l q hq))).trans (i.l q hq), own_next i.s hb, Qt.more i.bel i.bel.size hb, i.ord⟩
theorem HpI.step {w wr : World} {R0 g S n h : Nat} {k : Kd} {j : Nat} (i : HpI w wr R0 g S n h k j) : HpI w (wr.setCell ⟨S, slotN h n j, none⟩ (.int .i64 1)) R0 g S n h k (j + 1) := by
  have hl := seenP_len h n j
  have hs := i.s
  have hS := (World.ownsRow.lt hs S rfl).1
  obtain ⟨o1, o2⟩ := i.ord
  refine ⟨i.k.other (by omega) _ _, fun q hq => ?_, ?_, i.bel.setCell (p := ⟨S, slotN h n j, none⟩) hS _, i.ord⟩
  · exact (World.cell?_of_block (heap_other (show S ≠ g by omega))).trans (i.l q hq)
  · have := (own_set (by rw [hl]; exact hs) (slotN h n j) 1).1
    rw [hl] at this
    exact this
set_option maxHeartbeats 16000000 in
theorem hashPaths_law (k : Kd) (s : Int) (w : World) (hk : Fine4 k) (hs : I64 s) :
    Calls Try.prog 4 #[kidsV k, .int .i64 s] w fun e w' => e = .returned (.bool true) ∧ Below w.heap.size w w' := by
  have HK := Lib.hid hk
  have hp1 := fun W => pick_any s 300 W hs.1 hs.2 (by omega) (by omega)
  have b1 := pickI_bd s 300 (by omega)
  obtain ⟨n, hn⟩ : ∃ n : Nat, (n : Int) = 1 + pickI s 300 := ⟨(1 + pickI s 300).toNat, by omega⟩
  have hn1 : 1 ≤ n ∧ n ≤ 300 := by omega
  obtain ⟨n0, hn0⟩ : ∃ n0, n0 = pickI s 300 := ⟨_, rfl⟩
  rw [← hn0] at hn hp1 b1
  have HN := Lib.hid hn
  have HP := Lib.hid hp1
  clear hp1 hk hn0 hn
  unfold kidsV
  have x0 := bx4_kd w k
  have hba := (Below.refl _ w).alloc (Nat.le_refl _) (.cells #[.int .i64 k.1, .int .i64 k.2.1, .int .i64 k.2.2.1, .int .i64 k.2.2.2] 22)
  have HX := Lib.hid (And.intro x0 hba)
  clear x0 hba
  have hm : manyH (n : Int) = n := by unfold manyH; rw [if_pos (by omega)]; simp
  have hpath := fun W => hpath_any k (n : Int) W HK.out (by unfold I64; omega)
  have hof := fun W => of13_any k W HK.out
  have hh := ofH_lt k
  rw [hm] at hpath
  unfold kidsV at hpath hof
  generalize ofH k = h at *
  have HO := Lib.hid (And.intro hpath hof)
  clear hpath hof hm
  go_enter Try.func4, Try.ntmps4
  go_wp2_with fail
  generalize w.alloc (.cells #[.int .i64 k.1, .int .i64 k.2.1, .int .i64 k.2.2.1, .int .i64 k.2.2.2] 22) = w1 at *
  refine (awake13_any w1).mono ?_
  rintro r w2 ⟨rfl, hb2⟩
  have z0 := HX.out.1.below hb2
  have HX2 := Lib.hid (And.intro z0 (Qt.more HX.out.2 HX.out.2.size hb2))
  clear hb2 HX
  have c0 : w2.cell? ⟨w.heap.size, 0, none⟩ = some (.int .i64 k.1) := z0.c (j := 0) (by omega)
  have c1 : w2.cell? ⟨w.heap.size, 1, none⟩ = some (.int .i64 k.2.1) := z0.c (j := 1) (by omega)
  have c2 : w2.cell? ⟨w.heap.size, 2, none⟩ = some (.int .i64 k.2.2.1) := z0.c (j := 2) (by omega)
  have c3 : w2.cell? ⟨w.heap.size, 3, none⟩ = some (.int .i64 k.2.2.2) := z0.c (j := 3) (by omega)
  clear z0
  go_wp2_with fail
  refine (HP.out w2).mono ?_
  rintro r w3 ⟨rfl, rfl⟩
  go_wp2_with fail
  rw [← HN.out]
  clear b1
  refine (HO.out.1 w2).mono ?_
  rintro r w3 ⟨v3, rfl, ho3, hb3⟩
  obtain ⟨A3, c9, rfl, hc9, _⟩ := own_slice ho3
  have hl3 := pathH_len h (n : Int) n
  obtain ⟨g, rfl, _, hgl, _, hcell⟩ := own_row ho3 (by rw [hl3]; omega)
  rw [hl3]
  have hcl : ∀ i, i < n → w3.cell? ⟨g, i, none⟩ = some (.int .i64 (slotN h n i : Int)) := fun i hi => by
    rw [hcell i (by rw [hl3]; exact hi), pathH_get _ _ hi, slot_nat hh hn1.1 (by omega)]
  obtain ⟨w4, hmk, hown4, hg4⟩ := makeW n (by omega) w3
  have hb4 : Below w3.heap.size w3 w4 := ⟨hg4.os, hg4.tape, hg4.output, hg4.size, fun k hk => hg4.block k hk (by simp)⟩
  have HI0 : Hid (HpI w w4 w.heap.size g w3.heap.size n h k 0) := by
    have z3 := HX2.out.1.below hb3
    have z4 := Qt.more HX2.out.2 HX2.out.2.size hb3
    exact ⟨z3.below hb4, fun i hi => (hb4.cell (p := ⟨g, i, none⟩) hgl).trans (hcl i hi), own_more hown4 z4.size, Qt.more z4 z4.size hb4, by have := z3.lt; omega⟩
  clear ho3 hb3 hc9 hgl hcell hcl hown4 hg4 hb4 hl3 c0 c1 c2 c3
  go_wp2_with fail
  obtain ⟨S, hS⟩ : ∃ S, S = w3.heap.size := ⟨_, rfl⟩
  rw [← hS] at HI0 ⊢
  clear hS hmk
  go_loopw [9] (fun i wr => ∃ j : Nat, j ≤ n ∧ i = .int .i64 j ∧ Hid (HpI w wr w.heap.size g S n h k j)) (fun i _ => n - (intOf i).toNat)
  case atStart => exact ⟨0, by omega, rfl, HI0.out⟩
  case round =>
    obtain ⟨j, hj, rfl, HH⟩ := hrel
    by_cases hlt : j < n
    · have hsl := fun W => slot13_any (h : Int) (j : Int) (n : Int) W ⟨by omega, by omega⟩ ⟨by omega, by omega⟩ ⟨by omega, by omega⟩
      rw [slot_nat hh hn1.1 (by omega)] at hsl
      have hx := slotN_lt (h := h) (n := n) (i := j) hn1.1
      have hl := HH.out.l j hlt
      have hsl2 := seenP_len h n j
      have hse : Own wr w.heap.size (.slice (some ⟨S, 0, none⟩) (seenP h n j).length n) (seenP h n j) := by rw [hsl2]; exact HH.out.s
      obtain ⟨_, e9, _, _, hfr, hse⟩ := own_row hse (by rw [hsl2]; omega)
      cases e9
      have hse := hse (slotN h n j) (by rw [hsl2]; exact hx)
      rw [seenP_next hlt] at hse
      have hfr := hfr (slotN h n j)
      have hprev : 0 < j → wr.cell? ⟨g, j - 1, none⟩ = some (.int .i64 (slotN h n (j - 1) : Int)) ∧ (((slotN h n (j - 1) : Int) + 1).tmod (n : Int) = (slotN h n j : Int)) := fun h0 => by
        refine ⟨HH.out.l (j - 1) (by omega), ?_⟩
        have := slotN_next h n (j - 1)
        rw [show j - 1 + 1 = j by omega] at this
        rw [Int.tmod_eq_emod_of_nonneg (by omega), ← this, Int.natCast_emod, Int.natCast_add]
        rfl
      have hstep : Hid (∀ w5, Below wr.heap.size wr w5 → HpI w (w5.setCell ⟨S, slotN h n j, none⟩ (.int .i64 1)) w.heap.size g S n h k (j + 1) ∧ w5.cell? ⟨g, j, none⟩ = some (.int .i64 (slotN h n j : Int)) ∧ w5.cell? ⟨S, slotN h n j, none⟩ = some (.int .i64 0) ∧ w5.frozen? ⟨S, slotN h n j, none⟩ = false) := fun w5 hb => by
        have q := HH.out.below hb
        refine ⟨q.step, q.l j hlt, (hb.cell (p := ⟨S, slotN h n j, none⟩) (cell_lt hse)).trans hse, (hb.frozen (p := ⟨S, slotN h n j, none⟩) (cell_lt hse)).trans hfr⟩
      have k0 := Qt.cell_in (HH.out.k.c (j := 0) (by omega))
      have k1 := Qt.cell_in (HH.out.k.c (j := 1) (by omega))
      have k2 := Qt.cell_in (HH.out.k.c (j := 2) (by omega))
      have k3 := Qt.cell_in (HH.out.k.c (j := 3) (by omega))
      simp only [kdH] at k0 k1 k2 k3
      have ql := Qt.cell_in hl
      have qs := Qt.cell_in hse
      have HSL := Lib.hid hsl
      clear hsl hl hse hsl2 hfr
      by_cases h0 : j = 0
      · as_aux_lemma =>
        subst h0
        clear hprev
        generalize slotN h n 0 = x at *
        have n1 : decide ((x : Int) < 0) = false := decide_eq_false (by omega)
        have n2 : decide ((n : Int) ≤ (x : Int)) = false := decide_eq_false (by omega)
        have n6 : decide (n ≤ x) = false := decide_eq_false (by omega)
        have n3 : (x : Int) < (n : Int) := by omega
        have n4 : ((x : Int) != (x : Int)) = false := by simp
        go_wp2_with fail
        refine Qt.below_all (by kernel_rfl) (by kernel_rfl) ?_
        iterate 29 (go_big_quiet_step (first | fail))
        go_big_quiet_step (first | (go_at_call 15; exact Qt.at_call' fun W _ => HO.out.2 W))
        iterate 2 (go_big_quiet_step (first | fail))
        go_big_quiet_step (first | (go_at_call 10; exact Qt.at_same fun W _ => HSL.out W))
        iterate 21 (go_big_quiet_step (first | fail))
        refine wpQuiet_nil ?_
        intro w5 hb5
        obtain ⟨hI, c1, c2, c3⟩ := hstep.out w5 hb5
        have HI := Lib.hid hI
        clear hI hb5 k0 k1 k2 k3 ql qs
        go_wp2_with fail
        go_roundw
        case measure => simp [intOf]; omega
        case rel => exact ⟨1, by omega, by go_num, HI.out⟩
      · as_aux_lemma =>
        obtain ⟨hp, et⟩ := hprev (by omega)
        have qp := Qt.cell_in hp
        have hyl := slotN_lt (h := h) (n := n) (i := j - 1) hn1.1
        generalize slotN h n (j - 1) = y at *
        generalize slotN h n j = x at *
        clear hp
        have n1 : decide ((x : Int) < 0) = false := decide_eq_false (by omega)
        have n2 : decide ((n : Int) ≤ (x : Int)) = false := decide_eq_false (by omega)
        have n6 : decide (n ≤ x) = false := decide_eq_false (by omega)
        have n7 : decide ((0 : Int) < (j : Int)) = true := decide_eq_true (by omega)
        have n8 : decide (0 < j) = true := decide_eq_true (by omega)
        have n3 : (x : Int) < (n : Int) := by omega
        have n4 : ((x : Int) != (x : Int)) = false := by simp
        have n5 : (0 : Int) < (j : Int) := by omega
        have n9 : ((x : Int) != ((y : Int) + 1).tmod (n : Int)) = false := by rw [et]; simp
        have n10 : 0 ≤ ((y : Int) + 1).tmod (n : Int) ∧ ((y : Int) + 1).tmod (n : Int) < (n : Int) := by rw [et]; omega
        have n11 : ((x : Int) != ((y : Int) + 1) % (n : Int)) = false := by rw [Int.tmod_eq_emod_of_nonneg (by omega)] at et; rw [et]; simp
        clear et
        go_wp2_with fail
        refine Qt.below_all (by kernel_rfl) (by kernel_rfl) ?_
        iterate 29 (go_big_quiet_step (first | fail))
        go_big_quiet_step (first | (go_at_call 15; exact Qt.at_call' fun W _ => HO.out.2 W))
        iterate 2 (go_big_quiet_step (first | fail))
        go_big_quiet_step (first | (go_at_call 10; exact Qt.at_same fun W _ => HSL.out W))
        iterate 21 (go_big_quiet_step (first | fail))
        refine wpQuiet_nil ?_
        intro w5 hb5
        obtain ⟨hI, c1, c2, c3⟩ := hstep.out w5 hb5
        have HI := Lib.hid hI
        clear hI hb5 k0 k1 k2 k3 ql qs qp
        go_wp2_with fail
        go_roundw
        case measure => simp [intOf]; omega
        case rel => exact ⟨j + 1, by omega, by go_num, HI.out⟩
    · obtain rfl : j = n := by omega
      have hl := HH.out.l 0 (by omega)
      have et : (h : Int).tmod (j : Int) = (slotN h j 0 : Int) := by
        rw [Int.tmod_eq_emod_of_nonneg (by omega)]
        unfold slotN
        rw [Int.natCast_emod, Nat.add_zero]
      have k0 := Qt.cell_in (HH.out.k.c (j := 0) (by omega))
      have k1 := Qt.cell_in (HH.out.k.c (j := 1) (by omega))
      have k2 := Qt.cell_in (HH.out.k.c (j := 2) (by omega))
      have k3 := Qt.cell_in (HH.out.k.c (j := 3) (by omega))
      simp only [kdH] at k0 k1 k2 k3
      have ql := Qt.cell_in hl
      have HB := Lib.hid HH.out.bel
      clear hl HH HI0
      have hj0 : (0 : Int) < (j : Int) := by omega
      generalize slotN h j 0 = x at *
      go_wp2_with fail
      refine Qt.below_all (by kernel_rfl) (by kernel_rfl) ?_
      iterate 6 (go_big_quiet_step (first | fail))
      go_big_quiet_step (first | (go_at_call 15; exact Qt.at_call' fun W _ => HO.out.2 W))
      iterate 5 (go_big_quiet_step (first | fail))
      refine wpQuiet_nil ?_
      intro w5 hb5
      have HF := Lib.hid (Qt.more HB.out HB.out.size hb5)
      clear hb5 k0 k1 k2 k3 ql
      go_wp2_with fail
      go_ret
      exact ⟨rfl, HF.out⟩
end Go.Proofs.Ytkneecdpkdnjfaa
namespace Go.Proofs.Ytkneecdpkdnjfaa
set_option maxRecDepth 100000
set_option linter.unusedVariables false
set_option linter.unusedSimpArgs false
open Go.RowKit Go.Sort

structure HtI (w wr : World) (R0 L : Nat) (k : Kd) (sv : Nat → Int) : Prop where
  k : wr.heap[R0]? = some (.cells #[.int .i64 k.1, .int .i64 k.2.1, .int .i64 k.2.2.1, .int .i64 k.2.2.2] 22 (0, 0))
  l : ∀ i, i < 2 → wr.cell? ⟨L, i, none⟩ = some (.int .i64 (sv i))
  bel : Below w.heap.size w wr
theorem HtI.below {w wr w' : World} {R0 L : Nat} {k : Kd} {sv : Nat → Int} (i : HtI w wr R0 L k sv) (hb : Below wr.heap.size wr w') : HtI w w' R0 L k sv :=
  ⟨(hb.block _ (lt_heap6 i.k)).trans i.k, fun q hq => (hb.cell (p := ⟨L, q, none⟩) (cell_lt (i.l q hq))).trans (i.l q hq), Qt.more i.bel i.bel.size hb⟩
set_option maxHeartbeats 16000000 in
theorem hashTells_law (k : Kd) (h i s : Int) (w : World) (hk : Fine4 k) (hh : I64 h) (hi : I64 i) (hs : I64 s) :
    Calls Try.prog 3 #[kidsV k, .int .i64 h, .int .i64 i, .int .i64 s] w fun e w' => e = .returned (.bool true) ∧ Below w.heap.size w w' := by
  have HK := Lib.hid hk
  have HHI := Lib.hid (And.intro hh hi)
  have hp1 := fun W => pick_any s 50 W hs.1 hs.2 (by omega) (by omega)
  have b1 := pickI_bd s 50 (by omega)
  obtain ⟨s2, hs2⟩ : ∃ s2, s2 = pickI s 50 := ⟨_, rfl⟩
  rw [← hs2] at hp1 b1
  obtain ⟨sv, hsv⟩ : ∃ sv : Nat → Int, sv 0 = s ∧ sv 1 = s2 ∧ ∀ j, I64 (sv j) := ⟨fun j => if j = 0 then s else s2, rfl, rfl, fun j => by
    simp only
    split
    · exact hs
    · exact ⟨by omega, by omega⟩⟩
  have HSV := Lib.hid hsv
  have HP := Lib.hid hp1
  clear hp1 hk b1 hs2 hsv hh hi hs
  unfold kidsV
  have x0 := bx4_kd w k
  have hba := (Below.refl _ w).alloc (Nat.le_refl _) (.cells #[.int .i64 k.1, .int .i64 k.2.1, .int .i64 k.2.2.1, .int .i64 k.2.2.2] 22)
  have HX := Lib.hid (And.intro x0 hba)
  clear x0 hba
  go_enter Try.func3, Try.ntmps3
  go_wp2_with fail
  generalize w.alloc (.cells #[.int .i64 k.1, .int .i64 k.2.1, .int .i64 k.2.2.1, .int .i64 k.2.2.2] 22) = w1 at *
  refine (awake13_any w1).mono ?_
  rintro r w2 ⟨rfl, hb2⟩
  have HX2 := Lib.hid (And.intro (HX.out.1.below hb2) (Qt.more HX.out.2 HX.out.2.size hb2))
  clear hb2 HX
  go_wp2_with fail
  refine (HP.out w2).mono ?_
  rintro r w3 ⟨rfl, rfl⟩
  have HI0 : Hid (HtI w (w2.alloc (.cells #[.int .i64 s, .int .i64 s2] 3)) w.heap.size w2.heap.size k sv) := by
    have hal := (Below.refl _ w2).alloc (Nat.le_refl _) (.cells #[.int .i64 s, .int .i64 s2] 3)
    refine ⟨HX2.out.1.below hal, fun q hq => ?_, Qt.more HX2.out.2 HX2.out.2.size hal⟩
    rw [Lib.cell_of_heap (heap_alloc_new w2 _)]
    match q, hq with
    | 0, _ => rw [HSV.out.1]; rfl
    | 1, _ => rw [HSV.out.2.1]; rfl
  go_wp2_with fail
  generalize w2.alloc (.cells #[.int .i64 s, .int .i64 s2] 3) = w4 at *
  obtain ⟨L, hL⟩ : ∃ L, L = w2.heap.size := ⟨_, rfl⟩
  rw [← hL] at HI0 ⊢
  clear hL HX2
  go_loopw [11, 18] (fun _ i wr => ∃ j : Nat, j ≤ 2 ∧ i = .int .i64 j ∧ Hid (HtI w wr w.heap.size L k sv)) (fun _ i _ => 2 - (intOf i).toNat)
  case atStart => exact ⟨0, by omega, rfl, HI0.out⟩
  case round =>
    obtain ⟨j, hj, rfl, HH⟩ := hrel
    by_cases hlt : j < 2
    · have c0 := HH.out.l j hlt
      have hS := HSV.out.2.2 j
      generalize sv j = S at *
      have h1 := fun W => slot13_any h i S W HHI.out.1 HHI.out.2 hS
      have h2 := fun W => ref13Slot_any h i S W HHI.out.1 HHI.out.2 hS
      have h3 := fun W => hpath_any k S W HK.out hS
      have h4 := fun W => ref13Path_any k S W HK.out hS
      have hml := manyH_le S
      have hln := pathH_len (ofH k) S (manyH S)
      unfold kidsV at h3 h4
      generalize slotH h i S = x at *
      generalize pathH (ofH k) S (manyH S) = l at *
      rw [← hln] at hml
      have HC := Lib.hid (And.intro h1 (And.intro h2 (And.intro h3 h4)))
      have HM := Lib.hid hml
      clear h1 h2 h3 h4 hml hln hS
      have hjz : (j : Int) < 2 := by omega
      go_wp2_with fail
      have hrk := HH.out.k
      refine region_calm_to (fun W => Below wr.heap.size wr W) (fun (a0 a9 : Act) (w9 : World) => (∃ v1 v2 : Value, a9 = (((((((((((((((((((a0.put (some 22) (.int .i64 h)).put (some 23) (.int .i64 i)).put (some 24) (.int .i64 S)).put (some 26) (.int .i64 h)).put (some 27) (.int .i64 i)).put (some 28) (.int .i64 S)).put (some 25) (.int .i64 x)).put (some 29) (.int .i64 x)).put (some 30) (.bool false)).put (some 31) (.bool false)).put (some 32) (.agg #[.int .i64 k.1, .int .i64 k.2.1, .int .i64 k.2.2.1, .int .i64 k.2.2.2])).put (some 33) (.int .i64 S)).put (some 35) (.agg #[.int .i64 k.1, .int .i64 k.2.1, .int .i64 k.2.2.1, .int .i64 k.2.2.2])).put (some 36) (.int .i64 S)).put (some 34) v1).put (some 37) v2).put (some 38) (.bool true)).put (some 39) (.bool false)).put (some 40) (.bool false))) ∧ Below wr.heap.size wr w9) (.calm 0 (.calm 1 (.calm 2 (.calm 4 (.calm 5 (.calm 6 (.only 3 (.only 7 (.only 8 (.only 9 (.calm 10 (.calm 11 (.calm 13 (.calm 14 (.only 12 (.only 15 (.only 16 (.only 17 (.only 18 .done))))))))))))))))))) (by kernel_rfl) (by kernel_rfl) (by kernel_rfl) (by rfl) (below_drew _) ?_ ?_
      · skip
        refine ⟨_, _, (.int .i64 h), rfl, rfl, ⟨rfl, fun W hW => by first | exact ⟨rfl, rfl⟩ | (simp only [Act.eval, execOp]; go_simp; try exact ⟨rfl, rfl⟩)⟩, ?_⟩
        simp only [Act.put, List.getElem_toArray, List.getElem_cons_zero, List.getElem_cons_succ, List.setIfInBounds_toArray, List.set_cons_succ, List.set_cons_zero]
        refine ⟨_, _, (.int .i64 i), rfl, rfl, ⟨rfl, fun W hW => by first | exact ⟨rfl, rfl⟩ | (simp only [Act.eval, execOp]; go_simp; try exact ⟨rfl, rfl⟩)⟩, ?_⟩
        simp only [Act.put, List.getElem_toArray, List.getElem_cons_zero, List.getElem_cons_succ, List.setIfInBounds_toArray, List.set_cons_succ, List.set_cons_zero]
        refine ⟨_, _, (.int .i64 S), rfl, rfl, ⟨rfl, fun W hW => by first | exact ⟨rfl, rfl⟩ | (simp only [Act.eval, execOp]; go_simp; try exact ⟨rfl, rfl⟩)⟩, ?_⟩
        simp only [Act.put, List.getElem_toArray, List.getElem_cons_zero, List.getElem_cons_succ, List.setIfInBounds_toArray, List.set_cons_succ, List.set_cons_zero]
        refine ⟨_, _, (.int .i64 h), rfl, rfl, ⟨rfl, fun W hW => by first | exact ⟨rfl, rfl⟩ | (simp only [Act.eval, execOp]; go_simp; try exact ⟨rfl, rfl⟩)⟩, ?_⟩
        simp only [Act.put, List.getElem_toArray, List.getElem_cons_zero, List.getElem_cons_succ, List.setIfInBounds_toArray, List.set_cons_succ, List.set_cons_zero]
        refine ⟨_, _, (.int .i64 i), rfl, rfl, ⟨rfl, fun W hW => by first | exact ⟨rfl, rfl⟩ | (simp only [Act.eval, execOp]; go_simp; try exact ⟨rfl, rfl⟩)⟩, ?_⟩
        simp only [Act.put, List.getElem_toArray, List.getElem_cons_zero, List.getElem_cons_succ, List.setIfInBounds_toArray, List.set_cons_succ, List.set_cons_zero]
        refine ⟨_, _, (.int .i64 S), rfl, rfl, ⟨rfl, fun W hW => by first | exact ⟨rfl, rfl⟩ | (simp only [Act.eval, execOp]; go_simp; try exact ⟨rfl, rfl⟩)⟩, ?_⟩
        simp only [Act.put, List.getElem_toArray, List.getElem_cons_zero, List.getElem_cons_succ, List.setIfInBounds_toArray, List.set_cons_succ, List.set_cons_zero]
        have hb0 := below_drew wr
        generalize wr.drew = x0 at *
        refine ⟨_, rfl, ?_⟩
        go_wp2_with fail
        refine (HC.out.1 x0).mono ?_
        rintro r x1 ⟨rfl, rfl⟩
        go_wp2_with fail
        refine ⟨rfl, hb0, ?_⟩
        refine ⟨_, rfl, ?_⟩
        go_wp2_with fail
        refine (HC.out.2.1 x0).mono ?_
        rintro r x1 ⟨rfl, rfl⟩
        go_wp2_with fail
        refine ⟨rfl, hb0, ?_⟩
        refine ⟨_, rfl, ?_⟩
        go_wp2_with fail
        refine ⟨rfl, hb0, ?_⟩
        refine ⟨_, rfl, ?_⟩
        go_wp2_with fail
        refine ⟨rfl, hb0, ?_⟩
        refine ⟨_, _, (.agg #[.int .i64 k.1, .int .i64 k.2.1, .int .i64 k.2.2.1, .int .i64 k.2.2.2]), rfl, rfl, ⟨rfl, fun W hW => by exact load4_quiet W _ k ((hW.block _ (lt_heap6 hrk)).trans hrk) _ _ _ rfl rfl⟩, ?_⟩
        simp only [Act.put, List.getElem_toArray, List.getElem_cons_zero, List.getElem_cons_succ, List.setIfInBounds_toArray, List.set_cons_succ, List.set_cons_zero]
        refine ⟨_, _, (.int .i64 S), rfl, rfl, ⟨rfl, fun W hW => by first | exact ⟨rfl, rfl⟩ | (simp only [Act.eval, execOp]; go_simp; try exact ⟨rfl, rfl⟩)⟩, ?_⟩
        simp only [Act.put, List.getElem_toArray, List.getElem_cons_zero, List.getElem_cons_succ, List.setIfInBounds_toArray, List.set_cons_succ, List.set_cons_zero]
        refine ⟨_, _, (.agg #[.int .i64 k.1, .int .i64 k.2.1, .int .i64 k.2.2.1, .int .i64 k.2.2.2]), rfl, rfl, ⟨rfl, fun W hW => by exact load4_quiet W _ k ((hW.block _ (lt_heap6 hrk)).trans hrk) _ _ _ rfl rfl⟩, ?_⟩
        simp only [Act.put, List.getElem_toArray, List.getElem_cons_zero, List.getElem_cons_succ, List.setIfInBounds_toArray, List.set_cons_succ, List.set_cons_zero]
        refine ⟨_, _, (.int .i64 S), rfl, rfl, ⟨rfl, fun W hW => by first | exact ⟨rfl, rfl⟩ | (simp only [Act.eval, execOp]; go_simp; try exact ⟨rfl, rfl⟩)⟩, ?_⟩
        simp only [Act.put, List.getElem_toArray, List.getElem_cons_zero, List.getElem_cons_succ, List.setIfInBounds_toArray, List.set_cons_succ, List.set_cons_zero]
        refine ⟨_, rfl, ?_⟩
        go_wp2_with fail
        refine (HC.out.2.2.1 x0).mono ?_
        rintro r x1 ⟨v1, rfl, ho1, hb1⟩
        have hb1 := hb1
        have hbb1 := Qt.more hb0 hb0.size hb1
        go_wp2_with fail
        refine ⟨rfl, hbb1, ?_⟩
        refine ⟨_, rfl, ?_⟩
        go_wp2_with fail
        refine (HC.out.2.2.2 x1).mono ?_
        rintro r x2 ⟨v2, rfl, ho2, hb2⟩
        have hbb2 := Qt.more hbb1 hbb1.size hb2
        replace ho1 := own_next ho1 hb2
        obtain ⟨A1, q1, rfl, _, hN1⟩ := own_slice ho1
        obtain ⟨A2, q2, rfl, _, hN2⟩ := own_slice ho2
        have HN := Lib.hid (And.intro hN1 hN2)
        clear ho1 ho2 hN1 hN2 hb1 hb2
        go_wp2_with fail
        refine ⟨rfl, hbb2, ?_⟩
        refine ⟨_, rfl, ?_⟩
        go_wp2_with fail
        refine (ints_yes (c := q1) (c' := q2) HN.out.1 HN.out.2 rfl rfl (by have := HM.out; omega) rfl).mono ?_
        rintro r x3 ⟨rfl, hb3⟩
        have hbb3 := Qt.more hbb2 hbb2.size hb3
        go_wp2_with fail
        refine ⟨rfl, hbb3, ?_⟩
        refine ⟨_, rfl, ?_⟩
        go_wp2_with fail
        refine ⟨rfl, hbb3, ?_⟩
        refine ⟨_, rfl, ?_⟩
        go_wp2_with fail
        refine ⟨rfl, hbb3, ?_⟩
        exact ⟨⟨_, _, rfl⟩, hbb3⟩
      · rintro a9 w9 ⟨⟨v1, v2, rfl⟩, hb⟩
        have HN := Lib.hid (HH.out.below hb)
        clear hb hrk c0
        simp only [Act.put, List.getElem_toArray, List.getElem_cons_zero, List.getElem_cons_succ, List.setIfInBounds_toArray, List.set_cons_succ, List.set_cons_zero]
        go_wp2_with fail
        go_roundw
        case measure => simp [intOf]; omega
        case rel => exact ⟨j + 1, by omega, by go_num, HN.out⟩
    · obtain rfl : j = 2 := by omega
      have hrk := HH.out.k
      have k0 := Qt.cell_in (w := wr) (a := ⟨w.heap.size, 0, none⟩) (v := .int .i64 k.1) (by rw [Lib.cell_of_heap hrk]; rfl)
      have k1 := Qt.cell_in (w := wr) (a := ⟨w.heap.size, 1, none⟩) (v := .int .i64 k.2.1) (by rw [Lib.cell_of_heap hrk]; rfl)
      have k2 := Qt.cell_in (w := wr) (a := ⟨w.heap.size, 2, none⟩) (v := .int .i64 k.2.2.1) (by rw [Lib.cell_of_heap hrk]; rfl)
      have k3 := Qt.cell_in (w := wr) (a := ⟨w.heap.size, 3, none⟩) (v := .int .i64 k.2.2.2) (by rw [Lib.cell_of_heap hrk]; rfl)
      have hof := fun W => of13_any k W HK.out
      have hrf := fun W => ref13Of_any k W HK.out
      have hho := ofH_lt k
      unfold kidsV at hof hrf
      generalize ofH k = H at *
      have HO := Lib.hid (And.intro hof hrf)
      have HB := Lib.hid HH.out.bel
      clear hof hrf hrk HH hho
      go_wp2_with fail
      refine Qt.below_all (by kernel_rfl) (by kernel_rfl) ?_
      iterate 3 (go_big_quiet_step (first | fail))
      go_big_quiet_step (first | (go_at_call 15; exact Qt.at_call' fun W _ => HO.out.1 W))
      iterate 1 (go_big_quiet_step (first | fail))
      go_big_quiet_step (first | (go_at_call 16; exact Qt.at_call' fun W _ => HO.out.2 W))
      iterate 3 (go_big_quiet_step (first | fail))
      refine wpQuiet_nil ?_
      intro w5 hb5
      have HF := Lib.hid (Qt.more HB.out HB.out.size hb5)
      clear hb5 k0 k1 k2 k3
      go_wp2_with fail
      go_ret
      exact ⟨rfl, HF.out⟩
end Go.Proofs.Ytkneecdpkdnjfaa
namespace Go.Proofs.Ytkneecdpkdnjfaa
set_option maxRecDepth 100000
set_option linter.unusedVariables false
open Go.ChangeShapes Go.WideShapes Go.ChangeAt Go.RowKit Go.Deep
theorem own : ownKnob Try.prog.godebug = none := by kernel_rfl
theorem laidOut : laidOutB Try.prog = true := by kernel_rfl
section
variable {H : Type} {enc : TypeId × Value → H} {W : World} {base : Nat} {spare : Nat → Bool} {held : Bool} {P : Program}
theorem okWide_arr6 {t e : TypeId} {n b0 : Nat} {r : Reach} {v : Value} (ht : P.underlying t = some (.array n e)) (h : Value.okWide P W r b0 t v) : ∃ xs : Array Value, v = .agg xs := by
  simp only [Value.okWide, ht] at h
  obtain ⟨cs, h1, h2, _⟩ := h
  exact ⟨cs, h1⟩
theorem five_val {t e : TypeId} {b0 : Nat} {r : Reach} {v : Value} {d : DataW H} {ps : List MemPlace} (ht : P.underlying t = some (.array 5 e)) (he : P.underlying e = some (.int .i64)) (h1 : P.cellsOf e = 1) (hn : P.cellsOf t = 5)
    (hv : Value.okWide P W r b0 t v) (h : DataW.Trod enc P W base spare held t v d ps) : ∃ r : Raw5, v = rawV r ∧ Fine5 r := by
  obtain ⟨xs, rfl⟩ := okWide_arr6 ht hv
  obtain ⟨fuel, hf⟩ := h
  obtain ⟨r, hr, fr⟩ := five_in ht he h1 hn hf
  refine ⟨r, ?_, fr⟩
  have hx : xs = (dec5 r).toArray := by
    have hr' : xs.toList = dec5 r := hr
    rw [← hr']
  rw [hx]
  rfl
theorem four_val {t e : TypeId} {b0 : Nat} {r : Reach} {v : Value} {d : DataW H} {ps : List MemPlace} (ht : P.underlying t = some (.array 4 e)) (he : P.underlying e = some (.int .i64)) (h1 : P.cellsOf e = 1) (hn : P.cellsOf t = 4)
    (hv : Value.okWide P W r b0 t v) (h : DataW.Trod enc P W base spare held t v d ps) : ∃ k : Kd, v = kidsV k ∧ Fine4 k := by
  obtain ⟨xs, rfl⟩ := okWide_arr6 ht hv
  obtain ⟨fuel, hf⟩ := h
  obtain ⟨r, hr, fr⟩ := four_in ht he h1 hn hf
  refine ⟨r, ?_, fr⟩
  have hx : xs = (dec4 r).toArray := by
    have hr' : xs.toList = dec4 r := hr
    rw [← hr']
  rw [hx]
  rfl
end
end Go.Proofs.Ytkneecdpkdnjfaa
namespace Go.Proofs.Ytkneecdpkdnjfaa
set_option maxRecDepth 100000
set_option linter.unusedVariables false
open Go.ChangeShapes Go.WideShapes Go.ChangeAt Go.RowKit Go.Deep
theorem num_in {H : Type} {enc : TypeId × Value → H} {w : World} {base : Nat} {spare : Nat → Bool} {held : Bool} {P : Program} {t : TypeId} {fuel : Nat} {cs : List Value} {x : DataW H × List MemPlace} (he : P.underlying t = some (.int .i64))
    (h : DataW.trod enc P w base spare held fuel t cs = some x) : ∃ a : Int, cs = [.int .i64 a] ∧ I64 a := by
  obtain ⟨a, hu, _, wu⟩ := DataW.trod_int he h
  exact ⟨a, hu, i64_wf6 wu⟩
theorem nums6_in {H : Type} {enc : TypeId × Value → H} {w : World} {base : Nat} {spare : Nat → Bool} {held : Bool} {fuel : Nat} {a0 : Option Addr} {len0 cap0 : Nat} {x : DataW H × List MemPlace}
    (h : DataW.trod enc Try.prog w base spare held fuel 25 [.slice a0 len0 cap0] = some x) : ∃ l : List Int, l.length = len0 ∧ len0 ≤ cap0 ∧ cap0 ≤ maxLen ∧ Now w a0 l ∧ ∀ j, j < l.length → I64 (l.getD j 0) := by
  obtain ⟨l, h1, h2, h3, h4, h5⟩ := els_in (fun a : Int => [.int .i64 a]) 0 I64 1 (by decide) (fun _ => rfl) Try.underlying25 (by kernel_rfl) (fun _ _ _ hy => num_in Try.underlying3 hy) h
  refine ⟨l, h1, h2, h3, fun j hj => ?_, h5⟩
  obtain ⟨b, off, e, hb, hc⟩ := h4 j hj
  have h0 := hc 0 (by decide)
  rw [Nat.mul_one, Nat.add_zero] at h0
  exact ⟨b, off, e, hb, h0⟩
end Go.Proofs.Ytkneecdpkdnjfaa
