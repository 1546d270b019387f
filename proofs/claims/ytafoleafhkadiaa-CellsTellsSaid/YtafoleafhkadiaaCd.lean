/-
  Rows of cells that a call makes whole and then fills: places, told, Shift.
-/
import Derived.Test.YtafoleafhkadiaaCc
namespace Go.Proofs.Ytafoleafhkadiaa
open Go.RowKit Go.Sort

/-- A row of n cells at the head of block g, of the call's own. -/
def Row (w : World) (B T g n cap : Nat) (l : List (Int × Int)) : Prop := l.length = n ∧ w.ownsRow B T 2 (.slice (some ⟨g, 0, none⟩) n cap) n (fl l)

section
variable {w w' : World} {B T g n cap : Nat} {l : List (Int × Int)}
theorem Row.own (h : Row w B T g n cap l) : Own w B T (.slice (some ⟨g, 0, none⟩) l.length cap) l := by
  obtain ⟨h1, h2⟩ := h
  subst h1
  exact h2
theorem Row.of_own (h : Own w B T (.slice (some ⟨g, 0, none⟩) l.length cap) l) : Row w B T g l.length cap l := ⟨rfl, h⟩
theorem Row.below (h : Row w B T g n cap l) (hb : Below w.heap.size w w') : Row w' B T g n cap l := by
  obtain ⟨h1, h2⟩ := h
  subst h1
  exact ⟨rfl, Own.below (l := l) h2 hb⟩
theorem Row.lt (h : Row w B T g n cap l) : B ≤ g ∧ g < w.heap.size := World.ownsRow.lt h.2 g rfl
theorem Row.cap_ (h : Row w B T g n cap l) : n ≤ cap := by
  rcases h.2.2 with ⟨h', _⟩ | ⟨g', cap', cur, h', _, _, hnc, _⟩
  · simp at h'
  · simp only [Value.slice.injEq] at h'
    omega
theorem Row.cell (h : Row w B T g n cap l) {j : Nat} (hj : j < n) : w.cell? ⟨g, j * 2, none⟩ = some (.int .i64 (l.getD j (0, 0)).1) ∧ w.cell? ⟨g, j * 2 + 1, none⟩ = some (.int .i64 (l.getD j (0, 0)).2) := by
  have hf := fl_get l j (by rw [h.1]; exact hj)
  exact ⟨(World.ownsRow.cellAt h.2 (j * 2) (by omega)).trans hf.1, (World.ownsRow.cellAt h.2 (j * 2 + 1) (by omega)).trans hf.2⟩
theorem Row.free (h : Row w B T g n cap l) (j : Nat) : w.frozen? ⟨g, j, none⟩ = false := World.ownsRow.frozenAt h.2 j

theorem fl_set (l : List (Int × Int)) (i : Nat) (x y : Int) : fl (l.set i (x, y)) = ((fl l).set (i * 2) (.int .i64 x)).set (i * 2 + 1) (.int .i64 y) := by
  induction l generalizing i with
  | nil => rfl
  | cons p l ih =>
    cases i with
    | zero => rfl
    | succ i =>
      have e1 : (i + 1) * 2 = i * 2 + 1 + 1 := by omega
      have e2 : ∀ (q : Int × Int) (m : List (Int × Int)), fl (q :: m) = .int .i64 q.1 :: .int .i64 q.2 :: fl m := fun _ _ => rfl
      rw [List.set_cons_succ, e2, e2, ih, e1]
      rfl

theorem Row.store (h : Row w B T g n cap l) (i : Nat) (x y : Int) : Row ((w.setCell ⟨g, i * 2, none⟩ (.int .i64 x)).setCell ⟨g, i * 2 + 1, none⟩ (.int .i64 y)) B T g n cap (l.set i (x, y)) := by
  refine ⟨by rw [List.length_set]; exact h.1, ?_⟩
  rw [fl_set]
  exact (World.ownsRow.stored (World.ownsRow.stored h.2 (i * 2) (.int .i64 x)).1 (i * 2 + 1) (.int .i64 y)).1

theorem Row.rd (h : Row w B T g n cap l) : Rd w w.heap.size (some ⟨g, 0, none⟩) l := fun j hj => by
  have := h.cell (j := j) (by rw [← h.1]; exact hj)
  exact ⟨g, 0, rfl, h.lt.2, by rw [Nat.zero_add]; exact this.1, by rw [Nat.zero_add]; exact this.2⟩
end

theorem fl_replicate (n : Nat) : (madeCells #[.int .i64 0, .int .i64 0] (n * 2)).toList = fl (List.replicate n (0, 0)) := by
  apply List.ext_getElem?
  intro j
  by_cases hj : j < n * 2
  · have hl : j / 2 < (List.replicate n ((0 : Int), (0 : Int))).length := by simp; omega
    have hf := fl_get _ (j / 2) hl
    have hg : (List.replicate n ((0 : Int), (0 : Int))).getD (j / 2) (0, 0) = (0, 0) := by
      rw [List.getD_eq_getElem?_getD, List.getElem?_replicate]; split <;> rfl
    rw [hg] at hf
    have hm : (madeCells #[.int .i64 0, .int .i64 0] (n * 2)).toList[j]? = some (.int .i64 0) := by
      have : j % 2 = 0 ∨ j % 2 = 1 := by omega
      rcases this with h | h <;> simp [madeCells, hj, h]
    rw [hm]
    have h2 : j = j / 2 * 2 ∨ j = j / 2 * 2 + 1 := by omega
    rcases h2 with h | h
    · rw [h]; exact hf.1.symm
    · rw [h]; exact hf.2.symm
  · rw [List.getElem?_eq_none (by simp [size_madeCells]; omega), List.getElem?_eq_none (by rw [length_fl]; simp; omega)]

theorem Row.made (w : World) (B T n : Nat) (hB : B ≤ w.heap.size) (hn : n ≤ 1000000) : Row (w.alloc (.cells (madeCells #[.int .i64 0, .int .i64 0] (n * 2)) T)) B T w.heap.size n n (List.replicate n (0, 0)) := by
  refine ⟨List.length_replicate, ?_⟩
  rw [← fl_replicate]
  exact World.ownsRow_lit w _ n hB (by unfold maxLen; omega) (size_madeCells _ _)

/-- the first k are told, the others are noughts -/
def filled (l : List (Int × Int)) (k : Nat) : List (Int × Int) := l.take k ++ List.replicate (l.length - k) (0, 0)
theorem filled_zero (l : List (Int × Int)) : filled l 0 = List.replicate l.length (0, 0) := by simp [filled]
theorem filled_all (l : List (Int × Int)) : filled l l.length = l := by simp [filled]
theorem filled_step {l : List (Int × Int)} {k : Nat} (h : k < l.length) : (filled l k).set k (l.getD k (0, 0)) = filled l (k + 1) := by
  unfold filled
  obtain ⟨m, hm⟩ : ∃ m, l.length - k = m + 1 := ⟨l.length - k - 1, by omega⟩
  have hm2 : l.length - (k + 1) = m := by omega
  have hl : (l.take k).length = k := by simp; omega
  rw [take_snoc h, hm, hm2, List.replicate_succ, List.set_append_right _ _ (by omega), hl, Nat.sub_self, List.set_cons_zero, List.append_assoc]
  rfl

/-- A row, and the loop's box laid beside it. -/
theorem box_beside {wr : World} {B T g n cap : Nat} {l : List (Int × Int)} (h : Row wr B T g n cap l) (o : Obj) {k : Nat} (hk : k < n) :
    (wr.alloc o).frozen? ⟨g, k * 2, none⟩ = false ∧ (wr.alloc o).frozen? ⟨g, k * 2 + 1, none⟩ = false ∧ (wr.alloc o).cell? ⟨g, k * 2, none⟩ = some (.int .i64 (l.getD k (0, 0)).1) ∧ (wr.alloc o).cell? ⟨g, k * 2 + 1, none⟩ = some (.int .i64 (l.getD k (0, 0)).2) :=
  have h' := h.below ((Below.refl _ wr).alloc (Nat.le_refl _) o)
  ⟨h'.free _, h'.free _, (h'.cell hk).1, (h'.cell hk).2⟩

/-- What a round leaves: the next element is told. -/
theorem filled_on {w wr : World} {T k : Nat} {l : List (Int × Int)} {x y : Int} (hb : Below w.heap.size w wr) (h : Row wr w.heap.size T w.heap.size l.length l.length (filled l k)) (hlt : k < l.length) (hxy : (x, y) = l.getD k (0, 0)) (o : Obj) :
    Row (((wr.alloc o).setCell ⟨w.heap.size, k * 2, none⟩ (.int .i64 x)).setCell ⟨w.heap.size, k * 2 + 1, none⟩ (.int .i64 y)) w.heap.size T w.heap.size l.length l.length (filled l (k + 1)) ∧
    Below w.heap.size w (((wr.alloc o).setCell ⟨w.heap.size, k * 2, none⟩ (.int .i64 x)).setCell ⟨w.heap.size, k * 2 + 1, none⟩ (.int .i64 y)) := by
  refine ⟨?_, ((hb.alloc hb.size o).setCell (Nat.le_refl _) _).setCell (Nat.le_refl _) _⟩
  rw [← filled_step hlt, ← hxy]
  exact (h.below ((Below.refl _ wr).alloc (Nat.le_refl _) o)).store k x y

set_option maxHeartbeats 1000000 in
theorem places_any (A : Option Addr) (l : List (Int × Int)) (c : Nat) (w : World) (hR : Rd w w.heap.size A l) (hl : l.length ≤ 1000000) (hc : l.length ≤ c) :
    Calls Try.prog 40 #[.slice A l.length c] w fun e w' => e = .returned (.slice (some ⟨w.heap.size, 0, none⟩) l.length l.length) ∧ Row w' w.heap.size 62 w.heap.size l.length l.length l ∧ Below w.heap.size w w' := by
  obtain ⟨i0, hi, hz0, hz1, hz2⟩ := info_parts infoPlace
  have hmk : ∀ u : World, (Instr.makeSlice 59 (.int .i64 (l.length : Int)) (.int .i64 (l.length : Int))).run Try.prog u = .ok (.slice (some ⟨u.heap.size, 0, none⟩) l.length l.length) (u.alloc (.cells (madeCells #[.int .i64 0, .int .i64 0] (l.length * 2)) 62)) := fun u => by
    have h := run_make (P := Try.prog) u 59 62 i0 _ Try.underlying59 hi hz0 .i64 .i64 (l.length : Int) (l.length : Int) (by omega) (Int.le_refl _) (by rw [hz2]; omega) (by omega)
    simpa [hz1, Value.cells] using h
  go_enter Try.func40, Try.ntmps40
  go_wp2
  clear hmk
  go_loopw [11] (fun i wr => ∃ k : Nat, k ≤ l.length ∧ i = .int .i64 k ∧ Aside (Row wr w.heap.size 62 w.heap.size l.length l.length (filled l k)) ∧ Below w.heap.size w wr) (fun i _ => l.length - (intOf i).toNat)
  case atStart => exact ⟨0, Nat.zero_le _, rfl, (show Row _ _ _ _ _ _ _ by rw [filled_zero]; exact Row.made w _ _ _ (Nat.le_refl _) hl), (Below.refl _ _).alloc (Nat.le_refl _) _⟩
  case round =>
    obtain ⟨k, hk, rfl, HR, hb⟩ := hrel
    by_cases hlt : k < l.length
    · have hltz : (k : Int) < (l.length : Int) := by omega
      obtain ⟨b, off, rfl, hbB, hcell⟩ := hR.at_ (by omega)
      obtain ⟨⟨x, y⟩, hxy⟩ : ∃ p, p = l.getD k (0, 0) := ⟨_, rfl⟩
      have a0 := (hcell k hlt).1
      have a1 := (hcell k hlt).2
      rw [← hxy] at a0 a1
      simp only at a0 a1
      have c0 := Qt.keep hb a0
      have c1 := Qt.keep hb a1
      have HXY := Lib.hid hxy
      clear hxy hcell
      obtain ⟨f0, f1, g0, g1⟩ := box_beside HR.out (.cells #[.int .i64 x, .int .i64 y] 25) hlt
      go_wp2
      have R := filled_on hb HR.out hlt HXY.out (.cells #[.int .i64 x, .int .i64 y] 25)
      clear f0 f1 g0 g1
      go_roundw
      case measure => simp [intOf]; omega
      case rel => exact ⟨k + 1, by omega, by go_num, R.1, R.2⟩
    · have hltz : ¬ (k : Int) < (l.length : Int) := by omega
      have hkl : k = l.length := by omega
      have R : Row wr w.heap.size 62 w.heap.size l.length l.length l := by have := HR.out; rw [hkl, filled_all] at this; exact this
      clear hkl
      go_wp2
      go_ret
      exact ⟨rfl, R, hb⟩

set_option maxHeartbeats 1000000 in
theorem told_any (A : Option Addr) (l : List (Int × Int)) (c : Nat) (w : World) (hR : Rd w w.heap.size A l) (hl : l.length ≤ 2000) (hc : l.length ≤ c) :
    Calls Try.prog 43 #[.slice A l.length c] w fun e w' => e = .returned (.tuple #[.slice (some ⟨w.heap.size, 0, none⟩) l.length l.length, .int .i64 0]) ∧ Row w' w.heap.size 25 w.heap.size l.length l.length l ∧ Below w.heap.size w w' := by
  obtain ⟨i0, hi, hz0, hz1, hz2⟩ := info_parts infoCell
  have hmk : ∀ u : World, (Instr.makeSlice 23 (.int .i64 (l.length : Int)) (.int .i64 (l.length : Int))).run Try.prog u = .ok (.slice (some ⟨u.heap.size, 0, none⟩) l.length l.length) (u.alloc (.cells (madeCells #[.int .i64 0, .int .i64 0] (l.length * 2)) 25)) := fun u => by
    have h := run_make (P := Try.prog) u 23 25 i0 _ Try.underlying23 hi hz0 .i64 .i64 (l.length : Int) (l.length : Int) (by omega) (Int.le_refl _) (by rw [hz2]; omega) (by omega)
    simpa [hz1, Value.cells] using h
  have hlz : ¬ (2000 : Int) < (l.length : Int) := by omega
  go_enter Try.func43, Try.ntmps43
  go_wp2
  clear hmk
  go_loopw [15] (fun i wr => ∃ k : Nat, k ≤ l.length ∧ i = .int .i64 k ∧ Aside (Row wr w.heap.size 25 w.heap.size l.length l.length (filled l k)) ∧ Below w.heap.size w wr) (fun i _ => l.length - (intOf i).toNat)
  case atStart => exact ⟨0, Nat.zero_le _, rfl, (show Row _ _ _ _ _ _ _ by rw [filled_zero]; exact Row.made w _ _ _ (Nat.le_refl _) (by omega)), (Below.refl _ _).alloc (Nat.le_refl _) _⟩
  case round =>
    obtain ⟨k, hk, rfl, HR, hb⟩ := hrel
    by_cases hlt : k < l.length
    · have hltz : (k : Int) < (l.length : Int) := by omega
      obtain ⟨b, off, rfl, hbB, hcell⟩ := hR.at_ (by omega)
      obtain ⟨⟨x, y⟩, hxy⟩ : ∃ p, p = l.getD k (0, 0) := ⟨_, rfl⟩
      have a0 := (hcell k hlt).1
      have a1 := (hcell k hlt).2
      rw [← hxy] at a0 a1
      simp only at a0 a1
      have c0 := Qt.keep hb a0
      have c1 := Qt.keep hb a1
      have HXY := Lib.hid hxy
      clear hxy hcell
      obtain ⟨f0, f1, g0, g1⟩ := box_beside HR.out (.cells #[.int .i64 x, .int .i64 y] 62) hlt
      go_wp2
      have R := filled_on hb HR.out hlt HXY.out (.cells #[.int .i64 x, .int .i64 y] 62)
      clear f0 f1 g0 g1
      go_roundw
      case measure => simp [intOf]; omega
      case rel => exact ⟨k + 1, by omega, by go_num, R.1, R.2⟩
    · have hltz : ¬ (k : Int) < (l.length : Int) := by omega
      have hkl : k = l.length := by omega
      have R : Row wr w.heap.size 25 w.heap.size l.length l.length l := by have := HR.out; rw [hkl, filled_all] at this; exact this
      clear hkl
      go_wp2
      go_ret2
      exact ⟨rfl, R, hb⟩

theorem told_long (A : Option Addr) (l : List (Int × Int)) (c : Nat) (w : World) (hl : 2000 < l.length) (hl2 : l.length ≤ 1000000) :
    Calls Try.prog 43 #[.slice A l.length c] w fun e w' => e = .returned (.tuple #[.slice none 0 0, .int .i64 3]) ∧ w = w' := by
  have hlz : (2000 : Int) < (l.length : Int) := by omega
  go_enter Try.func43, Try.ntmps43
  go_wp2
  go_ret2
  exact ⟨rfl, rfl⟩

end Go.Proofs.Ytafoleafhkadiaa
