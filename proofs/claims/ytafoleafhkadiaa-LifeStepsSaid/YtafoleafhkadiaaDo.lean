/-
  Plain mathematics of layer 2: counting neighbours cell by cell; all cells about a set, row by row.
-/
import Derived.Test.YtafoleafhkadiaaDn
namespace Go.Proofs.Ytafoleafhkadiaa

/-- the k-th cell about a cell, row by row -/
def offC (x y : Int) (k : Nat) : Int × Int := (x + ((k : Int) % 3) - 1, y + ((k : Int) / 3) - 1)
/-- how many of the first k cells about a cell are in a list, without the cell itself -/
def nTo (l : List (Int × Int)) (x y : Int) (k : Nat) : Nat := (List.range k).countP fun j => decide (j ≠ 4) && decide (offC x y j ∈ l)
theorem nTo_zero (l : List (Int × Int)) (x y : Int) : nTo l x y 0 = 0 := rfl
theorem nTo_mid (l : List (Int × Int)) (x y : Int) : nTo l x y 5 = nTo l x y 4 := by
  unfold nTo; rw [List.range_succ (n := 4), List.countP_append]; simp
theorem nTo_yes {l : List (Int × Int)} {x y : Int} {k : Nat} (h : k ≠ 4) (hm : offC x y k ∈ l) : nTo l x y (k + 1) = nTo l x y k + 1 := by
  unfold nTo; rw [List.range_succ, List.countP_append]; simp [h, hm]
theorem nTo_no {l : List (Int × Int)} {x y : Int} {k : Nat} (hm : offC x y k ∉ l) : nTo l x y (k + 1) = nTo l x y k := by
  unfold nTo; rw [List.range_succ, List.countP_append]; simp [hm]
theorem nTo_le (l : List (Int × Int)) (x y : Int) (k : Nat) : nTo l x y k ≤ k := by
  unfold nTo; exact Nat.le_trans List.countP_le_length (by simp)

theorem count_mem {l : List (Int × Int)} (h : l.Nodup) (q : Int × Int) : (l.countP fun c => decide (c = q)) = if q ∈ l then 1 else 0 := by
  induction l with
  | nil => rfl
  | cons c l ih =>
    obtain ⟨h1, h2⟩ := List.nodup_cons.1 h
    rw [List.countP_cons, ih h2]
    by_cases e : c = q
    · subst e
      simp [h1]
    · have e' : ¬ q = c := fun x => e x.symm
      simp [e, e']
theorem sum_ite (p : (Int × Int) → Bool) (m : List (Int × Int)) : (m.map fun q => if p q then 1 else 0).sum = m.countP p := by
  induction m with
  | nil => rfl
  | cons q m ih => rw [List.map_cons, List.sum_cons, ih, List.countP_cons]; omega
/-- the eight about a cell -/
def eight (x y : Int) : List (Int × Int) := [(x - 1, y - 1), (x, y - 1), (x + 1, y - 1), (x - 1, y), (x + 1, y), (x - 1, y + 1), (x, y + 1), (x + 1, y + 1)]
theorem eight_nodup (x y : Int) : (eight x y).Nodup := by
  simp only [eight, List.nodup_cons, List.mem_cons, List.not_mem_nil, or_false, Prod.mk.injEq, List.nodup_nil, and_true, not_or, not_false_eq_true]
  refine ⟨?_, ?_, ?_, ?_, ?_, ?_, ?_⟩ <;> (try refine ⟨?_, ?_⟩) <;> omega
theorem mem_eight (x y : Int) (c : Int × Int) : decide (c ∈ eight x y) = nbB c (x, y) := by
  obtain ⟨a, b⟩ := c
  rw [Bool.eq_iff_iff, decide_eq_true_eq]
  simp only [eight, List.mem_cons, List.not_mem_nil, or_false, Prod.mk.injEq, nbB, decide_eq_true_eq, ne_eq]
  omega
theorem nTo_eight (l : List (Int × Int)) (x y : Int) : nTo l x y 9 = (eight x y).countP fun q => decide (q ∈ l) := by
  have e : ∀ a : Int, a + 1 - 1 = a := fun a => by omega
  have e2 : ∀ a : Int, a + 2 - 1 = a + 1 := fun a => by omega
  have e0 : ∀ a : Int, a + 0 - 1 = a - 1 := fun a => by omega
  have hr : List.range 9 = [0, 1, 2, 3, 4, 5, 6, 7, 8] := by decide
  unfold nTo
  rw [hr]
  simp only [eight, List.countP_cons, List.countP_nil, offC]
  simp [e, e2, e0]
theorem nTo_nbr {l : List (Int × Int)} (h : Rises l) (x y : Int) : nTo l x y 9 = nbr l (x, y) := by
  rw [nTo_eight]
  have h1 := sum_countP_swap (fun c q : Int × Int => decide (c = q)) l (eight x y)
  have h2 : ((eight x y).map fun q => l.countP fun c => decide (c = q)) = (eight x y).map fun q => if decide (q ∈ l) then 1 else 0 := by
    refine List.map_congr_left fun q _ => ?_
    rw [count_mem (rises_nodup h)]
    simp
  have h3 : (l.map fun c => (eight x y).countP fun q => decide (c = q)) = l.map fun c => if nbB c (x, y) then 1 else 0 := by
    refine List.map_congr_left fun c _ => ?_
    have := count_mem (eight_nodup x y) c
    rw [show (fun q : Int × Int => decide (c = q)) = fun q => decide (q = c) from funext fun q => by rw [Bool.eq_iff_iff, decide_eq_true_eq, decide_eq_true_eq]; exact ⟨Eq.symm, Eq.symm⟩, this, ← mem_eight]
    simp
  rw [h2, h3, sum_ite, sum_ite] at h1
  exact h1

/-- how many of the cells from (-10, -10) on, row by row, are alive behind a generation: j rows, and i of the next -/
def manyTo (l : List (Int × Int)) (j i : Nat) : Nat := (boxL (-10) (-10) 20 j).countP (aliveB l) + ((List.range i).map fun (t : Nat) => ((-10 + (t : Int), -10 + (j : Int)) : Int × Int)).countP (aliveB l)
theorem manyTo_zero (l : List (Int × Int)) : manyTo l 0 0 = 0 := rfl
theorem manyTo_row (l : List (Int × Int)) (j : Nat) : manyTo l j 20 = manyTo l (j + 1) 0 := by
  unfold manyTo boxL
  rw [List.range_succ (n := j), List.flatMap_append, List.countP_append]
  simp
theorem manyTo_step (l : List (Int × Int)) (j i : Nat) : manyTo l j (i + 1) = manyTo l j i + if aliveB l (-10 + (i : Int), -10 + (j : Int)) then 1 else 0 := by
  unfold manyTo
  rw [List.range_succ, List.map_append, List.countP_append, List.map_singleton, List.countP_singleton]
  omega
theorem rises_boxL (a c : Int) (w h : Nat) : Rises (boxL a c w h) := by
  induction h with
  | zero => exact List.Pairwise.nil
  | succ h ih =>
    have e : boxL a c w (h + 1) = boxL a c w h ++ (List.range w).map fun (i : Nat) => (a + (i : Int), c + (h : Int)) := by
      unfold boxL
      rw [List.range_succ, List.flatMap_append]
      simp
    rw [e]
    refine List.pairwise_append.2 ⟨ih, ?_, fun p hp q hq => ?_⟩
    · rw [List.pairwise_map]
      refine List.Pairwise.imp ?_ (List.pairwise_lt_range (n := w))
      intro i j hij
      rw [lessB_iff]
      right
      exact ⟨rfl, by simp only; omega⟩
    · obtain ⟨i, _, rfl⟩ := List.mem_map.1 hq
      unfold boxL at hp
      obtain ⟨j, hj, hp⟩ := List.mem_flatMap.1 hp
      obtain ⟨i', _, rfl⟩ := List.mem_map.1 hp
      have := List.mem_range.1 hj
      rw [lessB_iff]
      simp only
      omega
theorem manyTo_all {l : List (Int × Int)} (h : InBox (-9) 8 (-9) 8 (nextL l)) : manyTo l 20 0 = (nextL l).length := by
  have e : (boxL (-10) (-10) 20 20).filter (aliveB l) = nextL l := by
    refine rises_ext (List.Pairwise.filter _ (rises_boxL _ _ _ _)) (rises_nextL l) fun y => ?_
    rw [List.mem_filter, mem_nextL]
    refine ⟨fun h => h.2, fun ha => ⟨mem_boxL ?_, ha⟩⟩
    have := h y ((mem_nextL l y).2 ha)
    omega
  unfold manyTo
  rw [List.countP_eq_length_filter, e]
  simp
theorem manyTo_le (l : List (Int × Int)) (j i : Nat) : manyTo l j i ≤ 20 * j + i := by
  unfold manyTo
  have h1 : (boxL (-10) (-10) 20 j).countP (aliveB l) ≤ (boxL (-10) (-10) 20 j).length := List.countP_le_length
  have h2 : ((List.range i).map fun (t : Nat) => ((-10 + (t : Int), -10 + (j : Int)) : Int × Int)).countP (aliveB l) ≤ ((List.range i).map fun (t : Nat) => ((-10 + (t : Int), -10 + (j : Int)) : Int × Int)).length := List.countP_le_length
  rw [length_boxL] at h1
  rw [List.length_map, List.length_range] at h2
  omega

end Go.Proofs.Ytafoleafhkadiaa
