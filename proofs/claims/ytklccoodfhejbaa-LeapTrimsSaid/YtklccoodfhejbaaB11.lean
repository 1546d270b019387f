/-
  Texts that the claims of this seat share, part 11.
-/
import Derived.Test.YtklccoodfhejbaaB10
import Derived.Test.YtklccoodfhejbaaB06
import Derived.Test.YtklccoodfhejbaaB08
import Derived.Test.YtklccoodfhejbaaB05
import Derived.Test.YtklccoodfhejbaaB09
set_option linter.unusedVariables false
set_option linter.unusedSimpArgs false
namespace Go.Proofs.Ytklccoodfhejbaa.Cel

/-! ### a set that is a third, at least, of what comes of it -/
theorem sum_countP_swap {α β : Type} (R : α → β → Bool) (l : List α) (m : List β) : (m.map fun p => l.countP fun c => R c p).sum = (l.map fun c => m.countP fun p => R c p).sum := by
  induction m with
  | nil => induction l with
    | nil => rfl
    | cons c l ih => simpa using ih
  | cons p m ih =>
    rw [List.map_cons, List.sum_cons, ih]
    clear ih
    induction l with
    | nil => rfl
    | cons c l ih =>
      rw [List.map_cons, List.map_cons, List.sum_cons, List.sum_cons, List.countP_cons, ← ih, List.countP_cons]
      omega
end Go.Proofs.Ytklccoodfhejbaa.Cel
namespace Go.Proofs.Ytklccoodfhejbaa.Cel

/-- the k-th cell about a cell, row by row -/
def offC (x y : Int) (k : Nat) : Int × Int := (x + ((k : Int) % 3) - 1, y + ((k : Int) / 3) - 1)
/-- how many of the first k cells about a cell are in a list, without the cell itself -/
def nTo (l : List (Int × Int)) (x y : Int) (k : Nat) : Nat := (List.range k).countP fun j => decide (j ≠ 4) && decide (offC x y j ∈ l)
theorem count_mem {l : List (Int × Int)} (h : l.Nodup) (q : Int × Int) : (l.countP fun c => decide (c = q)) = if q ∈ l then 1 else 0 := by
  induction l with
  | nil => rfl
  | cons c l ih =>
    obtain ⟨h1, h2⟩ := List.nodup_cons.1 h
    rw [List.countP_cons, ih h2]
    by_cases e : c = q
    · subst e
      simp [h1]
    · have e' : ¬ q = c := fun x => e x.symm
      simp [e, e']
theorem sum_ite (p : (Int × Int) → Bool) (m : List (Int × Int)) : (m.map fun q => if p q then 1 else 0).sum = m.countP p := by
  induction m with
  | nil => rfl
  | cons q m ih => rw [List.map_cons, List.sum_cons, ih, List.countP_cons]; omega
/-- the eight about a cell -/
def eight (x y : Int) : List (Int × Int) := [(x - 1, y - 1), (x, y - 1), (x + 1, y - 1), (x - 1, y), (x + 1, y), (x - 1, y + 1), (x, y + 1), (x + 1, y + 1)]
theorem eight_nodup (x y : Int) : (eight x y).Nodup := by
  simp only [eight, List.nodup_cons, List.mem_cons, List.not_mem_nil, or_false, Prod.mk.injEq, List.nodup_nil, and_true, not_or, not_false_eq_true]
  refine ⟨?_, ?_, ?_, ?_, ?_, ?_, ?_⟩ <;> (try refine ⟨?_, ?_⟩) <;> omega
theorem mem_eight (x y : Int) (c : Int × Int) : decide (c ∈ eight x y) = nbB c (x, y) := by
  obtain ⟨a, b⟩ := c
  rw [Bool.eq_iff_iff, decide_eq_true_eq]
  simp only [eight, List.mem_cons, List.not_mem_nil, or_false, Prod.mk.injEq, nbB, decide_eq_true_eq, ne_eq]
  omega
theorem nTo_eight (l : List (Int × Int)) (x y : Int) : nTo l x y 9 = (eight x y).countP fun q => decide (q ∈ l) := by
  have e : ∀ a : Int, a + 1 - 1 = a := fun a => by omega
  have e2 : ∀ a : Int, a + 2 - 1 = a + 1 := fun a => by omega
  have e0 : ∀ a : Int, a + 0 - 1 = a - 1 := fun a => by omega
  have hr : List.range 9 = [0, 1, 2, 3, 4, 5, 6, 7, 8] := by decide
  unfold nTo
  rw [hr]
  simp only [eight, List.countP_cons, List.countP_nil, offC]
  simp [e, e2, e0]
theorem nTo_nbr {l : List (Int × Int)} (h : Rises l) (x y : Int) : nTo l x y 9 = nbr l (x, y) := by
  rw [nTo_eight]
  have h1 := sum_countP_swap (fun c q : Int × Int => decide (c = q)) l (eight x y)
  have h2 : ((eight x y).map fun q => l.countP fun c => decide (c = q)) = (eight x y).map fun q => if decide (q ∈ l) then 1 else 0 := by
    refine List.map_congr_left fun q _ => ?_
    rw [count_mem (rises_nodup h)]
    simp
  have h3 : (l.map fun c => (eight x y).countP fun q => decide (c = q)) = l.map fun c => if nbB c (x, y) then 1 else 0 := by
    refine List.map_congr_left fun c _ => ?_
    have := count_mem (eight_nodup x y) c
    rw [show (fun q : Int × Int => decide (c = q)) = fun q => decide (q = c) from funext fun q => by rw [Bool.eq_iff_iff, decide_eq_true_eq, decide_eq_true_eq]; exact ⟨Eq.symm, Eq.symm⟩, this, ← mem_eight]
    simp
  rw [h2, h3, sum_ite, sum_ite] at h1
  exact h1

end Go.Proofs.Ytklccoodfhejbaa.Cel
namespace Go.Proofs.Ytklccoodfhejbaa.Cel

/-! ### boxes of generations -/
theorem InBox.mono {a b c d a' b' c' d' : Int} {l : List (Int × Int)} (h : InBox a b c d l) (h1 : a' ≤ a) (h2 : b ≤ b') (h3 : c' ≤ c) (h4 : d ≤ d') : InBox a' b' c' d' l := fun p hp => by
  have := h p hp; omega
end Go.Proofs.Ytklccoodfhejbaa.Cel
namespace Go.Proofs.Ytklccoodfhejbaa
set_option maxRecDepth 100000
set_option linter.unusedVariables false
set_option linter.unusedSimpArgs false

/-- how many are alive about a place -/
def aboutK (l : List Nd) (n y x : Nat) : Nat := sx l n (y - 1) (x - 1) + sx l n (y - 1) x + sx l n (y - 1) (x + 1) + sx l n y (x - 1) + sx l n y (x + 1) + sx l n (y + 1) (x - 1) + sx l n (y + 1) x + sx l n (y + 1) (x + 1)
/-- the place of the cell behind a generation -/
def nxK (l : List Nd) (n y x : Nat) : Nat := if Cel.livesB (decide (sx l n y x = 1)) (aboutK l n y x : Nat) = true then 1 else 0
def stepK (l : List Nd) (n : Nat) : Kd := ((nxK l n 1 1 : Nat), (nxK l n 1 2 : Nat), (nxK l n 2 1 : Nat), (nxK l n 2 2 : Nat))
theorem kd_stepK (l : List Nd) (n : Nat) {j : Nat} (hj : j < 4) : kd (stepK l n) j = ((nxK l n (1 + j / 2) (1 + j % 2) : Nat) : Int) := by
  rcases (by omega : j = 0 ∨ j = 1 ∨ j = 2 ∨ j = 3) with rfl | rfl | rfl | rfl <;> rfl
theorem nxK_lt (l : List Nd) (n y x : Nat) : nxK l n y x < 2 := by unfold nxK; split <;> decide
section
variable {l m : List Nd} {room : Int} {n p : Nat} {S : List (Int × Int)}
theorem sx_two (hr : Right6 l room) (hn : Is l 2 n) {y x : Nat} (hy : y < 4) (hx : x < 4) : sx l n y x < 2 := (sx_is (e := 0) hr hn hy hx).zero hr
theorem nxK_grows (hr : Right6 l room) (hn : Is l 2 n) (g : Grows l m) {y x : Nat} (hy : y < 3) (hx : x < 3) : nxK m n y x = nxK l n y x := by
  unfold nxK aboutK
  rw [sx_grows (e := 0) hr hn g (by omega) (by omega), sx_grows (e := 0) hr hn g (by omega) (by omega), sx_grows (e := 0) hr hn g (by omega) (by omega), sx_grows (e := 0) hr hn g (by omega) (by omega), sx_grows (e := 0) hr hn g (by omega) (by omega), sx_grows (e := 0) hr hn g (by omega) (by omega), sx_grows (e := 0) hr hn g (by omega) (by omega), sx_grows (e := 0) hr hn g (by omega) (by omega), sx_grows (e := 0) hr hn g (by omega) (by omega)]
theorem stepK_grows (hr : Right6 l room) (hn : Is l 2 n) (g : Grows l m) : stepK m n = stepK l n := by
  unfold stepK
  rw [nxK_grows hr hn g (by decide) (by decide), nxK_grows hr hn g (by decide) (by decide), nxK_grows hr hn g (by decide) (by decide), nxK_grows hr hn g (by decide) (by decide)]
theorem cell_is (hr : Right6 l room) {q : Nat} (hq : q < 2) : Is l 0 q := ⟨by have := hr.two; omega, (level_zero hr (by have := hr.two; omega)).2 hq⟩
theorem step_fit (hr : Right6 l room) : Fit4 l (stepK l n) := by
  have h0 : (ndAt l (stepK l n).1).1 = 0 := by
    show (ndAt l ((nxK l n 1 1 : Nat) : Int)).1 = _
    rw [ndAt_nat]
    exact (cell_is hr (nxK_lt _ _ _ _)).lev
  refine ⟨fun j hj => ?_, by omega⟩
  have hj' := cell_is hr (nxK_lt l n (1 + j / 2) (1 + j % 2))
  rw [kd_stepK l n hj, h0]
  exact ⟨by omega, by have := hj'.lt; omega, by rw [ndAt_nat]; exact hj'.lev⟩
/-- a place among the sixteen is 1 just if its cell is in the set -/
theorem sx_mem (h : Sq l room 1 n S) {y x : Nat} (hy : y < 4) (hx : x < 4) : sx l n y x = if ((x : Int) - 2, (y : Int) - 2) ∈ S then 1 else 0 := by
  have h2 := sx_two h.right h.is hy hx
  have hin : insideB 1 ((x : Int) - 2, (y : Int) - 2) = true := by
    unfold insideB
    rw [show (2 : Int) ^ 1 = 2 from rfl]
    exact decide_eq_true (by simp only; omega)
  have hm := h.mem hin
  have e1 : inwardC 1 ((x : Int) - 2, (y : Int) - 2) = ((x : Int), (y : Int)) := by
    unfold inwardC
    rw [show (2 : Int) ^ 1 = 2 from rfl]
    exact Prod.ext (by simp only; omega) (by simp only; omega)
  rw [e1, alive_sx (e := 0) l n ((x : Int), (y : Int)) (y := y) (x := x) (by rw [show (2 : Int) ^ 0 = 1 from rfl]; exact Int.ediv_one _) (by rw [show (2 : Int) ^ 0 = 1 from rfl]; exact Int.ediv_one _) hy hx] at hm
  have hm : decide (sx l n y x = 1) = true ↔ ((x : Int) - 2, (y : Int) - 2) ∈ S := hm
  rw [decide_eq_true_iff] at hm
  by_cases hs : ((x : Int) - 2, (y : Int) - 2) ∈ S
  · rw [if_pos hs]; exact hm.2 hs
  · rw [if_neg hs]
    have : ¬ sx l n y x = 1 := fun q => hs (hm.1 q)
    omega
theorem nbr_eight {T : List (Int × Int)} (hT : Cel.Rises T) (a b : Int) : Cel.nbr T (a, b) = (if (a - 1, b - 1) ∈ T then 1 else 0) + (if (a, b - 1) ∈ T then 1 else 0) + (if (a + 1, b - 1) ∈ T then 1 else 0) + (if (a - 1, b) ∈ T then 1 else 0) + (if (a + 1, b) ∈ T then 1 else 0) + (if (a - 1, b + 1) ∈ T then 1 else 0) + (if (a, b + 1) ∈ T then 1 else 0) + (if (a + 1, b + 1) ∈ T then 1 else 0) := by
  rw [← Cel.nTo_nbr hT, Cel.nTo_eight]
  unfold Cel.eight
  simp only [List.countP_cons, List.countP_nil, decide_eq_true_eq]
  omega
theorem aboutK_nbr (h : Sq l room 1 n S) {y x : Nat} (hy : 1 ≤ y ∧ y < 3) (hx : 1 ≤ x ∧ x < 3) : aboutK l n y x = Cel.nbr S ((x : Int) - 2, (y : Int) - 2) := by
  rw [nbr_eight ((Cel.rightB_iff _).1 h.set).2.2]
  unfold aboutK
  have ex1 : ((x - 1 : Nat) : Int) - 2 = (x : Int) - 2 - 1 := by omega
  have ex2 : ((x + 1 : Nat) : Int) - 2 = (x : Int) - 2 + 1 := by omega
  have ey1 : ((y - 1 : Nat) : Int) - 2 = (y : Int) - 2 - 1 := by omega
  have ey2 : ((y + 1 : Nat) : Int) - 2 = (y : Int) - 2 + 1 := by omega
  rw [sx_mem h (y := y - 1) (x := x - 1) (by omega) (by omega), sx_mem h (y := y - 1) (x := x) (by omega) (by omega), sx_mem h (y := y - 1) (x := x + 1) (by omega) (by omega), sx_mem h (y := y) (x := x - 1) (by omega) (by omega), sx_mem h (y := y) (x := x + 1) (by omega) (by omega), sx_mem h (y := y + 1) (x := x - 1) (by omega) (by omega), sx_mem h (y := y + 1) (x := x) (by omega) (by omega), sx_mem h (y := y + 1) (x := x + 1) (by omega) (by omega)]
  rw [ex1, ex2, ey1, ey2]
theorem nxK_mem (h : Sq l room 1 n S) {y x : Nat} (hy : 1 ≤ y ∧ y < 3) (hx : 1 ≤ x ∧ x < 3) : nxK l n y x = if ((x : Int) - 2, (y : Int) - 2) ∈ Cel.nextL S then 1 else 0 := by
  unfold nxK
  rw [aboutK_nbr h hy hx, sx_mem h (by omega) (by omega)]
  have hd : decide ((if ((x : Int) - 2, (y : Int) - 2) ∈ S then 1 else 0) = 1) = decide (((x : Int) - 2, (y : Int) - 2) ∈ S) := by
    by_cases hs : ((x : Int) - 2, (y : Int) - 2) ∈ S <;> simp [hs]
  rw [hd]
  have hm := Cel.mem_nextL S ((x : Int) - 2, (y : Int) - 2)
  unfold Cel.aliveB at hm
  by_cases hs : ((x : Int) - 2, (y : Int) - 2) ∈ Cel.nextL S
  · rw [if_pos hs, if_pos (hm.1 hs)]
  · rw [if_neg hs, if_neg (fun q => hs (hm.2 q))]
/-- what a step makes stands for what stands in the middle behind a generation -/
theorem Sq.step (h : Sq l room 1 n S) (hm : Right6 m room) (hp : Is m 1 p) (hk : (m.getD p deadN).2.1 = stepK l n) : Sq m room 0 p (cropL (Cel.nextL S) 0 0 0) := by
  refine ⟨hm, hp, by decide, ?_, fun s hs => (mem_crop.1 hs).2, alive_within fun c hc => ?_⟩
  · refine (Cel.rightB_iff _).2 ⟨?_, fun c hc => inside_in (by decide) (mem_crop.1 hc).2, rises_crop (Cel.rises_nextL _) _ _ _⟩
    have hb : Cel.InBox (-1) 0 (-1) 0 (cropL (Cel.nextL S) 0 0 0) := fun q hq => by
      have := of_decide_eq_true (mem_crop.1 hq).2
      rw [show (2 : Int) ^ 0 = 1 from rfl] at this
      omega
    have := Cel.box_len hb (rises_crop (Cel.rises_nextL _) _ _ _) 2 2 (by decide) (by decide)
    omega
  · obtain ⟨c1, c2, c3, c4⟩ := hc
    rw [show (2 : Int) ^ (0 + 1) = 2 from rfl] at c2 c4
    have hq : q7 0 c = c.2.toNat * 2 + c.1.toNat := by
      unfold q7
      rw [show (2 : Int) ^ 0 = 1 from rfl, Int.ediv_one, Int.ediv_one]
      omega
    have hkid : kidN m p (q7 0 c) = nxK l n (1 + c.2.toNat) (1 + c.1.toNat) := by
      unfold kidN
      rw [hk, kd_stepK l n (q7_lt 0 c), hq, Int.toNat_natCast, show (c.2.toNat * 2 + c.1.toNat) / 2 = c.2.toNat by omega, show (c.2.toNat * 2 + c.1.toNat) % 2 = c.1.toNat by omega]
    show decide (kidN m p (q7 0 c) = 1) = _
    rw [hkid, nxK_mem h (by omega) (by omega)]
    have e1 : (((1 + c.1.toNat : Nat) : Int) - 2, ((1 + c.2.toNat : Nat) : Int) - 2) = (c.1 - 1, c.2 - 1) := Prod.ext (by simp only; omega) (by simp only; omega)
    rw [e1, Bool.eq_iff_iff, List.any_eq_true, decide_eq_true_iff]
    have hin : insideB 0 (c.1 - 1, c.2 - 1) = true := by
      unfold insideB
      rw [show (2 : Int) ^ 0 = 1 from rfl]
      exact decide_eq_true (by simp only; omega)
    have hcs : InSq 1 c := by unfold InSq; rw [show (2 : Int) ^ 1 = 2 from rfl]; exact ⟨c1, c2, c3, c4⟩
    constructor
    · intro hh
      by_cases hs : (c.1 - 1, c.2 - 1) ∈ Cel.nextL S
      · refine ⟨inwardC 0 (c.1 - 1, c.2 - 1), List.mem_map_of_mem (mem_crop.2 ⟨by simpa using hs, hin⟩), ?_⟩
        have : inwardC 0 (c.1 - 1, c.2 - 1) = c := by
          unfold inwardC
          rw [show (2 : Int) ^ 0 = 1 from rfl]
          exact Prod.ext (by simp only; omega) (by simp only; omega)
        rw [this]
        exact agree_iff.2 (Agree.refl _ _)
      · rw [if_neg hs] at hh; cases hh
    · rintro ⟨t, ht, hta⟩
      obtain ⟨s, hs, rfl⟩ := List.mem_map.1 ht
      obtain ⟨hs1, hs2⟩ := mem_crop.1 hs
      have heq := agree_ext (inside_sq hs2) hcs (agree_iff.1 hta)
      have q1 : s.1 + 2 ^ 0 = c.1 := by rw [← heq]; rfl
      have q2 : s.2 + 2 ^ 0 = c.2 := by rw [← heq]; rfl
      rw [show (2 : Int) ^ 0 = 1 from rfl] at q1 q2
      have : (c.1 - 1, c.2 - 1) = (s.1 + 0, s.2 + 0) := Prod.ext (by simp only; omega) (by simp only; omega)
      rw [if_pos (by rw [this]; exact hs1)]
end
end Go.Proofs.Ytklccoodfhejbaa
namespace Go.Proofs.Ytklccoodfhejbaa
set_option maxRecDepth 100000
set_option linter.unusedVariables false
set_option linter.unusedSimpArgs false
open Go.RowKit Go.Sort

/-- a maker of package base in a box -/
def MB (w : World) (b g : Nat) : Prop := w.heap[b]? = some (.cells #[.pointer (some ⟨g, 0, none⟩)] 73 (0, 0))
theorem MB.kp {w w' : World} {b g : Nat} (h : MB w b g) (hk : Kp w w') : MB w' b g := hk _ _ _ _ h ⟨.inl (by decide), by decide⟩
theorem MB.c {w : World} {b g : Nat} (h : MB w b g) : w.cell? ⟨b, 0, none⟩ = some (.pointer (some ⟨g, 0, none⟩)) := by rw [Lib.cell_of_heap h]; rfl
theorem MB.below {w w' : World} {b g : Nat} (h : MB w b g) (hb : Below w.heap.size w w') : MB w' b g := (hb.block _ (lt_heap6 h)).trans h
/-- the level of a node; below all levels, if there is no such node -/
def levI (l : List Nd) (n : Int) : Int := if 0 ≤ n ∧ n < l.length then (ndAt l n).1 else -1
set_option maxHeartbeats 4000000 in
theorem level_any (room : Int) (n0 g b : Nat) (l : List Nd) (n : Int) (w : World) (hix : Ix n0 w g b l room) (hr : Right6 l room) : Calls Try.prog 90 #[makerV g, .int .i64 n] w fun r w' => r = .returned (.int .i64 (levI l n)) ∧ Below w.heap.size w w' := by
  have hal := (Below.refl w.heap.size w).alloc (Nat.le_refl _) (.cells #[.pointer (some ⟨g, 0, none⟩)] 73)
  have hM : MB (w.alloc (.cells #[.pointer (some ⟨g, 0, none⟩)] 73)) w.heap.size g := heap_alloc_new w _
  obtain ⟨q, cap, g0, g1, hrd, hcap, hnd⟩ := ix_rd (hix.below hal) hr.two
  have m0 := hM.c
  have HA := Lib.hid hal
  have h100 := hr.small
  clear hix hal hM hrd g1
  by_cases h0 : n < 0
  · have hb : levI l n = -1 := if_neg (by omega)
    rw [hb]
    have d0 : decide (n < 0) = true := decide_eq_true h0
    clear hb hnd
    go_enter Try.func90, Try.ntmps90
    go_wp2_with fail
    go_ret
    exact ⟨rfl, HA.out⟩
  have d0 : decide (n < 0) = false := decide_eq_false h0
  by_cases h1 : (l.length : Int) ≤ n
  · have hb : levI l n = -1 := if_neg (by omega)
    rw [hb]
    have d1 : decide ((l.length : Int) ≤ n) = true := decide_eq_true h1
    clear hb hnd
    go_enter Try.func90, Try.ntmps90
    go_wp2_with fail
    go_ret
    exact ⟨rfl, HA.out⟩
  have d1 : decide ((l.length : Int) ≤ n) = false := decide_eq_false h1
  obtain ⟨k, rfl⟩ : ∃ k : Nat, n = (k : Int) := ⟨n.toNat, by omega⟩
  have x0 := (hnd k (by omega)).1
  have hkz : (k : Int) < (l.length : Int) := by omega
  have hb : levI l (k : Int) = (l.getD k deadN).1 := by
    unfold levI
    rw [if_pos (by omega), ndAt_nat]
  rw [hb]
  have d2 : decide (l.length ≤ k) = false := decide_eq_false (by omega)
  generalize (l.getD k deadN).1 = lv at *
  clear hb hnd
  go_enter Try.func90, Try.ntmps90
  go_wp2_with fail
  go_ret
  exact ⟨rfl, HA.out⟩
end Go.Proofs.Ytklccoodfhejbaa
