/-
  Texts that the claims of this seat share, part 21.
-/
import Derived.Test.YtikgnjcjbjafaaaB15
import Derived.Test.YtikgnjcjbjafaaaB19
set_option linter.unusedVariables false
set_option linter.unusedSimpArgs false
namespace Go.Proofs.Ytikgnjcjbjafaaa.Cel

/-! ### a set that is a third, at least, of what comes of it -/
theorem sum_countP_swap {α β : Type} (R : α → β → Bool) (l : List α) (m : List β) : (m.map fun p => l.countP fun c => R c p).sum = (l.map fun c => m.countP fun p => R c p).sum := by
  induction m with
  | nil => induction l with
    | nil => rfl
    | cons c l ih => simpa using ih
  | cons p m ih =>
    rw [List.map_cons, List.sum_cons, ih]
    clear ih
    induction l with
    | nil => rfl
    | cons c l ih =>
      rw [List.map_cons, List.map_cons, List.sum_cons, List.sum_cons, List.countP_cons, ← ih, List.countP_cons]
      omega
end Go.Proofs.Ytikgnjcjbjafaaa.Cel
namespace Go.Proofs.Ytikgnjcjbjafaaa.Cel

/-- the k-th cell about a cell, row by row -/
def offC (x y : Int) (k : Nat) : Int × Int := (x + ((k : Int) % 3) - 1, y + ((k : Int) / 3) - 1)
/-- how many of the first k cells about a cell are in a list, without the cell itself -/
def nTo (l : List (Int × Int)) (x y : Int) (k : Nat) : Nat := (List.range k).countP fun j => decide (j ≠ 4) && decide (offC x y j ∈ l)
theorem count_mem {l : List (Int × Int)} (h : l.Nodup) (q : Int × Int) : (l.countP fun c => decide (c = q)) = if q ∈ l then 1 else 0 := by
  induction l with
  | nil => rfl
  | cons c l ih =>
    obtain ⟨h1, h2⟩ := List.nodup_cons.1 h
    rw [List.countP_cons, ih h2]
    by_cases e : c = q
    · subst e
      simp [h1]
    · have e' : ¬ q = c := fun x => e x.symm
      simp [e, e']
theorem sum_ite (p : (Int × Int) → Bool) (m : List (Int × Int)) : (m.map fun q => if p q then 1 else 0).sum = m.countP p := by
  induction m with
  | nil => rfl
  | cons q m ih => rw [List.map_cons, List.sum_cons, ih, List.countP_cons]; omega
/-- the eight about a cell -/
def eight (x y : Int) : List (Int × Int) := [(x - 1, y - 1), (x, y - 1), (x + 1, y - 1), (x - 1, y), (x + 1, y), (x - 1, y + 1), (x, y + 1), (x + 1, y + 1)]
theorem eight_nodup (x y : Int) : (eight x y).Nodup := by
  simp only [eight, List.nodup_cons, List.mem_cons, List.not_mem_nil, or_false, Prod.mk.injEq, List.nodup_nil, and_true, not_or, not_false_eq_true]
  refine ⟨?_, ?_, ?_, ?_, ?_, ?_, ?_⟩ <;> (try refine ⟨?_, ?_⟩) <;> omega
theorem mem_eight (x y : Int) (c : Int × Int) : decide (c ∈ eight x y) = nbB c (x, y) := by
  obtain ⟨a, b⟩ := c
  rw [Bool.eq_iff_iff, decide_eq_true_eq]
  simp only [eight, List.mem_cons, List.not_mem_nil, or_false, Prod.mk.injEq, nbB, decide_eq_true_eq, ne_eq]
  omega
theorem nTo_eight (l : List (Int × Int)) (x y : Int) : nTo l x y 9 = (eight x y).countP fun q => decide (q ∈ l) := by
  have e : ∀ a : Int, a + 1 - 1 = a := fun a => by omega
  have e2 : ∀ a : Int, a + 2 - 1 = a + 1 := fun a => by omega
  have e0 : ∀ a : Int, a + 0 - 1 = a - 1 := fun a => by omega
  have hr : List.range 9 = [0, 1, 2, 3, 4, 5, 6, 7, 8] := by decide
  unfold nTo
  rw [hr]
  simp only [eight, List.countP_cons, List.countP_nil, offC]
  simp [e, e2, e0]
theorem nTo_nbr {l : List (Int × Int)} (h : Rises l) (x y : Int) : nTo l x y 9 = nbr l (x, y) := by
  rw [nTo_eight]
  have h1 := sum_countP_swap (fun c q : Int × Int => decide (c = q)) l (eight x y)
  have h2 : ((eight x y).map fun q => l.countP fun c => decide (c = q)) = (eight x y).map fun q => if decide (q ∈ l) then 1 else 0 := by
    refine List.map_congr_left fun q _ => ?_
    rw [count_mem (rises_nodup h)]
    simp
  have h3 : (l.map fun c => (eight x y).countP fun q => decide (c = q)) = l.map fun c => if nbB c (x, y) then 1 else 0 := by
    refine List.map_congr_left fun c _ => ?_
    have := count_mem (eight_nodup x y) c
    rw [show (fun q : Int × Int => decide (c = q)) = fun q => decide (q = c) from funext fun q => by rw [Bool.eq_iff_iff, decide_eq_true_eq, decide_eq_true_eq]; exact ⟨Eq.symm, Eq.symm⟩, this, ← mem_eight]
    simp
  rw [h2, h3, sum_ite, sum_ite] at h1
  exact h1

end Go.Proofs.Ytikgnjcjbjafaaa.Cel
namespace Go.Proofs.Ytikgnjcjbjafaaa.Cel

/-! ### boxes of generations -/
theorem InBox.mono {a b c d a' b' c' d' : Int} {l : List (Int × Int)} (h : InBox a b c d l) (h1 : a' ≤ a) (h2 : b ≤ b') (h3 : c' ≤ c) (h4 : d ≤ d') : InBox a' b' c' d' l := fun p hp => by
  have := h p hp; omega
end Go.Proofs.Ytikgnjcjbjafaaa.Cel
namespace Go.Proofs.Ytikgnjcjbjafaaa
set_option maxRecDepth 100000
set_option linter.unusedVariables false
set_option linter.unusedSimpArgs false

/-- how many are alive about a place -/
def aboutK (l : List Nd) (n y x : Nat) : Nat := sx l n (y - 1) (x - 1) + sx l n (y - 1) x + sx l n (y - 1) (x + 1) + sx l n y (x - 1) + sx l n y (x + 1) + sx l n (y + 1) (x - 1) + sx l n (y + 1) x + sx l n (y + 1) (x + 1)
/-- the place of the cell behind a generation -/
def nxK (l : List Nd) (n y x : Nat) : Nat := if Cel.livesB (decide (sx l n y x = 1)) (aboutK l n y x : Nat) = true then 1 else 0
def stepK (l : List Nd) (n : Nat) : Kd := ((nxK l n 1 1 : Nat), (nxK l n 1 2 : Nat), (nxK l n 2 1 : Nat), (nxK l n 2 2 : Nat))
theorem kd_stepK (l : List Nd) (n : Nat) {j : Nat} (hj : j < 4) : kd (stepK l n) j = ((nxK l n (1 + j / 2) (1 + j % 2) : Nat) : Int) := by
  rcases (by omega : j = 0 ∨ j = 1 ∨ j = 2 ∨ j = 3) with rfl | rfl | rfl | rfl <;> rfl
section
variable {l m : List Nd} {room : Int} {n p : Nat} {S : List (Int × Int)}
theorem sx_two (hr : Right6 l room) (hn : Is l 2 n) {y x : Nat} (hy : y < 4) (hx : x < 4) : sx l n y x < 2 := (sx_is (e := 0) hr hn hy hx).zero hr
/-- a place among the sixteen is 1 just if its cell is in the set -/
theorem sx_mem (h : Sq l room 1 n S) {y x : Nat} (hy : y < 4) (hx : x < 4) : sx l n y x = if ((x : Int) - 2, (y : Int) - 2) ∈ S then 1 else 0 := by
  have h2 := sx_two h.right h.is hy hx
  have hin : insideB 1 ((x : Int) - 2, (y : Int) - 2) = true := by
    unfold insideB
    rw [show (2 : Int) ^ 1 = 2 from rfl]
    exact decide_eq_true (by simp only; omega)
  have hm := h.mem hin
  have e1 : inwardC 1 ((x : Int) - 2, (y : Int) - 2) = ((x : Int), (y : Int)) := by
    unfold inwardC
    rw [show (2 : Int) ^ 1 = 2 from rfl]
    exact Prod.ext (by simp only; omega) (by simp only; omega)
  rw [e1, alive_sx (e := 0) l n ((x : Int), (y : Int)) (y := y) (x := x) (by rw [show (2 : Int) ^ 0 = 1 from rfl]; exact Int.ediv_one _) (by rw [show (2 : Int) ^ 0 = 1 from rfl]; exact Int.ediv_one _) hy hx] at hm
  have hm : decide (sx l n y x = 1) = true ↔ ((x : Int) - 2, (y : Int) - 2) ∈ S := hm
  rw [decide_eq_true_iff] at hm
  by_cases hs : ((x : Int) - 2, (y : Int) - 2) ∈ S
  · rw [if_pos hs]; exact hm.2 hs
  · rw [if_neg hs]
    have : ¬ sx l n y x = 1 := fun q => hs (hm.1 q)
    omega
theorem nbr_eight {T : List (Int × Int)} (hT : Cel.Rises T) (a b : Int) : Cel.nbr T (a, b) = (if (a - 1, b - 1) ∈ T then 1 else 0) + (if (a, b - 1) ∈ T then 1 else 0) + (if (a + 1, b - 1) ∈ T then 1 else 0) + (if (a - 1, b) ∈ T then 1 else 0) + (if (a + 1, b) ∈ T then 1 else 0) + (if (a - 1, b + 1) ∈ T then 1 else 0) + (if (a, b + 1) ∈ T then 1 else 0) + (if (a + 1, b + 1) ∈ T then 1 else 0) := by
  rw [← Cel.nTo_nbr hT, Cel.nTo_eight]
  unfold Cel.eight
  simp only [List.countP_cons, List.countP_nil, decide_eq_true_eq]
  omega
theorem aboutK_nbr (h : Sq l room 1 n S) {y x : Nat} (hy : 1 ≤ y ∧ y < 3) (hx : 1 ≤ x ∧ x < 3) : aboutK l n y x = Cel.nbr S ((x : Int) - 2, (y : Int) - 2) := by
  rw [nbr_eight ((Cel.rightB_iff _).1 h.set).2.2]
  unfold aboutK
  have ex1 : ((x - 1 : Nat) : Int) - 2 = (x : Int) - 2 - 1 := by omega
  have ex2 : ((x + 1 : Nat) : Int) - 2 = (x : Int) - 2 + 1 := by omega
  have ey1 : ((y - 1 : Nat) : Int) - 2 = (y : Int) - 2 - 1 := by omega
  have ey2 : ((y + 1 : Nat) : Int) - 2 = (y : Int) - 2 + 1 := by omega
  rw [sx_mem h (y := y - 1) (x := x - 1) (by omega) (by omega), sx_mem h (y := y - 1) (x := x) (by omega) (by omega), sx_mem h (y := y - 1) (x := x + 1) (by omega) (by omega), sx_mem h (y := y) (x := x - 1) (by omega) (by omega), sx_mem h (y := y) (x := x + 1) (by omega) (by omega), sx_mem h (y := y + 1) (x := x - 1) (by omega) (by omega), sx_mem h (y := y + 1) (x := x) (by omega) (by omega), sx_mem h (y := y + 1) (x := x + 1) (by omega) (by omega)]
  rw [ex1, ex2, ey1, ey2]
theorem nxK_mem (h : Sq l room 1 n S) {y x : Nat} (hy : 1 ≤ y ∧ y < 3) (hx : 1 ≤ x ∧ x < 3) : nxK l n y x = if ((x : Int) - 2, (y : Int) - 2) ∈ Cel.nextL S then 1 else 0 := by
  unfold nxK
  rw [aboutK_nbr h hy hx, sx_mem h (by omega) (by omega)]
  have hd : decide ((if ((x : Int) - 2, (y : Int) - 2) ∈ S then 1 else 0) = 1) = decide (((x : Int) - 2, (y : Int) - 2) ∈ S) := by
    by_cases hs : ((x : Int) - 2, (y : Int) - 2) ∈ S <;> simp [hs]
  rw [hd]
  have hm := Cel.mem_nextL S ((x : Int) - 2, (y : Int) - 2)
  unfold Cel.aliveB at hm
  by_cases hs : ((x : Int) - 2, (y : Int) - 2) ∈ Cel.nextL S
  · rw [if_pos hs, if_pos (hm.1 hs)]
  · rw [if_neg hs, if_neg (fun q => hs (hm.2 q))]
/-- what a step makes stands for what stands in the middle behind a generation -/
theorem Sq.step (h : Sq l room 1 n S) (hm : Right6 m room) (hp : Is m 1 p) (hk : (m.getD p deadN).2.1 = stepK l n) : Sq m room 0 p (cropL (Cel.nextL S) 0 0 0) := by
  refine ⟨hm, hp, by decide, ?_, fun s hs => (mem_crop.1 hs).2, alive_within fun c hc => ?_⟩
  · refine (Cel.rightB_iff _).2 ⟨?_, fun c hc => inside_in (by decide) (mem_crop.1 hc).2, rises_crop (Cel.rises_nextL _) _ _ _⟩
    have hb : Cel.InBox (-1) 0 (-1) 0 (cropL (Cel.nextL S) 0 0 0) := fun q hq => by
      have := of_decide_eq_true (mem_crop.1 hq).2
      rw [show (2 : Int) ^ 0 = 1 from rfl] at this
      omega
    have := Cel.box_len hb (rises_crop (Cel.rises_nextL _) _ _ _) 2 2 (by decide) (by decide)
    omega
  · obtain ⟨c1, c2, c3, c4⟩ := hc
    rw [show (2 : Int) ^ (0 + 1) = 2 from rfl] at c2 c4
    have hq : q7 0 c = c.2.toNat * 2 + c.1.toNat := by
      unfold q7
      rw [show (2 : Int) ^ 0 = 1 from rfl, Int.ediv_one, Int.ediv_one]
      omega
    have hkid : kidN m p (q7 0 c) = nxK l n (1 + c.2.toNat) (1 + c.1.toNat) := by
      unfold kidN
      rw [hk, kd_stepK l n (q7_lt 0 c), hq, Int.toNat_natCast, show (c.2.toNat * 2 + c.1.toNat) / 2 = c.2.toNat by omega, show (c.2.toNat * 2 + c.1.toNat) % 2 = c.1.toNat by omega]
    show decide (kidN m p (q7 0 c) = 1) = _
    rw [hkid, nxK_mem h (by omega) (by omega)]
    have e1 : (((1 + c.1.toNat : Nat) : Int) - 2, ((1 + c.2.toNat : Nat) : Int) - 2) = (c.1 - 1, c.2 - 1) := Prod.ext (by simp only; omega) (by simp only; omega)
    rw [e1, Bool.eq_iff_iff, List.any_eq_true, decide_eq_true_iff]
    have hin : insideB 0 (c.1 - 1, c.2 - 1) = true := by
      unfold insideB
      rw [show (2 : Int) ^ 0 = 1 from rfl]
      exact decide_eq_true (by simp only; omega)
    have hcs : InSq 1 c := by unfold InSq; rw [show (2 : Int) ^ 1 = 2 from rfl]; exact ⟨c1, c2, c3, c4⟩
    constructor
    · intro hh
      by_cases hs : (c.1 - 1, c.2 - 1) ∈ Cel.nextL S
      · refine ⟨inwardC 0 (c.1 - 1, c.2 - 1), List.mem_map_of_mem (mem_crop.2 ⟨by simpa using hs, hin⟩), ?_⟩
        have : inwardC 0 (c.1 - 1, c.2 - 1) = c := by
          unfold inwardC
          rw [show (2 : Int) ^ 0 = 1 from rfl]
          exact Prod.ext (by simp only; omega) (by simp only; omega)
        rw [this]
        exact agree_iff.2 (Agree.refl _ _)
      · rw [if_neg hs] at hh; cases hh
    · rintro ⟨t, ht, hta⟩
      obtain ⟨s, hs, rfl⟩ := List.mem_map.1 ht
      obtain ⟨hs1, hs2⟩ := mem_crop.1 hs
      have heq := agree_ext (inside_sq hs2) hcs (agree_iff.1 hta)
      have q1 : s.1 + 2 ^ 0 = c.1 := by rw [← heq]; rfl
      have q2 : s.2 + 2 ^ 0 = c.2 := by rw [← heq]; rfl
      rw [show (2 : Int) ^ 0 = 1 from rfl] at q1 q2
      have : (c.1 - 1, c.2 - 1) = (s.1 + 0, s.2 + 0) := Prod.ext (by simp only; omega) (by simp only; omega)
      rw [if_pos (by rw [this]; exact hs1)]
end
end Go.Proofs.Ytikgnjcjbjafaaa
