/-
  Plain mathematics of layer 2: how many are alive behind a generation.
-/
import Derived.Test.YtafoleafhkadiaaDm
namespace Go.Proofs.Ytafoleafhkadiaa

theorem nbB_self (p : Int × Int) : nbB p p = false := by simp [nbB]
theorem nbr_le (l : List (Int × Int)) (p : Int × Int) : nbr l p ≤ l.length := List.countP_le_length
theorem nbr_lt {l : List (Int × Int)} {p : Int × Int} (h : p ∈ l) : nbr l p < l.length := by
  unfold nbr
  rcases Nat.lt_or_ge (l.countP fun c => nbB c p) l.length with h1 | h1
  · exact h1
  · have h2 := List.countP_eq_length.1 (Nat.le_antisymm List.countP_le_length h1) p h
    rw [nbB_self] at h2
    cases h2
/-- What has fewer than three cells is dead behind a generation. -/
theorem next_few {l : List (Int × Int)} (h : l.length ≤ 2) : nextL l = [] := by
  rw [List.eq_nil_iff_forall_not_mem]
  intro p hp
  have ha := (mem_nextL l p).1 hp
  have h1 := nbr_le l p
  simp only [aliveB, livesB, Bool.or_eq_true, Bool.and_eq_true, decide_eq_true_eq] at ha
  rcases ha with h3 | ⟨h2, h3⟩
  · omega
  · have := nbr_lt h2
    omega

/-! ### a set that is a third, at least, of what comes of it -/
def inNine (c p : Int × Int) : Bool := decide (-1 ≤ c.1 - p.1 ∧ c.1 - p.1 ≤ 1 ∧ -1 ≤ c.2 - p.2 ∧ c.2 - p.2 ≤ 1)
theorem sum_countP_swap {α β : Type} (R : α → β → Bool) (l : List α) (m : List β) : (m.map fun p => l.countP fun c => R c p).sum = (l.map fun c => m.countP fun p => R c p).sum := by
  induction m with
  | nil => induction l with
    | nil => rfl
    | cons c l ih => simpa using ih
  | cons p m ih =>
    rw [List.map_cons, List.sum_cons, ih]
    clear ih
    induction l with
    | nil => rfl
    | cons c l ih =>
      rw [List.map_cons, List.map_cons, List.sum_cons, List.sum_cons, List.countP_cons, ← ih, List.countP_cons]
      omega
theorem three_le {l : List (Int × Int)} {p : Int × Int} (h : aliveB l p = true) : 3 ≤ l.countP fun c => inNine c p := by
  simp only [aliveB, livesB, Bool.or_eq_true, Bool.and_eq_true, decide_eq_true_eq] at h
  have hmono : nbr l p ≤ l.countP fun c => inNine c p := by
    unfold nbr
    refine List.countP_mono_left fun c _ hc => ?_
    simp only [nbB, decide_eq_true_eq] at hc
    simp only [inNine, decide_eq_true_eq]
    omega
  rcases h with h3 | ⟨h2, h3⟩
  · omega
  · have hlt : nbr l p + 1 ≤ l.countP fun c => inNine c p := by
      clear hmono h3
      unfold nbr
      induction l with
      | nil => cases h2
      | cons c l ih =>
        simp only [List.countP_cons]
        by_cases e : c = p
        · subst e
          have h1 : nbB c c = false := nbB_self c
          have h3 : inNine c c = true := by simp [inNine]
          have hm : (l.countP fun d => nbB d c) ≤ l.countP fun d => inNine d c := List.countP_mono_left fun d _ hd => by
            simp only [nbB, decide_eq_true_eq] at hd
            simp only [inNine, decide_eq_true_eq]
            omega
          simp only [h1, h3, if_true]
          simp
          omega
        · have hmem : p ∈ l := by
            rcases List.mem_cons.1 h2 with h2 | h2
            · exact absurd h2.symm e
            · exact h2
          have := ih hmem
          have hc : nbB c p = true → inNine c p = true := fun hc => by
            simp only [nbB, decide_eq_true_eq] at hc
            simp only [inNine, decide_eq_true_eq]
            omega
          by_cases h4 : nbB c p = true
          · rw [if_pos h4, if_pos (hc h4)]; omega
          · rw [if_neg h4]; omega
    omega
theorem sum_le_mul {α : Type} (f : α → Nat) (b : Nat) (l : List α) (h : ∀ x ∈ l, f x ≤ b) : (l.map f).sum ≤ b * l.length := by
  induction l with
  | nil => simp
  | cons x l ih =>
    have h1 := h x (by simp)
    have h2 := ih fun y hy => h y (by simp [hy])
    simp only [List.map_cons, List.sum_cons, List.length_cons, Nat.mul_succ]
    omega
theorem mul_le_sum {α : Type} (f : α → Nat) (b : Nat) (l : List α) (h : ∀ x ∈ l, b ≤ f x) : b * l.length ≤ (l.map f).sum := by
  induction l with
  | nil => simp
  | cons x l ih =>
    have h1 := h x (by simp)
    have h2 := ih fun y hy => h y (by simp [hy])
    simp only [List.map_cons, List.sum_cons, List.length_cons, Nat.mul_succ]
    omega
theorem next_third (l : List (Int × Int)) : (nextL l).length ≤ 3 * l.length := by
  have h1 := mul_le_sum (fun p => l.countP fun c => inNine c p) 3 (nextL l) fun p hp => three_le ((mem_nextL l p).1 hp)
  rw [sum_countP_swap] at h1
  have h2 := sum_le_mul (fun c => (nextL l).countP fun p => inNine c p) 9 l fun c _ => by
    rw [List.countP_eq_length_filter]
    have := length_le_of_subset ((nextL l).filter fun p => inNine c p) (nine c) ((rises_nodup (rises_nextL l)).filter _) fun y hy => (mem_nine c y).2 (by simpa [inNine] using (List.mem_filter.1 hy).2)
    simpa [nine] using this
  omega

end Go.Proofs.Ytafoleafhkadiaa
