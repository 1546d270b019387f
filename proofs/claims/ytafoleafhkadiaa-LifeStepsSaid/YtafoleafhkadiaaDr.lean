/-
  Plain mathematics of layer 2: sets that are far apart; how far a set can grow along the diagonals.
-/
import Derived.Test.YtafoleafhkadiaaDp
namespace Go.Proofs.Ytafoleafhkadiaa

/-- cells put into a set, one by one -/
def unL (l m : List (Int × Int)) : List (Int × Int) := m.foldl (fun s c => putL c s) l
theorem rises_unL {l : List (Int × Int)} (h : Rises l) (m : List (Int × Int)) : Rises (unL l m) := (foldl_putL m l h).1
theorem mem_unL {l : List (Int × Int)} (h : Rises l) (m : List (Int × Int)) (y : Int × Int) : y ∈ unL l m ↔ y ∈ m ∨ y ∈ l := (foldl_putL m l h).2 y
theorem unL_nil (l : List (Int × Int)) : unL l [] = l := rfl
theorem unL_to {l m : List (Int × Int)} {j : Nat} (hj : j < m.length) : unL l (m.take (j + 1)) = putL (m.getD j (0, 0)) (unL l (m.take j)) := by
  unfold unL; rw [take_snoc hj, List.foldl_append]; rfl
theorem length_unL (l m : List (Int × Int)) : (unL l m).length ≤ m.length + l.length := length_foldl_putL m l
theorem unL_comm {l m : List (Int × Int)} (hl : Rises l) (hm : Rises m) : unL l m = unL m l :=
  rises_ext (rises_unL hl m) (rises_unL hm l) fun y => by rw [mem_unL hl, mem_unL hm]; exact Or.comm

/-- l lies so far to the left of m -/
def Gap (g : Int) (l m : List (Int × Int)) : Prop := ∀ c ∈ l, ∀ d ∈ m, c.1 + g ≤ d.1
theorem gap_perm {g : Int} {l m : List (Int × Int)} (hl : Rises l) (hm : Rises m) (h : Gap g l m) (hg : 1 ≤ g) : (unL l m).Perm (l ++ m) := by
  have hn : (l ++ m).Nodup := by
    rw [List.nodup_append]
    refine ⟨rises_nodup hl, rises_nodup hm, fun c hc d hd e => ?_⟩
    have := h c hc d hd
    rw [e] at this
    omega
  rw [List.perm_ext_iff_of_nodup (rises_nodup (rises_unL hl m)) hn]
  intro y
  rw [mem_unL hl, List.mem_append]
  exact Or.comm
theorem nbr_unL {g : Int} {l m : List (Int × Int)} (hl : Rises l) (hm : Rises m) (h : Gap g l m) (hg : 1 ≤ g) (p : Int × Int) : nbr (unL l m) p = nbr l p + nbr m p := by
  unfold nbr
  rw [(gap_perm hl hm h hg).countP_eq, List.countP_append]
theorem nbr_zero {l : List (Int × Int)} {p : Int × Int} (h : p ∉ cand l) : nbr l p = 0 ∧ p ∉ l ∧ aliveB l p = false := by
  refine ⟨?_, fun hp => h ((mem_cand l p).2 ⟨p, hp, by omega⟩), ?_⟩
  · unfold nbr
    rw [List.countP_eq_zero]
    intro c hc hn
    simp only [nbB, decide_eq_true_eq] at hn
    exact h ((mem_cand l p).2 ⟨c, hc, by omega⟩)
  · rw [Bool.eq_false_iff]
    exact fun ha => h (alive_cand ha)
/-- What is far apart does not touch. -/
theorem next_unL {l m : List (Int × Int)} (hl : Rises l) (hm : Rises m) (h : Gap 3 l m) : nextL (unL l m) = unL (nextL l) (nextL m) := by
  refine rises_ext (rises_nextL _) (rises_unL (rises_nextL l) _) fun p => ?_
  rw [mem_unL (rises_nextL l), mem_nextL, mem_nextL, mem_nextL]
  have hnb := nbr_unL hl hm h (by decide) p
  by_cases hp : p ∈ cand l
  · have hm0 : p ∉ cand m := fun hpm => by
      obtain ⟨c, hc, h1⟩ := (mem_cand l p).1 hp
      obtain ⟨d, hd, h2⟩ := (mem_cand m p).1 hpm
      have := h c hc d hd
      omega
    obtain ⟨z1, z2, z3⟩ := nbr_zero hm0
    have e : aliveB (unL l m) p = aliveB l p := by
      unfold aliveB
      rw [hnb, z1, Nat.add_zero]
      congr 1
      rw [Bool.eq_iff_iff, decide_eq_true_eq, decide_eq_true_eq, mem_unL hl]
      exact ⟨fun h => h.resolve_left z2, .inr⟩
    rw [e, z3]
    simp
  · obtain ⟨z1, z2, z3⟩ := nbr_zero hp
    have e : aliveB (unL l m) p = aliveB m p := by
      unfold aliveB
      rw [hnb, z1, Nat.zero_add]
      congr 1
      rw [Bool.eq_iff_iff, decide_eq_true_eq, decide_eq_true_eq, mem_unL hl]
      exact ⟨fun h => h.resolve_right z2, .inl⟩
    rw [e, z3]
    simp
theorem iter_unL {l m : List (Int × Int)} (hl : Rises l) (hm : Rises m) {b a c d a' b' c' d' : Int} (hbl : InBox a b c d l) (hbm : InBox a' b' c' d' m) (n : Nat) (hgap : b + 2 * n + 1 ≤ a') : iterL n (unL l m) = unL (iterL n l) (iterL n m) := by
  induction n with
  | zero => rfl
  | succ n ih =>
    rw [iterL_succ, iterL_succ, iterL_succ, ih (by push_cast at hgap; omega)]
    refine next_unL (rises_iterL hl n) (rises_iterL hm n) fun p hp q hq => ?_
    have h1 := iter_box hbl n p hp
    have h2 := iter_box hbm n q hq
    push_cast at hgap
    omega

/-! ### along a diagonal a set grows by one cell in two generations -/
def Diag (c : Int) (l : List (Int × Int)) : Prop := ∀ p ∈ l, p.1 + p.2 ≤ c
theorem nine_sub {l : List (Int × Int)} (hs : Rises l) {p : Int × Int} (m : List (Int × Int)) (h : ∀ c ∈ l, inNine c p = true → c ∈ m) : (l.countP fun c => inNine c p) ≤ m.length := by
  rw [List.countP_eq_length_filter]
  refine length_le_of_subset _ _ ((rises_nodup hs).filter _) fun y hy => ?_
  obtain ⟨h1, h2⟩ := List.mem_filter.1 hy
  exact h y h1 h2
theorem diag_one {c : Int} {l : List (Int × Int)} (hs : Rises l) (h : Diag c l) {x y : Int} (hp : (x, y) ∈ nextL l) : x + y ≤ c + 1 ∧ (x + y = c + 1 → (x - 1, y - 1) ∈ l ∧ (x - 1, y) ∈ l ∧ (x, y - 1) ∈ l) := by
  have h3 := three_le ((mem_nextL l _).1 hp)
  have hle : x + y ≤ c + 1 := by
    rcases Int.lt_or_le (c + 1) (x + y) with h1 | h1
    · have := nine_sub hs (p := (x, y)) [(x - 1, y - 1)] fun d hd hn => by
        obtain ⟨a, b⟩ := d
        have hd' := h _ hd
        simp only [inNine, decide_eq_true_eq] at hn hd'
        simp only [List.mem_singleton, Prod.mk.injEq]
        omega
      simp only [List.length_singleton] at this
      omega
    · exact h1
  refine ⟨hle, fun he => ?_⟩
  have key : ∀ q r s : Int × Int, (∀ d ∈ l, inNine d (x, y) = true → d = q ∨ d = r ∨ d = s) → q ∈ l := fun q r s hd => by
    refine Decidable.byContradiction fun hq => ?_
    have := nine_sub hs (p := (x, y)) [r, s] fun d hdl hn => by
      rcases hd d hdl hn with e | e | e
      · exact absurd (e ▸ hdl) hq
      · simp [e]
      · simp [e]
    simp only [List.length_cons, List.length_nil] at this
    omega
  have base : ∀ d ∈ l, inNine d (x, y) = true → d = (x - 1, y - 1) ∨ d = (x - 1, y) ∨ d = (x, y - 1) := fun d hd hn => by
    obtain ⟨a, b⟩ := d
    have hd' := h _ hd
    simp only [inNine, decide_eq_true_eq] at hn hd'
    simp only [Prod.mk.injEq]
    omega
  have r2 : ∀ d ∈ l, inNine d (x, y) = true → d = (x - 1, y) ∨ d = (x - 1, y - 1) ∨ d = (x, y - 1) := fun d hd hn => by
    rcases base d hd hn with e | e | e
    · exact .inr (.inl e)
    · exact .inl e
    · exact .inr (.inr e)
  have r3 : ∀ d ∈ l, inNine d (x, y) = true → d = (x, y - 1) ∨ d = (x - 1, y - 1) ∨ d = (x - 1, y) := fun d hd hn => by
    rcases base d hd hn with e | e | e
    · exact .inr (.inl e)
    · exact .inr (.inr e)
    · exact .inl e
  exact ⟨key _ _ _ base, key _ _ _ r2, key _ _ _ r3⟩
theorem diag_two {c : Int} {l : List (Int × Int)} (hs : Rises l) (h : Diag c l) : Diag (c + 1) (nextL (nextL l)) := by
  have h1 : Diag (c + 1) (nextL l) := fun p hp => (diag_one hs h (x := p.1) (y := p.2) hp).1
  rintro ⟨x, y⟩ hp
  obtain ⟨hle, heq⟩ := diag_one (rises_nextL l) h1 hp
  rcases Int.lt_or_le (x + y) (c + 1 + 1) with hlt | hge
  · simp only; omega
  · exfalso
    obtain ⟨q0, q1, q2⟩ := heq (by omega)
    obtain ⟨r0, r1, r2⟩ := (diag_one hs h q1).2 (by omega)
    obtain ⟨s0, s1, s2⟩ := (diag_one hs h q2).2 (by omega)
    have ha := (mem_nextL l _).1 q0
    have hn : 4 ≤ nbr l (x - 1, y - 1) := by
      have hsub := length_le_of_subset [(x - 1 - 1, y - 1), (x - 1 - 1, y), (x - 1, y - 1 - 1), (x, y - 1 - 1)] (l.filter fun d => nbB d (x - 1, y - 1)) (by
        simp only [List.nodup_cons, List.mem_cons, List.not_mem_nil, or_false, Prod.mk.injEq, List.nodup_nil, and_true, not_or, not_false_eq_true]
        omega) (by
        intro d hd
        simp only [List.mem_cons, List.not_mem_nil, or_false] at hd
        rw [List.mem_filter]
        rcases hd with rfl | rfl | rfl | rfl
        · exact ⟨r0, by simp only [nbB, decide_eq_true_eq, ne_eq, Prod.mk.injEq]; omega⟩
        · exact ⟨r1, by simp only [nbB, decide_eq_true_eq, ne_eq, Prod.mk.injEq]; omega⟩
        · exact ⟨s0, by simp only [nbB, decide_eq_true_eq, ne_eq, Prod.mk.injEq]; omega⟩
        · exact ⟨s2, by simp only [nbB, decide_eq_true_eq, ne_eq, Prod.mk.injEq]; omega⟩)
      unfold nbr
      rw [List.countP_eq_length_filter]
      exact hsub
    simp only [aliveB, livesB, Bool.or_eq_true, Bool.and_eq_true, decide_eq_true_eq] at ha
    omega
theorem diag_iter {c : Int} {l : List (Int × Int)} (hs : Rises l) (h : Diag c l) (n : Nat) : Diag (c + (n : Int)) (iterL (2 * n) l) ∧ Diag (c + (n : Int) + 1) (iterL (2 * n + 1) l) := by
  have step : ∀ n : Nat, Diag (c + (n : Int)) (iterL (2 * n) l) → Diag (c + (n : Int) + 1) (iterL (2 * n + 1) l) := fun n hn => by
    rw [iterL_succ]
    exact fun p hp => (diag_one (rises_iterL hs _) hn (x := p.1) (y := p.2) hp).1
  induction n with
  | zero => exact ⟨by simpa [iterL] using h, step 0 (by simpa [iterL] using h)⟩
  | succ n ih =>
    have e : Diag (c + ((n + 1 : Nat) : Int)) (iterL (2 * (n + 1)) l) := by
      rw [show 2 * (n + 1) = 2 * n + 1 + 1 by omega, iterL_succ, iterL_succ]
      have := diag_two (rises_iterL hs _) ih.1
      intro p hp
      have := this p hp
      push_cast
      omega
    exact ⟨e, step _ e⟩
theorem diag_to {c : Int} {l : List (Int × Int)} (hs : Rises l) (h : Diag c l) {n : Nat} (hn : n ≤ 12) : Diag (c + 6) (iterL n l) := by
  have hh := diag_iter hs h (n / 2)
  rcases Nat.mod_two_eq_zero_or_one n with e | e
  · have e2 : 2 * (n / 2) = n := by omega
    rw [e2] at hh
    intro p hp
    have := hh.1 p hp
    omega
  · have e2 : 2 * (n / 2) + 1 = n := by omega
    rw [e2] at hh
    intro p hp
    have := hh.2 p hp
    omega
/-- .. and turned -/
theorem diag_turn {f : Int × Int → Int × Int} (hf : Iso f) {c : Int} {l : List (Int × Int)} (hs : Rises l) (h : ∀ p ∈ l, (f p).1 + (f p).2 ≤ c) {n : Nat} (hn : n ≤ 12) : ∀ p ∈ iterL n l, (f p).1 + (f p).2 ≤ c + 6 := by
  have hd : Diag c (setL (l.map f)) := fun q hq => by
    obtain ⟨p, hp, rfl⟩ := List.mem_map.1 ((mem_setL _ _).1 hq)
    exact h p hp
  have := diag_to (rises_setL _) hd hn
  rw [iter_map hf hs] at this
  intro p hp
  exact this (f p) ((mem_setL _ _).2 (List.mem_map.2 ⟨p, hp, rfl⟩))

def octB (p : Int × Int) : Bool := decide (p.1 + p.2 ≤ 20 ∧ p.1 - p.2 ≤ 21 ∧ -p.1 - p.2 ≤ 22 ∧ p.2 - p.1 ≤ 21)
theorem oct_len : ((boxL (-20) (-20) 40 40).filter octB).length = 916 := by decide +kernel
/-- From a square of sixteen cells a side: at most so many cells in twelve generations. -/
theorem oct_iter {l : List (Int × Int)} (hs : Rises l) (h : InBox (-8) 7 (-8) 7 l) {n : Nat} (hn : n ≤ 12) : (iterL n l).length ≤ 916 := by
  rw [← oct_len]
  refine length_le_of_subset _ _ (rises_nodup (rises_iterL hs n)) fun p hp => List.mem_filter.2 ⟨mem_boxL ?_, ?_⟩
  · have := iter_box h n p hp
    omega
  · have h1 := diag_turn iso_id hs (c := 14) (fun p hp => by have := h p hp; simp only [id]; omega) hn p hp
    have h2 := diag_turn (iso_rotN 1) hs (c := 15) (fun p hp => by have := h p hp; simp only [rotN, rot]; omega) hn p hp
    have h3 := diag_turn (iso_rotN 2) hs (c := 16) (fun p hp => by have := h p hp; simp only [rotN, rot]; omega) hn p hp
    have h4 := diag_turn (iso_rotN 3) hs (c := 15) (fun p hp => by have := h p hp; simp only [rotN, rot]; omega) hn p hp
    simp only [rotN, rot, id] at h1 h2 h3 h4
    simp only [octB, decide_eq_true_eq]
    omega

end Go.Proofs.Ytafoleafhkadiaa
