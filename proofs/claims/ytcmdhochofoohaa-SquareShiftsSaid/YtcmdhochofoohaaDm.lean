/-
  Plain mathematics of layer 2: a generation of a set, as a list that rises; what Of answers; generations one behind the other.
-/
import Derived.Test.YtcmdhochofoohaaB10
namespace Go.Proofs.Ytcmdhochofoohaa.Cel

theorem inB_bd {p : Int × Int} (h : inB p = true) : -1099511627776 ≤ p.1 ∧ p.1 ≤ 1099511627776 ∧ -1099511627776 ≤ p.2 ∧ p.2 ≤ 1099511627776 := by simpa [inB] using h
theorem setL_ext {l m : List (Int × Int)} (h : ∀ y, y ∈ l ↔ y ∈ m) : setL l = setL m :=
  rises_ext (rises_setL l) (rises_setL m) fun y => by rw [mem_setL, mem_setL]; exact h y

/-- whether p is a neighbour of c -/
def nbB (c p : Int × Int) : Bool := decide (-1 ≤ c.1 - p.1 ∧ c.1 - p.1 ≤ 1 ∧ -1 ≤ c.2 - p.2 ∧ c.2 - p.2 ≤ 1 ∧ c ≠ p)
def nbr (l : List (Int × Int)) (p : Int × Int) : Nat := l.countP fun c => nbB c p
def livesB (a : Bool) (n : Int) : Bool := decide (n = 3) || (a && decide (n = 2))
/-- alive behind a generation -/
def aliveB (l : List (Int × Int)) (p : Int × Int) : Bool := livesB (decide (p ∈ l)) (nbr l p)
/-- a cell and its neighbours, row by row -/
def nine (c : Int × Int) : List (Int × Int) :=
  [(c.1 - 1, c.2 - 1), (c.1, c.2 - 1), (c.1 + 1, c.2 - 1), (c.1 - 1, c.2), (c.1, c.2), (c.1 + 1, c.2), (c.1 - 1, c.2 + 1), (c.1, c.2 + 1), (c.1 + 1, c.2 + 1)]
def cand (l : List (Int × Int)) : List (Int × Int) := l.flatMap nine
def nextL (l : List (Int × Int)) : List (Int × Int) := setL ((cand l).filter fun p => aliveB l p)

theorem mem_nine (c p : Int × Int) : p ∈ nine c ↔ -1 ≤ c.1 - p.1 ∧ c.1 - p.1 ≤ 1 ∧ -1 ≤ c.2 - p.2 ∧ c.2 - p.2 ≤ 1 := by
  obtain ⟨a, b⟩ := c
  obtain ⟨x, y⟩ := p
  simp only [nine, List.mem_cons, List.not_mem_nil, or_false, Prod.mk.injEq]
  omega
theorem mem_cand (l : List (Int × Int)) (p : Int × Int) : p ∈ cand l ↔ ∃ c ∈ l, -1 ≤ c.1 - p.1 ∧ c.1 - p.1 ≤ 1 ∧ -1 ≤ c.2 - p.2 ∧ c.2 - p.2 ≤ 1 := by
  unfold cand
  rw [List.mem_flatMap]
  constructor
  · rintro ⟨c, hc, h⟩; exact ⟨c, hc, (mem_nine c p).1 h⟩
  · rintro ⟨c, hc, h⟩; exact ⟨c, hc, (mem_nine c p).2 h⟩
theorem alive_cand {l : List (Int × Int)} {p : Int × Int} (h : aliveB l p = true) : p ∈ cand l := by
  rw [mem_cand]
  by_cases hp : p ∈ l
  · exact ⟨p, hp, by omega⟩
  · have h3 : nbr l p = 3 := by
      simp only [aliveB, livesB, hp, decide_false, Bool.false_and, Bool.or_false, decide_eq_true_eq] at h
      omega
    have hpos : 0 < l.countP fun c => nbB c p := by unfold nbr at h3; omega
    obtain ⟨c, hc, hn⟩ := List.countP_pos_iff.1 hpos
    simp only [nbB, decide_eq_true_eq] at hn
    exact ⟨c, hc, by omega⟩
theorem mem_nextL (l : List (Int × Int)) (p : Int × Int) : p ∈ nextL l ↔ aliveB l p = true := by
  unfold nextL
  rw [mem_setL, List.mem_filter]
  exact ⟨fun h => h.2, fun h => ⟨alive_cand h, h⟩⟩
theorem rises_nextL (l : List (Int × Int)) : Rises (nextL l) := rises_setL _

/-- what Of answers: an error's number, and a list -/
def ofR (l : List (Int × Int)) : Int × List (Int × Int) :=
  if (l.any fun p => !inB p) = true then (2, []) else if 2000 < (setL l).length then (3, []) else (0, setL l)
theorem any_ext {l m : List (Int × Int)} {f : Int × Int → Bool} (h : ∀ y, y ∈ l ↔ y ∈ m) : l.any f = m.any f := by
  rw [Bool.eq_iff_iff, List.any_eq_true, List.any_eq_true]
  constructor
  · rintro ⟨x, hx, e⟩; exact ⟨x, (h x).1 hx, e⟩
  · rintro ⟨x, hx, e⟩; exact ⟨x, (h x).2 hx, e⟩
theorem ofR_ext {l m : List (Int × Int)} (h : ∀ y, y ∈ l ↔ y ∈ m) : ofR l = ofR m := by
  unfold ofR
  rw [any_ext h, setL_ext h]
theorem ofR_len (l : List (Int × Int)) : (ofR l).2.length ≤ 2000 := by
  unfold ofR
  split
  · exact Nat.zero_le _
  · split
    · exact Nat.zero_le _
    · simp only; omega

def nextR (l : List (Int × Int)) : Int × List (Int × Int) := if rightB l = true then ofR (nextL l) else (1, [])
theorem nextR_bad {l : List (Int × Int)} (h : rightB l = false) : nextR l = (1, []) := by unfold nextR; rw [h]; rfl
theorem nextR_yes {l : List (Int × Int)} (h : rightB l = true) : nextR l = ofR (nextL l) := by unfold nextR; rw [if_pos h]
/-- some generations -/
def runR : Nat → List (Int × Int) → Int × List (Int × Int)
  | 0, l => (0, l)
  | n + 1, l => if (nextR l).1 = 0 then runR n (nextR l).2 else (nextR l).1 |> fun e => (e, [])
def runA (l : List (Int × Int)) (n : Int) : Int × List (Int × Int) := if rightB l = true ∧ 0 ≤ n ∧ n ≤ 1000 then runR n.toNat l else (1, [])

theorem nextR_errs (l : List (Int × Int)) : (nextR l).1 = 0 ∨ (nextR l).1 = 1 ∨ (nextR l).1 = 2 ∨ (nextR l).1 = 3 := by
  unfold nextR ofR
  split
  · split
    · simp
    · split <;> simp
  · simp
theorem nextR_err_nil {l : List (Int × Int)} (h : (nextR l).1 ≠ 0) : (nextR l).2 = [] := by
  unfold nextR ofR at *
  split at h <;> rename_i h1
  · split at h <;> rename_i h2
    · rw [if_pos h1, if_pos h2]
    · split at h <;> rename_i h3
      · rw [if_pos h1, if_neg h2, if_pos h3]
      · exact absurd rfl h
  · rw [if_neg h1]
theorem nextR_right {l : List (Int × Int)} (h : (nextR l).1 = 0) : rightB (nextR l).2 = true := by
  unfold nextR ofR at *
  split at h <;> rename_i h1
  · rw [if_pos h1]
    split at h <;> rename_i h2
    · exact absurd h (by decide)
    · rw [if_neg h2]
      split at h <;> rename_i h3
      · exact absurd h (by decide)
      · rw [if_neg h3]
        refine (rightB_iff _).2 ⟨by simp only; omega, fun c hc => ?_, rises_setL _⟩
        have hc' : c ∈ nextL l := (mem_setL _ _).1 hc
        cases hin : inB c
        · exact absurd (List.any_eq_true.2 ⟨c, hc', by rw [hin]; rfl⟩) h2
        · rfl
  · exact absurd h (by decide)
theorem runR_zero (l : List (Int × Int)) : runR 0 l = (0, l) := rfl
theorem runR_succ (n : Nat) (l : List (Int × Int)) : runR (n + 1) l = if (nextR l).1 = 0 then runR n (nextR l).2 else ((nextR l).1, []) := rfl
theorem runR_err {l : List (Int × Int)} (h : (nextR l).1 ≠ 0) (n : Nat) : runR (n + 1) l = ((nextR l).1, []) := by rw [runR_succ, if_neg h]
theorem runR_ok {l : List (Int × Int)} (h : (nextR l).1 = 0) (n : Nat) : runR (n + 1) l = runR n (nextR l).2 := by rw [runR_succ, if_pos h]
theorem runR_add (n m : Nat) (l : List (Int × Int)) (h : (runR n l).1 = 0) : runR (n + m) l = runR m (runR n l).2 := by
  induction n generalizing l with
  | zero => rw [Nat.zero_add]; rfl
  | succ n ih =>
    by_cases h0 : (nextR l).1 = 0
    · rw [runR_ok h0] at h ⊢
      rw [show n + 1 + m = (n + m) + 1 by omega, runR_ok h0]
      exact ih _ h
    · rw [runR_err h0] at h
      exact absurd h h0

/-! ### where a generation reaches -/

/-- a box that holds a list -/
def InBox (a b c d : Int) (l : List (Int × Int)) : Prop := ∀ p ∈ l, a ≤ p.1 ∧ p.1 ≤ b ∧ c ≤ p.2 ∧ p.2 ≤ d
theorem next_box {a b c d : Int} {l : List (Int × Int)} (h : InBox a b c d l) : InBox (a - 1) (b + 1) (c - 1) (d + 1) (nextL l) := by
  intro p hp
  obtain ⟨q, hq, hn⟩ := (mem_cand l p).1 (alive_cand ((mem_nextL l p).1 hp))
  have := h q hq
  omega

theorem length_le_of_subset {α : Type} [DecidableEq α] : ∀ (l m : List α), l.Nodup → (∀ y ∈ l, y ∈ m) → l.length ≤ m.length
  | [], _, _, _ => Nat.zero_le _
  | x :: l, m, hn, h => by
    obtain ⟨h1, h2⟩ := List.nodup_cons.1 hn
    have hx : x ∈ m := h x (by simp)
    have := length_le_of_subset l (m.erase x) h2 fun y hy => by
      have hne : y ≠ x := fun e => h1 (e ▸ hy)
      exact (List.mem_erase_of_ne hne).2 (h y (by simp [hy]))
    rw [List.length_erase_of_mem hx] at this
    have hpos := List.length_pos_of_mem hx
    simp only [List.length_cons]
    omega
theorem rises_nodup {l : List (Int × Int)} (h : Rises l) : l.Nodup := by
  refine List.Pairwise.imp ?_ h
  intro p q hpq e
  rw [e, lessB_irrefl] at hpq
  cases hpq

/-- all cells of a box -/
def boxL (a c : Int) (w h : Nat) : List (Int × Int) := (List.range h).flatMap fun (j : Nat) => (List.range w).map fun (i : Nat) => (a + (i : Int), c + (j : Int))
theorem mem_boxL {a c : Int} {w h : Nat} {p : Int × Int} (h1 : a ≤ p.1 ∧ p.1 < a + w ∧ c ≤ p.2 ∧ p.2 < c + h) : p ∈ boxL a c w h := by
  unfold boxL
  rw [List.mem_flatMap]
  refine ⟨(p.2 - c).toNat, List.mem_range.2 (by omega), List.mem_map.2 ⟨(p.1 - a).toNat, List.mem_range.2 (by omega), ?_⟩⟩
  obtain ⟨x, y⟩ := p
  simp only at h1
  simp only [Prod.mk.injEq]
  omega
theorem length_boxL (a c : Int) (w h : Nat) : (boxL a c w h).length = h * w := by
  unfold boxL
  rw [List.length_flatMap]
  simp only [List.length_map, List.length_range]
  induction h with
  | zero => simp
  | succ h ih => rw [List.range_succ, List.map_append, List.sum_append, ih]; simp [Nat.succ_mul]
theorem box_len {a b c d : Int} {l : List (Int × Int)} (h : InBox a b c d l) (hs : Rises l) (w t : Nat) (hw : b < a + w) (ht : d < c + t) : l.length ≤ t * w := by
  rw [← length_boxL a c w t]
  refine length_le_of_subset _ _ (rises_nodup hs) fun p hp => mem_boxL ?_
  have := h p hp
  omega

/-- A generation within bounds that is not too long is one. -/
theorem nextR_ok {l : List (Int × Int)} (h : rightB l = true) (hin : ∀ p ∈ nextL l, inB p = true) (hl : (nextL l).length ≤ 2000) : nextR l = (0, nextL l) := by
  rw [nextR_yes h]
  unfold ofR
  rw [if_neg, setL_of_rises (rises_nextL l), if_neg (by omega)]
  rw [List.any_eq_true]
  rintro ⟨p, hp, e⟩
  rw [hin p hp] at e
  cases e

/-- generations of lists, without bounds -/
def iterL : Nat → List (Int × Int) → List (Int × Int)
  | 0, l => l
  | n + 1, l => iterL n (nextL l)
theorem iterL_succ (n : Nat) (l : List (Int × Int)) : iterL (n + 1) l = nextL (iterL n l) := by
  induction n generalizing l with
  | zero => rfl
  | succ n ih => exact ih (nextL l)
theorem iterL_add (n m : Nat) (l : List (Int × Int)) : iterL (n + m) l = iterL m (iterL n l) := by
  induction n generalizing l with
  | zero => rw [Nat.zero_add]; rfl
  | succ n ih => rw [show n + 1 + m = (n + m) + 1 by omega]; exact ih (nextL l)
theorem iter_box {a b c d : Int} {l : List (Int × Int)} (h : InBox a b c d l) (n : Nat) : InBox (a - n) (b + n) (c - n) (d + n) (iterL n l) := by
  induction n with
  | zero => intro p hp; have := h p hp; simp; omega
  | succ n ih =>
    rw [iterL_succ]
    have := next_box ih
    intro p hp
    have := this p hp
    push_cast
    omega
theorem rises_iterL {l : List (Int × Int)} (h : Rises l) (n : Nat) : Rises (iterL n l) := by
  cases n with
  | zero => exact h
  | succ n => rw [iterL_succ]; exact rises_nextL _
/-- so many generations, as long as none is too long, nor out of bounds. -/
theorem runR_iter (n : Nat) (l : List (Int × Int)) (h : rightB l = true) (hk : ∀ k, 0 < k → k ≤ n → (∀ p ∈ iterL k l, inB p = true) ∧ (iterL k l).length ≤ 2000) : runR n l = (0, iterL n l) := by
  induction n generalizing l with
  | zero => rfl
  | succ n ih =>
    have h1 := hk 1 (by omega) (by omega)
    have e : nextR l = (0, nextL l) := nextR_ok h h1.1 h1.2
    rw [runR_ok (by rw [e]), e]
    refine ih (nextL l) ((rightB_iff _).2 ⟨h1.2, h1.1, rises_nextL l⟩) fun k h0 hkn => ?_
    exact hk (k + 1) (by omega) (by omega)

end Go.Proofs.Ytcmdhochofoohaa.Cel
