/-
  Plain mathematics of layer 1: how places stand, sets as lists that rise, putting a cell in its place.
-/
import Derived.KernelRfl
namespace Go.Proofs.Ytafoleafhkadiaa

def cmpI (a b : Int) : Int := if a < b then -1 else if b < a then 1 else 0
def orI (a b : Int) : Int := if a = 0 then b else a
/-- how two places stand: by Y first -/
def cmpP (p q : Int × Int) : Int := orI (cmpI p.2 q.2) (cmpI p.1 q.1)
def inB (p : Int × Int) : Bool := decide (-1099511627776 ≤ p.1 ∧ p.1 ≤ 1099511627776 ∧ -1099511627776 ≤ p.2 ∧ p.2 ≤ 1099511627776)
def lessB (p q : Int × Int) : Bool := decide (p.2 < q.2 ∨ p.2 = q.2 ∧ p.1 < q.1)
def pickI (c n : Int) : Int := if c < 0 then (-(c + 1)) % n else c % n

theorem pickI_bd (c n : Int) (hn : 1 ≤ n) : 0 ≤ pickI c n ∧ pickI c n < n := by
  unfold pickI
  split
  · exact ⟨Int.emod_nonneg _ (by omega), Int.emod_lt_of_pos _ (by omega)⟩
  · exact ⟨Int.emod_nonneg _ (by omega), Int.emod_lt_of_pos _ (by omega)⟩

theorem lessB_iff (p q : Int × Int) : lessB p q = true ↔ (p.2 < q.2 ∨ p.2 = q.2 ∧ p.1 < q.1) := by simp [lessB]
theorem cmpP_neg (p q : Int × Int) : cmpP p q < 0 ↔ lessB p q = true := by
  rw [lessB_iff]
  unfold cmpP orI cmpI
  by_cases h1 : p.2 < q.2
  · simp [h1]
  · by_cases h2 : q.2 < p.2
    · simp [h1, h2]; omega
    · have h3 : p.2 = q.2 := by omega
      by_cases h4 : p.1 < q.1
      · simp [h1, h2, h4, h3]
      · by_cases h5 : q.1 < p.1 <;> simp [h1, h2, h4, h5, h3]
theorem cmpP_zero (p q : Int × Int) : cmpP p q = 0 ↔ p = q := by
  obtain ⟨a, b⟩ := p
  obtain ⟨c, d⟩ := q
  unfold cmpP orI cmpI
  by_cases h1 : b < d
  · simp [h1]; omega
  · by_cases h2 : d < b
    · simp [h1, h2]; omega
    · by_cases h4 : a < c
      · simp [h1, h2, h4]; omega
      · by_cases h5 : c < a
        · simp [h1, h2, h4, h5]; omega
        · simp [h1, h2, h4, h5]; omega
theorem lessB_irrefl (p : Int × Int) : lessB p p = false := by simp [lessB]
theorem lessB_trans {p q r : Int × Int} (h1 : lessB p q = true) (h2 : lessB q r = true) : lessB p r = true := by
  rw [lessB_iff] at *; omega
theorem lessB_asymm {p q : Int × Int} (h1 : lessB p q = true) : lessB q p = false := by
  rw [Bool.eq_false_iff]; intro h2; rw [lessB_iff] at *; omega
theorem lessB_total {p q : Int × Int} (h : p ≠ q) (h1 : lessB p q = false) : lessB q p = true := by
  rw [Bool.eq_false_iff, ne_eq, lessB_iff] at h1
  rw [lessB_iff]
  obtain ⟨a, b⟩ := p
  obtain ⟨c, d⟩ := q
  simp only [ne_eq, Prod.mk.injEq, not_and] at h h1 ⊢
  by_cases e : a = c
  · have := h e; omega
  · omega
theorem lessB_ne {p q : Int × Int} (h : lessB p q = true) : p ≠ q := by
  intro e; subst e; rw [lessB_irrefl] at h; cases h

/-- A list that rises. -/
def Rises (l : List (Int × Int)) : Prop := l.Pairwise fun p q => lessB p q = true

/-- The document's answer puts a cell into a list so. -/
def putL (c : Int × Int) : List (Int × Int) → List (Int × Int)
  | [] => [c]
  | x :: r => if x = c ∨ lessB c x = true then c :: (x :: r).filter (fun y => decide (y ≠ c)) else x :: putL c r

theorem mem_putL (c y : Int × Int) (l : List (Int × Int)) : y ∈ putL c l ↔ y = c ∨ y ∈ l := by
  induction l with
  | nil => simp [putL]
  | cons x r ih =>
    unfold putL
    split
    · simp only [List.mem_cons, List.mem_filter, decide_eq_true_eq]
      constructor
      · rintro (h | ⟨h, _⟩)
        · exact .inl h
        · exact .inr h
      · rintro (h | h)
        · exact .inl h
        · by_cases e : y = c
          · exact .inl e
          · exact .inr ⟨h, e⟩
    · simp only [List.mem_cons, ih]
      constructor
      · rintro (h | h | h)
        · exact .inr (.inl h)
        · exact .inl h
        · exact .inr (.inr h)
      · rintro (h | h | h)
        · exact .inr (.inl h)
        · exact .inl h
        · exact .inr (.inr h)

theorem rises_putL (c : Int × Int) {l : List (Int × Int)} (h : Rises l) : Rises (putL c l) := by
  induction l with
  | nil => exact List.pairwise_singleton _ _
  | cons x r ih =>
    have hx := List.pairwise_cons.1 h
    unfold putL
    split
    · rename_i hc
      refine List.pairwise_cons.2 ⟨fun y hy => ?_, h.filter _⟩
      simp only [List.mem_filter, decide_eq_true_eq] at hy
      rcases List.mem_cons.1 hy.1 with e | hyr
      · subst e
        rcases hc with e | hc
        · exact absurd e hy.2
        · exact hc
      · have h1 := hx.1 y hyr
        rcases hc with e | hc
        · subst e; exact h1
        · exact lessB_trans hc h1
    · rename_i hc
      refine List.pairwise_cons.2 ⟨fun y hy => ?_, ih hx.2⟩
      rw [mem_putL] at hy
      rcases hy with e | hy
      · subst e
        have h1 : x ≠ y := fun e => hc (.inl e)
        refine lessB_total (fun e => h1 e.symm) ?_
        rw [Bool.eq_false_iff]
        exact fun e => hc (.inr e)
      · exact hx.1 y hy

theorem length_putL_le (c : Int × Int) (l : List (Int × Int)) : (putL c l).length ≤ l.length + 1 := by
  induction l with
  | nil => simp [putL]
  | cons x r ih =>
    unfold putL
    split
    · simp only [List.length_cons]
      have := List.length_filter_le (fun y => decide (y ≠ c)) (x :: r)
      simp only [List.length_cons] at this
      omega
    · simp only [List.length_cons]; omega

/-- Two lists that rise and have the same cells are the same. -/
theorem rises_ext {l m : List (Int × Int)} (hl : Rises l) (hm : Rises m) (h : ∀ y, y ∈ l ↔ y ∈ m) : l = m := by
  induction l generalizing m with
  | nil =>
    cases m with
    | nil => rfl
    | cons b m => exact absurd ((h b).2 (List.mem_cons_self ..)) (by simp)
  | cons a l ih =>
    cases m with
    | nil => exact absurd ((h a).1 (List.mem_cons_self ..)) (by simp)
    | cons b m =>
      have ha := List.pairwise_cons.1 hl
      have hb := List.pairwise_cons.1 hm
      have e : a = b := by
        have h1 := (h a).1 (List.mem_cons_self ..)
        have h2 := (h b).2 (List.mem_cons_self ..)
        rcases List.mem_cons.1 h1 with e | h1
        · exact e
        · rcases List.mem_cons.1 h2 with e | h2
          · exact e.symm
          · have := lessB_asymm (hb.1 a h1)
            rw [ha.1 b h2] at this
            cases this
      subst e
      congr 1
      refine ih ha.2 hb.2 fun y => ?_
      have hy := h y
      simp only [List.mem_cons] at hy
      constructor
      · intro hyl
        rcases hy.1 (.inr hyl) with e | h'
        · exact absurd (ha.1 y hyl) (by rw [e, lessB_irrefl]; simp)
        · exact h'
      · intro hym
        rcases hy.2 (.inr hym) with e | h'
        · exact absurd (hb.1 y hym) (by rw [e, lessB_irrefl]; simp)
        · exact h'

/-- The set of a list's cells. -/
def setL (l : List (Int × Int)) : List (Int × Int) := l.foldl (fun s c => putL c s) []

theorem foldl_putL (l s : List (Int × Int)) (hs : Rises s) : Rises (l.foldl (fun s c => putL c s) s) ∧ ∀ y, y ∈ l.foldl (fun s c => putL c s) s ↔ y ∈ l ∨ y ∈ s := by
  induction l generalizing s with
  | nil => simp [hs]
  | cons c l ih =>
    obtain ⟨h1, h2⟩ := ih (putL c s) (rises_putL c hs)
    refine ⟨h1, fun y => ?_⟩
    rw [List.foldl_cons, h2 y, mem_putL, List.mem_cons]
    constructor
    · rintro (h | h | h)
      · exact .inl (.inr h)
      · exact .inl (.inl h)
      · exact .inr h
    · rintro ((h | h) | h)
      · exact .inr (.inl h)
      · exact .inl h
      · exact .inr (.inr h)
theorem rises_setL (l : List (Int × Int)) : Rises (setL l) := (foldl_putL l [] List.Pairwise.nil).1
theorem mem_setL (l : List (Int × Int)) (y : Int × Int) : y ∈ setL l ↔ y ∈ l := by rw [setL, (foldl_putL l [] List.Pairwise.nil).2 y]; simp
theorem length_foldl_putL (l s : List (Int × Int)) : (l.foldl (fun s c => putL c s) s).length ≤ l.length + s.length := by
  induction l generalizing s with
  | nil => simp
  | cons c l ih =>
    have h1 := ih (putL c s)
    have h2 := length_putL_le c s
    simp only [List.foldl_cons, List.length_cons]
    omega
theorem length_setL (l : List (Int × Int)) : (setL l).length ≤ l.length := by
  have := length_foldl_putL l []; simpa [setL] using this
theorem setL_snoc (l : List (Int × Int)) (c : Int × Int) : setL (l ++ [c]) = putL c (setL l) := by simp [setL, List.foldl_append]
theorem setL_of_rises {l : List (Int × Int)} (h : Rises l) : setL l = l := rises_ext (rises_setL l) h fun y => mem_setL l y

/-- A list without a cell. -/
def outL (c : Int × Int) (l : List (Int × Int)) : List (Int × Int) := l.filter fun y => decide (y ≠ c)

/-- one element at a place -/
theorem getD_mem {l : List (Int × Int)} {k : Nat} (h : k < l.length) : l.getD k (0, 0) ∈ l := by
  rw [List.getD_eq_getElem?_getD, List.getElem?_eq_getElem h]; exact List.getElem_mem h
theorem take_snoc {l : List (Int × Int)} {k : Nat} (h : k < l.length) : l.take (k + 1) = l.take k ++ [l.getD k (0, 0)] := by
  rw [List.take_succ_eq_append_getElem h, List.getD_eq_getElem?_getD, List.getElem?_eq_getElem h]; rfl
theorem drop_cons {l : List (Int × Int)} {k : Nat} (h : k < l.length) : l.drop k = l.getD k (0, 0) :: l.drop (k + 1) := by
  rw [List.drop_eq_getElem_cons h, List.getD_eq_getElem?_getD, List.getElem?_eq_getElem h]; rfl

def okAt (l : List (Int × Int)) (k : Nat) : Bool := inB (l.getD k (0, 0)) && (decide (k = 0) || decide (cmpP (l.getD (k - 1) (0, 0)) (l.getD k (0, 0)) < 0))
def rightB (l : List (Int × Int)) : Bool := decide (l.length ≤ 2000) && (List.range l.length).all (okAt l)

theorem rightB_long {l : List (Int × Int)} (h : 2000 < l.length) : rightB l = false := by simp [rightB]; omega
theorem rightB_no {l : List (Int × Int)} {k : Nat} (hk : k < l.length) (h : okAt l k = false) : rightB l = false := by
  rw [Bool.eq_false_iff]
  intro hr
  simp only [rightB, Bool.and_eq_true, List.all_eq_true, List.mem_range] at hr
  rw [hr.2 k hk] at h
  cases h
theorem rightB_yes {l : List (Int × Int)} (h0 : l.length ≤ 2000) (h : ∀ k, k < l.length → okAt l k = true) : rightB l = true := by
  simp only [rightB, Bool.and_eq_true, List.all_eq_true, List.mem_range]
  exact ⟨by simpa using h0, h⟩

theorem rises_of_steps {l : List (Int × Int)} (h : ∀ k, k + 1 < l.length → lessB (l.getD k (0, 0)) (l.getD (k + 1) (0, 0)) = true) : Rises l := by
  induction l with
  | nil => exact List.Pairwise.nil
  | cons a l ih =>
    have hl : Rises l := ih fun k hk => by have := h (k + 1) (by simp only [List.length_cons]; omega); simpa using this
    refine List.pairwise_cons.2 ⟨fun y hy => ?_, hl⟩
    cases l with
    | nil => cases hy
    | cons b l =>
      have hab : lessB a b = true := by have := h 0 (by simp only [List.length_cons]; omega); simpa using this
      rcases List.mem_cons.1 hy with e | hy
      · subst e; exact hab
      · exact lessB_trans hab ((List.pairwise_cons.1 hl).1 y hy)
theorem steps_of_rises {l : List (Int × Int)} (h : Rises l) : ∀ k, k + 1 < l.length → lessB (l.getD k (0, 0)) (l.getD (k + 1) (0, 0)) = true := fun k hk => by
  have := List.pairwise_iff_getElem.1 h k (k + 1) (by omega) hk (by omega)
  rw [List.getD_eq_getElem?_getD, List.getD_eq_getElem?_getD, List.getElem?_eq_getElem (by omega), List.getElem?_eq_getElem hk]
  exact this

/-- A set, in plain words. -/
theorem rightB_iff (l : List (Int × Int)) : rightB l = true ↔ l.length ≤ 2000 ∧ (∀ c ∈ l, inB c = true) ∧ Rises l := by
  constructor
  · intro h
    simp only [rightB, Bool.and_eq_true, List.all_eq_true, List.mem_range, okAt, decide_eq_true_eq, Bool.or_eq_true] at h
    refine ⟨h.1, fun c hc => ?_, rises_of_steps fun k hk => ?_⟩
    · obtain ⟨k, hk, rfl⟩ := List.getElem_of_mem hc
      have := (h.2 k hk).1
      rwa [List.getD_eq_getElem?_getD, List.getElem?_eq_getElem hk] at this
    · rcases (h.2 (k + 1) hk).2 with e | e
      · omega
      · rw [← cmpP_neg]; simpa using e
  · rintro ⟨h0, h1, h2⟩
    refine rightB_yes h0 fun k hk => ?_
    simp only [okAt, Bool.and_eq_true, Bool.or_eq_true, decide_eq_true_eq]
    refine ⟨h1 _ (getD_mem hk), ?_⟩
    rcases Nat.eq_zero_or_pos k with e | e
    · exact .inl e
    · obtain ⟨j, rfl⟩ : ∃ j, k = j + 1 := ⟨k - 1, by omega⟩
      right
      rw [cmpP_neg]
      simpa using steps_of_rises h2 j hk

end Go.Proofs.Ytafoleafhkadiaa
