/-
  Plain maths of layer 5: a set's text in its parts; cut; told one by one.
-/
import Derived.Test.YtacpncmdgkljdaaDoorB10
namespace Go.Proofs.YtacpncmdgkljdaaDoor
set_option linter.unusedVariables false
set_option linter.unusedSimpArgs false
open Go.RowKit Go.Sort
open Cel (loX hiX rightB)

def headL (l : List (Int × Int)) : List UInt8 := headText (wideL l).toNat (highL l).toNat pR
def tellsL (l : List (Int × Int)) : List Tn := (tellL (homeL l)).1
def bodyL (l : List (Int × Int)) : List UInt8 := textL (itemsT (tellsL l))
theorem print_parts (l : List (Int × Int)) : printL l = headL l ++ 10 :: (bodyL l ++ [33, 10]) := rfl
theorem headL_ten (l : List (Int × Int)) : ∀ c ∈ headL l, c ≠ 10 := head_line _ _ _ (by decide)
theorem headL_len {l : List (Int × Int)} (hr : rightB l = true) : (headL l).length ≤ 63 := by
  obtain ⟨q1, q2, q3, q4, q5, q6, q7, q8⟩ := right_home hr
  exact headText_len _ _ (by omega) (by omega) _

/-- where a text's first line feed stands -/
structure Ten (T : List UInt8) (n : Nat) : Prop where
  lt : n < T.length
  no : ∀ (i : Nat) (h : i < T.length), i < n → T[i] ≠ 10
  is : T[n] = 10
theorem ten_of {a r : List UInt8} (h : ∀ c ∈ a, c ≠ 10) : Ten (a ++ 10 :: r) a.length := by
  refine ⟨by simp, fun i hi hn => ?_, by simp⟩
  rw [List.getElem_append_left hn]
  exact h _ (List.getElem_mem _)
theorem ten_print (l : List (Int × Int)) : Ten (printL l) (headL l).length := by rw [print_parts]; exact ten_of (headL_ten l)
theorem print_size (l : List (Int × Int)) : (printL l).length = (headL l).length + 3 + (bodyL l).length := by
  rw [print_parts]
  simp only [List.length_append, List.length_cons, List.length_nil]
  omega
/-- a set's text, cut behind its head -/
theorem cut_home {l : List (Int × Int)} (hr : rightB l = true) (hs : Small l) (hl : (printL l).length ≤ 20000) (j : Nat) (hj : j ≤ (bodyL l).length) :
    ∃ e q, parseP ((printL l).take ((headL l).length + 1 + j)) = ([], e, q) ∧ (e = 31 ∧ q = (headL l).length + 1 + j ∨ e = 30 ∧ q < (headL l).length + 1 + j ∧ digB ((printL l).getD ((headL l).length + j) 0) = true) := by
  obtain ⟨q1, q2, q3, q4, q5, q6, q7, q8⟩ := right_home hr
  have hsz := print_size l
  have e1 : (printL l).take ((headL l).length + 1 + j) = headL l ++ 10 :: (bodyL l).take j := by
    rw [print_parts, show (headL l).length + 1 + j = (headL l).length + (j + 1) by omega, List.take_length_add_append, List.take_succ_cons, List.take_append_of_le_length hj]
  rw [e1]
  obtain ⟨e, q, h1, h2⟩ := parse_cut (wideL l).toNat (highL l).toNat (by omega) (by omega) (homeL l) q4 (home_in hr hs) (by rw [home_len]; exact ((Cel.rightB_iff l).1 hr).1) j hj (by
    show (headL l ++ 10 :: (bodyL l).take j).length ≤ 20000
    simp only [List.length_append, List.length_cons, List.length_take]
    omega)
  refine ⟨e, q, h1, ?_⟩
  rcases h2 with ⟨h3, h4⟩ | ⟨h3, h4, h5, h6⟩
  · exact .inl ⟨h3, h4⟩
  · refine .inr ⟨h3, h4, ?_⟩
    have e2 : (printL l).getD ((headL l).length + j) 0 = (bodyL l).getD (j - 1) 0 := by
      rw [print_parts, List.getD_eq_getElem?_getD, List.getD_eq_getElem?_getD, List.getElem?_append_right (by omega)]
      rw [show (headL l).length + j - (headL l).length = (j - 1) + 1 by omega, List.getElem?_cons_succ, List.getElem?_append_left (by omega)]
    rw [e2]
    exact h5

/-! ### told one by one -/
/-- What the law's loop makes of a text, from the number n on. -/
def onesN : Nat → List UInt8 → List UInt8
  | _, [] => []
  | n, c :: r => if digB c = true then onesN (10 * n + dv c) r else List.replicate (min (max n 1) 100) c ++ onesN 0 r
/-- Its number stays small. -/
def smallN : Nat → List UInt8 → Bool
  | n, [] => decide (n ≤ 1000000)
  | n, c :: r => decide (n ≤ 1000000) && smallN (if digB c = true then 10 * n + dv c else 0) r
theorem onesN_cons (n : Nat) (c : UInt8) (r : List UInt8) : onesN n (c :: r) = if digB c = true then onesN (10 * n + dv c) r else List.replicate (min (max n 1) 100) c ++ onesN 0 r := rfl
theorem smallN_cons (n : Nat) (c : UInt8) (r : List UInt8) : smallN n (c :: r) = (decide (n ≤ 1000000) && smallN (if digB c = true then 10 * n + dv c else 0) r) := rfl
theorem ones_digs {d : List UInt8} (h : ∀ c ∈ d, digB c = true) : ∀ (n : Nat) (r : List UInt8), onesN n (d ++ r) = onesN (d.foldl (fun n c => 10 * n + dv c) n) r := by
  induction d with
  | nil => intro n r; rfl
  | cons c d ih =>
    intro n r
    show onesN n (c :: (d ++ r)) = _
    rw [onesN_cons, if_pos (h c (by simp)), ih (fun x hx => h x (List.mem_cons_of_mem _ hx))]
    rfl
theorem fold_up : ∀ (d : List UInt8) (n : Nat), n ≤ d.foldl (fun n c => 10 * n + dv c) n := by
  intro d
  induction d with
  | nil => intro n; exact Nat.le_refl _
  | cons c d ih => intro n; exact Nat.le_trans (by omega) (ih (10 * n + dv c))
theorem small_digs {d : List UInt8} (h : ∀ c ∈ d, digB c = true) : ∀ (n : Nat) (r : List UInt8), d.foldl (fun n c => 10 * n + dv c) n ≤ 1000000 → smallN (d.foldl (fun n c => 10 * n + dv c) n) r = true → smallN n (d ++ r) = true := by
  induction d with
  | nil => intro n r _ h2; exact h2
  | cons c d ih =>
    intro n r h1 h2
    show smallN n (c :: (d ++ r)) = true
    have := fold_up (c :: d) n
    rw [smallN_cons, if_pos (h c (by simp)), ih (fun x hx => h x (List.mem_cons_of_mem _ hx)) _ _ h1 h2, Bool.and_true]
    exact decide_eq_true (by omega)
theorem ones_item {t : UInt8} {n : Nat} (ht : tagB t = true) (h1 : 1 ≤ n) (h2 : n ≤ 100) (p : Nat) (r : List UInt8) : onesN 0 (itemL (t, n, p) ++ r) = List.replicate n t ++ onesN 0 r ∧ (smallN 0 r = true → smallN 0 (itemL (t, n, p) ++ r) = true) := by
  have hg : goodI (t, n, p) = true := (goodI_iff _).2 ⟨ht, h1, by simp only; omega⟩
  have ed := tag_dig ht
  unfold itemL
  rw [if_pos hg]
  unfold numL
  simp only
  by_cases hn : n = 1
  · subst hn
    rw [if_pos rfl]
    simp only [List.nil_append, List.cons_append]
    refine ⟨?_, fun h => ?_⟩
    · rw [onesN_cons, if_neg (by rw [ed]; decide)]; rfl
    · rw [smallN_cons, if_neg (by rw [ed]; decide), h]; rfl
  · rw [if_neg hn, List.append_assoc]
    have hv : (Lib.decDigits n).foldl (fun n c => 10 * n + dv c) 0 = n := dec_val n
    refine ⟨?_, fun h => ?_⟩
    · rw [ones_digs (dec_dig n), hv]
      show onesN n (t :: r) = _
      rw [onesN_cons, if_neg (by rw [ed]; decide), Nat.max_eq_left h1, Nat.min_eq_left h2]
    · refine small_digs (dec_dig n) 0 _ (by rw [hv]; omega) ?_
      rw [hv]
      show smallN n (t :: r) = true
      rw [smallN_cons, if_neg (by rw [ed]; decide), h, Bool.and_true]
      exact decide_eq_true (by omega)
theorem ones_text (q : List Tn) (hg : ∀ x ∈ q, goodT x = true ∧ x.2 ≤ 100) (r : List UInt8) : onesN 0 (textL (itemsT q) ++ r) = textL (itemsT (oneT q)) ++ onesN 0 r ∧ (smallN 0 r = true → smallN 0 (textL (itemsT q) ++ r) = true) := by
  rw [one_text q fun x hx => (hg x hx).1]
  induction q with
  | nil => exact ⟨rfl, fun h => h⟩
  | cons x q ih =>
    obtain ⟨h1, h2⟩ := ih fun y hy => hg y (List.mem_cons_of_mem _ hy)
    obtain ⟨h3, h4⟩ := hg x (by simp)
    unfold goodT at h3
    simp only [Bool.and_eq_true, decide_eq_true_eq] at h3
    obtain ⟨k1, k2⟩ := ones_item h3.1 h3.2 h4 0 (textL (itemsT q) ++ r)
    have e : textL (itemsT (x :: q)) = itemL (x.1, x.2, 0) ++ textL (itemsT q) := rfl
    rw [e, List.append_assoc, List.flatMap_cons, List.append_assoc, k1, h1]
    exact ⟨rfl, fun h => k2 (h2 h)⟩

/-! ### a small set's items are small -/
structure Low (q : List Tn) (k : Nat) : Prop where
  last : q = [] ∨ ∃ a m, q = a ++ [(111, m)] ∧ m ≤ k
  low : ∀ x ∈ q, x.2 ≤ 100
theorem low_new {q : List Tn} {k : Nat} (h : Low q k) {t : UInt8} {n : Nat} (ht : t ≠ 111) (hn : n ≤ 100) : (∀ x ∈ putI q t n, x.2 ≤ 100) ∧ (putI q t n = q ∨ ∃ a, putI q t n = a ++ [(t, n)]) := by
  by_cases h0 : n = 0
  · subst h0
    rw [putI_zero]
    exact ⟨h.low, .inl rfl⟩
  · have hs : ∀ a : List Tn, (∀ x ∈ a, x.2 ≤ 100) → ∀ x ∈ a ++ [(t, n)], x.2 ≤ 100 := by
      intro a ha x hx
      rcases List.mem_append.1 hx with hx | hx
      · exact ha x hx
      · rw [List.mem_singleton.1 hx]; exact hn
    rcases h.last with rfl | ⟨a, m, rfl, hm⟩
    · rw [putI_first t n h0]
      exact ⟨hs [] (fun x hx => by cases hx), .inr ⟨[], rfl⟩⟩
    · rw [putI_new a t 111 m n h0 (fun e => ht e.symm)]
      exact ⟨hs _ h.low, .inr ⟨_, rfl⟩⟩
theorem low_b {q a : List Tn} {t : UInt8} {m n : Nat} (hq : q = a ++ [(t, m)]) (ht : t ≠ 98) (h : ∀ x ∈ q, x.2 ≤ 100) (hn : n ≤ 100) : (∀ x ∈ putI q 98 n, x.2 ≤ 100) ∧ ∃ b u k, putI q 98 n = b ++ [(u, k)] ∧ (u = t ∧ k = m ∨ u = 98) := by
  subst hq
  by_cases h0 : n = 0
  · subst h0
    rw [putI_zero]
    exact ⟨h, a, t, m, rfl, .inl ⟨rfl, rfl⟩⟩
  · rw [putI_new a 98 t m n h0 ht]
    refine ⟨fun x hx => ?_, _, _, _, rfl, .inr rfl⟩
    rcases List.mem_append.1 hx with hx | hx
    · exact h x hx
    · rw [List.mem_singleton.1 hx]; exact hn
theorem low_o {q a : List Tn} {t : UInt8} {m k : Nat} (hq : q = a ++ [(t, m)]) (h : ∀ x ∈ q, x.2 ≤ 100) (hm : t = 111 → m ≤ k) (hk : k + 1 ≤ 100) : Low (putI q 111 1) (k + 1) := by
  subst hq
  by_cases ht : t = 111
  · subst ht
    have hm' := hm rfl
    rw [putI_grow a 111 m 1 (by decide)]
    refine ⟨.inr ⟨_, _, rfl, by omega⟩, fun x hx => ?_⟩
    rcases List.mem_append.1 hx with hx | hx
    · exact h x (List.mem_append_left _ hx)
    · rw [List.mem_singleton.1 hx]; simp only; omega
  · rw [putI_new a 111 t m 1 (by decide) ht]
    refine ⟨.inr ⟨_, _, rfl, by omega⟩, fun x hx => ?_⟩
    rcases List.mem_append.1 hx with hx | hx
    · exact h x hx
    · rw [List.mem_singleton.1 hx]; simp only; omega
theorem low_cell {q : List Tn × Nat × Nat} {k : Nat} (h : Low q.1 k) (c : Nat × Nat) (hc : c.1 ≤ 100 ∧ c.2 ≤ 100) (hk : k + 1 ≤ 100) : Low (tellC q c).1 (k + 1) := by
  have hfirst : ∀ n, n ≤ 100 → ∀ p : List Tn, (∀ x ∈ p, x.2 ≤ 100) → (p = [] ∨ ∃ a t m, p = a ++ [(t, m)] ∧ t ≠ 98 ∧ (t = 111 → m ≤ k)) → Low (putI (putI p 98 n) 111 1) (k + 1) := by
    intro n hn p hp hcase
    rcases hcase with rfl | ⟨a, t, m, e, ht, hm⟩
    · by_cases h0 : n = 0
      · subst h0
        rw [putI_zero, putI_first 111 1 (by decide)]
        exact ⟨.inr ⟨[], 1, rfl, by omega⟩, fun x hx => by rw [List.mem_singleton.1 hx]; simp only; omega⟩
      · rw [putI_first 98 n h0]
        exact low_o (a := []) (t := 98) (m := n) rfl (fun x hx => by rw [List.mem_singleton.1 hx]; exact hn) (fun e => by exact absurd e (by decide)) hk
    · obtain ⟨h1, b, u, j, e2, h2⟩ := low_b e ht hp hn
      refine low_o e2 h1 (fun hu => ?_) hk
      rcases h2 with ⟨rfl, rfl⟩ | rfl
      · exact hm hu
      · exact absurd hu (by decide)
  by_cases hd : q.2.2 < c.2
  · rw [tellC_down q c hd]
    obtain ⟨h1, h2⟩ := low_new h (t := 36) (n := c.2 - q.2.2) (by decide) (by omega)
    have h3 : putI q.1 36 (c.2 - q.2.2) ≠ q.1 ∨ True := .inr trivial
    refine hfirst c.1 hc.1 _ h1 ?_
    rcases h2 with e | ⟨a, e⟩
    · rcases h.last with e0 | ⟨a, m, e0, hm⟩
      · exact .inl (e.trans e0)
      · exact .inr ⟨a, 111, m, e.trans e0, by decide, fun _ => hm⟩
    · exact .inr ⟨a, 36, _, e, by decide, fun e => absurd e (by decide)⟩
  · rw [tellC_on q c hd]
    refine hfirst _ (by omega) _ h.low ?_
    rcases h.last with e0 | ⟨a, m, e0, hm⟩
    · exact .inl e0
    · exact .inr ⟨a, 111, m, e0, by decide, fun _ => hm⟩
theorem low_all : ∀ (l : List (Nat × Nat)), (∀ c ∈ l, c.1 ≤ 100 ∧ c.2 ≤ 100) → l.length ≤ 100 → Low (tellL l).1 l.length := by
  intro l
  rcases list_cases l with rfl | ⟨a, c, rfl⟩
  · intro _ _; exact ⟨.inl rfl, fun x hx => by cases hx⟩
  · intro hc hl
    rw [List.length_append, List.length_singleton] at hl
    have h := low_all a (fun x hx => hc x (List.mem_append_left _ hx)) (by omega)
    rw [tellL_snoc, List.length_append, List.length_singleton]
    exact low_cell h c (hc c (by simp)) (by omega)
termination_by l => l.length
decreasing_by simp only [*, List.length_append, List.length_singleton]; omega

/-- A raw set, told one by one. -/
theorem raw_ones (raw : List (Int × Int)) : ∃ R, onesN 0 ((printL (Cel.rawSet raw)).drop (headL (Cel.rawSet raw)).length) = R ∧ R.length ≤ 19000 ∧ smallN 0 ((printL (Cel.rawSet raw)).drop (headL (Cel.rawSet raw)).length) = true ∧
    parseP (headL (Cel.rawSet raw) ++ R) = (cornerL (Cel.rawSet raw), 0, 0) := by
  have hown := own5_raw raw
  have hbd := rawSet_bd raw
  generalize Cel.rawSet raw = l at *
  have hlen := hown.len
  obtain ⟨q1, q2, q3, q4, q5, q6, q7, q8⟩ := right_home hown.right
  have hh : ∀ c ∈ homeL l, c.1 ≤ 100 ∧ c.2 ≤ 100 := by
    intro c hc
    unfold homeL fromC at hc
    obtain ⟨d, hd, rfl⟩ := List.mem_map.1 hc
    have h1 := hbd d hd
    have h2 : 0 < l.length := List.length_pos_of_mem hd
    obtain ⟨j, hj, e⟩ := Cel.loX_hit (l := l) h2 (Nat.le_refl _)
    have h3 := hbd _ (Cel.getD_mem hj)
    have h4 := hbd _ (Cel.getD_mem (l := l) (k := 0) h2)
    simp only
    omega
  have hlow := low_all (homeL l) hh (by rw [home_len]; omega)
  have hT := told_all (homeL l) q4 (home_in hown.right hown.small) (by rw [home_len]; omega)
  obtain ⟨o1, o2⟩ := ones_text (tellsL l) (fun x hx => ⟨hT.good x hx, hlow.low x hx⟩) [33, 10]
  have e0 : (printL l).drop (headL l).length = 10 :: (bodyL l ++ [33, 10]) := by rw [print_parts, List.drop_left]
  have e1 : onesN 0 (10 :: (bodyL l ++ [33, 10])) = 10 :: (textL (itemsT (oneT (tellsL l))) ++ [33, 10]) := by
    show [10] ++ onesN 0 (bodyL l ++ [33, 10]) = _
    unfold bodyL
    rw [o1]
    rfl
  have hsum : (textL (itemsT (oneT (tellsL l)))).length ≤ 100 * (tellsL l).length := by
    rw [one_text (tellsL l) hT.good]
    have := hlow.low
    change ∀ x ∈ tellsL l, x.2 ≤ 100 at this
    generalize tellsL l = q at this ⊢
    induction q with
    | nil => exact Nat.zero_le _
    | cons x q ih =>
      rw [List.flatMap_cons, List.length_append, List.length_replicate, List.length_cons]
      have h1 := ih fun y hy => this y (List.mem_cons_of_mem _ hy)
      have h2 := this x (by simp)
      omega
  have hts := tellL_len (homeL l)
  rw [home_len] at hts
  change (tellsL l).length ≤ _ at hts
  have hhl := headL_len hown.right
  refine ⟨_, rfl, ?_, ?_, ?_⟩
  · rw [e0, e1]
    simp only [List.length_append, List.length_cons, List.length_nil]
    omega
  · rw [e0]
    show (decide (0 ≤ 1000000) && smallN 0 (bodyL l ++ [33, 10])) = true
    unfold bodyL
    rw [o2 (by decide)]
    rfl
  · rw [e0, e1, ← home_up hown.right]
    exact parse_ones _ _ (by omega) (by omega) (homeL l) q4 (home_in hown.right hown.small) (by rw [home_len]; omega) [10] (by
      show (headL l ++ 10 :: (textL (itemsT (oneT (tellsL l))) ++ [33, 10])).length ≤ 20000
      simp only [List.length_append, List.length_cons, List.length_nil]
      omega)
end Go.Proofs.YtacpncmdgkljdaaDoor
