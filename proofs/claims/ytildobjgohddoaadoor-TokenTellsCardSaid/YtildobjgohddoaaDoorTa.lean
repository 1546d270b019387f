/-
  Plain maths of layer 4: texts read as items, items told as texts.
-/
import Derived.Test.YtildobjgohddoaaDoorNa
namespace Go.Proofs.YtildobjgohddoaaDoor
open Go.Lib

def tagB (c : UInt8) : Bool := c == 98 || c == 111 || c == 36
def blankB (c : UInt8) : Bool := c == 32 || c == 9 || c == 10 || c == 13
/-- an item: its tag, its number, its place -/
abbrev Itm := UInt8 × Nat × Nat
/-- how many digits a list begins with -/
def digs (l : List UInt8) : Nat := (l.takeWhile digB).length
theorem digs_le (l : List UInt8) : digs l ≤ l.length := (List.takeWhile_sublist _).length_le
theorem take_digs (l : List UInt8) : l.take (digs l) = l.takeWhile digB := by
  have h := List.takeWhile_append_dropWhile (p := digB) (l := l)
  unfold digs
  generalize l.takeWhile digB = a at *
  generalize l.dropWhile digB = b at *
  subst h
  simp
theorem drop_digs (l : List UInt8) : l.drop (digs l) = l.dropWhile digB := by
  have h := List.takeWhile_append_dropWhile (p := digB) (l := l)
  unfold digs
  generalize l.takeWhile digB = a at *
  generalize l.dropWhile digB = b at *
  subst h
  simp

/-- What a text comes to from place p on, behind the items acc: the items, the error, the place. -/
def lexN : Nat → List UInt8 → Nat → List Itm → List Itm × Int × Nat
  | 0, _, p, _ => ([], 31, p)
  | _ + 1, [], p, _ => ([], 31, p)
  | f + 1, c :: r, p, acc =>
    if blankB c = true then lexN f r (p + 1) acc
    else if c = 33 then (acc, 0, p)
    else match (c :: r).drop (digs (c :: r)) with
      | [] => ([], 30, p)
      | t :: q =>
        if tagB t = false ∨ c = 48 then ([], 30, p)
        else if digs (c :: r) = 0 then lexN f q (p + 1) (acc ++ [(t, 1, p)])
        else if 1099511627776 < val ((c :: r).take (digs (c :: r))) then ([], 2, p)
        else lexN f q (p + digs (c :: r) + 1) (acc ++ [(t, val ((c :: r).take (digs (c :: r))), p)])

theorem lexN_fuel : ∀ (f g : Nat) (l : List UInt8) (p : Nat) (acc : List Itm), l.length ≤ f → l.length ≤ g → lexN f l p acc = lexN g l p acc := by
  intro f
  induction f with
  | zero =>
    intro g l p acc hf hg
    have : l = [] := List.eq_nil_of_length_eq_zero (by omega)
    subst this
    cases g <;> rfl
  | succ f ih =>
    intro g l p acc hf hg
    cases l with
    | nil => cases g <;> rfl
    | cons c r =>
      cases g with
      | zero => simp at hg
      | succ g =>
        simp only [List.length_cons] at hf hg
        have hd := List.length_drop (i := digs (c :: r)) (l := c :: r)
        unfold lexN
        split
        · exact ih _ _ _ _ (by omega) (by omega)
        · split
          · rfl
          · split
            · rfl
            · rename_i t q hq
              rw [hq] at hd
              simp only [List.length_cons] at hd
              split
              · rfl
              · split
                · exact ih _ _ _ _ (by omega) (by omega)
                · split
                  · rfl
                  · exact ih _ _ _ _ (by omega) (by omega)
def lexL (l : List UInt8) (p : Nat) (acc : List Itm) : List Itm × Int × Nat := lexN l.length l p acc

theorem lex_nil (p : Nat) (acc : List Itm) : lexL [] p acc = ([], 31, p) := rfl
theorem lex_blank {c : UInt8} {r : List UInt8} (h : blankB c = true) (p : Nat) (acc : List Itm) : lexL (c :: r) p acc = lexL r (p + 1) acc := by
  unfold lexL
  rw [List.length_cons, lexN, if_pos h]
theorem lex_end {r : List UInt8} (p : Nat) (acc : List Itm) : lexL (33 :: r) p acc = (acc, 0, p) := by
  unfold lexL
  rw [List.length_cons, lexN, if_neg (by decide), if_pos rfl]
theorem lex_none {c : UInt8} {r : List UInt8} (h : blankB c = false) (he : c ≠ 33) (hd : (c :: r).drop (digs (c :: r)) = []) (p : Nat) (acc : List Itm) : lexL (c :: r) p acc = ([], 30, p) := by
  unfold lexL
  rw [List.length_cons, lexN, if_neg (by rw [h]; decide), if_neg he, hd]
theorem lex_off {c t : UInt8} {r q : List UInt8} (h : blankB c = false) (he : c ≠ 33) (hd : (c :: r).drop (digs (c :: r)) = t :: q) (ho : tagB t = false ∨ c = 48) (p : Nat) (acc : List Itm) : lexL (c :: r) p acc = ([], 30, p) := by
  unfold lexL
  rw [List.length_cons, lexN, if_neg (by rw [h]; decide), if_neg he, hd]
  simp only
  rw [if_pos ho]
theorem lex_big {c t : UInt8} {r q : List UInt8} (h : blankB c = false) (he : c ≠ 33) (hd : (c :: r).drop (digs (c :: r)) = t :: q) (ht : tagB t = true) (hc : c ≠ 48) (hk : digs (c :: r) ≠ 0) (hv : 1099511627776 < val ((c :: r).take (digs (c :: r)))) (p : Nat) (acc : List Itm) : lexL (c :: r) p acc = ([], 2, p) := by
  unfold lexL
  rw [List.length_cons, lexN, if_neg (by rw [h]; decide), if_neg he, hd]
  simp only
  rw [if_neg (by rw [ht]; simp [hc]), if_neg hk, if_pos hv]
theorem lex_tag {t : UInt8} {q : List UInt8} (ht : tagB t = true) (p : Nat) (acc : List Itm) : lexL (t :: q) p acc = lexL q (p + 1) (acc ++ [(t, 1, p)]) := by
  have h3 : t = 98 ∨ t = 111 ∨ t = 36 := by
    unfold tagB at ht
    simpa [or_assoc] using ht
  have hd : digs (t :: q) = 0 := by rcases h3 with rfl | rfl | rfl <;> rfl
  have hb : blankB t = false := by rcases h3 with rfl | rfl | rfl <;> rfl
  have he : t ≠ 33 := by rcases h3 with rfl | rfl | rfl <;> decide
  have hz : t ≠ 48 := by rcases h3 with rfl | rfl | rfl <;> decide
  unfold lexL
  rw [List.length_cons, lexN, if_neg (by rw [hb]; decide), if_neg he, hd]
  simp only [List.drop_zero]
  rw [if_neg (by rw [ht]; simp [hz]), if_pos trivial]
theorem lex_num {c t : UInt8} {r q : List UInt8} (h : blankB c = false) (he : c ≠ 33) (hd : (c :: r).drop (digs (c :: r)) = t :: q) (ht : tagB t = true) (hc : c ≠ 48) (hk : digs (c :: r) ≠ 0) (hv : val ((c :: r).take (digs (c :: r))) ≤ 1099511627776) (p : Nat) (acc : List Itm) :
    lexL (c :: r) p acc = lexL q (p + digs (c :: r) + 1) (acc ++ [(t, val ((c :: r).take (digs (c :: r))), p)]) := by
  have hl := List.length_drop (i := digs (c :: r)) (l := c :: r)
  rw [hd] at hl
  simp only [List.length_cons] at hl
  unfold lexL
  rw [List.length_cons, lexN, if_neg (by rw [h]; decide), if_neg he, hd]
  simp only
  rw [if_neg (by rw [ht]; simp [hc]), if_neg hk, if_neg (by omega)]
  exact lexN_fuel _ _ _ _ _ (by omega) (Nat.le_refl _)

/-! ### items told as texts -/
def goodI (x : Itm) : Bool := tagB x.1 && decide (1 ≤ x.2.1) && decide (x.2.1 ≤ 1099511627776)
def numL (n : Nat) : List UInt8 := if n = 1 then [] else decDigits n
def itemL (x : Itm) : List UInt8 := if goodI x = true then numL x.2.1 ++ [x.1] else []
def textL (l : List Itm) : List UInt8 := l.flatMap itemL
theorem textL_append (l m : List Itm) : textL (l ++ m) = textL l ++ textL m := by unfold textL; simp
theorem goodI_iff (x : Itm) : goodI x = true ↔ tagB x.1 = true ∧ 1 ≤ x.2.1 ∧ x.2.1 ≤ 1099511627776 := by unfold goodI; simp [and_assoc]

theorem tag_dig {t : UInt8} (h : tagB t = true) : digB t = false := by
  have h3 : t = 98 ∨ t = 111 ∨ t = 36 := by
    unfold tagB at h
    simpa [or_assoc] using h
  rcases h3 with rfl | rfl | rfl <;> rfl
theorem digs_num {d : List UInt8} {t : UInt8} {q : List UInt8} (hd : ∀ c ∈ d, digB c = true) (ht : digB t = false) : digs (d ++ t :: q) = d.length := by
  unfold digs
  rw [List.takeWhile_append_of_pos hd, List.takeWhile_cons, ht]
  simp
theorem dig_plain {c : UInt8} (h : digB c = true) : blankB c = false ∧ c ≠ 33 := by
  have h2 := (digB_iff c).1 h
  refine ⟨?_, fun e => by subst e; exact absurd h (by decide)⟩
  cases hb : blankB c with
  | false => rfl
  | true =>
    exfalso
    unfold blankB at hb
    simp only [Bool.or_eq_true, beq_iff_eq] at hb
    rcases hb with ((rfl | rfl) | rfl) | rfl <;> exact absurd h (by decide)

/-- One item's text is read as the item, at its place. -/
theorem lex_item {x : Itm} (h : goodI x = true) (q : List UInt8) (p : Nat) (acc : List Itm) : lexL (itemL x ++ q) p acc = lexL q (p + (itemL x).length) (acc ++ [(x.1, x.2.1, p)]) := by
  obtain ⟨t, n, a⟩ := x
  obtain ⟨ht, h1, h2⟩ := (goodI_iff _).1 h
  simp only at ht h1 h2
  unfold itemL
  rw [if_pos h]
  simp only
  unfold numL
  by_cases hn : n = 1
  · subst hn
    rw [if_pos rfl]
    exact lex_tag ht p acc
  · rw [if_neg hn, List.append_assoc]
    have hdg := dec_dig n
    have hhd := dec_head n (by omega)
    have hvl := dec_val n
    obtain ⟨c, r, hcr⟩ : ∃ c r, decDigits n = c :: r := by
      cases hc : decDigits n with
      | nil => have := dec_pos n; rw [hc] at this; simp at this
      | cons c r => exact ⟨c, r, rfl⟩
    rw [hcr] at hdg hhd hvl ⊢
    have hk : digs ((c :: r) ++ ([t] ++ q)) = (c :: r).length := digs_num hdg (tag_dig ht)
    have hc := dig_plain (hdg c List.mem_cons_self)
    have e : (c :: r) ++ ([t] ++ q) = c :: (r ++ ([t] ++ q)) := rfl
    rw [e] at hk ⊢
    have htake : (c :: (r ++ ([t] ++ q))).take (digs (c :: (r ++ ([t] ++ q)))) = c :: r := by
      rw [hk]; simp
    have hdrop : (c :: (r ++ ([t] ++ q))).drop (digs (c :: (r ++ ([t] ++ q)))) = t :: q := by
      rw [hk]; simp
    rw [lex_num hc.1 hc.2 hdrop ht (by intro e; exact hhd (by rw [e]; rfl)) (by rw [hk]; simp) (by rw [htake, hvl]; exact h2), htake, hvl, hk]
    simp [Nat.add_assoc]
theorem lex_text (l : List Itm) (h : ∀ x ∈ l, goodI x = true) (q : List UInt8) (p : Nat) (acc : List Itm) :
    ∃ m : List Itm, m.length = l.length ∧ (∀ j, j < l.length → (m.getD j default).1 = (l.getD j default).1 ∧ (m.getD j default).2.1 = (l.getD j default).2.1 ∧ (m.getD j default).2.2 = p + (textL (l.take j)).length) ∧ lexL (textL l ++ q) p acc = lexL q (p + (textL l).length) (acc ++ m) := by
  induction l generalizing p acc with
  | nil => exact ⟨[], rfl, fun j hj => by simp at hj, by simp [textL]⟩
  | cons x l ih =>
    obtain ⟨m, hm, hj, he⟩ := ih (fun y hy => h y (List.mem_cons_of_mem _ hy)) (p + (itemL x).length) (acc ++ [(x.1, x.2.1, p)])
    refine ⟨(x.1, x.2.1, p) :: m, by simp [hm], fun j hjl => ?_, ?_⟩
    · cases j with
      | zero => simp [textL]
      | succ j =>
        have := hj j (by simpa using hjl)
        simpa [textL, Nat.add_assoc] using this
    · have e : textL (x :: l) ++ q = itemL x ++ (textL l ++ q) := by simp [textL]
      rw [e, lex_item (h x List.mem_cons_self), he]
      simp [textL, Nat.add_assoc]

theorem val_pos {c : UInt8} {r : List UInt8} (hc : digB c = true) (h48 : c ≠ 48) : 1 ≤ val (c :: r) := by
  have h := (digB_iff c).1 hc
  have hne : c.toNat ≠ 48 := fun e => h48 (UInt8.toNat_inj.1 e)
  have h1 : 1 ≤ dv c := by unfold dv; omega
  have h2 : 0 < 10 ^ r.length := Nat.pow_pos (by decide)
  rw [val_cons]
  have := Nat.mul_le_mul h1 h2
  omega

/-- What is known of whatever comes out. -/
def Shaped (l : List UInt8) (p : Nat) (acc : List Itm) (r : List Itm × Int × Nat) : Prop :=
  (r.2.1 = 0 → ∃ m : List Itm, r.1 = acc ++ m ∧ (∀ x ∈ m, goodI x = true) ∧ m.Pairwise (fun a b => a.2.2 < b.2.2) ∧ (∀ x ∈ m, p ≤ x.2.2 ∧ x.2.2 < r.2.2) ∧ p + (textL m).length ≤ r.2.2 ∧ r.2.2 < p + l.length) ∧
  (r.2.1 ≠ 0 → r.1 = [] ∧ p ≤ r.2.2 ∧ r.2.2 ≤ p + l.length ∧ (r.2.1 = 31 → r.2.2 = p + l.length))
theorem Shaped.bad {l : List UInt8} {p : Nat} {acc : List Itm} {e : Int} (h0 : e ≠ 0) (h31 : e ≠ 31) : Shaped l p acc ([], e, p) :=
  ⟨fun h => absurd h h0, fun _ => ⟨rfl, Nat.le_refl _, Nat.le_add_right _ _, fun h => absurd h h31⟩⟩
theorem item_len (t : UInt8) (n p : Nat) : (itemL (t, n, p)).length ≤ (numL n).length + 1 := by
  unfold itemL
  split
  · simp
  · simp
theorem item_num {c t : UInt8} {r : List UInt8} {p : Nat} (hk : ¬ digs (c :: r) = 0) (h48 : c ≠ 48) : (itemL (t, val ((c :: r).take (digs (c :: r))), p)).length ≤ digs (c :: r) + 1 := by
  have hl : ((c :: r).take (digs (c :: r))).length = digs (c :: r) := by rw [List.length_take]; have := digs_le (c :: r); omega
  have hb : badL ((c :: r).take (digs (c :: r))) = false := by
    refine (badL_iff _).2 ⟨fun e => ?_, ?_, fun d hd => ?_⟩
    · rw [e] at hl; simp at hl; omega
    · obtain ⟨k, hkk⟩ : ∃ k, digs (c :: r) = k + 1 := ⟨digs (c :: r) - 1, by omega⟩
      rw [hkk, List.take_succ_cons]
      unfold zeroB
      simp [h48]
    · rw [take_digs] at hd
      exact List.all_eq_true.1 (List.all_takeWhile) d hd
  have := item_len t (val ((c :: r).take (digs (c :: r)))) p
  unfold numL at this
  split at this
  · simp at this; omega
  · rw [dec_back hb, hl] at this
    exact this
theorem Shaped.on {l q : List UInt8} {p p' : Nat} {acc : List Itm} {x : Itm} {r : List Itm × Int × Nat} (h : Shaped q p' (acc ++ [x]) r) (hx : goodI x = true) (hp : x.2.2 = p) (hp1 : p + (itemL x).length ≤ p') (hl : p' + q.length = p + l.length) : Shaped l p acc r := by
  refine ⟨fun h0 => ?_, fun h0 => ?_⟩
  · obtain ⟨m, h1, h2, h3, h4, h5, h6⟩ := h.1 h0
    have hi : 1 ≤ (itemL x).length := by unfold itemL; rw [if_pos hx]; simp
    have ht : (textL (x :: m)).length = (itemL x).length + (textL m).length := by simp [textL]
    refine ⟨x :: m, by rw [h1]; simp, fun y hy => ?_, List.pairwise_cons.2 ⟨fun y hy => ?_, h3⟩, fun y hy => ?_, by omega, by omega⟩
    · rcases List.mem_cons.1 hy with rfl | hy
      · exact hx
      · exact h2 y hy
    · have := h4 y hy; omega
    · rcases List.mem_cons.1 hy with rfl | hy
      · omega
      · have := h4 y hy; omega
  · obtain ⟨h1, h2, h3, h4⟩ := h.2 h0
    exact ⟨h1, by omega, by omega, fun e => by have := h4 e; omega⟩
theorem Shaped.stop (p : Nat) (acc : List Itm) : Shaped [] p acc ([], 31, p) :=
  ⟨fun h => absurd h (show ¬ (31 : Int) = 0 by decide), fun _ => ⟨rfl, Nat.le_refl _, Nat.le_refl _, fun _ => rfl⟩⟩
theorem lexN_shape : ∀ (f : Nat) (l : List UInt8) (p : Nat) (acc : List Itm), l.length ≤ f → Shaped l p acc (lexN f l p acc) := by
  intro f
  induction f with
  | zero =>
    intro l p acc hf
    have : l = [] := List.eq_nil_of_length_eq_zero (by omega)
    subst this
    exact Shaped.stop p acc
  | succ f ih =>
    intro l p acc hf
    cases l with
    | nil => exact Shaped.stop p acc
    | cons c r =>
      simp only [List.length_cons] at hf
      have hd := List.length_drop (i := digs (c :: r)) (l := c :: r)
      unfold lexN
      split
      · have h := ih r (p + 1) acc (by omega)
        refine ⟨fun h0 => ?_, fun h0 => ?_⟩
        · obtain ⟨m, h1, h2, h3, h4, h5, h6⟩ := h.1 h0
          exact ⟨m, h1, h2, h3, fun x hx => by have := h4 x hx; omega, by omega, by simp only [List.length_cons]; omega⟩
        · obtain ⟨h1, h2, h3, h4⟩ := h.2 h0
          exact ⟨h1, by omega, by simp only [List.length_cons]; omega, fun e => by have := h4 e; simp only [List.length_cons]; omega⟩
      · split
        · exact ⟨fun _ => ⟨[], by simp, (fun x hx => by cases hx), List.Pairwise.nil, (fun x hx => by cases hx), by simp [textL], by simp⟩, fun h => absurd rfl h⟩
        · split
          · exact Shaped.bad (by decide) (by decide)
          · rename_i t q hq
            rw [hq] at hd
            simp only [List.length_cons] at hd
            have hdl := digs_le (c :: r)
            simp only [List.length_cons] at hdl
            split
            · exact Shaped.bad (by decide) (by decide)
            · rename_i hgood
              have hgood2 : tagB t = true ∧ c ≠ 48 := by
                refine ⟨?_, fun e => hgood (.inr e)⟩
                cases ht : tagB t with
                | true => rfl
                | false => exact absurd (.inl ht) hgood
              split
              · rename_i hk
                refine Shaped.on (ih q (p + 1) (acc ++ [(t, 1, p)]) (by omega)) ((goodI_iff _).2 ⟨hgood2.1, by simp, by simp⟩) rfl (by have := item_len t 1 p; simp only [numL, if_pos] at this; simp at this; omega) ?_
                simp only [List.length_cons]
                omega
              · rename_i hk
                split
                · exact Shaped.bad (by decide) (by decide)
                · rename_i hv
                  refine Shaped.on (ih q (p + digs (c :: r) + 1) _ (by omega)) ((goodI_iff _).2 ⟨hgood2.1, ?_, by simp only; omega⟩) rfl (by have := item_num (t := t) (p := p) hk hgood2.2; omega) ?_
                  · simp only
                    obtain ⟨k, hkk⟩ : ∃ k, digs (c :: r) = k + 1 := ⟨digs (c :: r) - 1, by omega⟩
                    have hcd : digB c = true := by
                      cases hcd : digB c with
                      | true => rfl
                      | false =>
                        exfalso
                        apply hk
                        unfold digs
                        rw [List.takeWhile_cons, hcd]
                        rfl
                    rw [hkk, List.take_succ_cons]
                    exact val_pos hcd hgood2.2
                  · simp only [List.length_cons]
                    omega
theorem lexL_shape (l : List UInt8) (p : Nat) (acc : List Itm) : Shaped l p acc (lexL l p acc) := lexN_shape _ l p acc (Nat.le_refl _)

/-- What a whole text is read as. -/
def lexA (l : List UInt8) : List Itm × Int × Nat := if 20000 < l.length then ([], 3, 0) else lexL l 0 []

theorem lexA_short {l : List UInt8} (h : l.length ≤ 20000) : lexA l = lexL l 0 [] := by unfold lexA; rw [if_neg (by omega)]
/-- Items' text and an end is read as the items, but for their places. -/
theorem lexA_text {l : List Itm} (h : ∀ x ∈ l, goodI x = true) (q : List UInt8) (hl : (textL l ++ 33 :: q).length ≤ 20000) :
    ∃ m : List Itm, m.length = l.length ∧ (∀ j, j < l.length → (m.getD j default).1 = (l.getD j default).1 ∧ (m.getD j default).2.1 = (l.getD j default).2.1 ∧ (m.getD j default).2.2 = (textL (l.take j)).length) ∧ lexA (textL l ++ 33 :: q) = (m, 0, (textL l).length) := by
  obtain ⟨m, hm, hj, he⟩ := lex_text l h (33 :: q) 0 []
  refine ⟨m, hm, fun j hjl => ?_, ?_⟩
  · have := hj j hjl
    simpa using this
  · rw [lexA_short hl, he, lex_end]
    simp
theorem lexA_open {l : List Itm} (h : ∀ x ∈ l, goodI x = true) (hl : (textL l).length ≤ 20000) : lexA (textL l) = ([], 31, (textL l).length) := by
  obtain ⟨m, hm, hj, he⟩ := lex_text l h [] 0 []
  rw [List.append_nil] at he
  rw [lexA_short hl, he, lex_nil]
  simp
theorem lexA_shape (l : List UInt8) : (lexA l).2.1 = 0 → ∀ x ∈ (lexA l).1, goodI x = true := by
  unfold lexA
  split
  · intro h; exact absurd h (by decide)
  · intro h x hx
    obtain ⟨m, h1, h2, _⟩ := (lexL_shape l 0 []).1 h
    rw [h1] at hx
    exact h2 x (by simpa using hx)

end Go.Proofs.YtildobjgohddoaaDoor
