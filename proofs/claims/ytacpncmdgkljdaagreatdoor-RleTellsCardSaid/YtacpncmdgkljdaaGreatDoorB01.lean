/-
  Texts that the claims of this seat share, part 1.
-/
import Derived.Test.YtacpncmdgkljdaaGreatDoorB00
import Derived.Lib.QuietBelow
import Derived.StillTail
import Derived.BigQuiet
import Derived.KernelRfl
import Derived.Test.YtacpncmdgkljdaaGreatDoorRows
import Derived.Test.YtacpncmdgkljdaaGreatDoorSh
import Derived.WalkKit
import Derived.WalkSpells
import Derived.WalkLawsBesides
import Derived.WalkArith
import Derived.IntWalk
import Derived.Lib.Hide
import Derived.Lib.AppendIntMem
import Derived.StillTailTactics
import Derived.LoopN
import Derived.Handy
import Derived.Deep.LoopGhost
import Derived.Lib.OthersKept
import Derived.Lib.AppendZerosOnto
import Derived.Lib.Strings
import Derived.Lib.IndexMore
set_option linter.unusedVariables false
set_option linter.unusedSimpArgs false
namespace Go.Proofs.YtacpncmdgkljdaaGreatDoor
open Go.Lib
open Cel (lessB lessB_iff Rises)
set_option linter.unusedVariables false

/-! ### items' text, cut -/
theorem item_parts {x : Itm} (h : goodI x = true) : ∃ d, itemL x = d ++ [x.1] ∧ ∀ c ∈ d, digB c = true := by
  refine ⟨numL x.2.1, by unfold itemL; rw [if_pos h], ?_⟩
  unfold numL
  split
  · intro c hc; cases hc
  · exact dec_dig _
theorem digs_all {d : List UInt8} (h : ∀ c ∈ d, digB c = true) : digs d = d.length := by
  unfold digs
  have := List.takeWhile_append_of_pos (l₂ := []) h
  rw [List.append_nil] at this
  rw [this]
  simp
theorem lex_cut (I : List Itm) : ∀ (j p : Nat) (acc : List Itm), (∀ x ∈ I, goodI x = true) → j ≤ (textL I).length →
    ∃ e q, lexL ((textL I).take j) p acc = ([], e, q) ∧ (e = 31 ∧ q = p + j ∨ e = 30 ∧ p ≤ q ∧ q < p + j ∧ digB ((textL I).getD (j - 1) 0) = true) := by
  induction I with
  | nil =>
    intro j p acc _ hj
    have : j = 0 := by simpa [textL] using hj
    subst this
    exact ⟨31, p, rfl, .inl ⟨rfl, rfl⟩⟩
  | cons x r ih =>
    intro j p acc hg hj
    have hx := hg x (by simp)
    have e : textL (x :: r) = itemL x ++ textL r := by simp [textL]
    rw [e] at hj ⊢
    rw [List.length_append] at hj
    by_cases hl : (itemL x).length ≤ j
    · have ht : (itemL x ++ textL r).take j = itemL x ++ (textL r).take (j - (itemL x).length) := by
        rw [List.take_append, List.take_of_length_le hl]
      rw [ht, lex_item hx]
      obtain ⟨e1, q, h1, h2⟩ := ih (j - (itemL x).length) (p + (itemL x).length) (acc ++ [(x.1, x.2.1, p)]) (fun y hy => hg y (List.mem_cons_of_mem _ hy)) (by omega)
      refine ⟨e1, q, h1, ?_⟩
      rcases h2 with ⟨rfl, rfl⟩ | ⟨rfl, h3, h4, h5⟩
      · exact .inl ⟨rfl, by omega⟩
      · refine .inr ⟨rfl, by omega, by omega, ?_⟩
        have e3 : j - 1 = (itemL x).length + (j - (itemL x).length - 1) := by omega
        rw [List.getD_eq_getElem?_getD, e3, List.getElem?_append_right (by omega), Nat.add_sub_cancel_left, ← List.getD_eq_getElem?_getD]
        exact h5
    · obtain ⟨d, hd, hdg⟩ := item_parts hx
      have hdl : j ≤ d.length := by rw [hd] at hl; simp at hl; omega
      have ht : (itemL x ++ textL r).take j = d.take j := by
        rw [hd, List.append_assoc, List.take_append_of_le_length hdl]
      rw [ht]
      rcases Nat.eq_zero_or_pos j with rfl | hj0
      · exact ⟨31, p, rfl, .inl ⟨rfl, rfl⟩⟩
      · have htd : ∀ c ∈ d.take j, digB c = true := fun c hc => hdg c (List.mem_of_mem_take hc)
        have hlen : (d.take j).length = j := by rw [List.length_take]; omega
        have hlast : digB ((itemL x ++ textL r).getD (j - 1) 0) = true := by
          rw [hd, List.append_assoc, List.getD_eq_getElem?_getD, List.getElem?_append_left (by omega), List.getElem?_eq_getElem (by omega)]
          exact hdg _ (List.getElem_mem _)
        cases hc : d.take j with
        | nil => rw [hc] at hlen; simp at hlen; omega
        | cons c q =>
          rw [hc] at htd
          have hb := dig_plain (htd c (by simp))
          rw [lex_none hb.1 hb.2 (by rw [digs_all htd]; simp)]
          exact ⟨30, p, rfl, .inr ⟨rfl, Nat.le_refl _, by omega, hlast⟩⟩

/-! ### what is known of whatever is parsed -/
theorem hash_len : ∀ (f : Nat) (l : List UInt8) (p : Nat), (hashN f l p).2 + (hashN f l p).1.length = p + l.length := by
  intro f
  induction f with
  | zero => intro l p; rfl
  | succ f ih =>
    intro l p
    rw [hashN_succ]
    by_cases h : l.head? = some 35
    · rw [if_pos h]
      cases hl : lineL l with
      | none => rfl
      | some q =>
        obtain ⟨a, r⟩ := q
        have h1 := congrArg List.length (line_back hl).1
        have h2 := ih r (p + a.length + 1)
        simp at h1
        simp only
        omega
    · rw [if_neg h]
/-- What is parsed: a set; or nothing, and a place. -/
structure ParsedP (l : List UInt8) (out : List (Int × Int)) (e : Int) (p : Nat) : Prop where
  good : e = 0 → p = 0 ∧ ∃ L : List (Nat × Nat), out = L.map upC ∧ L.Pairwise lessN ∧ L.length ≤ 2000 ∧ ∀ c ∈ L, c.1 < 1099511627776 ∧ c.2 ≤ 1099511627776
  bad : e ≠ 0 → out = [] ∧ p ≤ l.length
theorem ParsedP.off {l : List UInt8} {e : Int} {p : Nat} (he : e ≠ 0) (hp : p ≤ l.length) : ParsedP l [] e p := ⟨fun h => absurd h he, fun _ => ⟨rfl, hp⟩⟩
theorem parse_shape (l : List UInt8) : ParsedP l (parseP l).1 (parseP l).2.1 (parseP l).2.2 := by
  have hh := hash_len l.length l 0
  unfold parseP
  by_cases h0 : 20000 < l.length
  · rw [if_pos h0]
    exact ParsedP.off (by decide) (Nat.zero_le _)
  · rw [if_neg h0]
    unfold hashL
    generalize hashN l.length l 0 = q at *
    obtain ⟨q, at_⟩ := q
    simp only at hh ⊢
    cases hl : lineL q with
    | none =>
      show ParsedP l [] 32 at_
      exact ParsedP.off (by decide) (by omega)
    | some hr =>
      obtain ⟨h, r⟩ := hr
      have h1 := congrArg List.length (line_back hl).1
      simp at h1
      simp only
      by_cases hb : headB h = false
      · rw [if_pos hb]
        show ParsedP l [] 32 at_
        exact ParsedP.off (by decide) (by omega)
      · rw [if_neg hb]
        have hsh := lexL_shape r 0 []
        rw [← lexA_short (by omega)] at hsh
        generalize lexA r = a at hsh ⊢
        obtain ⟨I, e, p⟩ := a
        unfold Shaped at hsh
        simp only at hsh ⊢
        by_cases he : e = 0
        · subst he
          rw [if_neg (by simp)]
          obtain ⟨m, m1, m2, _, m4, _, m6⟩ := hsh.1 rfl
          simp only [List.nil_append] at m1
          subst m1
          rcases do_set I m2 with ⟨L, d1, d2⟩ | ⟨e2, p2, d1, d2, x, hx, hp⟩
          · rw [d1]
            exact ⟨fun _ => ⟨rfl, L, rfl, d2⟩, fun h => absurd rfl h⟩
          · rw [d1]
            have hne : e2 ≠ 0 := by rcases d2 with rfl | rfl <;> decide
            have := m4 x hx
            simp only
            rw [if_neg hne]
            exact ParsedP.off hne (by simp only; omega)
        · rw [if_pos he]
          have := hsh.2 he
          exact ParsedP.off he (by simp only; omega)

/-! ### sets from their box's corner on -/
def fromC (bx b_y : Int) (l : List (Int × Int)) : List (Nat × Nat) := l.map fun c => ((c.1 - bx).toNat, (c.2 - b_y).toNat)
theorem fromC_len (bx b_y : Int) (l : List (Int × Int)) : (fromC bx b_y l).length = l.length := by simp [fromC]
theorem fromC_up {bx b_y : Int} {l : List (Int × Int)} (h : ∀ c ∈ l, bx ≤ c.1 ∧ b_y ≤ c.2) : (fromC bx b_y l).map upC = l.map fun c => (c.1 - bx, c.2 - b_y) := by
  unfold fromC
  rw [List.map_map]
  apply List.map_congr_left
  intro c hc
  have := h c hc
  simp [upC]
  omega
theorem fromC_rises {bx b_y : Int} {l : List (Int × Int)} (h : ∀ c ∈ l, bx ≤ c.1 ∧ b_y ≤ c.2) (hr : Rises l) : (fromC bx b_y l).Pairwise lessN := by
  unfold fromC
  rw [List.pairwise_map]
  unfold Rises at hr
  refine List.Pairwise.imp_of_mem (fun {a b} ha hb hab => ?_) hr
  have h1 := h a ha
  have h2 := h b hb
  rw [lessB_iff] at hab
  unfold lessN
  simp only
  omega
theorem fromC_within {bx b_y : Int} {l : List (Int × Int)} (h : ∀ c ∈ l, bx ≤ c.1 ∧ b_y ≤ c.2 ∧ c.1 - bx < 1099511627776 ∧ c.2 - b_y ≤ 1099511627776) : ∀ c ∈ fromC bx b_y l, c.1 < 1099511627776 ∧ c.2 ≤ 1099511627776 := by
  intro c hc
  unfold fromC at hc
  obtain ⟨d, hd, rfl⟩ := List.mem_map.1 hc
  have := h d hd
  simp only
  omega
/-- Shifted sets are, from their corners on, the same. -/
theorem fromC_shift (bx b_y dx dy : Int) (l : List (Int × Int)) : fromC (bx + dx) (b_y + dy) (l.map fun c => (c.1 + dx, c.2 + dy)) = fromC bx b_y l := by
  unfold fromC
  rw [List.map_map]
  apply List.map_congr_left
  intro c _
  have h1 : c.1 + dx - (bx + dx) = c.1 - bx := by omega
  have h2 : c.2 + dy - (b_y + dy) = c.2 - b_y := by omega
  simp only [Function.comp, h1, h2]
end Go.Proofs.YtacpncmdgkljdaaGreatDoor
namespace Go.Proofs.YtacpncmdgkljdaaGreatDoor
open Go.Lib
set_option linter.unusedVariables false

theorem parse_good {l h r : List UInt8} {at_ : Nat} {I : List Itm} {p : Nat} {out : List (Int × Int)} (hs : hashL l 0 = (h ++ 10 :: r, at_)) (hl : l.length ≤ 20000) (hn : ∀ c ∈ h, c ≠ 10) (hb : headB h = true) (hx : lexA r = (I, 0, p)) (hd : doL I st0 = (out, 0, 0)) : parseP l = (out, 0, 0) := by
  unfold parseP
  rw [if_neg (by omega), hs]
  simp only [line_of hn r]
  rw [if_neg (by rw [hb]; decide), hx]
  simp only [ne_eq, not_true_eq_false, if_false, hd, if_true]
theorem parse_nohead {l h r : List UInt8} {at_ : Nat} (hs : hashL l 0 = (h ++ 10 :: r, at_)) (hl : l.length ≤ 20000) (hn : ∀ c ∈ h, c ≠ 10) (hb : headB h = false) : parseP l = ([], 32, at_) := by
  unfold parseP
  rw [if_neg (by omega), hs]
  simp only [line_of hn r]
  rw [if_pos hb]
theorem parse_lexerr {l h r : List UInt8} {at_ : Nat} {I : List Itm} {e : Int} {p : Nat} (hs : hashL l 0 = (h ++ 10 :: r, at_)) (hl : l.length ≤ 20000) (hn : ∀ c ∈ h, c ≠ 10) (hb : headB h = true) (hx : lexA r = (I, e, p)) (he : e ≠ 0) : parseP l = ([], e, at_ + h.length + 1 + p) := by
  unfold parseP
  rw [if_neg (by omega), hs]
  simp only [line_of hn r]
  rw [if_neg (by rw [hb]; decide), hx]
  simp only
  rw [if_pos he]

/-! ### lines with a # ahead -/
def hashText (ls : List (List UInt8)) : List UInt8 := ls.flatMap fun a => 35 :: a ++ [10]
theorem hash_lines (ls : List (List UInt8)) (h : ∀ a ∈ ls, ∀ c ∈ a, c ≠ 10) (r : List UInt8) : ∀ p, hashL (hashText ls ++ r) p = hashL r (p + (hashText ls).length) := by
  induction ls with
  | nil => intro p; simp [hashText]
  | cons a q ih =>
    intro p
    have e : hashText (a :: q) ++ r = 35 :: a ++ 10 :: (hashText q ++ r) := by simp [hashText]
    have e2 : (hashText (a :: q)).length = a.length + 2 + (hashText q).length := by simp [hashText]; omega
    rw [e, hash_one (h a (by simp)), ih fun b hb => h b (List.mem_cons_of_mem _ hb), e2]
    congr 1
    omega
theorem hash_head (ls : List (List UInt8)) (h : ∀ a ∈ ls, ∀ c ∈ a, c ≠ 10) (x y : Nat) (q r : List UInt8) : hashL (hashText ls ++ (headText x y q ++ r)) 0 = (headText x y q ++ r, (hashText ls).length) := by
  rw [hash_lines ls h, hash_no (headText_first x y q r), Nat.zero_add]
theorem hash_head0 (x y : Nat) (q r : List UInt8) : hashL (headText x y q ++ r) 0 = (headText x y q ++ r, 0) := hash_no (headText_first x y q r) 0

/-! ### items' texts, with an end -/
theorem read_items (q : List Tn) (hg : ∀ x ∈ itemsT q, goodI x = true) (hf : fineS st0 q = true) (r : List UInt8) (hl : (textL (itemsT q) ++ 33 :: r).length ≤ 20000) :
    ∃ m p, lexA (textL (itemsT q) ++ 33 :: r) = (m, 0, p) ∧ doL m st0 = ((goS st0 q).out, 0, 0) := by
  obtain ⟨m, hm, hj, he⟩ := lexA_text hg r hl
  have hq : (m.map fun x => (x.1, x.2.1)) = q := by
    have hml : m.length = q.length := by rw [hm]; simp [itemsT]
    apply List.ext_getElem
    · simp [hml]
    · intro j h1 h2
      have h3 : j < (itemsT q).length := by simpa [itemsT] using h2
      obtain ⟨a, b, _⟩ := hj j h3
      have h4 : j < m.length := by rw [hml]; exact h2
      rw [List.getD_eq_getElem?_getD, List.getElem?_eq_getElem h4, List.getD_eq_getElem?_getD, List.getElem?_eq_getElem h3] at a b
      simp only [Option.getD_some] at a b
      rw [List.getElem_map, a, b]
      simp [itemsT]
  exact ⟨m, _, he, by rw [do_fine m st0 (by rw [hq]; exact hf), hq]⟩
/-- Whatever the head and the lines ahead: what the items tell. -/
theorem parse_items (ls : List (List UInt8)) (h : ∀ a ∈ ls, ∀ c ∈ a, c ≠ 10) (x y : Nat) (hx : x ≤ 4611686018427387903) (hy : y ≤ 4611686018427387903) (u : List UInt8) (hu : u = [] ∨ u = pR) (q : List Tn) (hg : ∀ x ∈ itemsT q, goodI x = true) (hf : fineS st0 q = true) (r : List UInt8)
    (hl : (hashText ls ++ (headText x y u ++ 10 :: (textL (itemsT q) ++ 33 :: r))).length ≤ 20000) : parseP (hashText ls ++ (headText x y u ++ 10 :: (textL (itemsT q) ++ 33 :: r))) = ((goS st0 q).out, 0, 0) := by
  obtain ⟨m, p, h1, h2⟩ := read_items q hg hf r (by simp only [List.length_append, List.length_cons] at hl ⊢; omega)
  refine parse_good (hash_head ls h x y u _) hl ?_ ?_ h1 h2
  · refine head_line x y u ?_
    rcases hu with rfl | rfl
    · intro c hc; cases hc
    · decide
  · rcases hu with rfl | rfl
    · exact head_bare x y hx hy
    · exact head_ruled x y hx hy
/-- With a z behind the head: no head, and where its line begins. -/
theorem parse_z (ls : List (List UInt8)) (h : ∀ a ∈ ls, ∀ c ∈ a, c ≠ 10) (x y : Nat) (hx : x ≤ 4611686018427387903) (u : List UInt8) (hu : u = [] ∨ u = pR) (r : List UInt8)
    (hl : (hashText ls ++ (headText x y (u ++ [122]) ++ 10 :: r)).length ≤ 20000) : parseP (hashText ls ++ (headText x y (u ++ [122]) ++ 10 :: r)) = ([], 32, (hashText ls).length) := by
  refine parse_nohead (hash_head ls h x y _ _) hl ?_ ?_
  · refine head_line x y _ ?_
    rcases hu with rfl | rfl <;> decide
  · rcases hu with rfl | rfl
    · exact head_z_plain x y hx
    · exact head_z_ruled x y hx

/-! ### a set's items one by one, and cut -/
theorem one_good {q : List Tn} (hg : ∀ x ∈ q, goodT x = true) : ∀ x ∈ itemsT (oneT q), goodI x = true := by
  refine itemsT_good (fun x hx => ?_) (fun x hx => ?_)
  · unfold oneT at hx
    obtain ⟨y, hy, hx⟩ := List.mem_flatMap.1 hx
    rw [List.eq_of_mem_replicate hx]
    have := hg y hy
    unfold goodT at this ⊢
    simp only [Bool.and_eq_true] at this ⊢
    exact ⟨this.1, rfl⟩
  · unfold oneT at hx
    obtain ⟨y, hy, hx⟩ := List.mem_flatMap.1 hx
    rw [List.eq_of_mem_replicate hx]
    show (1 : Nat) ≤ 1099511627776
    decide
/-- the text of items one by one -/
theorem one_text (q : List Tn) (hg : ∀ x ∈ q, goodT x = true) : textL (itemsT (oneT q)) = q.flatMap fun x => List.replicate x.2 x.1 := by
  induction q with
  | nil => rfl
  | cons x r ih =>
    have h1 := ih fun y hy => hg y (List.mem_cons_of_mem _ hy)
    have hx := hg x (by simp)
    have e : itemsT (oneT (x :: r)) = itemsT (List.replicate x.2 (x.1, 1)) ++ itemsT (oneT r) := by simp [itemsT, oneT]
    have ht : tagB x.1 = true := by unfold goodT at hx; simp only [Bool.and_eq_true] at hx; exact hx.1
    have h2 : ∀ n : Nat, textL (itemsT (List.replicate n (x.1, 1))) = List.replicate n x.1 := by
      intro n
      induction n with
      | zero => rfl
      | succ n ihn =>
        have hi : itemL (x.1, 1, 0) = [x.1] := by
          unfold itemL
          rw [if_pos ((goodI_iff _).2 ⟨ht, Nat.le_refl 1, show (1 : Nat) ≤ 1099511627776 by decide⟩)]
          rfl
        have e2 : itemsT (List.replicate (n + 1) (x.1, 1)) = (x.1, 1, 0) :: itemsT (List.replicate n (x.1, 1)) := by simp [itemsT, List.replicate_succ]
        rw [e2, List.replicate_succ]
        show itemL (x.1, 1, 0) ++ textL _ = _
        rw [hi, ihn]
        rfl
    rw [e, textL_append, h2, h1, List.flatMap_cons]
/-- A set, told one by one, is parsed as the set. -/
theorem parse_ones (x y : Nat) (hx : x ≤ 4611686018427387903) (hy : y ≤ 4611686018427387903) (l : List (Nat × Nat)) (hr : l.Pairwise lessN) (hb : ∀ c ∈ l, c.1 < 1099511627776 ∧ c.2 ≤ 1099511627776) (hl : l.length ≤ 2000) (r : List UInt8)
    (ht : (headText x y pR ++ 10 :: (textL (itemsT (oneT (tellL l).1)) ++ 33 :: r)).length ≤ 20000) : parseP (headText x y pR ++ 10 :: (textL (itemsT (oneT (tellL l).1)) ++ 33 :: r)) = (l.map upC, 0, 0) := by
  have hT := told_all l hr hb hl
  have h1 : ∀ z ∈ (tellL l).1, 1 ≤ z.2 := fun z hz => by
    have := hT.good z hz
    unfold goodT at this
    simp only [Bool.and_eq_true, decide_eq_true_eq] at this
    exact this.2
  obtain ⟨a, b⟩ := one_same _ st0 h1 hT.fine
  have := parse_items [] (fun a ha => by cases ha) x y hx hy pR (.inr rfl) _ (one_good hT.good) a r (by simpa [hashText] using ht)
  rw [b, hT.state] at this
  simpa [hashText] using this
/-- A set's text, cut behind its head, but ahead of its end: what is told, and where. -/
theorem parse_cut (x y : Nat) (hx : x ≤ 4611686018427387903) (hy : y ≤ 4611686018427387903) (l : List (Nat × Nat)) (hr : l.Pairwise lessN) (hb : ∀ c ∈ l, c.1 < 1099511627776 ∧ c.2 ≤ 1099511627776) (hl : l.length ≤ 2000) (j : Nat) (hj : j ≤ (textL (itemsT (tellL l).1)).length)
    (ht : (headText x y pR ++ 10 :: (textL (itemsT (tellL l).1)).take j).length ≤ 20000) :
    ∃ e q, parseP (headText x y pR ++ 10 :: (textL (itemsT (tellL l).1)).take j) = ([], e, q) ∧ (e = 31 ∧ q = (headText x y pR).length + 1 + j ∨ e = 30 ∧ q < (headText x y pR).length + 1 + j ∧ digB ((textL (itemsT (tellL l).1)).getD (j - 1) 0) = true ∧ 1 ≤ j) := by
  obtain ⟨e, q, h1, h2⟩ := lex_cut (itemsT (tellL l).1) j 0 [] (told_good l hr hb hl) hj
  have hlen : ((textL (itemsT (tellL l).1)).take j).length ≤ 20000 := by simp only [List.length_append, List.length_cons] at ht; omega
  rw [← lexA_short hlen] at h1
  have he : e ≠ 0 := by rcases h2 with ⟨rfl, _⟩ | ⟨rfl, _⟩ <;> decide
  refine ⟨e, _, parse_lexerr (hash_head0 x y pR _) ht (head_line x y pR (by decide)) (head_ruled x y hx hy) h1 he, ?_⟩
  rcases h2 with ⟨rfl, rfl⟩ | ⟨rfl, _, h4, h5⟩
  · exact .inl ⟨rfl, by omega⟩
  · exact .inr ⟨rfl, by omega, h5, by omega⟩
end Go.Proofs.YtacpncmdgkljdaaGreatDoor
namespace Go.Proofs.YtacpncmdgkljdaaGreatDoor
open Go.Lib

/-- an item as it lies in memory: its tag, its number, its place -/
abbrev Ite := UInt8 × Int × Int
def noE : Ite := (0, 0, 0)
theorem getD_memE {l : List Ite} {k : Nat} (h : k < l.length) : l.getD k noE ∈ l := by
  rw [List.getD_eq_getElem?_getD, List.getElem?_eq_getElem h]
  exact List.getElem_mem h
def up (x : Itm) : Ite := (x.1, (x.2.1 : Int), (x.2.2 : Int))
def okE (x : Ite) : Bool := tagB x.1 && decide (1 ≤ x.2.1) && decide (x.2.1 ≤ 1099511627776)
theorem okE_iff (x : Ite) : okE x = true ↔ tagB x.1 = true ∧ 1 ≤ x.2.1 ∧ x.2.1 ≤ 1099511627776 := by unfold okE; simp [and_assoc]
def itemE (x : Ite) : List UInt8 := if okE x = true then numL x.2.1.toNat ++ [x.1] else []
def textE (l : List Ite) : List UInt8 := l.flatMap itemE
theorem okE_up (x : Itm) : okE (up x) = goodI x := by
  rw [Bool.eq_iff_iff, okE_iff, goodI_iff]
  simp only [up]
  exact ⟨fun ⟨a, b, c⟩ => ⟨a, by omega, by omega⟩, fun ⟨a, b, c⟩ => ⟨a, by omega, by omega⟩⟩
theorem itemE_up (x : Itm) : itemE (up x) = itemL x := by unfold itemE itemL; rw [okE_up]; rfl
theorem textE_up (l : List Itm) : textE (l.map up) = textL l := by
  induction l with
  | nil => rfl
  | cons x l ih => simp only [textE, textL, List.map_cons, List.flatMap_cons, itemE_up] at ih ⊢; rw [ih]
theorem textE_append (l m : List Ite) : textE (l ++ m) = textE l ++ textE m := by unfold textE; simp
theorem num_len {n : Nat} (h : n ≤ 1099511627776) : (numL n).length ≤ 13 := by
  unfold numL
  split
  · simp
  · rw [decDigits_length]
    rcases Nat.eq_zero_or_pos n with rfl | hp
    · rw [nDigits_small (by omega)]; omega
    · have := nd_le n hp
      rcases Nat.lt_or_ge 13 (nDigits n) with h1 | h1
      · have h2 := Nat.pow_le_pow_right (n := 10) (by decide) h1
        have h3 : (10 : Nat) ^ (13 + 1) = 100000000000000 := by decide
        have h4 : (10 : Nat) ^ Nat.succ 13 = 100000000000000 := by decide
        omega
      · exact h1
theorem itemE_len (x : Ite) : (itemE x).length ≤ 14 := by
  unfold itemE
  split
  · rename_i h
    have := (okE_iff x).1 h
    have := num_len (n := x.2.1.toNat) (by omega)
    simp only [List.length_append, List.length_cons, List.length_nil]
    omega
  · simp
theorem textE_len (l : List Ite) : (textE l).length ≤ 14 * l.length := by
  induction l with
  | nil => simp [textE]
  | cons x l ih =>
    have := itemE_len x
    simp only [textE, List.flatMap_cons, List.length_append, List.length_cons] at ih ⊢
    omega
theorem textE_succ {l : List Ite} {k : Nat} (h : k < l.length) : textE (l.take (k + 1)) = textE (l.take k) ++ itemE (l.getD k noE) := by
  rw [List.take_succ_eq_append_getElem h, textE_append, List.getD_eq_getElem?_getD, List.getElem?_eq_getElem h, Option.getD_some]
  simp [textE]
theorem textE_take_len {l : List Ite} (k : Nat) (h : k ≤ l.length) : (textE (l.take k)).length ≤ 14 * k := by
  have := textE_len (l.take k)
  rw [List.length_take, Nat.min_eq_left h] at this
  exact this
theorem itemE_no {x : Ite} (h : okE x = false) : itemE x = [] := by unfold itemE; rw [h]; rfl
theorem itemE_one {x : Ite} (h : okE x = true) (h1 : x.2.1 = 1) : itemE x = [x.1] := by unfold itemE numL; rw [h, if_pos rfl, h1]; rfl
theorem txt_num {n : Int} (h1 : 1 ≤ n) (h2 : n ≤ 1099511627776) : txtL n = decDigits n.toNat := by unfold txtL; rw [if_pos (by omega)]
theorem itemE_many {x : Ite} (h : okE x = true) (h1 : x.2.1 ≠ 1) : itemE x = txtL x.2.1 ++ [x.1] := by
  have := (okE_iff x).1 h
  unfold itemE numL
  rw [h, if_pos rfl, if_neg (by omega), txt_num this.2.1 this.2.2]

/-! ### reading goes on behind blanks, and behind an item -/
def blanks (l : List UInt8) : Nat := (l.takeWhile blankB).length
theorem blanks_le (l : List UInt8) : blanks l ≤ l.length := (List.takeWhile_sublist _).length_le
theorem drop_blanks (l : List UInt8) : l.drop (blanks l) = l.dropWhile blankB := by
  have h := List.takeWhile_append_dropWhile (p := blankB) (l := l)
  unfold blanks
  generalize l.takeWhile blankB = a at *
  generalize l.dropWhile blankB = b at *
  subst h
  simp
theorem lex_blanks (l : List UInt8) (p : Nat) (acc : List Itm) : lexL l p acc = lexL (l.dropWhile blankB) (p + blanks l) acc := by
  induction l generalizing p with
  | nil => rfl
  | cons c r ih =>
    by_cases h : blankB c = true
    · rw [lex_blank h, ih]
      have e1 : (c :: r).dropWhile blankB = r.dropWhile blankB := by rw [List.dropWhile_cons, if_pos h]
      have e2 : blanks (c :: r) = blanks r + 1 := by unfold blanks; rw [List.takeWhile_cons, if_pos h]; rfl
      rw [e1, e2]
      congr 1
      omega
    · have e1 : (c :: r).dropWhile blankB = c :: r := by rw [List.dropWhile_cons, if_neg h]
      have e2 : blanks (c :: r) = 0 := by unfold blanks; rw [List.takeWhile_cons, if_neg h]; rfl
      rw [e1, e2]
      rfl
theorem head_plain {l : List UInt8} {c : UInt8} {r : List UInt8} (h : l.dropWhile blankB = c :: r) : blankB c = false := by
  have := List.head?_dropWhile_not (p := blankB) l
  rw [h] at this
  simpa using this

/-- What one item at the beginning comes to: the error and nothing else; or the item, and what is left. -/
def oneL (l : List UInt8) : Int × UInt8 × Nat × Nat :=
  match l.drop (digs l) with
  | [] => (30, 0, 0, 0)
  | t :: _ => if tagB t = false ∨ l.headD 0 = 48 then (30, 0, 0, 0) else if digs l = 0 then (0, t, 1, 1) else if 1099511627776 < val (l.take (digs l)) then (2, 0, 0, 0) else (0, t, val (l.take (digs l)), digs l + 1)
theorem lex_one {c : UInt8} {r : List UInt8} (hb : blankB c = false) (he : c ≠ 33) (p : Nat) (acc : List Itm) :
    lexL (c :: r) p acc = if (oneL (c :: r)).1 = 0 then lexL ((c :: r).drop (oneL (c :: r)).2.2.2) (p + (oneL (c :: r)).2.2.2) (acc ++ [((oneL (c :: r)).2.1, (oneL (c :: r)).2.2.1, p)]) else ([], (oneL (c :: r)).1, p) := by
  unfold oneL
  have hh : (c :: r).headD 0 = c := rfl
  rw [hh]
  split
  · rename_i hd
    rw [if_neg (by decide), lex_none hb he hd]
  · rename_i t q hd
    by_cases ho : tagB t = false ∨ c = 48
    · rw [if_pos ho, if_neg (by decide), lex_off hb he hd ho]
    · rw [if_neg ho]
      have ht : tagB t = true := by cases h : tagB t with | true => rfl | false => exact absurd (.inl h) ho
      have hc : c ≠ 48 := fun e => ho (.inr e)
      have hq : q = (c :: r).drop (digs (c :: r) + 1) := by
        rw [← List.drop_drop, hd]
        rfl
      by_cases hk : digs (c :: r) = 0
      · rw [if_pos hk, if_pos rfl]
        rw [hk, List.drop_zero] at hd
        injection hd with h1 h2
        subst h1
        rw [lex_tag ht]
        simp
      · rw [if_neg hk]
        by_cases hv : 1099511627776 < val ((c :: r).take (digs (c :: r)))
        · rw [if_pos hv, if_neg (by decide), lex_big hb he hd ht hc hk hv]
        · rw [if_neg hv, if_pos rfl, lex_num hb he hd ht hc hk (by omega), hq]
          simp only
          rw [Nat.add_assoc]

end Go.Proofs.YtacpncmdgkljdaaGreatDoor
namespace Go.Proofs.YtacpncmdgkljdaaGreatDoor
open Go.Lib
open Cel (lessB Rises setL putL rises_setL mem_setL length_setL setL_snoc setL_of_rises pickI_bd getD_mem)
set_option linter.unusedVariables false

theorem items_len (I : List Itm) : (textL I).length ≤ 14 * I.length := by
  have := textE_len (I.map up)
  rwa [textE_up, List.length_map] at this
theorem print_len (w h : Nat) (hw : w ≤ 4611686018427387903) (hh : h ≤ 4611686018427387903) (l : List (Nat × Nat)) : (printP w h l).length ≤ 66 + 42 * l.length := by
  have h1 := headText_len w h hw hh pR
  have h2 := items_len (itemsT (tellL l).1)
  have h3 := tellL_len l
  have h4 : (itemsT (tellL l).1).length = (tellL l).1.length := by simp [itemsT]
  have h5 : pR.length = 15 := rfl
  unfold printP
  simp only [List.length_append, List.length_cons, List.length_nil]
  omega

/-! ### Far -/
/-- a cell, moved far if it is one of every three -/
def farC (f : Bool) (l : List (Int × Int)) (k : Nat) : Int × Int :=
  if f = true ∧ k % 3 = 1 then ((l.getD k (0, 0)).1 * 100000, (l.getD k (0, 0)).2 * 1000000) else l.getD k (0, 0)
def farTo (f : Bool) (l : List (Int × Int)) (k : Nat) : List (Int × Int) := (List.range k).map (farC f l)
def farL (f : Bool) (l : List (Int × Int)) : List (Int × Int) := setL (farTo f l l.length)
theorem farTo_succ (f : Bool) (l : List (Int × Int)) (k : Nat) : farTo f l (k + 1) = farTo f l k ++ [farC f l k] := by
  unfold farTo
  rw [List.range_succ, List.map_append]
  rfl
theorem farTo_len (f : Bool) (l : List (Int × Int)) (k : Nat) : (farTo f l k).length = k := by simp [farTo]
theorem far_step (f : Bool) (l : List (Int × Int)) (k : Nat) : setL (farTo f l (k + 1)) = putL (farC f l k) (setL (farTo f l k)) := by rw [farTo_succ, setL_snoc]
theorem farC_bd {f : Bool} {l : List (Int × Int)} (h : ∀ c ∈ l, -8 ≤ c.1 ∧ c.1 ≤ 7 ∧ -8 ≤ c.2 ∧ c.2 ≤ 7) {k : Nat} (hk : k < l.length) : -800000 ≤ (farC f l k).1 ∧ (farC f l k).1 ≤ 700000 ∧ -8000000 ≤ (farC f l k).2 ∧ (farC f l k).2 ≤ 7000000 := by
  have := h _ (getD_mem hk)
  unfold farC
  split
  · simp only; omega
  · omega
theorem farL_bd {f : Bool} {l : List (Int × Int)} (h : ∀ c ∈ l, -8 ≤ c.1 ∧ c.1 ≤ 7 ∧ -8 ≤ c.2 ∧ c.2 ≤ 7) : ∀ c ∈ farL f l, -800000 ≤ c.1 ∧ c.1 ≤ 700000 ∧ -8000000 ≤ c.2 ∧ c.2 ≤ 7000000 := by
  intro c hc
  unfold farL at hc
  rw [mem_setL] at hc
  unfold farTo at hc
  obtain ⟨k, hk, rfl⟩ := List.mem_map.1 hc
  exact farC_bd h (List.mem_range.1 hk)
theorem farL_rises (f : Bool) (l : List (Int × Int)) : Rises (farL f l) := rises_setL _
theorem farL_len (f : Bool) (l : List (Int × Int)) : (farL f l).length ≤ l.length := by
  have := length_setL (farTo f l l.length)
  rw [farTo_len] at this
  exact this
theorem farL_right {f : Bool} {l : List (Int × Int)} (h : ∀ c ∈ l, -8 ≤ c.1 ∧ c.1 ≤ 7 ∧ -8 ≤ c.2 ∧ c.2 ≤ 7) (hl : l.length ≤ 60) : Cel.rightB (farL f l) = true := by
  rw [Cel.rightB_iff]
  refine ⟨by have := farL_len f l; omega, fun c hc => ?_, farL_rises f l⟩
  have := farL_bd h c hc
  unfold Cel.inB
  simp only [decide_eq_true_eq]
  omega
/-- Not far: the set itself. -/
theorem far_not {l : List (Int × Int)} (hr : Rises l) : farL false l = l := by
  unfold farL
  have e : farTo false l l.length = l := by
    unfold farTo
    apply List.ext_getElem
    · simp
    · intro j h1 h2
      rw [List.getElem_map, List.getElem_range]
      unfold farC
      rw [if_neg (by simp), List.getD_eq_getElem?_getD, List.getElem?_eq_getElem h2]
      rfl
  rw [e]
  exact setL_of_rises hr
end Go.Proofs.YtacpncmdgkljdaaGreatDoor
namespace Go.Proofs.YtacpncmdgkljdaaGreatDoor.Qt
set_option linter.unusedVariables false
set_option linter.unusedSimpArgs false
open Go Go.Sort Go.RowKit

section
variable {P : Program} {ops : Array Oper} {md : Region.Mode} {C : World → Prop}

/-- f rounds of the head, whatever order, then L. -/
def headAny (P : Program) (md : Region.Mode) (ops : Array Oper) (C : World → Prop) (n : Nat) (L : Array Bool → Act → Prop) : Nat → Array Bool → Act → Prop
  | 0, listed, a => L listed a
  | f + 1, listed, a => Region.ready md ops listed ≠ [] ∧ ∀ i ∈ Region.ready md ops listed, i < n ∧ qOp P ops C i (headAny P md ops C n L f (listed.setIfInBounds i true)) a

theorem any_of_head {n g : Nat} {L : Array Bool → Act → Prop} {Q : Exit → Act → World → Prop} (hL : ∀ listed a w, C w → L listed a → wpAny P md ops Q g listed a w) (f : Nat) :
    ∀ listed a w, C w → headAny P md ops C n L f listed a → wpAny P md ops Q (f + g) listed a w := by
  induction f with
  | zero => intro listed a w hw h; rw [Nat.zero_add]; exact hL _ _ _ hw h
  | succ f ih =>
    intro listed a w hw h
    rw [Nat.succ_add]
    exact ⟨fun h0 => absurd h0 h.1, fun i hi => wpOp_of_qOp hw (fun a' w' hw' h' => ih _ a' w' hw' h') (h.2 i hi).2⟩

/-- What may be taken first is taken first. -/
theorem head_first {n i : Nat} {oi : Oper} {v : Value} {L : Array Bool → Act → Prop} (hi : ops[i]? = some oi) (hsel : ∀ (j : Nat) (o : Oper) cs b, ops[j]? = some o → o.op ≠ .select cs b)
    (hs : Region.sinkB md ops n = true) (hc : Region.chainB md ops n = true) (hn : n < ops.size) (hin : i < n) (hdone : ∀ listed a, L listed a → ∀ j ∈ Region.ready md ops listed, n ≤ j) (f : Nat) :
    ∀ (listed : Array Bool) (a : Act), HeadInv md ops n listed →
      (∀ j oj, ops[j]? = some oj → j ≠ i → listed.getD j true = false → (∀ e ∈ oj.after, Region.binds md e = true → e.on ≠ i) → oi.apart ops oj = true) →
      i ∈ Region.ready md ops listed → YieldsIn P ops C oi v a →
      headAny P md ops C n L f (listed.setIfInBounds i true) (a.put oi.dst v) → headAny P md ops C n L (f + 1) listed a := by
  induction f with
  | zero =>
    intro listed a inv _ hr hy H
    refine ⟨fun h => (by rw [h] at hr; cases hr), fun j hj => ?_⟩
    have hjn : j < n := Nat.lt_of_not_le fun h => tail_waits hs hc hn inv _ i rfl hin (mem_ready.1 hr).1 j h hj
    refine ⟨hjn, ?_⟩
    by_cases hji : j = i
    · subst hji; exact hy.qOp hi H
    · exact absurd (hdone _ _ H j (ready_mono hj hji)) (by omega)
  | succ f ih =>
    intro listed a inv hfree hr hy H
    have hun := (mem_ready.1 hr).1
    refine ⟨fun h => (by rw [h] at hr; cases hr), fun j hj => ?_⟩
    have hjn : j < n := Nat.lt_of_not_le fun h => tail_waits hs hc hn inv _ i rfl hin hun j h hj
    refine ⟨hjn, ?_⟩
    by_cases hji : j = i
    · subst hji; exact hy.qOp hi H
    · obtain ⟨hjun, oj, hoj, hall⟩ := mem_ready.1 hj
      have hnot : ∀ e ∈ oj.after, Region.binds md e = true → e.on ≠ i := fun e he hb heq => by
        have h1 := hall e he hb
        rw [heq, getD_both hun] at h1
        cases h1
      have hq := qOp_put hoj (hfree j oj hoj hji hjun hnot) (fun cs b => hsel i oi cs b hi) (fun cs b => hsel j oj cs b hoj) hy (H.2 j (ready_mono hj hji)).2
      refine qOp_mono (fun a' h3 => ih (listed.setIfInBounds j true) a' (inv.set hj hjn) (fun k ok hk hki hku hno => hfree k ok hk hki ?_ hno) (ready_mono hr (Ne.symm hji)) h3.1 ?_) hq
      · by_cases hjk : j = k
        · subst hjk; exact hjun
        · rwa [getD_set_ne true hjk] at hku
      · rw [Array.setIfInBounds_comm _ _ hji]; exact h3.2

theorem head_lex {n g : Nat} {Lq : Act → Prop} (hsel : Region.noSelect ops = true) (hs : Region.sinkB md ops n = true) (hc : Region.chainB md ops n = true) (hn : n < ops.size) (l : List Oper) :
    ∀ (k : Nat) (listed : Array Bool) (a : Act), (∀ j, j < l.length → l[j]? = ops[k + j]?) → k + l.length = n → HeadInv md ops n listed →
    Region.lexHead md ops g l.length k listed = true → wpQuiet P ops C Lq l a →
    headAny P md ops C n (fun listed' a' => Region.seqB md ops g n listed' = true ∧ Lq a') l.length listed a := by
  induction l with
  | nil =>
    intro k listed a _ hk _ hB h
    obtain rfl : k = n := by simpa using hk
    exact ⟨by simpa [Region.lexHead] using hB, h⟩
  | cons o l ih =>
    intro k listed a hl hk inv hB h
    have h0 : ops[k]? = some o := by simpa using (hl 0 (by simp)).symm
    simp only [List.length_cons, Region.lexHead, Bool.and_eq_true] at hB
    have hkn : k < n := by simp only [List.length_cons] at hk; omega
    have hr' : k ∈ Region.ready md ops listed := by simpa using hB.1.1
    have hst : qOp P ops C k (wpQuiet P ops C Lq l) a := by unfold qOp; simp only [h0]; exact h
    obtain ⟨v, hy, hK⟩ := yieldsIn_of_qOp h0 hst
    exact head_first h0 (Region.noSelect_spec hsel) hs hc hn hkn (fun listed' a' hL => seqB_ready hL.1) l.length listed a inv (Region.free_spec h0 hB.1.2) hr' hy
      (ih (k + 1) _ _ (fun j hj => by have := hl (j + 1) (by simp; omega); simpa [Nat.add_assoc, Nat.add_comm 1 j] using this) (by simp only [List.length_cons] at hk; omega) (inv.set hr' hkn) hB.2 hK)

theorem quiet_mono {Q Q' : Act → Prop} (hq : ∀ a, Q a → Q' a) (l : List Oper) : ∀ a, wpQuiet P ops C Q l a → wpQuiet P ops C Q' l a := by
  induction l with
  | nil => exact hq
  | cons o l ih =>
    intro a h
    unfold wpQuiet at h ⊢
    split
    · rename_i hw; rw [if_pos hw] at h; exact Oper.quiet_mono ih h
    · rename_i hw; rw [if_neg hw] at h; exact ih _ h

theorem region_tail {id : Nat} {Q : Exit → Act → World → Prop} {a : Act} {w : World} {l : List Oper} (n : Nat) (hm : P.follows .mixedOrders = true) (hB : Region.lexTailB .any l.toArray n = true) (hC : C w.drew)
    (h : wpQuiet P l.toArray C (fun a' => ∀ w', C w' → wpList P l.toArray Q (l.drop n) a' w') (l.take n) a) : (Code.region id l.toArray true).wp P Q a w := by
  simp only [Region.lexTailB, Bool.and_eq_true, decide_eq_true_eq] at hB
  obtain ⟨⟨⟨⟨hsel, hn⟩, hs⟩, hc⟩, hlex⟩ := hB
  have hn' : n < l.length := by simpa using hn
  have htl : (l.take n).length = n := by simp; omega
  have hdl : (l.drop n).length = l.toArray.size - n := by simp
  have inv0 : HeadInv .any l.toArray n (Array.replicate l.toArray.size false) :=
    ⟨by simp, fun j oj _ hl => (by rw [getD_replicate_false] at hl; cases hl), fun t _ ht => getD_in (by simpa using ht) (getD_replicate_false _ _)⟩
  have H := head_lex (P := P) (C := C) (md := .any) (g := l.toArray.size - n) hsel hs hc hn (l.take n) 0 _ a (fun j hj => by rw [htl] at hj; simp [hj]) (by simpa using htl) inv0 (by rw [htl]; exact hlex) h
  refine wp_region_any hm ?_
  have e := any_of_head (Q := Q) (g := l.toArray.size - n) (fun listed a' w' hw' hL => by
    have := wpAny_of_seq (md := .any) (Q' := Q) (l.drop n) n listed a' w' (fun j => by simp [List.getElem?_drop]) (by rw [hdl]; exact hL.1) (hL.2 w' hw')
    rwa [hdl] at this) _ _ _ w.drew hC H
  rw [htl, show n + (l.toArray.size - n) = l.toArray.size by omega] at e
  exact e

/-- .. at the class 'of what was there nothing has turned'; the tail in whatever such world. -/
theorem below_tail {id : Nat} {Q : Exit → Act → World → Prop} {a : Act} {w : World} {l : List Oper} (n : Nat) (hm : P.follows .mixedOrders = true) (hB : Region.lexTailB .any l.toArray n = true)
    (h : wpQuiet P l.toArray (fun w' => ∃ p : Regrown, w' = grow (redrawn w p.d) p.os) (fun a' => ∀ w', Below w.heap.size w w' → wpList P l.toArray Q (l.drop n) a' w') (l.take n) a) : (Code.region id l.toArray true).wp P Q a w :=
  region_tail n hm hB ⟨⟨w.drawn + 1, #[]⟩, by rw [grow_empty]; rfl⟩ (quiet_mono (fun a' h w' ⟨p, hp⟩ => h w' (hp ▸ below_regrown w p.d p.os)) _ _ h)

/-- The whole region quiet. -/
theorem below_all {id : Nat} {Q : Exit → Act → World → Prop} {a : Act} {w : World} {l : List Oper} (hm : P.follows .mixedOrders = true) (hB : Region.lexB .any l.toArray = true)
    (h : wpQuiet P l.toArray (fun w' => ∃ p : Regrown, w' = grow (redrawn w p.d) p.os) (fun a' => ∀ w', Below w.heap.size w w' → Q .normal a' w') l a) : (Code.region id l.toArray true).wp P Q a w :=
  wp_region_quiet_below hm hB (quiet_mono (fun a' h w' ⟨p, hp⟩ => h w' (hp ▸ below_regrown w p.d p.os)) _ _ h)

/-- A contract that ends in 'Below', at a call within such a region. -/
theorem at_call {f : FuncId} {args : Array Value} {w : World} {d : Nat} {os : Array Obj} {v : Value} (h : ∀ W, Calls P f args W fun e w' => e = .returned v ∧ Below W.heap.size W w') :
    Calls P f args (grow (redrawn w d) os) fun e w'' => e = .returned v ∧ ∃ p : Regrown, w'' = grow (redrawn w p.d) p.os := Calls.regrown_of (h _)

/-- .. one that asks for the world ahead. -/
theorem at_call' {f : FuncId} {args : Array Value} {w : World} {d : Nat} {os : Array Obj} {v : Value} (h : ∀ W, Below w.heap.size w W → Calls P f args W fun e w' => e = .returned v ∧ Below W.heap.size W w') :
    Calls P f args (grow (redrawn w d) os) fun e w'' => e = .returned v ∧ ∃ p : Regrown, w'' = grow (redrawn w p.d) p.os := Calls.regrown_of (h _ (below_regrown w d os))

/-- .. one that leaves the world alone. -/
theorem at_same {f : FuncId} {args : Array Value} {w : World} {d : Nat} {os : Array Obj} {v : Value} (h : ∀ W, Below w.heap.size w W → Calls P f args W fun e w' => e = .returned v ∧ W = w') :
    Calls P f args (grow (redrawn w d) os) fun e w'' => e = .returned v ∧ ∃ p : Regrown, w'' = grow (redrawn w p.d) p.os :=
  Calls.regrown_of ((h _ (below_regrown w d os)).mono fun _ _ ⟨he, hw⟩ => ⟨he, hw ▸ Below.refl _ _⟩)

/-- A cell that is there, in every world of the class. -/
theorem cell_in {w : World} {a : Addr} {v : Value} (h : w.cell? a = some v) : ∀ d os, (grow (redrawn w d) os).cell? a = some v := cell_regrown h
/-- a cell that is there stays, and Below adds up -/
theorem keep {w w' : World} {a : Addr} {v : Value} (hb : Below w.heap.size w w') (h : w.cell? a = some v) : w'.cell? a = some v := (hb.cell (block_lt_of_cell h)).trans h
theorem more {B : Nat} {w0 w w' : World} (h : Below B w0 w) (hB : B ≤ w.heap.size) (hb : Below w.heap.size w w') : Below B w0 w' := h.trans (hb.mono hB)

theorem ret_bool {x y : Bool} (h : (x = true) ↔ (y = true)) : Ending.returned (.bool x) = .returned (.bool y) := by rw [Bool.eq_iff_iff.2 h]
theorem ret_int {k : IntKind} {x y : Int} (h : x = y) : Ending.returned (.int k x) = .returned (.int k y) := by rw [h]
end
end Go.Proofs.YtacpncmdgkljdaaGreatDoor.Qt
namespace Go.Proofs.YtacpncmdgkljdaaGreatDoor
open Go.RowKit Go.Sort

def I64 (n : Int) : Prop := -9223372036854775808 ≤ n ∧ n ≤ 9223372036854775807

/-- The table of powers of ten, that the library's Itoa looks into. -/
def tabName : String := Rows.rleTellsRow.named.getD 0 default
def Tab (w : World) : Prop := Lib.TabIs Tryz.prog w tabName .u64 Lib.pow10Tab
theorem Tab.below {w w' : World} (h : Tab w) (hb : Below w.heap.size w w') : Tab w' := Lib.tabBelow_of_tabIs h w' hb

theorem itoa_any (n : Int) (h : I64 n) (w : World) (hT : Tab w) :
    Calls Tryz.prog 37 #[.int .i64 n] w fun e w' => e = .returned (.string ⟨(Lib.itoa n).toArray⟩) ∧ ∃ k os, w' = grow (w.drewN k) os :=
  Any.strconv_Itoa Tryz.laysM171 n h.1 h.2 w hT

def pickI (c n : Int) : Int := if c < 0 then (-(c + 1)) % n else c % n
theorem pickI_bd (c n : Int) (hn : 1 ≤ n) : 0 ≤ pickI c n ∧ pickI c n < n := by
  unfold pickI
  split
  · exact ⟨Int.emod_nonneg _ (by omega), Int.emod_lt_of_pos _ (by omega)⟩
  · exact ⟨Int.emod_nonneg _ (by omega), Int.emod_lt_of_pos _ (by omega)⟩

theorem pick_any (c n : Int) (w : World) (h1 : -9223372036854775808 ≤ c) (h2 : c ≤ 9223372036854775807) (hn : 1 ≤ n) (hn2 : n ≤ 9223372036854775807) :
    Calls Tryz.prog 8 #[.int .i64 c, .int .i64 n] w fun e w' => e = .returned (.int .i64 (pickI c n)) ∧ w = w' := by
  generalize hr : pickI c n = r
  have HR := Lib.hid hr
  clear hr
  go_enter Tryz.func8, Tryz.ntmps8
  go_wp2
  all_goals go_ret
  all_goals refine ⟨?_, rfl⟩
  all_goals (refine Qt.ret_int ?_; rw [← HR.out]; unfold pickI)
  · rw [if_pos (by assumption), ← Int.neg_tmod, Int.tmod_eq_emod_of_nonneg (by omega)]
  · rw [if_neg (by omega)]
/-- .. whatever number comes in: a number from 0 on, below n. -/
theorem pick_nat (c n : Int) (w : World) (hc : I64 c) (hn : 1 ≤ n) (hn2 : n ≤ 9223372036854775807) :
    Calls Tryz.prog 8 #[.int .i64 c, .int .i64 n] w fun e w' => e = .returned (.int .i64 ((pickI c n).toNat : Int)) ∧ w = w' := by
  have h := pickI_bd c n hn
  have := pick_any c n w hc.1 hc.2 hn hn2
  rwa [show (((pickI c n).toNat : Nat) : Int) = pickI c n by omega]

theorem counted_yes (n : Int) (w : World) (h0 : 0 ≤ n) (h1 : n ≤ 4611686018427387903) :
    Calls Tryz.prog 36 #[.int .i64 n] w fun e w' => e = .returned (.bool true) ∧ w = w' := by
  go_enter Tryz.func36, Tryz.ntmps36
  go_wp2
  all_goals go_ret
  all_goals exact ⟨by first | rfl | (simp [*]; done), rfl⟩
theorem counted_no (n : Int) (w : World) (h : n < 0 ∨ 4611686018427387903 < n) :
    Calls Tryz.prog 36 #[.int .i64 n] w fun e w' => e = .returned (.bool false) ∧ w = w' := by
  rcases h with h | h
  · have h' : ¬ 0 ≤ n := by omega
    go_enter Tryz.func36, Tryz.ntmps36
    go_wp2
    all_goals go_ret
    all_goals exact ⟨rfl, rfl⟩
  · have h' : 0 ≤ n := by omega
    have h2 : ¬ n ≤ 4611686018427387903 := by omega
    go_enter Tryz.func36, Tryz.ntmps36
    go_wp2
    all_goals go_ret
    all_goals exact ⟨by first | rfl | (simp [*]; done), rfl⟩

def txt (n : Int) : ByteArray := ⟨(txtL n).toArray⟩

theorem text_any (n : Int) (w : World) (hi : I64 n) (hT : Tab w) :
    Calls Tryz.prog 16 #[.int .i64 n] w fun e w' => e = .returned (.string (txt n)) ∧ Below w.heap.size w w' := by
  by_cases h : 0 ≤ n ∧ n ≤ 4611686018427387903
  · obtain ⟨h0, h1⟩ := h
    have e : txt n = ⟨(Lib.itoa n).toArray⟩ := by unfold txt txtL Lib.itoa; rw [if_pos ⟨h0, h1⟩, if_neg (by omega)]
    rw [e]
    clear e
    generalize hr : (⟨(Lib.itoa n).toArray⟩ : ByteArray) = r
    have HR := Lib.hid hr
    clear hr
    go_enter Tryz.func16, Tryz.ntmps16
    go_wp2_with fail
    refine (counted_yes n _ h0 h1).mono ?_
    rintro e w' ⟨rfl, rfl⟩
    go_wp2_with fail
    refine (itoa_any n hi _ hT).mono ?_
    rintro e w' ⟨rfl, k, os, rfl⟩
    have hb := Lib.below_grow w.heap.size w (Nat.le_refl _) k os
    rw [HR.out]
    generalize grow (w.drewN k) os = w1 at hb ⊢
    go_wp2
    go_ret
    exact ⟨rfl, hb⟩
  · have e : txt n = ⟨#[]⟩ := by unfold txt txtL; rw [if_neg h]
    rw [e]
    clear e
    go_enter Tryz.func16, Tryz.ntmps16
    go_wp2_with fail
    refine (counted_no n _ (by omega)).mono ?_
    rintro e w' ⟨rfl, rfl⟩
    go_wp2
    go_ret
    exact ⟨rfl, Below.refl _ _⟩

/-! ### slices of numbers -/

/-- The slice at A of l.length numbers reads as l, below block B. -/
def Rd (w : World) (B : Nat) (A : Option Addr) (l : List Int) : Prop :=
  ∀ j, j < l.length → ∃ b off, A = some ⟨b, off, none⟩ ∧ b < B ∧ w.cell? ⟨b, off + j, none⟩ = some (.int .i64 (l.getD j 0))

theorem Rd.below {w w' : World} {B B' : Nat} {A : Option Addr} {l : List Int} (h : Rd w B A l) (hb : Below B' w w') (hB : B ≤ B') : Rd w' B A l := fun j hj => by
  obtain ⟨b, off, e, hlt, h0⟩ := h j hj
  exact ⟨b, off, e, hlt, (hb.cell (p := ⟨b, off + j, none⟩) (Nat.lt_of_lt_of_le hlt hB)).trans h0⟩
theorem Rd.more {w : World} {B B' : Nat} {A : Option Addr} {l : List Int} (h : Rd w B A l) (hB : B ≤ B') : Rd w B' A l := fun j hj => by
  obtain ⟨b, off, e, hlt, h0⟩ := h j hj
  exact ⟨b, off, e, by omega, h0⟩
theorem Rd.nil (w : World) (B : Nat) (A : Option Addr) : Rd w B A [] := fun j hj => absurd hj (Nat.not_lt_zero j)
theorem Rd.at_ {w : World} {B : Nat} {A : Option Addr} {l : List Int} (h : Rd w B A l) (hn : 0 < l.length) :
    ∃ b off, A = some ⟨b, off, none⟩ ∧ b < B ∧ ∀ j, j < l.length → w.cell? ⟨b, off + j, none⟩ = some (.int .i64 (l.getD j 0)) := by
  obtain ⟨b, off, e, hlt, _⟩ := h 0 hn
  refine ⟨b, off, e, hlt, fun j hj => ?_⟩
  obtain ⟨b', off', e', _, h0⟩ := h j hj
  rw [e] at e'
  injection e' with e'
  injection e' with e1 e2
  subst e1 e2
  exact h0
/-- A slice whose cells read as a list, now. -/
def Now (w : World) (A : Option Addr) (l : List Int) : Prop := Rd w w.heap.size A l
theorem Now.below {w w' : World} {A : Option Addr} {l : List Int} (h : Now w A l) (hb : Below w.heap.size w w') : Now w' A l := (Rd.below h hb (Nat.le_refl _)).more hb.size
theorem now_nil (w : World) (A : Option Addr) : Now w A [] := Rd.nil _ _ _

/-- A slice that the call itself has made. -/
abbrev Own (w : World) (B : Nat) (v : Value) (l : List Int) : Prop := w.ownsRow B 3 1 v l.length (l.map (Value.int .i64))
/-- It reads as its list. -/
def Reads (w : World) (v : Value) (l : List Int) : Prop := ∃ A c, v = .slice A l.length c ∧ l.length ≤ c ∧ Now w A l
theorem Own.reads {w : World} {B : Nat} {v : Value} {l : List Int} (h : Own w B v l) : Reads w v l := by
  rcases h.2 with ⟨rfl, h0⟩ | ⟨g, cap, cur, rfl, hb, hh, hn, hcap, hsz, htake⟩
  · have : l = [] := by simpa using h0
    subst this
    exact ⟨none, 0, rfl, Nat.le_refl _, now_nil _ _⟩
  · refine ⟨some ⟨g, 0, none⟩, cap, rfl, hn, fun j hj => ⟨g, 0, rfl, (World.ownsRow.lt h g rfl).2, ?_⟩⟩
    have := World.ownsRow.cellAt h j (by simpa using hj)
    rw [Nat.zero_add]
    rw [this]
    simp [List.getD_eq_getElem?_getD, List.getElem?_eq_getElem hj]
theorem Reads.below {w w' : World} {v : Value} {l : List Int} (h : Reads w v l) (hb : Below w.heap.size w w') : Reads w' v l := by
  obtain ⟨A, c, e, hc, hR⟩ := h
  exact ⟨A, c, e, hc, hR.below hb⟩

end Go.Proofs.YtacpncmdgkljdaaGreatDoor
namespace Go.Proofs.YtacpncmdgkljdaaGreatDoor
open Go.RowKit Go.Sort

theorem code_hi (s : ByteArray) (pos : Nat) (h : pos < s.size) (hb : 128 ≤ (s[pos]'h).toNat) : 128 ≤ (Utf8.decode s pos).1 := (decode_high s pos h hb).1

/-- byte k of a string, as a number -/
def byt (s : ByteArray) (k : Nat) : Nat := (s.data.toList.getD k 0).toNat
theorem byt_at (s : ByteArray) (k : Nat) (h : k < s.size) : (s[k]'h).toNat = byt s k := by
  unfold byt
  rw [List.getD_eq_getElem?_getD, List.getElem?_eq_getElem (by simpa using h)]
  rfl
theorem size_list (s : ByteArray) : s.size = s.data.toList.length := Array.length_toList.symm
theorem list_none {s : ByteArray} (h : s.size = 0) : s.toList = [] := by rw [ByteArray.toList_eq]; exact List.eq_nil_of_length_eq_zero (by rw [← size_list]; exact h)
theorem list_some {s : ByteArray} (h : 0 < s.size) : ¬ s.toList = [] := by rw [ByteArray.toList_eq]; intro e; have := size_list s; rw [e] at this; simp only [List.length_nil] at this; omega
theorem digs_to {s : ByteArray} {k : Nat} (h : k < s.size) (hk : ∀ j, j < k → 48 ≤ byt s j ∧ byt s j ≤ 57) (hd : 48 ≤ byt s k ∧ byt s k ≤ 57) : ∀ j, j < k + 1 → 48 ≤ byt s j ∧ byt s j ≤ 57 := by
  intro j hj
  by_cases e : j = k
  · subst e; exact hd
  · exact hk j (by omega)
theorem val_to {s : ByteArray} {k : Nat} (h : k < s.size) : val (s.data.toList.take (k + 1)) = 10 * val (s.data.toList.take k) + (byt s k - 48) := by
  rw [List.take_succ_eq_append_getElem (by simpa using h), val_snoc]
  unfold byt dv
  rw [List.getD_eq_getElem?_getD, List.getElem?_eq_getElem (by simpa using h)]
  rfl
theorem val_more {s : ByteArray} {k : Nat} (h : 4611686018427387903 < val (s.data.toList.take k)) : 4611686018427387903 < val s.data.toList := Nat.lt_of_lt_of_le h (val_mono k)

theorem parse_off {s : ByteArray} {k : Nat} (h : k < s.size) (hb : byt s k < 48 ∨ 57 < byt s k) : parseL s.data.toList = (0, 20) := by
  unfold parseL
  rw [if_pos]
  cases hbad : badL s.data.toList with
  | true => rfl
  | false =>
    have hm : s.data.toList.getD k 0 ∈ s.data.toList := by
      rw [List.getD_eq_getElem?_getD, List.getElem?_eq_getElem (by simpa using h)]
      exact List.getElem_mem _
    have := (digB_iff _).1 (((badL_iff _).1 hbad).2.2 _ hm)
    unfold byt at hb
    omega
theorem parse_none {s : ByteArray} (h : s.size = 0) : parseL s.data.toList = (0, 20) := by
  have : s.data.toList = [] := List.eq_nil_of_length_eq_zero (by rw [← size_list]; exact h)
  rw [this]
  rfl
theorem parse_zero {s : ByteArray} (h : 1 < s.size) (h0 : byt s 0 = 48) : parseL s.data.toList = (0, 20) := by
  unfold parseL
  rw [if_pos]
  unfold badL zeroB
  have e : s.data.toList.getD 0 0 = 48 := UInt8.toNat_inj.1 h0
  rw [e, decide_eq_true (by rw [← size_list]; exact h)]
  simp
theorem parse_all {s : ByteArray} (hp : 0 < s.size) (hz : ¬ (1 < s.size ∧ byt s 0 = 48)) (hk : ∀ j, j < s.size → 48 ≤ byt s j ∧ byt s j ≤ 57) : badL s.data.toList = false := by
  refine (badL_iff _).2 ⟨fun e => ?_, ?_, fun c hc => ?_⟩
  · have := size_list s; rw [e] at this; simp only [List.length_nil] at this; omega
  · unfold zeroB
    rw [Bool.and_eq_false_iff]
    rw [size_list] at hz
    by_cases h1 : 1 < s.data.toList.length
    · right
      rw [beq_eq_false_iff_ne]
      intro e
      exact hz ⟨h1, by unfold byt; rw [e]; rfl⟩
    · left; exact decide_eq_false h1
  · obtain ⟨j, hj, rfl⟩ := List.getElem_of_mem hc
    have := hk j (by rw [size_list]; exact hj)
    unfold byt at this
    rw [List.getD_eq_getElem?_getD, List.getElem?_eq_getElem hj] at this
    exact (digB_iff _).2 this
theorem parse_big {l : List UInt8} (hb : badL l = false) (hv : 4611686018427387903 < val l) : parseL l = (0, 21) := by
  unfold parseL; rw [hb, if_neg (by decide), if_pos hv]
theorem parse_ok {l : List UInt8} (hb : badL l = false) (hv : ¬ 4611686018427387903 < val l) : parseL l = ((val l : Int), 0) := by
  unfold parseL; rw [hb, if_neg (by decide), if_neg hv]

def ParseR (p : Int × Int) (w : World) (e : Ending) (w' : World) : Prop := e = .returned (.tuple #[.int .i64 p.1, .int .i64 p.2]) ∧ Below w.heap.size w w'

/-- What is known of the number at byte k: it is the value of the bytes ahead, or these are too great. -/
def At (s : ByteArray) (k n : Nat) (big : Bool) : Prop := (∀ j, j < k → 48 ≤ byt s j ∧ byt s j ≤ 57) ∧ (big = false → n = val (s.data.toList.take k)) ∧ (big = true → 4611686018427387903 < val (s.data.toList.take k))

set_option maxHeartbeats 4000000 in
theorem parse_any (s : ByteArray) (w : World) (hs : s.size ≤ maxLen) :
    Calls Tryz.prog 70 #[.string s] w (ParseR (parseL s.data.toList) w) := by
  unfold maxLen at hs
  generalize hr : parseL s.data.toList = r
  obtain ⟨r1, r2⟩ := r
  have HR := Lib.hid hr
  clear hr
  by_cases h0 : s.size = 0
  · have hp := HR.out.symm.trans (parse_none h0)
    simp only [Prod.mk.injEq] at hp
    obtain ⟨rfl, rfl⟩ := hp
    have hs0 : s.toList = [] := list_none h0
    clear h0 HR
    go_enter Tryz.func70, Tryz.ntmps70
    go_wp2
    all_goals go_ret2
    all_goals exact ⟨rfl, Below.refl _ _⟩
  · have hs0 : ¬ s.toList = [] := list_some (by omega)
    have hs1 : s.toList.isEmpty = false := by simpa using hs0
    have hpos : 0 < s.size := by omega
    clear h0
    by_cases hz : 1 < s.size ∧ byt s 0 = 48
    · have hp := HR.out.symm.trans (parse_zero hz.1 hz.2)
      simp only [Prod.mk.injEq] at hp
      obtain ⟨rfl, rfl⟩ := hp
      have h1 : (1 : Int) < (s.size : Int) := by omega
      have h2 : (((s[0]'hpos).toNat : Int) == 48) = true := by rw [byt_at s 0 hpos, hz.2]; rfl
      clear hz HR
      go_enter Tryz.func70, Tryz.ntmps70
      go_wp2
      all_goals go_ret2
      all_goals exact ⟨rfl, Below.refl _ _⟩
    · have HZ := Lib.hid hz
      have hcase : ¬ (1 : Int) < (s.size : Int) ∨ (1 : Int) < (s.size : Int) ∧ (((s[0]'hpos).toNat : Int) == 48) = false := by
        by_cases h1 : 1 < s.size
        · right
          refine ⟨by omega, ?_⟩
          rw [byt_at s 0 hpos, beq_eq_false_iff_ne]
          intro e
          exact hz ⟨h1, by omega⟩
        · left; omega
      clear hz
      rcases hcase with h1 | ⟨h1, h2⟩
      all_goals
        go_enter Tryz.func70, Tryz.ntmps70
        go_wp2
        go_loopw [4, 5] (fun n big wr => ∃ (k m : Nat) (b : Bool), k ≤ s.size ∧ m ≤ 4611686018427387903 ∧ n = .int .i64 m ∧ big = .bool b ∧ wr.heap[w.heap.size]? = some (.stringIter s k) ∧ Below w.heap.size w wr ∧ Hid (At s k m b)) (fun _ _ wr => s.size - wr.iterPos w.heap.size)
        case atStart => exact ⟨0, 0, false, Nat.zero_le _, Nat.zero_le _, rfl, rfl, World.iter_heap w s 0, (Below.refl _ _).alloc (Nat.le_refl _) _, (fun j hj => absurd hj (Nat.not_lt_zero j)), fun _ => rfl, fun h => by cases h⟩
        case round =>
          obtain ⟨k, m, b, hk, hm, rfl, rfl, hit, hb, HA⟩ := hrel
          have hpos0 := iterPos_of hit
          by_cases hp : k < s.size
          · have hlim : byt s k < 48 ∨ (57 < byt s k ∧ byt s k < 128) ∨ 128 ≤ byt s k ∨ ∃ x : Nat, byt s k = x + 48 ∧ x ≤ 9 := by
              by_cases h1 : byt s k < 48
              · exact .inl h1
              · by_cases h2 : byt s k ≤ 57
                · exact .inr (.inr (.inr ⟨byt s k - 48, by omega, by omega⟩))
                · by_cases h3 : byt s k < 128
                  · exact .inr (.inl ⟨by omega, h3⟩)
                  · exact .inr (.inr (.inl (by omega)))
            have hasc : byt s k < 128 → ∀ ty, (Instr.next (.pointer (some ⟨w.heap.size, 0, none⟩)) true ty).run Tryz.prog wr = .ok (.tuple #[.bool true, .int .i64 k, .int .i32 (byt s k)]) (wr.iterAt w.heap.size s (k + 1)) := fun ha ty => by
              rw [Lib.run_next_ascii_at wr w.heap.size s k ty hit hp (by rw [byt_at s k hp]; exact ha), byt_at s k hp]
            have hbad : byt s k < 48 ∨ 57 < byt s k → r1 = 0 ∧ r2 = 20 := fun h => by
              have := HR.out.symm.trans (parse_off hp h)
              simpa using this
            rcases hlim with hlow | ⟨hh1, hh2⟩ | hhi | ⟨x, hx, hx9⟩
            · obtain ⟨rfl, rfl⟩ := hbad (.inl hlow)
              have hnx := hasc (by omega)
              have hb2 := Lib.below_iterAt hb (k := w.heap.size) (Nat.le_refl _) s (k + 1)
              generalize wr.iterAt w.heap.size s (k + 1) = W1 at hnx hb2
              generalize byt s k = d at hnx hlow
              clear hbad hasc hit hpos0
              go_wp2
              all_goals go_ret2
              all_goals exact ⟨rfl, hb2⟩
            · obtain ⟨rfl, rfl⟩ := hbad (.inr hh1)
              have hnx := hasc hh2
              have hb2 := Lib.below_iterAt hb (k := w.heap.size) (Nat.le_refl _) s (k + 1)
              generalize wr.iterAt w.heap.size s (k + 1) = W1 at hnx hb2
              generalize byt s k = d at hnx hh1 hh2
              clear hbad hasc hit hpos0
              go_wp2
              all_goals go_ret2
              all_goals exact ⟨rfl, hb2⟩
            · obtain ⟨rfl, rfl⟩ := hbad (.inr (by omega))
              have hd := code_hi s k hp (by rw [byt_at s k hp]; exact hhi)
              have hd2 := decode_le s k
              have hnx : ∀ ty, (Instr.next (.pointer (some ⟨w.heap.size, 0, none⟩)) true ty).run Tryz.prog wr = _ := fun ty => Lib.run_next_any_at wr w.heap.size s k ty hit hp
              have hb2 := Lib.below_iterAt hb (k := w.heap.size) (Nat.le_refl _) s (k + (Utf8.decode s k).2)
              generalize wr.iterAt w.heap.size s (k + (Utf8.decode s k).2) = W1 at hnx hb2
              generalize (Utf8.decode s k).1 = d at hnx hd hd2
              clear hbad hasc hit hpos0 hhi
              go_wp2
              all_goals go_ret2
              all_goals exact ⟨rfl, hb2⟩
            · have hnx := hasc (by omega)
              have hb2 := Lib.below_iterAt hb (k := w.heap.size) (Nat.le_refl _) s (k + 1)
              have hit2 := Lib.iterAt_heap wr w.heap.size s k (k + 1) hit
              generalize wr.iterAt w.heap.size s (k + 1) = W1 at hnx hb2 hit2
              rw [hx] at hnx
              have hpos2 := iterPos_of hit2
              have HX := Lib.hid hx
              have HP0 := Lib.hid hpos0
              have HP2 := Lib.hid hpos2
              clear hbad hasc hit hpos0 hx hpos2
              have hmeas : s.size - W1.iterPos w.heap.size < s.size - wr.iterPos w.heap.size := by rw [HP0.out, HP2.out]; omega
              have HM := Lib.hid hmeas
              clear hmeas
              have hds : ∀ j, j < k + 1 → 48 ≤ byt s j ∧ byt s j ≤ 57 := digs_to hp HA.out.1 (by rw [HX.out]; omega)
              have hv : val (s.data.toList.take (k + 1)) = 10 * val (s.data.toList.take k) + x := by rw [val_to hp, HX.out]; omega
              have HD := Lib.hid hds
              have HV := Lib.hid hv
              clear hds hv
              cases b
              · by_cases hc : (4611686018427387903 - (x : Int)) / 10 < (m : Int)
                · have hbig : 4611686018427387903 < val (s.data.toList.take (k + 1)) := by rw [HV.out, ← HA.out.2.1 rfl]; omega
                  have HB := Lib.hid hbig
                  clear hbig
                  go_wp2
                  go_roundw
                  case measure => exact HM.out
                  case rel => exact ⟨k + 1, m, true, by omega, hm, rfl, rfl, hit2, hb2, HD.out, (fun h => by cases h), fun _ => HB.out⟩
                · have hm2 : 10 * m + x ≤ 4611686018427387903 := by omega
                  have hval : 10 * m + x = val (s.data.toList.take (k + 1)) := by rw [HV.out, ← HA.out.2.1 rfl]
                  have HB := Lib.hid hval
                  clear hval
                  go_wp2
                  go_roundw
                  case measure => exact HM.out
                  case rel => exact ⟨k + 1, 10 * m + x, false, by omega, hm2, by go_num, rfl, hit2, hb2, HD.out, (fun _ => HB.out), fun h => by cases h⟩
              · have hbig : 4611686018427387903 < val (s.data.toList.take (k + 1)) := by have := HA.out.2.2 rfl; rw [HV.out]; omega
                have HB := Lib.hid hbig
                clear hbig
                go_wp2
                go_roundw
                case measure => exact HM.out
                case rel => exact ⟨k + 1, m, true, by omega, hm, rfl, rfl, hit2, hb2, HD.out, (fun h => by cases h), fun _ => HB.out⟩
          · have hnx : ∀ ty, (Instr.next (.pointer (some ⟨w.heap.size, 0, none⟩)) true ty).run Tryz.prog wr = _ := fun ty => Lib.run_next_end_at wr w.heap.size s k ty hit hp
            have hks : k = s.size := by omega
            have hfull : s.data.toList.take k = s.data.toList := List.take_of_length_le (by rw [← size_list]; omega)
            have hgood : badL s.data.toList = false := parse_all hpos HZ.out (by rw [← hks]; exact HA.out.1)
            clear hit hpos0
            cases b
            · have hv : m = val s.data.toList := by rw [HA.out.2.1 rfl, hfull]
              have hp2 := HR.out.symm.trans (parse_ok hgood (by rw [← hv]; omega))
              rw [← hv] at hp2
              simp only [Prod.mk.injEq] at hp2
              obtain ⟨rfl, rfl⟩ := hp2
              clear hks hfull hgood hv
              go_wp2
              all_goals go_ret2
              all_goals exact ⟨rfl, hb⟩
            · have hp2 := HR.out.symm.trans (parse_big hgood (by have := HA.out.2.2 rfl; rwa [hfull] at this))
              simp only [Prod.mk.injEq] at hp2
              obtain ⟨rfl, rfl⟩ := hp2
              clear hks hfull hgood
              go_wp2
              all_goals go_ret2
              all_goals exact ⟨rfl, hb⟩

end Go.Proofs.YtacpncmdgkljdaaGreatDoor
namespace Go.Proofs.YtacpncmdgkljdaaGreatDoor
set_option linter.unusedVariables false
set_option linter.unusedSimpArgs false
open Go.RowKit Go.Sort

/-- the three cells of an item -/
def cellsE (x : Ite) : List Value := [.int .u8 x.1.toNat, .int .i64 x.2.1, .int .i64 x.2.2]
def flE (l : List Ite) : List Value := l.flatMap cellsE
theorem flE_append (l m : List Ite) : flE (l ++ m) = flE l ++ flE m := by unfold flE; simp
theorem flE_one (x : Ite) : flE [x] = cellsE x := by simp [flE]
theorem length_flE (l : List Ite) : (flE l).length = l.length * 3 := by
  induction l with
  | nil => rfl
  | cons x l ih => simp only [flE, cellsE, List.flatMap_cons, List.length_append, List.length_cons, List.length_nil] at ih ⊢; omega
theorem flE_get (l : List Ite) (j : Nat) (h : j < l.length) : (flE l)[j * 3]? = some (.int .u8 (l.getD j noE).1.toNat) ∧ (flE l)[j * 3 + 1]? = some (.int .i64 (l.getD j noE).2.1) ∧ (flE l)[j * 3 + 2]? = some (.int .i64 (l.getD j noE).2.2) := by
  induction l generalizing j with
  | nil => exact absurd h (Nat.not_lt_zero j)
  | cons x l ih =>
    cases j with
    | zero => simp [flE, cellsE]
    | succ j =>
      have := ih j (by simpa using h)
      have e1 : (j + 1) * 3 = j * 3 + 1 + 1 + 1 := by omega
      have e2 : flE (x :: l) = .int .u8 x.1.toNat :: .int .i64 x.2.1 :: .int .i64 x.2.2 :: flE l := rfl
      rw [e1, e2]
      simpa using this
theorem flE_cell1 (m : List Ite) : ∀ u ∈ flE m, u.oneCell' = true := by
  intro u hu
  obtain ⟨x, _, hx⟩ := List.mem_flatMap.1 hu
  simp only [cellsE, List.mem_cons, List.not_mem_nil, or_false] at hx
  rcases hx with rfl | rfl | rfl <;> rfl

/-- The slice at A of l.length items reads as l, below block B. -/
def RdE (w : World) (B : Nat) (A : Option Addr) (l : List Ite) : Prop :=
  ∀ j, j < l.length → ∃ b off, A = some ⟨b, off, none⟩ ∧ b < B ∧ w.cell? ⟨b, off + j * 3, none⟩ = some (.int .u8 (l.getD j noE).1.toNat) ∧ w.cell? ⟨b, off + j * 3 + 1, none⟩ = some (.int .i64 (l.getD j noE).2.1) ∧ w.cell? ⟨b, off + j * 3 + 2, none⟩ = some (.int .i64 (l.getD j noE).2.2)
theorem RdE.below {w w' : World} {B B' : Nat} {A : Option Addr} {l : List Ite} (h : RdE w B A l) (hb : Below B' w w') (hB : B ≤ B') : RdE w' B A l := fun j hj => by
  obtain ⟨b, off, e, hlt, h0, h1, h2⟩ := h j hj
  have hx : b < B' := Nat.lt_of_lt_of_le hlt hB
  exact ⟨b, off, e, hlt, (hb.cell (p := ⟨b, off + j * 3, none⟩) hx).trans h0, (hb.cell (p := ⟨b, off + j * 3 + 1, none⟩) hx).trans h1, (hb.cell (p := ⟨b, off + j * 3 + 2, none⟩) hx).trans h2⟩
theorem RdE.more {w : World} {B B' : Nat} {A : Option Addr} {l : List Ite} (h : RdE w B A l) (hB : B ≤ B') : RdE w B' A l := fun j hj => by
  obtain ⟨b, off, e, hlt, h0⟩ := h j hj
  exact ⟨b, off, e, by omega, h0⟩
theorem RdE.nil (w : World) (B : Nat) (A : Option Addr) : RdE w B A [] := fun j hj => absurd hj (Nat.not_lt_zero j)
theorem RdE.at_ {w : World} {B : Nat} {A : Option Addr} {l : List Ite} (h : RdE w B A l) (hn : 0 < l.length) :
    ∃ b off, A = some ⟨b, off, none⟩ ∧ b < B ∧ ∀ j, j < l.length → w.cell? ⟨b, off + j * 3, none⟩ = some (.int .u8 (l.getD j noE).1.toNat) ∧ w.cell? ⟨b, off + j * 3 + 1, none⟩ = some (.int .i64 (l.getD j noE).2.1) ∧ w.cell? ⟨b, off + j * 3 + 2, none⟩ = some (.int .i64 (l.getD j noE).2.2) := by
  obtain ⟨b, off, e, hlt, _⟩ := h 0 hn
  refine ⟨b, off, e, hlt, fun j hj => ?_⟩
  obtain ⟨b', off', e', _, h0⟩ := h j hj
  rw [e] at e'
  injection e' with e'
  injection e' with e1 e2
  subst e1 e2
  exact h0
def NowE (w : World) (A : Option Addr) (l : List Ite) : Prop := RdE w w.heap.size A l
theorem NowE.below {w w' : World} {A : Option Addr} {l : List Ite} (h : NowE w A l) (hb : Below w.heap.size w w') : NowE w' A l := (RdE.below h hb (Nat.le_refl _)).more hb.size
theorem nowE_nil (w : World) (A : Option Addr) : NowE w A [] := RdE.nil _ _ _

abbrev OwnE (w : World) (B : Nat) (v : Value) (l : List Ite) : Prop := w.ownsRow B 61 3 v l.length (flE l)
/-- It reads as its list. -/
def ReadsE (w : World) (v : Value) (l : List Ite) : Prop := ∃ A c, v = .slice A l.length c ∧ l.length ≤ c ∧ NowE w A l
theorem OwnE.reads {w : World} {B : Nat} {v : Value} {l : List Ite} (h : OwnE w B v l) : ReadsE w v l := by
  rcases h.2 with ⟨rfl, h0⟩ | ⟨g, cap, cur, rfl, hb, hh, hn, hcap, hsz, htake⟩
  · have : l = [] := by simpa using h0
    subst this
    exact ⟨none, 0, rfl, Nat.le_refl _, nowE_nil _ _⟩
  · refine ⟨some ⟨g, 0, none⟩, cap, rfl, hn, fun j hj => ?_⟩
    have hf := flE_get l j hj
    refine ⟨g, 0, rfl, (World.ownsRow.lt h g rfl).2, ?_, ?_, ?_⟩
    · rw [Nat.zero_add]; exact (World.ownsRow.cellAt h (j * 3) (by omega)).trans hf.1
    · rw [Nat.zero_add]; exact (World.ownsRow.cellAt h (j * 3 + 1) (by omega)).trans hf.2.1
    · rw [Nat.zero_add]; exact (World.ownsRow.cellAt h (j * 3 + 2) (by omega)).trans hf.2.2
theorem ReadsE.below {w w' : World} {v : Value} {l : List Ite} (h : ReadsE w v l) (hb : Below w.heap.size w w') : ReadsE w' v l := by
  obtain ⟨A, c, e, hc, hR⟩ := h
  exact ⟨A, c, e, hc, hR.below hb⟩

theorem info_item : (Tryz.prog.info? 61).map (fun i => (i.zero, i.size, i.bytes)) = some (some (.agg #[.int .u8 0, .int .i64 0, .int .i64 0]), 3, 24) := by kernel_rfl

theorem nowE_at {w : World} {m : List Ite} {b off : Nat} (h : ∀ j, j < m.length → w.cell? ⟨b, off + j * 3, none⟩ = some (.int .u8 (m.getD j noE).1.toNat) ∧ w.cell? ⟨b, off + j * 3 + 1, none⟩ = some (.int .i64 (m.getD j noE).2.1) ∧ w.cell? ⟨b, off + j * 3 + 2, none⟩ = some (.int .i64 (m.getD j noE).2.2)) :
    ∀ j u, (flE m)[j]? = some u → w.cell? ((⟨b, off, none⟩ : Addr).add j) = some u := by
  intro j u hu
  rw [Addr.add_lit]
  have hj : j < m.length * 3 := by
    rcases Nat.lt_or_ge j (m.length * 3) with h1 | h1
    · exact h1
    · rw [List.getElem?_eq_none (by rw [length_flE]; exact h1)] at hu; cases hu
  obtain ⟨h0, h1, h2⟩ := h (j / 3) (by omega)
  obtain ⟨f0, f1, f2⟩ := flE_get m (j / 3) (by omega)
  have hc : j % 3 = 0 ∨ j % 3 = 1 ∨ j % 3 = 2 := by omega
  rcases hc with hp | hp | hp
  · have e : j = j / 3 * 3 := by omega
    rw [e] at hu ⊢
    rw [f0] at hu
    rw [← hu]
    exact h0
  · have e : j = j / 3 * 3 + 1 := by omega
    rw [e] at hu ⊢
    rw [f1] at hu
    rw [← hu, ← Nat.add_assoc]
    exact h1
  · have e : j = j / 3 * 3 + 2 := by omega
    rw [e] at hu ⊢
    rw [f2] at hu
    rw [← hu, ← Nat.add_assoc]
    exact h2

theorem appendE_none {w : World} {B : Nat} {v : Value} {out : List Ite} (c : Nat) (ho : OwnE w B v out) :
    (Builtin.append_ #[47, 47] 47 #[v, .slice none 0 c]).run Tryz.prog w = .ok v w := by
  obtain ⟨i0, hi, hz0, hz1, hz2⟩ := info_parts info_item
  rcases ho.2 with ⟨rfl, _⟩ | ⟨g, cap, cur, rfl, _, _, hnc, _⟩
  · simp [Builtin.append_, run_underlying Tryz.underlying47, sizeOf, typeInfo, hi, Builtin.lenOf, Builtin.firstCells]
  · simp [Builtin.append_, run_underlying Tryz.underlying47, sizeOf, typeInfo, hi, Builtin.lenOf, Builtin.firstCells, storeCells, hnc]

theorem appE_any {w : World} {B : Nat} {v : Value} {out m : List Ite} {A : Option Addr} (c : Nat) (hB : B ≤ w.heap.size) (ho : OwnE w B v out) (hm : NowE w A m) (hl : out.length + m.length ≤ 1000000) :
    ∃ v' w', (Builtin.append_ #[47, 47] 47 #[v, .slice A m.length c]).run Tryz.prog w = .ok v' w' ∧ OwnE w' B v' (out ++ m) ∧ w.grownBy w' v.ownBlock := by
  obtain ⟨i0, hi, hz0, hz1, hz2⟩ := info_parts info_item
  by_cases h0 : m.length = 0
  · have : m = [] := List.eq_nil_of_length_eq_zero h0
    subst this
    cases A with
    | none => exact ⟨v, w, appendE_none c ho, by rw [List.append_nil]; exact ho, ⟨rfl, rfl, rfl, Nat.le_refl _, fun _ _ _ => rfl⟩⟩
    | some a =>
      obtain ⟨v', w', hr, h2, h3, _⟩ := run_append_own (P := Tryz.prog) (w := w) B 47 47 61 i0 (.agg #[.int .u8 0, .int .i64 0, .int .i64 0]) 3 24 Tryz.underlying47 hi hz0 hz1 hz2 rfl (by decide) v out.length (flE out) ho a 0 c [] rfl (fun j u h => by simp at h) (fun u h => by cases h) (by unfold maxLen; omega) (by omega) hB
      exact ⟨v', w', hr, by rw [List.append_nil] at h2 ⊢; exact h2, h3⟩
  · obtain ⟨b, off, rfl, _, hcell⟩ := hm.at_ (by omega)
    obtain ⟨v', w', hr, h2, h3, _⟩ := run_append_own (P := Tryz.prog) (w := w) B 47 47 61 i0 (.agg #[.int .u8 0, .int .i64 0, .int .i64 0]) 3 24 Tryz.underlying47 hi hz0 hz1 hz2 rfl (by decide) v out.length (flE out) ho ⟨b, off, none⟩ m.length c (flE m) (length_flE m) (nowE_at hcell) (flE_cell1 m) (by unfold maxLen; omega) (by omega) hB
    refine ⟨v', w', hr, ?_, h3⟩
    show World.ownsRow _ _ _ _ _ _ (flE (out ++ m))
    rw [flE_append, List.length_append]
    exact h2

theorem nowE_new (w : World) (x : Ite) : NowE (w.alloc (.cells #[.int .u8 x.1.toNat, .int .i64 x.2.1, .int .i64 x.2.2] 61)) (some ⟨w.heap.size, 0, none⟩) [x] := fun j hj => by
  have hj1 : j = 0 := by simp at hj; omega
  subst hj1
  exact ⟨w.heap.size, 0, rfl, by simp, by simp, by simp, by simp⟩
/-- one item more, that lies in a new block -/
theorem pushE_any {w : World} {B : Nat} {v : Value} {out : List Ite} (x : Ite) (hB : B ≤ w.heap.size) (ho : OwnE w B v out) (hl : out.length ≤ 999999) :
    ∃ v' w', (Builtin.append_ #[47, 47] 47 #[v, .slice (some ⟨w.heap.size, 0, none⟩) 1 1]).run Tryz.prog (w.alloc (.cells #[.int .u8 x.1.toNat, .int .i64 x.2.1, .int .i64 x.2.2] 61)) = .ok v' w' ∧ OwnE w' B v' (out ++ [x]) ∧ (w.alloc (.cells #[.int .u8 x.1.toNat, .int .i64 x.2.1, .int .i64 x.2.2] 61)).grownBy w' v.ownBlock ∧ Below B w w' := by
  have ho' : OwnE (w.alloc (.cells #[.int .u8 x.1.toNat, .int .i64 x.2.1, .int .i64 x.2.2] 61)) B v out := World.ownsRow.alloc ho _
  obtain ⟨v', w', hr, h1, h2⟩ := appE_any (m := [x]) 1 (by simp; omega) ho' (nowE_new w x) (by simp; omega)
  exact ⟨v', w', hr, h1, h2, Below.grown ((Below.refl _ _).alloc hB _) h2 (by simp; omega) (fun k e => (World.ownsRow.lt ho' k e).1)⟩

/-! ### texts -/
def str (l : List UInt8) : ByteArray := ⟨l.toArray⟩
theorem str_list (s : ByteArray) : str s.data.toList = s := by cases s; rfl
theorem str_data (l : List UInt8) : (str l).data.toList = l := rfl
theorem str_size (l : List UInt8) : (str l).size = l.length := by show l.toArray.size = _; simp
theorem str_append (l m : List UInt8) : str l ++ str m = str (l ++ m) := by
  apply ByteArray.ext
  simp [str]
theorem str_take (l : List UInt8) (k : Nat) : (str l).extract 0 k = str (l.take k) := by
  apply ByteArray.ext
  simp [str]
theorem str_drop (l : List UInt8) (k : Nat) : (str l).extract k l.length = str (l.drop k) := by
  apply ByteArray.ext
  apply Array.ext'
  simp [str]
  exact List.take_of_length_le (by simp)
theorem str_ne {l : List UInt8} (h : l ≠ []) : (str l).toList ≠ [] := by rw [ByteArray.toList_eq]; exact h

end Go.Proofs.YtacpncmdgkljdaaGreatDoor
namespace Go.Proofs.YtacpncmdgkljdaaGreatDoor
open Go.Lib
set_option linter.unusedVariables false

theorem cutL_step (part : List UInt8) (c : UInt8) (r : List UInt8) : cutL part (c :: r) = if part.isPrefixOf (c :: r) = true then some ([], (c :: r).drop part.length) else (cutL part r).map fun q => (c :: q.1, q.2) := rfl
theorem cutL_index {part : List UInt8} (hp : part ≠ []) : ∀ s : List UInt8, cutL part s = if 0 ≤ Lib.index s part then some (s.take (Lib.index s part).toNat, s.drop ((Lib.index s part).toNat + part.length)) else none := by
  intro s
  induction s with
  | nil =>
    have e : Lib.index [] part = -1 := by
      unfold Lib.index
      cases part with
      | nil => exact absurd rfl hp
      | cons a b => rfl
    rw [e, if_neg (by decide)]
    unfold cutL
    rw [if_neg hp]
  | cons c r ih =>
    rw [cutL_step]
    by_cases h : part.isPrefixOf (c :: r) = true
    · have e : Lib.index (c :: r) part = 0 := by unfold Lib.index; rw [if_pos h]
      rw [if_pos h, e, if_pos (by decide)]
      simp
    · have hge := Lib.index_ge r part
      rw [if_neg h, ih]
      by_cases h1 : Lib.index r part = -1
      · have e : Lib.index (c :: r) part = -1 := by unfold Lib.index; rw [if_neg h, if_pos (by rw [h1]; rfl)]
        rw [e, h1]
        rfl
      · have e : Lib.index (c :: r) part = Lib.index r part + 1 := by
          rw [show Lib.index (c :: r) part = (if part.isPrefixOf (c :: r) then 0 else if Lib.index r part == -1 then -1 else Lib.index r part + 1) from rfl, if_neg h, if_neg (by simpa using h1)]
        have h0 : 0 ≤ Lib.index r part := by omega
        rw [e, if_pos h0, if_pos (by omega)]
        have e2 : (Lib.index r part + 1).toNat = (Lib.index r part).toNat + 1 := by omega
        rw [e2, Option.map_some, List.take_succ_cons, show (Lib.index r part).toNat + 1 + part.length = ((Lib.index r part).toNat + part.length) + 1 by omega, List.drop_succ_cons]
theorem cut_some {part s a b : List UInt8} (hp : part ≠ []) (h : cutL part s = some (a, b)) : Lib.cut s part = (a, b, true) := by
  rw [cutL_index hp] at h
  unfold Lib.cut
  split at h
  · rename_i h0
    rw [if_pos h0]
    injection h with h
    obtain ⟨rfl, rfl⟩ := Prod.mk.inj h
    rfl
  · cases h
theorem cut_none_is {part s : List UInt8} (hp : part ≠ []) (h : cutL part s = none) : Lib.cut s part = (s, [], false) := by
  rw [cutL_index hp] at h
  unfold Lib.cut
  split at h
  · cases h
  · rename_i h0
    rw [if_neg h0]
/-- A line is what stands ahead of the first line feed. -/
theorem line_cut : ∀ l : List UInt8, cutL [10] l = lineL l := by
  intro l
  induction l with
  | nil => rfl
  | cons c r ih =>
    rw [cutL_step, ih]
    show _ = if c = 10 then some ([], r) else (lineL r).map fun q => (c :: q.1, q.2)
    by_cases h : c = 10
    · subst h
      rw [if_pos rfl, if_pos (by simp [List.isPrefixOf])]
      rfl
    · rw [if_neg h, if_neg (by simp [List.isPrefixOf]; exact fun e => h e.symm)]
/-- what strings.Cut answers -/
def cutT (part l : List UInt8) : Value := match cutL part l with
  | some (a, b) => .tuple #[.string (str a), .string (str b), .bool true]
  | none => .tuple #[.string (str l), .string (str []), .bool false]
theorem cutT_some {part l a b : List UInt8} (h : cutL part l = some (a, b)) : cutT part l = .tuple #[.string (str a), .string (str b), .bool true] := by unfold cutT; rw [h]
theorem cutT_none {part l : List UInt8} (h : cutL part l = none) : cutT part l = .tuple #[.string (str l), .string (str []), .bool false] := by unfold cutT; rw [h]
theorem cutT_three (part l : List UInt8) : ∃ a b q, cutT part l = .tuple #[.string a, .string b, .bool q] := by
  cases h : cutL part l with
  | none => exact ⟨_, _, _, cutT_none h⟩
  | some q => exact ⟨_, _, _, cutT_some h⟩
theorem cutT_lib {part : List UInt8} (hp : part ≠ []) (l : List UInt8) : cutT part l = .tuple #[.string ⟨(Lib.cut l part).1.toArray⟩, .string ⟨(Lib.cut l part).2.1.toArray⟩, .bool (Lib.cut l part).2.2] := by
  cases h : cutL part l with
  | none => rw [cutT_none h, cut_none_is hp h]; rfl
  | some q => obtain ⟨a, b⟩ := q; rw [cutT_some h, cut_some hp h]; rfl
theorem cut_parts {part : List UInt8} (hp : part ≠ []) {l a b : List UInt8} (h : cutL part l = some (a, b)) : l = a ++ (part ++ b) := by
  induction l generalizing a with
  | nil => unfold cutL at h; rw [if_neg hp] at h; cases h
  | cons c r ih =>
    rw [cutL_step] at h
    by_cases hc : part.isPrefixOf (c :: r) = true
    · rw [if_pos hc] at h
      injection h with h
      obtain ⟨rfl, rfl⟩ := Prod.mk.inj h
      rw [List.isPrefixOf_iff_prefix] at hc
      obtain ⟨t, ht⟩ := hc
      rw [← ht]
      simp
    · rw [if_neg hc] at h
      cases hb : cutL part r with
      | none => rw [hb] at h; cases h
      | some q =>
        obtain ⟨a', b'⟩ := q
        rw [hb] at h
        injection h with h
        obtain ⟨rfl, rfl⟩ := Prod.mk.inj h
        rw [ih hb]
        rfl
theorem num_dig {l : List UInt8} (h : numB l = true) : ∀ c ∈ l, digB c = true := by
  have hb : badL l = false := by
    cases hb : badL l with
    | false => rfl
    | true => rw [num_bad hb] at h; cases h
  exact ((badL_iff l).1 hb).2.2
theorem num_no {l : List UInt8} {c : UInt8} (hc : c ∈ l) (hd : digB c = false) : numB l = false := by
  cases h : numB l with
  | false => rfl
  | true => have := num_dig h c hc; rw [hd] at this; cases this
/-- A number with the rule behind it, or without: the rule is taken off its end. -/
theorem trim_num (v : List UInt8) : (match cutL pR v with | some (a, b) => numB a && b.isEmpty | none => numB v) = numB (Lib.trimSuffix v pR) := by
  have hp : pR ≠ [] := by decide
  unfold Lib.trimSuffix Lib.hasSuffix
  cases h : cutL pR v with
  | none =>
    have hn : ¬ pR.isSuffixOf v = true := by
      rw [List.isSuffixOf_iff_suffix]
      rintro ⟨t, ht⟩
      rw [cutL_index hp] at h
      have : ¬ 0 ≤ Lib.index v pR := by
        intro h0
        rw [if_pos h0] at h
        cases h
      have hi : Lib.index v pR = -1 := by have := Lib.index_ge v pR; omega
      clear h
      subst ht
      have hcut : ∀ t : List UInt8, 0 ≤ Lib.index (t ++ pR) pR := by
        intro t
        induction t with
        | nil => decide
        | cons c t ih =>
          have e : Lib.index (c :: (t ++ pR)) pR = (if pR.isPrefixOf (c :: (t ++ pR)) then 0 else if Lib.index (t ++ pR) pR == -1 then -1 else Lib.index (t ++ pR) pR + 1) := rfl
          show 0 ≤ Lib.index (c :: (t ++ pR)) pR
          rw [e]
          split
          · decide
          · split
            · rename_i h1
              have h2 : Lib.index (t ++ pR) pR = -1 := by simpa using h1
              omega
            · omega
      have := hcut t
      omega
    rw [if_neg hn]
  | some q =>
    obtain ⟨a, b⟩ := q
    simp only
    have he := cut_parts hp h
    by_cases hb : b = []
    · subst hb
      rw [List.append_nil] at he
      have hs : pR.isSuffixOf v = true := by rw [List.isSuffixOf_iff_suffix]; exact ⟨a, he.symm⟩
      rw [if_pos hs, he]
      simp
    · have h1 : b.isEmpty = false := by simpa using hb
      rw [h1, Bool.and_false]
      refine (num_no (c := 44) ?_ rfl).symm
      split
      · rename_i hs
        rw [List.isSuffixOf_iff_suffix] at hs
        obtain ⟨t, ht⟩ := hs
        have e1 : v.take (v.length - pR.length) = t := by rw [← ht]; simp
        rw [e1]
        have hlen : a.length + b.length = t.length := by
          have := congrArg List.length (ht.trans he)
          simp only [List.length_append] at this
          omega
        have hbl : 0 < b.length := List.length_pos_iff.2 hb
        have h44 : v[a.length]? = some 44 := by
          rw [he, List.getElem?_append_right (Nat.le_refl _), Nat.sub_self]
          rfl
        rw [← ht, List.getElem?_append_left (by omega)] at h44
        exact List.mem_of_getElem? h44
      · rw [he]
        exact List.mem_append_right _ (List.mem_append_left _ (by decide))
/-- A head, as the program asks for it. -/
theorem head_by (l : List UInt8) : headB l = (Lib.hasPrefix l pX && match cutL pY (Lib.trimPrefix l pX) with
    | none => false
    | some (u, v) => numB u && numB (Lib.trimSuffix v pR)) := by
  unfold headB Lib.trimPrefix Lib.hasPrefix
  cases h : pX.isPrefixOf l with
  | false => rfl
  | true =>
    rw [if_pos rfl, Bool.true_and, Bool.true_and]
    have e : pX.length = 4 := rfl
    rw [e]
    cases hc : cutL pY (l.drop 4) with
    | none => rfl
    | some q =>
      obtain ⟨u, v⟩ := q
      exact congrArg (fun z => numB u && z) (trim_num v)

/-! ### remarks -/
theorem hash_open {l : List UInt8} (h : lineL l = none) (p : Nat) : hashL l p = (l, p) := by
  unfold hashL
  cases hn : l.length with
  | zero => rfl
  | succ n =>
    rw [hashN_succ, h]
    simp
theorem hash_on {l a r : List UInt8} (h35 : l.head? = some 35) (h : lineL l = some (a, r)) (p : Nat) : hashL l p = hashL r (p + a.length + 1) := by
  have hb := (line_back h).1
  have hlen := congrArg List.length hb
  simp at hlen
  unfold hashL
  cases hn : l.length with
  | zero => omega
  | succ n =>
    rw [hashN_succ, if_pos h35, h]
    simp only
    exact hashN_fuel _ _ _ _ (by omega) (Nat.le_refl _)
theorem head_pre35 (l : List UInt8) : Lib.hasPrefix l [35] = true ↔ l.head? = some 35 := by
  unfold Lib.hasPrefix
  cases l with
  | nil => simp [List.isPrefixOf]
  | cons c r =>
    simp [List.isPrefixOf]
    exact eq_comm
end Go.Proofs.YtacpncmdgkljdaaGreatDoor
