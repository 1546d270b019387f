/-
  Plain maths of layer 4, items as they lie in memory: whatever their tags and numbers.
-/
import Derived.Test.YtildobjgohddoaaDoorTa
namespace Go.Proofs.YtildobjgohddoaaDoor
open Go.Lib

/-- an item as it lies in memory: its tag, its number, its place -/
abbrev Ite := UInt8 × Int × Int
def noE : Ite := (0, 0, 0)
theorem getD_memE {l : List Ite} {k : Nat} (h : k < l.length) : l.getD k noE ∈ l := by
  rw [List.getD_eq_getElem?_getD, List.getElem?_eq_getElem h]
  exact List.getElem_mem h
def up (x : Itm) : Ite := (x.1, (x.2.1 : Int), (x.2.2 : Int))
def okE (x : Ite) : Bool := tagB x.1 && decide (1 ≤ x.2.1) && decide (x.2.1 ≤ 1099511627776)
theorem okE_iff (x : Ite) : okE x = true ↔ tagB x.1 = true ∧ 1 ≤ x.2.1 ∧ x.2.1 ≤ 1099511627776 := by unfold okE; simp [and_assoc]
def itemE (x : Ite) : List UInt8 := if okE x = true then numL x.2.1.toNat ++ [x.1] else []
def textE (l : List Ite) : List UInt8 := l.flatMap itemE
theorem okE_up (x : Itm) : okE (up x) = goodI x := by
  rw [Bool.eq_iff_iff, okE_iff, goodI_iff]
  simp only [up]
  exact ⟨fun ⟨a, b, c⟩ => ⟨a, by omega, by omega⟩, fun ⟨a, b, c⟩ => ⟨a, by omega, by omega⟩⟩
theorem itemE_up (x : Itm) : itemE (up x) = itemL x := by unfold itemE itemL; rw [okE_up]; rfl
theorem textE_up (l : List Itm) : textE (l.map up) = textL l := by
  induction l with
  | nil => rfl
  | cons x l ih => simp only [textE, textL, List.map_cons, List.flatMap_cons, itemE_up] at ih ⊢; rw [ih]
theorem textE_append (l m : List Ite) : textE (l ++ m) = textE l ++ textE m := by unfold textE; simp
theorem num_len {n : Nat} (h : n ≤ 1099511627776) : (numL n).length ≤ 13 := by
  unfold numL
  split
  · simp
  · rw [decDigits_length]
    rcases Nat.eq_zero_or_pos n with rfl | hp
    · rw [nDigits_small (by omega)]; omega
    · have := nd_le n hp
      rcases Nat.lt_or_ge 13 (nDigits n) with h1 | h1
      · have h2 := Nat.pow_le_pow_right (n := 10) (by decide) h1
        have h3 : (10 : Nat) ^ (13 + 1) = 100000000000000 := by decide
        have h4 : (10 : Nat) ^ Nat.succ 13 = 100000000000000 := by decide
        omega
      · exact h1
theorem itemE_len (x : Ite) : (itemE x).length ≤ 14 := by
  unfold itemE
  split
  · rename_i h
    have := (okE_iff x).1 h
    have := num_len (n := x.2.1.toNat) (by omega)
    simp only [List.length_append, List.length_cons, List.length_nil]
    omega
  · simp
theorem textE_len (l : List Ite) : (textE l).length ≤ 14 * l.length := by
  induction l with
  | nil => simp [textE]
  | cons x l ih =>
    have := itemE_len x
    simp only [textE, List.flatMap_cons, List.length_append, List.length_cons] at ih ⊢
    omega
theorem textE_succ {l : List Ite} {k : Nat} (h : k < l.length) : textE (l.take (k + 1)) = textE (l.take k) ++ itemE (l.getD k noE) := by
  rw [List.take_succ_eq_append_getElem h, textE_append, List.getD_eq_getElem?_getD, List.getElem?_eq_getElem h, Option.getD_some]
  simp [textE]
theorem textE_take_len {l : List Ite} (k : Nat) (h : k ≤ l.length) : (textE (l.take k)).length ≤ 14 * k := by
  have := textE_len (l.take k)
  rw [List.length_take, Nat.min_eq_left h] at this
  exact this
theorem itemE_no {x : Ite} (h : okE x = false) : itemE x = [] := by unfold itemE; rw [h]; rfl
theorem itemE_one {x : Ite} (h : okE x = true) (h1 : x.2.1 = 1) : itemE x = [x.1] := by unfold itemE numL; rw [h, if_pos rfl, h1]; rfl
theorem txt_num {n : Int} (h1 : 1 ≤ n) (h2 : n ≤ 1099511627776) : txtL n = decDigits n.toNat := by unfold txtL; rw [if_pos (by omega)]
theorem itemE_many {x : Ite} (h : okE x = true) (h1 : x.2.1 ≠ 1) : itemE x = txtL x.2.1 ++ [x.1] := by
  have := (okE_iff x).1 h
  unfold itemE numL
  rw [h, if_pos rfl, if_neg (by omega), txt_num this.2.1 this.2.2]

/-! ### reading goes on behind blanks, and behind an item -/
def blanks (l : List UInt8) : Nat := (l.takeWhile blankB).length
theorem blanks_le (l : List UInt8) : blanks l ≤ l.length := (List.takeWhile_sublist _).length_le
theorem drop_blanks (l : List UInt8) : l.drop (blanks l) = l.dropWhile blankB := by
  have h := List.takeWhile_append_dropWhile (p := blankB) (l := l)
  unfold blanks
  generalize l.takeWhile blankB = a at *
  generalize l.dropWhile blankB = b at *
  subst h
  simp
theorem lex_blanks (l : List UInt8) (p : Nat) (acc : List Itm) : lexL l p acc = lexL (l.dropWhile blankB) (p + blanks l) acc := by
  induction l generalizing p with
  | nil => rfl
  | cons c r ih =>
    by_cases h : blankB c = true
    · rw [lex_blank h, ih]
      have e1 : (c :: r).dropWhile blankB = r.dropWhile blankB := by rw [List.dropWhile_cons, if_pos h]
      have e2 : blanks (c :: r) = blanks r + 1 := by unfold blanks; rw [List.takeWhile_cons, if_pos h]; rfl
      rw [e1, e2]
      congr 1
      omega
    · have e1 : (c :: r).dropWhile blankB = c :: r := by rw [List.dropWhile_cons, if_neg h]
      have e2 : blanks (c :: r) = 0 := by unfold blanks; rw [List.takeWhile_cons, if_neg h]; rfl
      rw [e1, e2]
      rfl
theorem head_plain {l : List UInt8} {c : UInt8} {r : List UInt8} (h : l.dropWhile blankB = c :: r) : blankB c = false := by
  have := List.head?_dropWhile_not (p := blankB) l
  rw [h] at this
  simpa using this

/-- What one item at the beginning comes to: the error and nothing else; or the item, and what is left. -/
def oneL (l : List UInt8) : Int × UInt8 × Nat × Nat :=
  match l.drop (digs l) with
  | [] => (30, 0, 0, 0)
  | t :: _ => if tagB t = false ∨ l.headD 0 = 48 then (30, 0, 0, 0) else if digs l = 0 then (0, t, 1, 1) else if 1099511627776 < val (l.take (digs l)) then (2, 0, 0, 0) else (0, t, val (l.take (digs l)), digs l + 1)
theorem lex_one {c : UInt8} {r : List UInt8} (hb : blankB c = false) (he : c ≠ 33) (p : Nat) (acc : List Itm) :
    lexL (c :: r) p acc = if (oneL (c :: r)).1 = 0 then lexL ((c :: r).drop (oneL (c :: r)).2.2.2) (p + (oneL (c :: r)).2.2.2) (acc ++ [((oneL (c :: r)).2.1, (oneL (c :: r)).2.2.1, p)]) else ([], (oneL (c :: r)).1, p) := by
  unfold oneL
  have hh : (c :: r).headD 0 = c := rfl
  rw [hh]
  split
  · rename_i hd
    rw [if_neg (by decide), lex_none hb he hd]
  · rename_i t q hd
    by_cases ho : tagB t = false ∨ c = 48
    · rw [if_pos ho, if_neg (by decide), lex_off hb he hd ho]
    · rw [if_neg ho]
      have ht : tagB t = true := by cases h : tagB t with | true => rfl | false => exact absurd (.inl h) ho
      have hc : c ≠ 48 := fun e => ho (.inr e)
      have hq : q = (c :: r).drop (digs (c :: r) + 1) := by
        rw [← List.drop_drop, hd]
        rfl
      by_cases hk : digs (c :: r) = 0
      · rw [if_pos hk, if_pos rfl]
        rw [hk, List.drop_zero] at hd
        injection hd with h1 h2
        subst h1
        rw [lex_tag ht]
        simp
      · rw [if_neg hk]
        by_cases hv : 1099511627776 < val ((c :: r).take (digs (c :: r)))
        · rw [if_pos hv, if_neg (by decide), lex_big hb he hd ht hc hk hv]
        · rw [if_neg hv, if_pos rfl, lex_num hb he hd ht hc hk (by omega), hq]
          simp only
          rw [Nat.add_assoc]

end Go.Proofs.YtildobjgohddoaaDoor
