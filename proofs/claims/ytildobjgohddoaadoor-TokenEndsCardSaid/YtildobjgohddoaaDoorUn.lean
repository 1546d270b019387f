/-
  Items that stand once each: their text is their tags; a byte of none's is told where it stands: plain maths.
-/
import Derived.Test.YtildobjgohddoaaDoorUm
namespace Go.Proofs.YtildobjgohddoaaDoor
open Go.Lib

def onceI (x : Itm) : Itm := (x.1, 1, x.2.2)
def onceL (I : List Itm) : List Itm := I.map onceI
theorem onceL_good {I : List Itm} (h : ∀ x ∈ I, goodI x = true) : ∀ x ∈ onceL I, goodI x = true := by
  intro x hx
  obtain ⟨y, hy, rfl⟩ := List.mem_map.1 hx
  have := (goodI_iff _).1 (h y hy)
  exact (goodI_iff _).2 ⟨this.1, by simp [onceI], by simp [onceI]⟩
theorem onceL_len (I : List Itm) : (onceL I).length = I.length := by simp [onceL]
theorem once_text {I : List Itm} (h : ∀ x ∈ I, goodI x = true) : textL (onceL I) = I.map (·.1) := by
  induction I with
  | nil => rfl
  | cons x I ih =>
    have hx := (goodI_iff _).1 (h x List.mem_cons_self)
    have e : itemL (onceI x) = [x.1] := by
      have hg : goodI (onceI x) = true := (goodI_iff _).2 ⟨hx.1, by simp [onceI], by simp [onceI]⟩
      unfold itemL
      rw [if_pos hg]
      rfl
    have := ih fun y hy => h y (List.mem_cons_of_mem _ hy)
    unfold textL onceL at this ⊢
    rw [List.map_cons, List.flatMap_cons, e, this]
    rfl
theorem once_take {I : List Itm} (h : ∀ x ∈ I, goodI x = true) (k : Nat) : (textL (onceL I)).take k = textL (onceL (I.take k)) := by
  rw [once_text h, once_text (fun x hx => h x (List.mem_of_mem_take hx)), List.map_take]
theorem once_size {I : List Itm} (h : ∀ x ∈ I, goodI x = true) : (textL (onceL I)).length = I.length := by rw [once_text h, List.length_map]

def oddN (n : Nat) : UInt8 := ([97, 99, 110, 35, 37, 46, 61, 66, 79, 63] : List UInt8).getD n 97
theorem odd_plain (n : Nat) : blankB (oddN n) = false ∧ oddN n ≠ 33 ∧ digB (oddN n) = false ∧ tagB (oddN n) = false := by
  match n with
  | 0 => decide
  | 1 => decide
  | 2 => decide
  | 3 => decide
  | 4 => decide
  | 5 => decide
  | 6 => decide
  | 7 => decide
  | 8 => decide
  | 9 => decide
  | n + 10 => simp [oddN]; decide
theorem lexA_odd {I : List Itm} (h : ∀ x ∈ I, goodI x = true) (hn : I.length ≤ 40) {k : Nat} (hk : k ≤ I.length) (n : Nat) (q : List UInt8) (hq : q.length ≤ 1000) : lexA ((textL (onceL I)).take k ++ oddN n :: q) = ([], 30, k) := by
  rw [once_take h]
  have hg := onceL_good (I := I.take k) (fun x hx => h x (List.mem_of_mem_take hx))
  have hl : (textL (onceL (I.take k))).length = k := by
    rw [once_size (fun x hx => h x (List.mem_of_mem_take hx)), List.length_take]
    omega
  obtain ⟨m, _, _, he⟩ := lex_text _ hg (oddN n :: q) 0 []
  obtain ⟨h1, h2, h3, h4⟩ := odd_plain n
  have hd : digs (oddN n :: q) = 0 := by unfold digs; rw [List.takeWhile_cons, h3]; rfl
  rw [lexA_short (by simp only [List.length_append, List.length_cons]; omega), he, lex_off h1 h2 (t := oddN n) (q := q) (by rw [hd]; rfl) (.inl h4), hl, Nat.zero_add]

/-- The items in memory, of which the first k stand once. -/
def onceT (I : List Itm) (k : Nat) : List Itm := onceL (I.take k) ++ I.drop k
theorem onceT_zero (I : List Itm) : onceT I 0 = I := by simp [onceT, onceL]
theorem onceT_all (I : List Itm) : onceT I I.length = onceL I := by simp [onceT]
theorem onceT_len (I : List Itm) {k : Nat} (hk : k ≤ I.length) : (onceT I k).length = I.length := by simp [onceT, onceL]; omega
theorem onceT_at (I : List Itm) {k : Nat} (hk : k < I.length) : ((onceT I k).map up).getD k noE = up (I.getD k noI) := by
  have hl : (onceL (I.take k)).length = k := by rw [onceL_len, List.length_take]; omega
  rw [List.getD_eq_getElem?_getD, List.getElem?_map]
  unfold onceT
  rw [List.getElem?_append_right (by omega), hl, Nat.sub_self, List.getElem?_drop, Nat.add_zero, List.getElem?_eq_getElem hk, List.getD_eq_getElem?_getD, List.getElem?_eq_getElem hk]
  rfl
theorem onceT_set (I : List Itm) {k : Nat} (hk : k < I.length) : ((onceT I k).map up).set k ((I.getD k noI).1, 1, ((I.getD k noI).2.2 : Int)) = (onceT I (k + 1)).map up := by
  have hl : (onceL (I.take k)).length = k := by rw [onceL_len, List.length_take]; omega
  have e : I.drop k = I.getD k noI :: I.drop (k + 1) := by
    rw [List.getD_eq_getElem?_getD, List.getElem?_eq_getElem hk]
    exact List.drop_eq_getElem_cons hk
  have e2 : onceL (I.take (k + 1)) = onceL (I.take k) ++ [onceI (I.getD k noI)] := by
    rw [List.take_succ_eq_append_getElem hk, List.getD_eq_getElem?_getD, List.getElem?_eq_getElem hk]
    unfold onceL
    rw [List.map_append]
    rfl
  unfold onceT
  rw [e, e2, List.map_append, List.map_append, List.map_append, List.append_assoc, List.set_append_right _ _ (by rw [List.length_map]; omega), List.length_map, hl, Nat.sub_self]
  rfl

end Go.Proofs.YtildobjgohddoaaDoor
