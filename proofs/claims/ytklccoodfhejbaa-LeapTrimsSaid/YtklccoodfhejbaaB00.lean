/-
  Texts that the claims of this seat share, part 0.
-/
import Derived.Lib.Hide
import Derived.Lib.QuietBelow
import Derived.StillTail
import Derived.BigQuiet
import Derived.KernelRfl
import Derived.Test.YtklccoodfhejbaaRows
import Derived.WalkKit
import Derived.WalkSpells
import Derived.WalkLawsBesides
import Derived.WalkArith
import Derived.IntWalk
import Derived.Lib.AppendZerosOnto
set_option linter.unusedVariables false
set_option linter.unusedSimpArgs false
namespace Go.Proofs.Ytklccoodfhejbaa
set_option linter.unusedVariables false
set_option linter.unusedSimpArgs false

/-- four kids; a node: its level, its kids, its cells -/
abbrev Kd := Int × Int × Int × Int
abbrev Nd := Int × Kd × Int
def kd (k : Kd) : Nat → Int
  | 0 => k.1
  | 1 => k.2.1
  | 2 => k.2.2.1
  | _ => k.2.2.2
theorem kd_ext {k m : Kd} (h : ∀ i, i < 4 → kd k i = kd m i) : k = m := by
  obtain ⟨a, b, c, d⟩ := k
  obtain ⟨a', b', c', d'⟩ := m
  have h0 : a = a' := h 0 (by decide)
  have h1 : b = b' := h 1 (by decide)
  have h2 : c = c' := h 2 (by decide)
  have h3 : d = d' := h 3 (by decide)
  rw [h0, h1, h2, h3]
def deadN : Nd := (0, (0, 0, 0, 0), 0)
def liveN : Nd := (0, (0, 0, 0, 0), 1)
def ndAt (l : List Nd) (i : Int) : Nd := l.getD i.toNat deadN
/-- the cells of the first kids together -/
def popTo (l : List Nd) (k : Kd) : Nat → Int
  | 0 => 0
  | i + 1 => min (popTo l k i + (ndAt l (kd k i)).2.2) 4611686018427387903
def kidB (l : List Nd) (n lev k : Int) : Bool := decide (0 ≤ k) && decide (k < n) && decide ((ndAt l k).1 = lev)
/-- the place of the node with these kids, from place i on, so many places -/
def atFrom (l : List Nd) (k : Kd) : Nat → Nat → Option Nat
  | _, 0 => none
  | i, f + 1 => if (l.getD i deadN).2.1 = k then some i else atFrom l k (i + 1) f
def at6 (l : List Nd) (k : Kd) : Option Nat := atFrom l k 2 (l.length - 2)
def kidsB (l : List Nd) (n lev : Int) (k : Kd) : Bool := kidB l n lev k.1 && kidB l n lev k.2.1 && kidB l n lev k.2.2.1 && kidB l n lev k.2.2.2
def fits6 (l : List Nd) (n : Nat) : Bool :=
  kidsB l n ((l.getD n deadN).1 - 1) (l.getD n deadN).2.1 && decide (1 ≤ (l.getD n deadN).1) && decide ((l.getD n deadN).1 ≤ 42) && decide ((l.getD n deadN).2.2 = popTo l (l.getD n deadN).2.1 4) && decide (at6 l (l.getD n deadN).2.1 = some n)
def headB6 (l : List Nd) (room : Int) : Bool :=
  decide (2 ≤ room) && decide (room ≤ 100000) && decide (2 ≤ l.length) && decide ((l.length : Int) ≤ room) && decide (l.getD 0 deadN = deadN) && decide (l.getD 1 deadN = liveN)
def right6 (l : List Nd) (room : Int) : Bool := headB6 l room && (List.range l.length).all fun i => decide (i < 2) || fits6 l i

theorem atFrom_some {l : List Nd} {k : Kd} : ∀ {f i n : Nat}, atFrom l k i f = some n → i ≤ n ∧ n < i + f ∧ (l.getD n deadN).2.1 = k ∧ ∀ j, i ≤ j → j < n → (l.getD j deadN).2.1 ≠ k := by
  intro f
  induction f with
  | zero => intro i n h; cases h
  | succ f ih =>
    intro i n h
    unfold atFrom at h
    by_cases he : (l.getD i deadN).2.1 = k
    · rw [if_pos he] at h
      injection h with h
      subst h
      exact ⟨Nat.le_refl _, by omega, he, fun j h1 h2 => by omega⟩
    · rw [if_neg he] at h
      obtain ⟨h1, h2, h3, h4⟩ := ih h
      refine ⟨by omega, by omega, h3, fun j hj1 hj2 => ?_⟩
      rcases Nat.eq_or_lt_of_le hj1 with rfl | h5
      · exact he
      · exact h4 j h5 hj2
theorem atFrom_none {l : List Nd} {k : Kd} : ∀ {f i : Nat}, atFrom l k i f = none ↔ ∀ j, i ≤ j → j < i + f → (l.getD j deadN).2.1 ≠ k := by
  intro f
  induction f with
  | zero => intro i; exact ⟨fun _ j h1 h2 => by omega, fun _ => rfl⟩
  | succ f ih =>
    intro i
    unfold atFrom
    by_cases he : (l.getD i deadN).2.1 = k
    · rw [if_pos he]
      exact ⟨fun h => (by cases h), fun h => absurd he (h i (Nat.le_refl _) (by omega))⟩
    · rw [if_neg he, ih]
      constructor
      · intro h j h1 h2
        rcases Nat.eq_or_lt_of_le h1 with rfl | h5
        · exact he
        · exact h j h5 (by omega)
      · intro h j h1 h2
        exact h j (by omega) (by omega)
theorem at_some {l : List Nd} {k : Kd} {n : Nat} (h : at6 l k = some n) : 2 ≤ n ∧ n < l.length ∧ (l.getD n deadN).2.1 = k ∧ ∀ j, 2 ≤ j → j < n → (l.getD j deadN).2.1 ≠ k := by
  obtain ⟨h1, h2, h3, h4⟩ := atFrom_some h
  exact ⟨h1, by omega, h3, h4⟩
theorem at_none {l : List Nd} {k : Kd} : at6 l k = none ↔ ∀ j, 2 ≤ j → j < l.length → (l.getD j deadN).2.1 ≠ k := by
  unfold at6
  rw [atFrom_none]
  exact ⟨fun h j h1 h2 => h j h1 (by omega), fun h j h1 h2 => h j h1 (by omega)⟩
theorem at_is {l : List Nd} {k : Kd} {n : Nat} (h2 : 2 ≤ n) (hn : n < l.length) (hk : (l.getD n deadN).2.1 = k) (hf : ∀ j, 2 ≤ j → j < n → (l.getD j deadN).2.1 ≠ k) : at6 l k = some n := by
  cases h : at6 l k with
  | none => exact absurd hk (at_none.1 h n h2 hn)
  | some m =>
    obtain ⟨m1, m2, m3, m4⟩ := at_some h
    rcases Nat.lt_trichotomy m n with h5 | h5 | h5
    · exact absurd m3 (hf m m1 h5)
    · rw [h5]
    · exact absurd hk (m4 n h2 h5)

/-- what a store that is right is -/
structure Right6 (l : List Nd) (room : Int) : Prop where
  room2 : 2 ≤ room
  room100 : room ≤ 100000
  two : 2 ≤ l.length
  len : (l.length : Int) ≤ room
  dead : l.getD 0 deadN = deadN
  live : l.getD 1 deadN = liveN
  fits : ∀ n, 2 ≤ n → n < l.length → fits6 l n = true
theorem right_iff {l : List Nd} {room : Int} : right6 l room = true ↔ Right6 l room := by
  unfold right6 headB6
  simp only [Bool.and_eq_true, decide_eq_true_eq, List.all_eq_true, List.mem_range, Bool.or_eq_true]
  constructor
  · rintro ⟨⟨⟨⟨⟨⟨h1, h2⟩, h3⟩, h4⟩, h5⟩, h6⟩, h7⟩
    exact ⟨h1, h2, h3, h4, h5, h6, fun n hn hl => (h7 n hl).resolve_left (by omega)⟩
  · intro h
    refine ⟨⟨⟨⟨⟨⟨h.room2, h.room100⟩, h.two⟩, h.len⟩, h.dead⟩, h.live⟩, fun i hi => ?_⟩
    by_cases h2 : i < 2
    · exact .inl h2
    · exact .inr (h.fits i (by omega) hi)
theorem kidB_iff {l : List Nd} {n lev k : Int} : kidB l n lev k = true ↔ 0 ≤ k ∧ k < n ∧ (ndAt l k).1 = lev := by unfold kidB; simp [and_assoc]
theorem kidsB_iff {l : List Nd} {n lev : Int} {k : Kd} : kidsB l n lev k = true ↔ ∀ i, i < 4 → kidB l n lev (kd k i) = true := by
  unfold kidsB
  simp only [Bool.and_eq_true]
  constructor
  · rintro ⟨⟨⟨h0, h1⟩, h2⟩, h3⟩ i hi
    match i, hi with
    | 0, _ => exact h0
    | 1, _ => exact h1
    | 2, _ => exact h2
    | 3, _ => exact h3
  · intro h
    exact ⟨⟨⟨h 0 (by decide), h 1 (by decide)⟩, h 2 (by decide)⟩, h 3 (by decide)⟩
/-- what a node that fits is -/
structure Fits6 (l : List Nd) (n : Nat) : Prop where
  kid : ∀ i, i < 4 → 0 ≤ kd (l.getD n deadN).2.1 i ∧ kd (l.getD n deadN).2.1 i < n ∧ (ndAt l (kd (l.getD n deadN).2.1 i)).1 = (l.getD n deadN).1 - 1
  lo : 1 ≤ (l.getD n deadN).1
  hi : (l.getD n deadN).1 ≤ 42
  pop : (l.getD n deadN).2.2 = popTo l (l.getD n deadN).2.1 4
  first : at6 l (l.getD n deadN).2.1 = some n
theorem fits_iff {l : List Nd} {n : Nat} : fits6 l n = true ↔ Fits6 l n := by
  unfold fits6
  simp only [Bool.and_eq_true, decide_eq_true_eq, kidsB_iff, kidB_iff]
  exact ⟨fun ⟨⟨⟨⟨h1, h2⟩, h3⟩, h4⟩, h5⟩ => ⟨h1, h2, h3, h4, h5⟩, fun h => ⟨⟨⟨⟨h.kid, h.lo⟩, h.hi⟩, h.pop⟩, h.first⟩⟩

/-! ### levels and cells are within bounds -/
theorem popTo_bd {l : List Nd} {k : Kd} (h : ∀ i, i < 4 → 0 ≤ (ndAt l (kd k i)).2.2) : ∀ i, i ≤ 4 → 0 ≤ popTo l k i ∧ popTo l k i ≤ 4611686018427387903 := by
  intro i
  induction i with
  | zero => intro _; unfold popTo; omega
  | succ i ih =>
    intro hi
    have h1 := ih (by omega)
    have h2 := h i (by omega)
    unfold popTo
    omega
theorem ndAt_nat (l : List Nd) (n : Nat) : ndAt l (n : Int) = l.getD n deadN := by unfold ndAt; rw [Int.toNat_natCast]
theorem right_bd {l : List Nd} {room : Int} (h : Right6 l room) : ∀ n, n < l.length → 0 ≤ (l.getD n deadN).1 ∧ (l.getD n deadN).1 ≤ 42 ∧ 0 ≤ (l.getD n deadN).2.2 ∧ (l.getD n deadN).2.2 ≤ 4611686018427387903 := by
  intro n
  induction n using Nat.strongRecOn with
  | ind n ih =>
    intro hn
    by_cases h2 : n < 2
    · rcases (by omega : n = 0 ∨ n = 1) with rfl | rfl
      · rw [h.dead]; decide
      · rw [h.live]; decide
    · have hf := fits_iff.1 (h.fits n (by omega) hn)
      have := popTo_bd (l := l) (k := (l.getD n deadN).2.1) (fun i hi => by
        obtain ⟨k1, k2, _⟩ := hf.kid i hi
        have := ih (kd (l.getD n deadN).2.1 i).toNat (by omega) (by omega)
        exact this.2.2.1) 4 (Nat.le_refl _)
      rw [← hf.pop] at this
      exact ⟨by have := hf.lo; omega, hf.hi, this.1, this.2⟩
/-- of level 0 there are just the two -/
theorem level_zero {l : List Nd} {room : Int} (h : Right6 l room) {n : Nat} (hn : n < l.length) : (l.getD n deadN).1 = 0 ↔ n < 2 := by
  constructor
  · intro h0
    rcases Nat.lt_or_ge n 2 with h2 | h2
    · exact h2
    · have := (fits_iff.1 (h.fits n h2 hn)).lo
      omega
  · intro h2
    rcases (by omega : n = 0 ∨ n = 1) with rfl | rfl
    · rw [h.dead]; rfl
    · rw [h.live]; rfl

/-! ### a node more -/
theorem getD_app {l : List Nd} {x : Nd} {i : Nat} (h : i < l.length) : (l ++ [x]).getD i deadN = l.getD i deadN := by
  rw [List.getD_eq_getElem?_getD, List.getD_eq_getElem?_getD, List.getElem?_append_left h]
theorem getD_last {l : List Nd} {x : Nd} : (l ++ [x]).getD l.length deadN = x := by
  rw [List.getD_eq_getElem?_getD, List.getElem?_append_right (Nat.le_refl _), Nat.sub_self]; rfl
theorem ndAt_app {l : List Nd} {x : Nd} {i : Int} (h0 : 0 ≤ i) (h : i < l.length) : ndAt (l ++ [x]) i = ndAt l i := getD_app (by omega)
theorem popTo_app {l : List Nd} {x : Nd} {k : Kd} (h : ∀ i, i < 4 → 0 ≤ kd k i ∧ kd k i < l.length) : ∀ i, i ≤ 4 → popTo (l ++ [x]) k i = popTo l k i := by
  intro i
  induction i with
  | zero => intro _; rfl
  | succ i ih =>
    intro hi
    have := h i (by omega)
    unfold popTo
    rw [ih (by omega), ndAt_app this.1 this.2]
/-- What Put answers, of a store that is right. -/
def put6 (l : List Nd) (room : Int) (k : Kd) : List Nd × Int × Int :=
  if kidsB l l.length (ndAt l k.1).1 k = false then (l, 0, 1)
  else if 42 < (ndAt l k.1).1 + 1 then (l, 0, 1)
  else match at6 l k with
    | some n => (l, n, 0)
    | none => if room ≤ l.length then (l, 0, 40) else (l ++ [((ndAt l k.1).1 + 1, k, popTo l k 4)], l.length, 0)
def intern6 (l : List Nd) (room : Int) (k : Kd) : List Nd × Int × Int := if right6 l room = true then put6 l room k else (l, 0, 1)
theorem right_app {l : List Nd} {room : Int} (h : Right6 l room) {k : Kd} (hk : kidsB l l.length (ndAt l k.1).1 k = true) (hl : (ndAt l k.1).1 + 1 ≤ 42) (ha : at6 l k = none) (hr : (l.length : Int) < room) : Right6 (l ++ [((ndAt l k.1).1 + 1, k, popTo l k 4)]) room := by
  have hkid := fun i hi => kidB_iff.1 (kidsB_iff.1 hk i hi)
  have h2 := h.two
  refine ⟨h.room2, h.room100, by rw [List.length_append]; omega, by rw [List.length_append, List.length_singleton]; omega, ?_, ?_, fun n hn hl2 => ?_⟩
  · rw [getD_app (by omega)]; exact h.dead
  · rw [getD_app (by omega)]; exact h.live
  rw [List.length_append, List.length_singleton] at hl2
  rw [fits_iff]
  have hlo := (right_bd h k.1.toNat (by have := hkid 0 (by decide); simp only [kd] at this; omega)).1
  by_cases hlast : n = l.length
  · subst hlast
    have e : (l ++ [((ndAt l k.1).1 + 1, k, popTo l k 4)]).getD l.length deadN = ((ndAt l k.1).1 + 1, k, popTo l k 4) := getD_last
    refine ⟨?_, ?_, ?_, ?_, ?_⟩
    · intro i hi
      rw [e]
      obtain ⟨k1, k2, k3⟩ := hkid i hi
      refine ⟨k1, k2, ?_⟩
      rw [ndAt_app k1 k2, k3]
      simp only
      omega
    · rw [e]; show 1 ≤ (l.getD k.1.toNat deadN).1 + 1; omega
    · rw [e]; exact hl
    · rw [e]; exact (popTo_app (fun i hi => ⟨(hkid i hi).1, (hkid i hi).2.1⟩) 4 (Nat.le_refl _)).symm
    · rw [e]
      refine at_is hn (by rw [List.length_append, List.length_singleton]; omega) (by rw [e]) (fun j hj1 hj2 => ?_)
      rw [getD_app hj2]
      exact at_none.1 ha j hj1 hj2
  · have hnl : n < l.length := by omega
    have hf := fits_iff.1 (h.fits n hn hnl)
    refine ⟨?_, by rw [getD_app hnl]; exact hf.lo, by rw [getD_app hnl]; exact hf.hi, ?_, ?_⟩
    · intro i hi
      rw [getD_app hnl]
      obtain ⟨k1, k2, k3⟩ := hf.kid i hi
      exact ⟨k1, k2, by rw [ndAt_app k1 (by omega)]; exact k3⟩
    · rw [getD_app hnl, popTo_app (fun i hi => ⟨(hf.kid i hi).1, by have := (hf.kid i hi).2.1; omega⟩) 4 (Nat.le_refl _)]
      exact hf.pop
    · rw [getD_app hnl]
      obtain ⟨a1, a2, a3, a4⟩ := at_some hf.first
      exact at_is hn (by rw [List.length_append, List.length_singleton]; omega) (by rw [getD_app hnl]) (fun j hj1 hj2 => by rw [getD_app (by omega)]; exact a4 j hj1 hj2)
theorem put_right {l : List Nd} {room : Int} (h : Right6 l room) (k : Kd) : Right6 (put6 l room k).1 room := by
  unfold put6
  by_cases h1 : kidsB l l.length (ndAt l k.1).1 k = false
  · rw [if_pos h1]; exact h
  · rw [if_neg h1]
    by_cases h2 : 42 < (ndAt l k.1).1 + 1
    · rw [if_pos h2]; exact h
    · rw [if_neg h2]
      cases h3 : at6 l k with
      | some n => exact h
      | none =>
        simp only
        by_cases h4 : room ≤ l.length
        · rw [if_pos h4]; exact h
        · rw [if_neg h4]
          exact right_app h (by simpa using h1) (by omega) h3 (by omega)
end Go.Proofs.Ytklccoodfhejbaa
namespace Go.Proofs.Ytklccoodfhejbaa
set_option linter.unusedVariables false
set_option linter.unusedSimpArgs false

/-! ### rows -/
def row (s : Nat) (a : List UInt8) (y : Nat) : List UInt8 := (a.drop (y * s)).take s
def half (s : Nat) (a b : List UInt8) (n : Nat) : List UInt8 := (List.range n).flatMap fun y => row s a y ++ row s b y
/-! ### how many are alive -/
/-! ### what a node stands for -/
end Go.Proofs.Ytklccoodfhejbaa
namespace Go.Proofs.Ytklccoodfhejbaa
set_option linter.unusedVariables false
set_option linter.unusedSimpArgs false

/-- kids that may be put -/
structure Fit4 (l : List Nd) (k : Kd) : Prop where
  kid : ∀ i, i < 4 → 0 ≤ kd k i ∧ kd k i < l.length ∧ (ndAt l (kd k i)).1 = (ndAt l k.1).1
  low : (ndAt l k.1).1 + 1 ≤ 42
theorem Fit4.b {l : List Nd} {k : Kd} (h : Fit4 l k) : kidsB l l.length (ndAt l k.1).1 k = true := kidsB_iff.2 fun i hi => kidB_iff.2 (h.kid i hi)
/-- What comes of it. -/
inductive PutCase (l : List Nd) (room : Int) (k : Kd) : Prop
  | had (n : Nat) (h : at6 l k = some n) (e : put6 l room k = (l, (n : Int), 0))
  | full (h : at6 l k = none) (hr : room ≤ l.length) (e : put6 l room k = (l, 0, 40))
  | new (h : at6 l k = none) (hr : (l.length : Int) < room) (e : put6 l room k = (l ++ [((ndAt l k.1).1 + 1, k, popTo l k 4)], (l.length : Int), 0))
theorem put_case {l : List Nd} {k : Kd} (h : Fit4 l k) (room : Int) : PutCase l room k := by
  have h1 := h.b
  have h2 := h.low
  have e : put6 l room k = match at6 l k with
    | some n => (l, (n : Int), 0)
    | none => if room ≤ l.length then (l, 0, 40) else (l ++ [((ndAt l k.1).1 + 1, k, popTo l k 4)], (l.length : Int), 0) := by
    unfold put6
    rw [if_neg (by rw [h1]; decide), if_neg (by omega)]
    all_goals rfl
  cases ha : at6 l k with
  | some n => rw [ha] at e; exact .had n ha e
  | none =>
    rw [ha] at e
    simp only at e
    by_cases hr : room ≤ l.length
    · rw [if_pos hr] at e; exact .full ha hr e
    · rw [if_neg hr] at e; exact .new ha (by omega) e
/-- a store that has another one's nodes, and maybe more -/
structure Grows (l m : List Nd) : Prop where
  len : l.length ≤ m.length
  same : ∀ i, i < l.length → m.getD i deadN = l.getD i deadN
theorem Grows.refl (l : List Nd) : Grows l l := ⟨Nat.le_refl _, fun _ _ => rfl⟩
theorem Grows.trans {a b c : List Nd} (h : Grows a b) (k : Grows b c) : Grows a c := ⟨Nat.le_trans h.len k.len, fun i hi => (k.same i (Nat.lt_of_lt_of_le hi h.len)).trans (h.same i hi)⟩
theorem Grows.app (l : List Nd) (x : Nd) : Grows l (l ++ [x]) := ⟨by simp, fun i hi => getD_app hi⟩
theorem Grows.nd {l m : List Nd} (h : Grows l m) {i : Int} (h0 : 0 ≤ i) (h1 : i < l.length) : ndAt m i = ndAt l i := h.same _ (by omega)
theorem Grows.fit4 {l m : List Nd} (h : Grows l m) {k : Kd} (hk : Fit4 l k) : Fit4 m k := by
  have h0 := hk.kid 0 (by decide)
  have e0 : ndAt m k.1 = ndAt l k.1 := h.nd h0.1 h0.2.1
  have hl := h.len
  refine ⟨fun i hi => ?_, by rw [e0]; exact hk.low⟩
  obtain ⟨k1, k2, k3⟩ := hk.kid i hi
  exact ⟨k1, by omega, by rw [h.nd k1 k2, e0]; exact k3⟩
/-- a store where a node stands has it at its place -/
theorem Grows.at_ {l m : List Nd} (h : Grows l m) {k : Kd} {n : Nat} (ha : at6 l k = some n) : at6 m k = some n := by
  obtain ⟨a1, a2, a3, a4⟩ := at_some ha
  exact at_is a1 (Nat.lt_of_lt_of_le a2 h.len) (by rw [h.same n a2]; exact a3) (fun j hj1 hj2 => by rw [h.same j (by omega)]; exact a4 j hj1 hj2)
theorem at_new {l : List Nd} {k : Kd} (h2 : 2 ≤ l.length) (ha : at6 l k = none) (lev pop : Int) : at6 (l ++ [(lev, k, pop)]) k = some l.length :=
  at_is h2 (by simp) (by rw [getD_last]) (fun j hj1 hj2 => by rw [getD_app hj2]; exact at_none.1 ha j hj1 hj2)
/-- what was put -/
structure Put6 (l m : List Nd) (room : Int) (k : Kd) (n : Nat) : Prop where
  grows : Grows l m
  right : Right6 m room
  at_ : at6 m k = some n
  more : m.length ≤ l.length + 1
theorem put_ok {l : List Nd} {room : Int} (hr : Right6 l room) {k : Kd} (h : Fit4 l k) : (∃ (m : List Nd) (n : Nat), put6 l room k = (m, (n : Int), 0) ∧ Put6 l m room k n) ∨ (put6 l room k = (l, 0, 40) ∧ room ≤ l.length ∧ at6 l k = none) := by
  have hp := put_right hr k
  rcases put_case h room with ⟨n, ha, e⟩ | ⟨ha, hf, e⟩ | ⟨ha, hf, e⟩
  · exact .inl ⟨l, n, e, Grows.refl l, hr, ha, Nat.le_succ _⟩
  · exact .inr ⟨e, hf, ha⟩
  · rw [e] at hp
    exact .inl ⟨_, l.length, e, Grows.app l _, hp, at_new hr.two ha _ _, by simp⟩
/-- put again -/
theorem put_again {m : List Nd} {room : Int} {k : Kd} {n : Nat} (h : Fit4 m k) (ha : at6 m k = some n) : put6 m room k = (m, (n : Int), 0) := by
  rcases put_case h room with ⟨n', ha', e⟩ | ⟨ha', _, _⟩ | ⟨ha', _, _⟩
  · rw [ha] at ha'; injection ha' with ha'; subst ha'; exact e
  · rw [ha] at ha'; cases ha'
  · rw [ha] at ha'; cases ha'
theorem intern_right {l : List Nd} {room : Int} (h : Right6 l room) (k : Kd) : intern6 l room k = put6 l room k := by unfold intern6; rw [if_pos (right_iff.2 h)]

/-! ### a node's level is below its place -/
/-! ### the laws' raw stores -/
def new6 : List Nd := [deadN, liveN]
theorem right_new {room : Int} (h2 : 2 ≤ room) (h : room ≤ 100000) : Right6 new6 room := ⟨h2, h, by decide, h2, rfl, rfl, fun n hn hl => absurd hl (by have : new6.length = 2 := rfl; omega)⟩
abbrev Raw5 := Int × Int × Int × Int × Int
end Go.Proofs.Ytklccoodfhejbaa
namespace Go.Proofs.Ytklccoodfhejbaa
set_option linter.unusedVariables false
set_option linter.unusedSimpArgs false

/-- the cells of four kids, with none cut off ahead of the end -/
theorem popTo_sum {l : List Nd} {k : Kd} (h : ∀ i, i < 4 → 0 ≤ (ndAt l (kd k i)).2.2) : popTo l k 4 = min ((ndAt l k.1).2.2 + (ndAt l k.2.1).2.2 + (ndAt l k.2.2.1).2.2 + (ndAt l k.2.2.2).2.2) 4611686018427387903 := by
  have h0 := h 0 (by decide)
  have h1 := h 1 (by decide)
  have h2 := h 2 (by decide)
  have h3 := h 3 (by decide)
  simp only [kd] at h0 h1 h2 h3
  unfold popTo popTo popTo popTo popTo
  simp only [kd]
  omega
/-- the node that was put -/
theorem Put6.node {l m : List Nd} {room : Int} {k : Kd} {n : Nat} (h : Put6 l m room k n) (hf : Fit4 l k) : 2 ≤ n ∧ n < m.length ∧ (m.getD n deadN).2.1 = k ∧ (m.getD n deadN).1 = (ndAt l k.1).1 + 1 ∧ (m.getD n deadN).2.2 = popTo l k 4 := by
  obtain ⟨a1, a2, a3, _⟩ := at_some h.at_
  have hfn := fits_iff.1 (h.right.fits n a1 a2)
  have hk0 := hfn.kid 0 (by decide)
  rw [a3] at hk0
  have e0 : ndAt m k.1 = ndAt l k.1 := h.grows.nd (hf.kid 0 (by decide)).1 (hf.kid 0 (by decide)).2.1
  have ep : ∀ i, i ≤ 4 → popTo m k i = popTo l k i := by
    intro i
    induction i with
    | zero => intro _; rfl
    | succ i ih =>
      intro hi
      unfold popTo
      rw [ih (by omega), h.grows.nd (hf.kid i (by omega)).1 (hf.kid i (by omega)).2.1]
  refine ⟨a1, a2, a3, ?_, ?_⟩
  · have : (ndAt m k.1).1 = (m.getD n deadN).1 - 1 := hk0.2.2
    rw [e0] at this
    omega
  · rw [hfn.pop, a3, ep 4 (Nat.le_refl _)]

/-! ### nodes in which all is dead -/
/-- what Empty does, so many levels up -/
def emptyTo (l : List Nd) (room : Int) : Nat → List Nd × Int × Int
  | 0 => (l, 0, 0)
  | j + 1 => if (emptyTo l room j).2.2 = 0 then put6 (emptyTo l room j).1 room ((emptyTo l room j).2.1, (emptyTo l room j).2.1, (emptyTo l room j).2.1, (emptyTo l room j).2.1) else emptyTo l room j
/-- a node is the dead one of its level -/
def Emp (l : List Nd) : Nat → Nat → Prop
  | 0, n => n = 0
  | j + 1, n => ∃ e : Nat, Emp l j e ∧ at6 l ((e : Int), (e : Int), (e : Int), (e : Int)) = some n
theorem emp_grows {l m : List Nd} (h : Grows l m) : ∀ j n, Emp l j n → Emp m j n := by
  intro j
  induction j with
  | zero => intro n hn; exact hn
  | succ j ih =>
    intro n hn
    obtain ⟨e, he, ha⟩ := hn
    exact ⟨e, ih e he, h.at_ ha⟩
theorem emp_node {l : List Nd} {room : Int} (h : Right6 l room) : ∀ j n, Emp l j n → n < l.length ∧ (l.getD n deadN).1 = j ∧ (l.getD n deadN).2.2 = 0 := by
  intro j
  induction j with
  | zero =>
    intro n hn
    have h2 := h.two
    obtain rfl : n = 0 := hn
    rw [h.dead]
    exact ⟨by omega, rfl, rfl⟩
  | succ j ih =>
    intro n ⟨e, he, ha⟩
    obtain ⟨e1, e2, e3⟩ := ih e he
    obtain ⟨a1, a2, a3, _⟩ := at_some ha
    have hf := fits_iff.1 (h.fits n a1 a2)
    have hk := (hf.kid 0 (by decide)).2.2
    have hp := hf.pop
    rw [a3] at hk hp
    have ee : ndAt l (e : Int) = l.getD e deadN := ndAt_nat l e
    simp only [kd] at hk
    rw [ee, e2] at hk
    refine ⟨a2, by omega, ?_⟩
    rw [hp]
    unfold popTo popTo popTo popTo popTo
    simp only [kd]
    rw [ee, e3]
    decide
/-- where they stand already nothing is put -/
theorem empty_had {l : List Nd} {room : Int} (h : Right6 l room) : ∀ j n, j ≤ 42 → Emp l j n → emptyTo l room j = (l, (n : Int), 0) := by
  intro j
  induction j with
  | zero => intro n _ hn; obtain rfl : n = 0 := hn; rfl
  | succ j ih =>
    intro n hj ⟨e, he, ha⟩
    have h1 := ih e (by omega) he
    obtain ⟨n1, n2, n3⟩ := emp_node h j e he
    have e4 : emptyTo l room (j + 1) = put6 l room ((e : Int), (e : Int), (e : Int), (e : Int)) := by
      show (if (emptyTo l room j).2.2 = 0 then _ else _) = _
      rw [h1, if_pos rfl]
    rw [e4]
    refine put_again ⟨fun i hi => ?_, ?_⟩ ha
    · have : kd ((e : Int), (e : Int), (e : Int), (e : Int)) i = (e : Int) := by
        match i, hi with
        | 0, _ => rfl
        | 1, _ => rfl
        | 2, _ => rfl
        | 3, _ => rfl
      rw [this]
      exact ⟨by omega, by omega, rfl⟩
    · show (ndAt l (e : Int)).1 + 1 ≤ 42
      rw [ndAt_nat, n2]
      omega
theorem emp_below {l : List Nd} : ∀ j n, Emp l j n → ∀ i, i ≤ j → ∃ e, Emp l i e := by
  intro j
  induction j with
  | zero =>
    intro n hn i hi
    obtain rfl : i = 0 := by omega
    exact ⟨n, hn⟩
  | succ j ih =>
    intro n hn i hi
    obtain ⟨e, he, ha⟩ := hn
    rcases Nat.lt_or_ge i (j + 1) with h | h
    · exact ih e he i (by omega)
    · obtain rfl : i = j + 1 := by omega
      exact ⟨n, e, he, ha⟩
end Go.Proofs.Ytklccoodfhejbaa
namespace Go.Proofs.Ytklccoodfhejbaa
set_option linter.unusedVariables false
set_option linter.unusedSimpArgs false

/-! ### where what is kept goes -/
def cnt (K : Nat → Bool) (n : Nat) : Nat := ((List.range n).filter K).length
def mapK (K : Nat → Bool) (k : Kd) : Kd := (cnt K k.1.toNat, cnt K k.2.1.toNat, cnt K k.2.2.1.toNat, cnt K k.2.2.2.toNat)
def mapN (K : Nat → Bool) (x : Nd) : Nd := (x.1, mapK K x.2.1, x.2.2)
/-- the nodes that are kept, so many seen -/
def newTo (l : List Nd) (K : Nat → Bool) (n : Nat) : List Nd := ((List.range n).filter K).map fun i => mapN K (l.getD i deadN)
section
variable {l : List Nd} {room : Int} {R : List Int} {K : Nat → Bool}
end
end Go.Proofs.Ytklccoodfhejbaa
namespace Go.Proofs.Ytklccoodfhejbaa
set_option linter.unusedVariables false
set_option linter.unusedSimpArgs false

/-- whether these may be the quarters of a node -/
def over6 (l : List Nd) (k : Kd) : Bool := kidsB l l.length (ndAt l k.1).1 k && decide ((ndAt l k.1).1 + 1 ≤ 42)
theorem put_over_no {l : List Nd} {room : Int} {k : Kd} (h : over6 l k = false) : put6 l room k = (l, 0, 1) := by
  unfold over6 at h
  unfold put6
  by_cases h1 : kidsB l l.length (ndAt l k.1).1 k = false
  · rw [if_pos h1]
  · rw [if_neg h1]
    have h1' : kidsB l l.length (ndAt l k.1).1 k = true := by simpa using h1
    rw [h1', Bool.true_and] at h
    have h2 := of_decide_eq_false h
    rw [if_pos (by omega)]
theorem put_over_yes {l : List Nd} {k : Kd} (h : over6 l k = true) (room : Int) : put6 l room k = match at6 l k with
    | some n => (l, (n : Int), 0)
    | none => if room ≤ l.length then (l, 0, 40) else (l ++ [((ndAt l k.1).1 + 1, k, popTo l k 4)], (l.length : Int), 0) := by
  unfold over6 at h
  rw [Bool.and_eq_true, decide_eq_true_eq] at h
  unfold put6
  rw [if_neg (by rw [h.1]; decide), if_neg (by omega)]
  all_goals rfl
theorem over_fit {l : List Nd} {k : Kd} (h : over6 l k = true) : Fit4 l k := by
  unfold over6 at h
  rw [Bool.and_eq_true, decide_eq_true_eq] at h
  exact ⟨fun i hi => kidB_iff.1 (kidsB_iff.1 h.1 i hi), h.2⟩
theorem fit_over {l : List Nd} {k : Kd} (h : Fit4 l k) : over6 l k = true := by
  unfold over6
  rw [h.b, decide_eq_true h.low]
  rfl
theorem getD_take {l : List Nd} {n i : Nat} (h : i < n) : (l.take n).getD i deadN = l.getD i deadN := by
  rw [List.getD_eq_getElem?_getD, List.getD_eq_getElem?_getD, List.getElem?_take, if_pos h]
theorem take_next {l : List Nd} {n : Nat} (h : n < l.length) : l.take (n + 1) = l.take n ++ [l.getD n deadN] := by
  rw [List.take_add_one, List.getElem?_eq_getElem h, List.getD_eq_getElem?_getD, List.getElem?_eq_getElem h]
  rfl
theorem ndAt_take {l : List Nd} {n : Nat} {i : Int} (h0 : 0 ≤ i) (h : i < n) : ndAt (l.take n) i = ndAt l i := getD_take (by omega)
theorem popTo_take {l : List Nd} {n : Nat} {k : Kd} (h : ∀ i, i < 4 → 0 ≤ kd k i ∧ kd k i < n) : ∀ i, i ≤ 4 → popTo (l.take n) k i = popTo l k i := by
  intro i
  induction i with
  | zero => intro _; rfl
  | succ i ih =>
    intro hi
    have := h i (by omega)
    unfold popTo
    rw [ih (by omega), ndAt_take this.1 this.2]

section
variable {l : List Nd} {room : Int} {n : Nat}
/-- a node that fits comes out as it stands -/
theorem anew_yes (h2 : 2 ≤ n) (hn : n < l.length) (hroom : (n : Int) < room) (hf : fits6 l n = true) : put6 (l.take n) room (l.getD n deadN).2.1 = (l.take (n + 1), (n : Int), 0) := by
  have hF := fits_iff.1 hf
  have hlen : (l.take n).length = n := by rw [List.length_take]; omega
  have hk0 := hF.kid 0 (by decide)
  have e0 : ndAt (l.take n) (l.getD n deadN).2.1.1 = ndAt l (l.getD n deadN).2.1.1 := ndAt_take hk0.1 hk0.2.1
  have hl0 : (ndAt (l.take n) (l.getD n deadN).2.1.1).1 = (l.getD n deadN).1 - 1 := by rw [e0]; exact hk0.2.2
  have hfit : Fit4 (l.take n) (l.getD n deadN).2.1 := by
    refine ⟨fun i hi => ?_, by rw [hl0]; have := hF.hi; omega⟩
    have hki := hF.kid i hi
    exact ⟨hki.1, by rw [hlen]; exact hki.2.1, by rw [ndAt_take hki.1 hki.2.1, hl0]; exact hki.2.2⟩
  rw [put_over_yes (fit_over hfit)]
  have hat : at6 (l.take n) (l.getD n deadN).2.1 = none := by
    rw [at_none]
    intro j hj1 hj2
    rw [hlen] at hj2
    rw [getD_take hj2]
    exact (at_some hF.first).2.2.2 j hj1 hj2
  rw [hat]
  simp only
  rw [if_neg (by rw [hlen]; omega), hlen, take_next hn, hl0, popTo_take (fun i hi => ⟨(hF.kid i hi).1, (hF.kid i hi).2.1⟩) 4 (Nat.le_refl _), ← hF.pop, show (l.getD n deadN).1 - 1 + 1 = (l.getD n deadN).1 by omega]
/-- what was put at its place is one node more -/
theorem anew_made (h2 : 2 ≤ n) (hn : n < l.length) {m : List Nd} {e : Int} {k : Kd} (h : put6 (l.take n) room k = (m, (n : Int), e)) : ∃ x, m = l.take n ++ [x] := by
  have hlen : (l.take n).length = n := by rw [List.length_take]; omega
  cases hov : over6 (l.take n) k with
  | false =>
    rw [put_over_no hov] at h
    injection h with h h3
    injection h3 with h3 h4
    omega
  | true =>
    rcases put_case (over_fit hov) room with ⟨q, ha, e1⟩ | ⟨ha, hr, e1⟩ | ⟨ha, hr, e1⟩
    · rw [e1] at h
      injection h with h h3
      injection h3 with h3 h4
      have := (at_some ha).2.1
      omega
    · rw [e1] at h
      injection h with h h3
      injection h3 with h3 h4
      omega
    · rw [e1] at h
      injection h with h h3
      exact ⟨_, h.symm⟩
/-- .. and where it is what stands there, that one fits -/
theorem anew_fits (h2 : 2 ≤ n) (hn : n < l.length) (hR : Right6 (l.take n) room) {m : List Nd} {e : Int} (h : put6 (l.take n) room (l.getD n deadN).2.1 = (m, (n : Int), e)) (hx : m.getD n deadN = l.getD n deadN) : m = l.take (n + 1) ∧ Right6 (l.take (n + 1)) room ∧ fits6 l n = true := by
  have hlen : (l.take n).length = n := by rw [List.length_take]; omega
  obtain ⟨x, rfl⟩ := anew_made h2 hn h
  have hxx : x = l.getD n deadN := by
    have : (l.take n ++ [x]).getD n deadN = x := by have := getD_last (l := l.take n) (x := x); rwa [hlen] at this
    rw [← this]; exact hx
  subst hxx
  have hRR := put_right hR (l.getD n deadN).2.1
  rw [h] at hRR
  have hRR' : Right6 (l.take (n + 1)) room := by rw [take_next hn]; exact hRR
  refine ⟨(take_next hn).symm, hRR', ?_⟩
  have hl1 : (l.take (n + 1)).length = n + 1 := by rw [List.length_take]; omega
  have hf := fits_iff.1 (hRR'.fits n h2 (by omega))
  have hg : (l.take (n + 1)).getD n deadN = l.getD n deadN := getD_take (Nat.lt_succ_self n)
  rw [fits_iff]
  refine ⟨fun i hi => ?_, by have := hf.lo; rwa [hg] at this, by have := hf.hi; rwa [hg] at this, ?_, ?_⟩
  · have := hf.kid i hi
    rw [hg] at this
    rw [ndAt_take this.1 (by omega)] at this
    exact this
  · have := hf.pop
    rw [hg, popTo_take (fun i hi => by have := hf.kid i hi; rw [hg] at this; omega) 4 (Nat.le_refl _)] at this
    exact this
  · obtain ⟨a1, a2, a3, a4⟩ := at_some hf.first
    rw [hg] at a3 a4
    exact at_is h2 hn rfl (fun j hj1 hj2 => by have := a4 j hj1 hj2; rwa [getD_take (by omega)] at this)
end
/-- the two ahead of all -/
theorem head_new {l : List Nd} {room : Int} (h : headB6 l room = true) : l.take 2 = new6 ∧ Right6 (l.take 2) room := by
  unfold headB6 at h
  simp only [Bool.and_eq_true, decide_eq_true_eq] at h
  obtain ⟨⟨⟨⟨⟨h1, h2⟩, h3⟩, h4⟩, h5⟩, h6⟩ := h
  have e : l.take 2 = new6 := by
    match l, h3 with
    | a :: b :: r, _ =>
      have ha : a = deadN := h5
      have hb : b = liveN := h6
      subst ha hb
      rfl
  exact ⟨e, by rw [e]; exact right_new h1 h2⟩
theorem right_head {l : List Nd} {room : Int} (h : right6 l room = true) : headB6 l room = true := by
  unfold right6 at h
  rw [Bool.and_eq_true] at h
  exact h.1
/-- all made: the store is right -/
theorem anew_all {l : List Nd} {room : Int} (h : Right6 (l.take l.length) room) : right6 l room = true := by
  rw [List.take_length] at h
  exact right_iff.2 h
theorem anew_not {l : List Nd} {room : Int} {n : Nat} (h2 : 2 ≤ n) (hn : n < l.length) (h : ¬ fits6 l n = true) : right6 l room = false := by
  rw [Bool.eq_false_iff]
  intro hr
  exact h ((right_iff.1 hr).fits n h2 hn)
end Go.Proofs.Ytklccoodfhejbaa
namespace Go.Proofs.Ytklccoodfhejbaa
set_option linter.unusedVariables false
set_option linter.unusedSimpArgs false

theorem Right6.more {l : List Nd} {room room' : Int} (h : Right6 l room) (h1 : (l.length : Int) ≤ room') (h2 : 2 ≤ room') (h3 : room' ≤ 100000) : Right6 l room' :=
  ⟨h2, h3, h.two, h1, h.dead, h.live, h.fits⟩
theorem Right6.small {l : List Nd} {room : Int} (h : Right6 l room) : l.length ≤ 100000 := by
  have := h.len
  have := h.room100
  omega
/-- from a level that stands already -/
theorem empty_from {l : List Nd} {room : Int} (h : Right6 l room) {i e : Nat} (hi : i ≤ 42) (hE : Emp l i e) : ∀ d : Nat, i + d ≤ 42 → (l.length : Int) + d ≤ room → ∃ (m : List Nd) (n : Nat), emptyTo l room (i + d) = (m, (n : Int), 0) ∧ Grows l m ∧ Right6 m room ∧ Emp m (i + d) n ∧ m.length ≤ l.length + d := by
  intro d
  induction d with
  | zero => intro _ _; exact ⟨l, e, empty_had h i e hi hE, Grows.refl l, h, hE, Nat.le_refl _⟩
  | succ d ih =>
    intro hj hr
    obtain ⟨m, n, e, g, hm, he, hl⟩ := ih (by omega) (by omega)
    obtain ⟨n1, n2, n3⟩ := emp_node hm (i + d) n he
    have e4 : emptyTo l room (i + (d + 1)) = put6 m room ((n : Int), (n : Int), (n : Int), (n : Int)) := by
      have es : emptyTo l room (i + (d + 1)) = if (emptyTo l room (i + d)).2.2 = 0 then put6 (emptyTo l room (i + d)).1 room ((emptyTo l room (i + d)).2.1, (emptyTo l room (i + d)).2.1, (emptyTo l room (i + d)).2.1, (emptyTo l room (i + d)).2.1) else emptyTo l room (i + d) := rfl
      rw [es, e, if_pos rfl]
    have hfit : Fit4 m ((n : Int), (n : Int), (n : Int), (n : Int)) := by
      refine ⟨fun i hi => ?_, ?_⟩
      · have : kd ((n : Int), (n : Int), (n : Int), (n : Int)) i = (n : Int) := by
          match i, hi with
          | 0, _ => rfl
          | 1, _ => rfl
          | 2, _ => rfl
          | 3, _ => rfl
        rw [this]
        exact ⟨by omega, by omega, rfl⟩
      · show (ndAt m (n : Int)).1 + 1 ≤ 42
        rw [ndAt_nat, n2]
        omega
    rcases put_ok hm hfit with ⟨m', n', e', hp⟩ | ⟨_, hf, _⟩
    · refine ⟨m', n', by rw [e4, e'], g.trans hp.grows, hp.right, ⟨n, emp_grows hp.grows _ n he, hp.at_⟩, ?_⟩
      have := hp.more
      omega
    · omega
/-- what is found again -/
theorem put_found {l m : List Nd} {R : Int} {k : Kd} {n : Nat} (h : Put6 l m R k n) (hf : Fit4 l k) {b : List Nd} (hb : Right6 b R) (g : Grows m b) : intern6 b R k = (b, (n : Int), 0) := by
  rw [intern_right hb, put_again (g.fit4 (h.grows.fit4 hf)) (g.at_ h.at_)]
theorem put_grows {l : List Nd} {R : Int} (h : Right6 l R) (k : Kd) : Grows l (put6 l R k).1 ∧ (put6 l R k).1.length ≤ l.length + 1 := by
  by_cases ho : over6 l k = true
  · rcases put_ok h (over_fit ho) with ⟨m, n, e, hp⟩ | ⟨e, _⟩
    · rw [e]; exact ⟨hp.grows, hp.more⟩
    · rw [e]; exact ⟨Grows.refl _, by simp⟩
  · rw [put_over_no (by simpa using ho)]
    exact ⟨Grows.refl _, by simp⟩
/-- what NodeOnce asks, where there is room -/
structure Once (l : List Nd) (R : Int) (k : Kd) (l1 : List Nd) (n : Nat) : Prop where
  one : intern6 l R k = (l1, (n : Int), 0)
  r1 : Right6 l1 R
  len : l.length ≤ l1.length ∧ l1.length ≤ l.length + 1
  same : ∀ i, i < l.length → l1.getD i deadN = l.getD i deadN
  n_ : n < l1.length
  kids : (l1.getD n deadN).2.1 = k
  again : ∀ t, Right6 (intern6 l1 R t).1 R ∧ intern6 (intern6 l1 R t).1 R k = ((intern6 l1 R t).1, (n : Int), 0) ∧ (intern6 l1 R t).1.length ≤ l1.length + 1
theorem once {l : List Nd} {R : Int} (h : Right6 l R) {k : Kd} (hf : Fit4 l k) : (∃ l1 n, Once l R k l1 n) ∨ (intern6 l R k = (l, 0, 40) ∧ (l.length : Int) = R) := by
  rcases put_ok h hf with ⟨l1, n, e1, p1⟩ | ⟨e, hfull, _⟩
  · left
    obtain ⟨a1, a2, a3, a4, a5⟩ := p1.node hf
    refine ⟨l1, n, by rw [intern_right h, e1], p1.right, ⟨p1.grows.len, p1.more⟩, p1.grows.same, a2, a3, fun t => ?_⟩
    rw [intern_right p1.right]
    have hp := put_right p1.right t
    have hg := put_grows p1.right t
    exact ⟨hp, put_found p1 hf hp hg.1, hg.2⟩
  · right
    have := h.len
    exact ⟨by rw [intern_right h, e], by omega⟩
end Go.Proofs.Ytklccoodfhejbaa
namespace Go.Proofs.Ytklccoodfhejbaa
set_option maxRecDepth 100000
set_option linter.unusedVariables false
set_option linter.unusedSimpArgs false

/-! ### bits of cells -/
/-- which quarter of a square of the level k + 1 a cell is in, told from a corner -/
def q7 (k : Nat) (c : Int × Int) : Nat := (c.1 / 2 ^ k % 2 + c.2 / 2 ^ k % 2 * 2).toNat
theorem q7_lt (k : Nat) (c : Int × Int) : q7 k c < 4 := by unfold q7; omega
theorem q7_cast (k : Nat) (c : Int × Int) : ((q7 k c : Nat) : Int) = c.1 / 2 ^ k % 2 + c.2 / 2 ^ k % 2 * 2 := by unfold q7; omega
theorem q7_iff {k : Nat} {s c : Int × Int} : q7 k s = q7 k c ↔ s.1 / 2 ^ k % 2 = c.1 / 2 ^ k % 2 ∧ s.2 / 2 ^ k % 2 = c.2 / 2 ^ k % 2 := by
  unfold q7
  constructor
  · intro h; omega
  · rintro ⟨h1, h2⟩; rw [h1, h2]
/-- two cells have the same bits below k -/
def Agree (k : Nat) (s c : Int × Int) : Prop := ∀ j, j < k → q7 j s = q7 j c
def agreeB (k : Nat) (s c : Int × Int) : Bool := (List.range k).all fun j => decide (q7 j s = q7 j c)
theorem agree_iff {k : Nat} {s c : Int × Int} : agreeB k s c = true ↔ Agree k s c := by
  unfold agreeB Agree
  simp [List.all_eq_true]
theorem Agree.refl (k : Nat) (c : Int × Int) : Agree k c c := fun _ _ => rfl
theorem Agree.symm {k : Nat} {s c : Int × Int} (h : Agree k s c) : Agree k c s := fun j hj => (h j hj).symm
theorem Agree.trans {k : Nat} {s c d : Int × Int} (h : Agree k s c) (h2 : Agree k c d) : Agree k s d := fun j hj => (h j hj).trans (h2 j hj)
theorem Agree.low {k j : Nat} {s c : Int × Int} (h : Agree k s c) (hj : j ≤ k) : Agree j s c := fun i hi => h i (by omega)
theorem agree_succ {k : Nat} {s c : Int × Int} : Agree (k + 1) s c ↔ q7 k s = q7 k c ∧ Agree k s c :=
  ⟨fun h => ⟨h k (by omega), h.low (by omega)⟩, fun h j hj => by
    rcases (by omega : j < k ∨ j = k) with h1 | rfl
    · exact h.2 j h1
    · exact h.1⟩
theorem bit_shift (x t : Int) {j k : Nat} (h : j < k) : (x + 2 ^ k * t) / 2 ^ j % 2 = x / 2 ^ j % 2 := by
  have e : (2 : Int) ^ k = 2 ^ j * (2 * 2 ^ (k - j - 1)) := by
    rw [← Int.pow_succ', ← Int.pow_add]
    congr 1
    omega
  have hp : (2 : Int) ^ j ≠ 0 := Int.ne_of_gt (Int.pow_pos (by decide))
  rw [e, Int.mul_assoc, Int.add_mul_ediv_left _ _ hp, Int.mul_assoc, Int.add_mul_emod_self_left]
theorem agree_shift (c : Int × Int) (s t : Int) (k : Nat) : Agree k (c.1 + 2 ^ k * s, c.2 + 2 ^ k * t) c := fun j hj => by
  unfold q7
  simp only
  rw [bit_shift _ _ hj, bit_shift _ _ hj]
theorem pow_pos7 (k : Nat) : (0 : Int) < 2 ^ k := Int.pow_pos (by decide)
theorem with_bit (k i : Nat) (c : Int × Int) (hi : i < 4) : ∃ c', q7 k c' = i ∧ Agree k c' c := by
  have hp := pow_pos7 k
  refine ⟨(c.1 % 2 ^ k + 2 ^ k * ((i % 2 : Nat) : Int), c.2 % 2 ^ k + 2 ^ k * ((i / 2 : Nat) : Int)), ?_, ?_⟩
  · unfold q7
    simp only
    rw [Int.add_mul_ediv_left _ _ (by omega), Int.add_mul_ediv_left _ _ (by omega), Int.ediv_eq_zero_of_lt (Int.emod_nonneg _ (by omega)) (Int.emod_lt_of_pos _ hp), Int.ediv_eq_zero_of_lt (Int.emod_nonneg _ (by omega)) (Int.emod_lt_of_pos _ hp)]
    omega
  · have e1 : c.1 % 2 ^ k + 2 ^ k * ((i % 2 : Nat) : Int) = c.1 + 2 ^ k * (((i % 2 : Nat) : Int) - c.1 / 2 ^ k) := by
      have := Int.emod_add_mul_ediv c.1 (2 ^ k)
      rw [Int.mul_sub]
      omega
    have e2 : c.2 % 2 ^ k + 2 ^ k * ((i / 2 : Nat) : Int) = c.2 + 2 ^ k * (((i / 2 : Nat) : Int) - c.2 / 2 ^ k) := by
      have := Int.emod_add_mul_ediv c.2 (2 ^ k)
      rw [Int.mul_sub]
      omega
    rw [e1, e2]
    exact agree_shift c _ _ k
/-- within a square the bits tell a number -/
theorem bits_ext : ∀ (k : Nat) (x y : Int), 0 ≤ x → x < 2 ^ k → 0 ≤ y → y < 2 ^ k → (∀ j, j < k → x / 2 ^ j % 2 = y / 2 ^ j % 2) → x = y
  | 0, x, y, h1, h2, h3, h4, _ => by
    have : (2 : Int) ^ 0 = 1 := rfl
    omega
  | k + 1, x, y, h1, h2, h3, h4, h => by
    have e : (2 : Int) ^ (k + 1) = 2 ^ k * 2 := Int.pow_succ ..
    have hk := h k (by omega)
    have hp := pow_pos7 k
    have hx : x / 2 ^ k < 2 := Int.ediv_lt_of_lt_mul hp (by omega)
    have hy : y / 2 ^ k < 2 := Int.ediv_lt_of_lt_mul hp (by omega)
    have hx0 : 0 ≤ x / 2 ^ k := Int.ediv_nonneg h1 (by omega)
    have hy0 : 0 ≤ y / 2 ^ k := Int.ediv_nonneg h3 (by omega)
    have hq : x / 2 ^ k = y / 2 ^ k := by omega
    have ex := Int.emod_add_mul_ediv x (2 ^ k)
    have ey := Int.emod_add_mul_ediv y (2 ^ k)
    have hr := bits_ext k (x % 2 ^ k) (y % 2 ^ k) (Int.emod_nonneg _ (by omega)) (Int.emod_lt_of_pos _ hp) (Int.emod_nonneg _ (by omega)) (Int.emod_lt_of_pos _ hp) (fun j hj => by
      have e1 : x % 2 ^ k = x + 2 ^ k * (- (x / 2 ^ k)) := by rw [Int.mul_neg]; omega
      have e2 : y % 2 ^ k = y + 2 ^ k * (- (y / 2 ^ k)) := by rw [Int.mul_neg]; omega
      rw [e1, e2, bit_shift _ _ hj, bit_shift _ _ hj]
      exact h j (by omega))
    rw [hr, hq] at ex
    omega
def InSq (k : Nat) (c : Int × Int) : Prop := 0 ≤ c.1 ∧ c.1 < 2 ^ k ∧ 0 ≤ c.2 ∧ c.2 < 2 ^ k
theorem agree_ext {k : Nat} {s c : Int × Int} (hs : InSq k s) (hc : InSq k c) (h : Agree k s c) : s = c := by
  obtain ⟨s1, s2, s3, s4⟩ := hs
  obtain ⟨c1, c2, c3, c4⟩ := hc
  have e1 := bits_ext k s.1 c.1 s1 s2 c1 c2 (fun j hj => (q7_iff.1 (h j hj)).1)
  have e2 := bits_ext k s.2 c.2 s3 s4 c3 c4 (fun j hj => (q7_iff.1 (h j hj)).2)
  exact Prod.ext e1 e2

/-! ### which cells of a node are alive -/
/-- a place is that of a node of a level -/
structure Is (l : List Nd) (k n : Nat) : Prop where
  lt : n < l.length
  lev : (l.getD n deadN).1 = (k : Int)
theorem Is.grows {l m : List Nd} {k n : Nat} (h : Is l k n) (g : Grows l m) : Is m k n := ⟨Nat.lt_of_lt_of_le h.lt g.len, by rw [g.same n h.lt]; exact h.lev⟩
theorem Is.two {l : List Nd} {room : Int} {k n : Nat} (hr : Right6 l room) (h : Is l (k + 1) n) : 2 ≤ n := by
  have := (level_zero hr h.lt)
  have h2 := h.lev
  by_cases h3 : n < 2
  · rw [this.2 h3] at h2
    omega
  · omega
theorem Is.zero {l : List Nd} {room : Int} {n : Nat} (hr : Right6 l room) (h : Is l 0 n) : n < 2 := (level_zero hr h.lt).1 h.lev
def kidN (l : List Nd) (n i : Nat) : Nat := (kd (l.getD n deadN).2.1 i).toNat
theorem kid_cast {l : List Nd} {room : Int} {k n : Nat} (hr : Right6 l room) (h : Is l (k + 1) n) {i : Nat} (hi : i < 4) : kd (l.getD n deadN).2.1 i = ((kidN l n i : Nat) : Int) := by
  have := ((fits_iff.1 (hr.fits n (h.two hr) h.lt)).kid i hi).1
  unfold kidN
  omega
theorem kid_is {l : List Nd} {room : Int} {k n : Nat} (hr : Right6 l room) (h : Is l (k + 1) n) {i : Nat} (hi : i < 4) : Is l k (kidN l n i) := by
  obtain ⟨h1, h2, h3⟩ := (fits_iff.1 (hr.fits n (h.two hr) h.lt)).kid i hi
  have hn := h.lt
  have hc := kid_cast hr h hi
  refine ⟨by omega, ?_⟩
  rw [hc, ndAt_nat, h.lev] at h3
  rw [h3]
  omega
def alive (l : List Nd) : Nat → Nat → Int × Int → Bool
  | 0, n, _ => decide (n = 1)
  | k + 1, n, c => alive l k (kidN l n (q7 k c)) c
theorem alive_agree {l : List Nd} {s c : Int × Int} : ∀ (k n : Nat), Agree k s c → alive l k n s = alive l k n c
  | 0, _, _ => rfl
  | k + 1, n, h => by
    obtain ⟨h1, h2⟩ := agree_succ.1 h
    show alive l k (kidN l n (q7 k s)) s = alive l k (kidN l n (q7 k c)) c
    rw [h1]
    exact alive_agree k _ h2
theorem kidN_grows {l m : List Nd} (g : Grows l m) {n i : Nat} (h : n < l.length) : kidN m n i = kidN l n i := by unfold kidN; rw [g.same n h]
theorem alive_grows {l m : List Nd} {room : Int} (hr : Right6 l room) (g : Grows l m) (c : Int × Int) : ∀ (k n : Nat), Is l k n → alive m k n c = alive l k n c
  | 0, _, _ => rfl
  | k + 1, n, h => by
    show alive m k (kidN m n (q7 k c)) c = alive l k (kidN l n (q7 k c)) c
    rw [kidN_grows g h.lt]
    exact alive_grows hr g c k _ (kid_is hr h (q7_lt k c))
theorem alive_inj {l : List Nd} {room : Int} (hr : Right6 l room) : ∀ (k n m : Nat), Is l k n → Is l k m → (∀ c, alive l k n c = alive l k m c) → n = m
  | 0, n, m, hn, hm, h => by
    have h0 : decide (n = 1) = decide (m = 1) := h (0, 0)
    have h1 := hn.zero hr
    have h2 := hm.zero hr
    have h3 : n = 1 ↔ m = 1 := by simpa using h0
    omega
  | k + 1, n, m, hn, hm, h => by
    have hk : ∀ i, i < 4 → kidN l n i = kidN l m i := fun i hi => by
      refine alive_inj hr k _ _ (kid_is hr hn hi) (kid_is hr hm hi) fun c => ?_
      obtain ⟨c', h1, h2⟩ := with_bit k i c hi
      have h3 : alive l k (kidN l n (q7 k c')) c' = alive l k (kidN l m (q7 k c')) c' := h c'
      rw [h1, alive_agree k _ h2, alive_agree k _ h2] at h3
      exact h3
    have e : (l.getD n deadN).2.1 = (l.getD m deadN).2.1 := kd_ext fun i hi => by rw [kid_cast hr hn hi, kid_cast hr hm hi, hk i hi]
    have f1 := (fits_iff.1 (hr.fits n (hn.two hr) hn.lt)).first
    have f2 := (fits_iff.1 (hr.fits m (hm.two hr) hm.lt)).first
    rw [e, f2] at f1
    injection f1 with f1
    exact f1.symm
theorem emp_is {l : List Nd} {room : Int} (hr : Right6 l room) {k n : Nat} (h : Emp l k n) : Is l k n := ⟨(emp_node hr k n h).1, (emp_node hr k n h).2.1⟩
theorem kd_four (e : Int) (i : Nat) (hi : i < 4) : kd (e, e, e, e) i = e := by
  match i, hi with
  | 0, _ => rfl
  | 1, _ => rfl
  | 2, _ => rfl
  | 3, _ => rfl
theorem emp_alive {l : List Nd} (c : Int × Int) : ∀ (k n : Nat), Emp l k n → alive l k n c = false
  | 0, n, h => by
    have : n = 0 := h
    subst this
    rfl
  | k + 1, n, h => by
    obtain ⟨e, he, ha⟩ := h
    show alive l k (kidN l n (q7 k c)) c = false
    have : kidN l n (q7 k c) = e := by
      unfold kidN
      rw [(at_some ha).2.2.1, kd_four _ _ (q7_lt k c), Int.toNat_natCast]
    rw [this]
    exact emp_alive c k e he

/-! ### nodes of four quarters -/
def kset (k : Kd) (i : Nat) (v : Int) : Kd :=
  match i with
  | 0 => (v, k.2.1, k.2.2.1, k.2.2.2)
  | 1 => (k.1, v, k.2.2.1, k.2.2.2)
  | 2 => (k.1, k.2.1, v, k.2.2.2)
  | _ => (k.1, k.2.1, k.2.2.1, v)
theorem kd_kset (k : Kd) {i j : Nat} (v : Int) (hi : i < 4) (hj : j < 4) : kd (kset k i v) j = if j = i then v else kd k j := by
  rcases (by omega : i = 0 ∨ i = 1 ∨ i = 2 ∨ i = 3) with rfl | rfl | rfl | rfl <;> rcases (by omega : j = 0 ∨ j = 1 ∨ j = 2 ∨ j = 3) with rfl | rfl | rfl | rfl <;> rfl
/-- so many quarters are made, one behind the other; the first error ends it -/
def fourTo (F : Nat → List Nd → List Nd × Int × Int) (l : List Nd) : Nat → List Nd × Kd × Int
  | 0 => (l, (0, 0, 0, 0), 0)
  | i + 1 => if (fourTo F l i).2.2 = 0 then ((F i (fourTo F l i).1).1, kset (fourTo F l i).2.1 i (F i (fourTo F l i).1).2.1, (F i (fourTo F l i).1).2.2) else fourTo F l i
def four (room : Int) (F : Nat → List Nd → List Nd × Int × Int) (l : List Nd) : List Nd × Int × Int :=
  if (fourTo F l 4).2.2 = 0 then put6 (fourTo F l 4).1 room (fourTo F l 4).2.1 else ((fourTo F l 4).1, 0, (fourTo F l 4).2.2)
theorem fourTo_right {room : Int} {F : Nat → List Nd → List Nd × Int × Int} (hF : ∀ i l, i < 4 → Right6 l room → Right6 (F i l).1 room) {l : List Nd} (h : Right6 l room) : ∀ i, i ≤ 4 → Right6 (fourTo F l i).1 room
  | 0, _ => h
  | i + 1, hi => by
    have ih := fourTo_right hF h i (by omega)
    unfold fourTo
    split
    · exact hF i _ (by omega) ih
    · exact ih
theorem fourTo_stop {F : Nat → List Nd → List Nd × Int × Int} {l : List Nd} {i : Nat} (h : ¬ (fourTo F l i).2.2 = 0) : ∀ d, fourTo F l (i + d) = fourTo F l i
  | 0 => rfl
  | d + 1 => by
    have ih := fourTo_stop h d
    show (if (fourTo F l (i + d)).2.2 = 0 then _ else fourTo F l (i + d)) = _
    rw [ih, if_neg h]
theorem four_right {room : Int} {F : Nat → List Nd → List Nd × Int × Int} (hF : ∀ i l, i < 4 → Right6 l room → Right6 (F i l).1 room) {l : List Nd} (h : Right6 l room) : Right6 (four room F l).1 room := by
  have h4 := fourTo_right hF h 4 (Nat.le_refl _)
  unfold four
  split
  · exact put_right h4 _
  · exact h4
/-- What comes of a making: a node, what is alive in it, how many nodes it took (levels of dead nodes told apart). -/
structure ResAt (room : Int) (K : Nat) (l : List Nd) (h : Nat) (k : Nat) (A : Int × Int → Bool) (cost : Nat) (m : List Nd) (n h' : Nat) : Prop where
  grows : Grows l m
  right : Right6 m room
  is : Is m k n
  alive : ∀ c, alive m k n c = A c
  lo : h ≤ h'
  hi : h' ≤ K
  emp : ∃ e, Emp m h' e
  len : m.length + h ≤ l.length + cost + h'
def Res (room : Int) (K : Nat) (l : List Nd) (h : Nat) (z : List Nd × Int × Int) (k : Nat) (A : Int × Int → Bool) (cost : Nat) : Prop :=
  ∃ m n h', z = (m, ((n : Nat) : Int), 0) ∧ ResAt room K l h k A cost m n h'
theorem four_res {room : Int} {K : Nat} {l : List Nd} {h k : Nat} {F : Nat → List Nd → List Nd × Int × Int} {A : Nat → Int × Int → Bool} {cost : Nat → Nat} (hk : k + 1 ≤ 42) (hr : Right6 l room) (hK : h ≤ K) (he : ∃ e, Emp l h e)
    (hF : ∀ i, i < 4 → ∀ l' h', Grows l l' → Right6 l' room → h ≤ h' → h' ≤ K → (∃ e, Emp l' h' e) → l'.length + h ≤ l.length + ((List.range i).map cost).sum + h' → Res room K l' h' (F i l') k (A i) (cost i))
    (hroom : ((l.length + ((List.range 4).map cost).sum + 1 + K : Nat) : Int) ≤ room + h) :
    Res room K l h (four room F l) (k + 1) (fun c => A (q7 k c) c) (((List.range 4).map cost).sum + 1) := by
  have step : ∀ i, i ≤ 4 → ∃ m q h', fourTo F l i = (m, q, 0) ∧ Grows l m ∧ Right6 m room ∧ h ≤ h' ∧ h' ≤ K ∧ (∃ e, Emp m h' e) ∧ m.length + h ≤ l.length + ((List.range i).map cost).sum + h' ∧
      ∀ j, j < i → ∃ n : Nat, kd q j = (n : Int) ∧ Is m k n ∧ ∀ c, Go.Proofs.Ytklccoodfhejbaa.alive m k n c = A j c := by
    intro i
    induction i with
    | zero => intro _; exact ⟨l, (0, 0, 0, 0), h, rfl, Grows.refl l, hr, Nat.le_refl _, hK, he, by simp, fun j hj => absurd hj (Nat.not_lt_zero j)⟩
    | succ i ih =>
      intro hi
      obtain ⟨m, q, h1, e1, g1, r1, lo1, hi1, em1, len1, al1⟩ := ih (by omega)
      obtain ⟨m2, n, h2, e2, R2⟩ := hF i (by omega) m h1 g1 r1 lo1 hi1 em1 len1
      refine ⟨m2, kset q i n, h2, ?_, g1.trans R2.grows, R2.right, by have := R2.lo; omega, R2.hi, R2.emp, ?_, ?_⟩
      · unfold fourTo
        rw [e1]
        simp only [if_true]
        rw [e2]
      · have := R2.len
        rw [List.range_succ, List.map_append, List.sum_append]
        simp only [List.map_cons, List.map_nil, List.sum_cons, List.sum_nil]
        omega
      · intro j hj
        rw [kd_kset q _ (by omega) (by omega)]
        by_cases hji : j = i
        · subst hji
          rw [if_pos rfl]
          exact ⟨n, rfl, R2.is, R2.alive⟩
        · rw [if_neg hji]
          obtain ⟨n', e', is', al'⟩ := al1 j (by omega)
          exact ⟨n', e', is'.grows R2.grows, fun c => (alive_grows r1 R2.grows c k n' is').trans (al' c)⟩
  obtain ⟨m, q, h', e, g, r, lo, hi', em, len, al⟩ := step 4 (Nat.le_refl _)
  have hfit : Fit4 m q := by
    obtain ⟨n0, e0, is0, _⟩ := al 0 (by decide)
    have e0' : q.1 = (n0 : Int) := e0
    have hl0 : (ndAt m q.1).1 = (k : Int) := by rw [e0', ndAt_nat]; exact is0.lev
    refine ⟨fun i hi => ?_, by omega⟩
    obtain ⟨n, en, isn, _⟩ := al i hi
    rw [en, hl0]
    refine ⟨by omega, by have := isn.lt; omega, ?_⟩
    rw [ndAt_nat]
    exact isn.lev
  have hput : four room F l = put6 m room q := by unfold four; rw [e]; rfl
  rcases put_ok r hfit with ⟨m', n', e', hp⟩ | ⟨_, hf, _⟩
  · refine ⟨m', n', h', by rw [hput, e'], g.trans hp.grows, hp.right, ?_, ?_, lo, hi', ?_, ?_⟩
    · obtain ⟨_, p2, _, p4, _⟩ := hp.node hfit
      refine ⟨p2, ?_⟩
      obtain ⟨n0, e0, is0, _⟩ := al 0 (by decide)
      have e0' : q.1 = (n0 : Int) := e0
      rw [p4, e0', ndAt_nat, is0.lev]
      omega
    · intro c
      obtain ⟨_, p2, p3, p4, _⟩ := hp.node hfit
      obtain ⟨n, en, isn, aln⟩ := al (q7 k c) (q7_lt k c)
      show Go.Proofs.Ytklccoodfhejbaa.alive m' k (kidN m' n' (q7 k c)) c = _
      have : kidN m' n' (q7 k c) = n := by unfold kidN; rw [p3, en, Int.toNat_natCast]
      rw [this, alive_grows r hp.grows c k n isn, aln c]
    · obtain ⟨e2, he2⟩ := em
      exact ⟨e2, emp_grows hp.grows _ _ he2⟩
    · have := hp.more
      omega
  · omega

/-! ### the node of a set -/
def buildC (room : Int) : Nat → List Nd → List (Int × Int) → List Nd × Int × Int
  | 0, l, S => if S = [] then (l, 0, 0) else (l, 1, 0)
  | k + 1, l, S => if S = [] then emptyTo l room (k + 1) else four room (fun i l => buildC room k l (S.filter fun c => decide (q7 k c = i))) l
theorem buildC_nil (room : Int) (k : Nat) (l : List Nd) : buildC room k l [] = emptyTo l room k := by
  cases k <;> rfl
theorem parts_sum (k : Nat) (f : Int × Int → Nat) (hf : ∀ c, f c < 4) (S : List (Int × Int)) : ((List.range 4).map fun i => (S.filter fun c => decide (f c = i)).length * k).sum = S.length * k := by
  induction S with
  | nil => simp; rfl
  | cons c S ih =>
    have hc := hf c
    have e : ∀ i, ((c :: S).filter fun c => decide (f c = i)).length = (S.filter fun c => decide (f c = i)).length + if f c = i then 1 else 0 := by
      intro i
      rw [List.filter_cons]
      by_cases h : f c = i
      · simp [h]
      · simp [h]
    have hr : List.range 4 = [0, 1, 2, 3] := rfl
    rw [hr] at ih ⊢
    simp only [List.map_cons, List.map_nil, List.sum_cons, List.sum_nil, e, Nat.add_mul] at ih ⊢
    rw [List.length_cons, Nat.add_mul, ← ih]
    rcases (by omega : f c = 0 ∨ f c = 1 ∨ f c = 2 ∨ f c = 3) with h | h | h | h <;> rw [h] <;> simp <;> omega
theorem build_res {room : Int} {K : Nat} (hK42 : K ≤ 42) : ∀ (k : Nat), k ≤ K → ∀ (l : List Nd) (h : Nat) (S : List (Int × Int)), Right6 l room → h ≤ K → (∃ e, Emp l h e) → ((l.length + S.length * k + K : Nat) : Int) ≤ room + h →
    Res room K l h (buildC room k l S) k (fun c => S.any fun s => agreeB k s c) (S.length * k) := by
  have hnil : ∀ (k : Nat), k ≤ K → ∀ (l : List Nd) (h : Nat), Right6 l room → h ≤ K → (∃ e, Emp l h e) → ((l.length + K : Nat) : Int) ≤ room + h → Res room K l h (emptyTo l room k) k (fun _ => false) 0 := by
    intro k hk l h hr hK he hroom
    obtain ⟨e, he⟩ := he
    by_cases hkh : k ≤ h
    · obtain ⟨e', he'⟩ := emp_below h e he k hkh
      exact ⟨l, e', h, empty_had hr k e' (by omega) he', Grows.refl l, hr, emp_is hr he', fun c => emp_alive c k e' he', Nat.le_refl _, hK, ⟨e, he⟩, by omega⟩
    · obtain ⟨m, n, e2, g, r, em, len⟩ := empty_from hr (i := h) (e := e) (by omega) he (k - h) (by omega) (by omega)
      rw [show h + (k - h) = k by omega] at e2 em
      exact ⟨m, n, k, e2, g, r, emp_is r em, fun c => emp_alive c k n em, by omega, hk, ⟨n, em⟩, by omega⟩
  intro k
  induction k with
  | zero =>
    intro _ l h S hr hK he hroom
    by_cases hS : S = []
    · subst hS
      exact hnil 0 (by omega) l h hr hK he (by simpa using hroom)
    · unfold buildC
      rw [if_neg hS]
      refine ⟨l, 1, h, rfl, Grows.refl l, hr, ⟨by have := hr.two; omega, by rw [hr.live]; rfl⟩, fun c => ?_, Nat.le_refl _, hK, he, by omega⟩
      obtain ⟨s, S', rfl⟩ := List.exists_cons_of_ne_nil hS
      show decide (1 = 1) = _
      rw [List.any_cons]
      have : agreeB 0 s c = true := rfl
      rw [this]
      rfl
  | succ k ih =>
    intro hk l h S hr hK he hroom
    by_cases hS : S = []
    · subst hS
      rw [buildC_nil]
      have := hnil (k + 1) hk l h hr hK he (by simpa using hroom)
      simpa using this
    · unfold buildC
      rw [if_neg hS]
      have hpos : 1 ≤ S.length := List.length_pos_iff.2 hS
      have hsum := parts_sum k (q7 k) (q7_lt k) S
      have hmul : S.length * (k + 1) = S.length * k + S.length := Nat.mul_succ _ _
      have hres := four_res (room := room) (K := K) (l := l) (h := h) (k := k) (F := fun i l => buildC room k l (S.filter fun c => decide (q7 k c = i))) (A := fun i c => (S.filter fun c => decide (q7 k c = i)).any fun s => agreeB k s c) (cost := fun i => (S.filter fun c => decide (q7 k c = i)).length * k) (by omega) hr hK he ?_ ?_
      · obtain ⟨m, n, h', e, R⟩ := hres
        refine ⟨m, n, h', e, R.grows, R.right, R.is, fun c => ?_, R.lo, R.hi, R.emp, ?_⟩
        · rw [R.alive c, List.any_filter, Bool.eq_iff_iff, List.any_eq_true, List.any_eq_true]
          constructor
          · rintro ⟨s, hs, h1⟩
            rw [Bool.and_eq_true, decide_eq_true_eq] at h1
            exact ⟨s, hs, agree_iff.2 (agree_succ.2 ⟨h1.1, agree_iff.1 h1.2⟩)⟩
          · rintro ⟨s, hs, h1⟩
            obtain ⟨h2, h3⟩ := agree_succ.1 (agree_iff.1 h1)
            exact ⟨s, hs, by rw [Bool.and_eq_true, decide_eq_true_eq]; exact ⟨h2, agree_iff.2 h3⟩⟩
        · have := R.len
          rw [hsum] at this
          omega
      · intro i hi l' h' g r lo hi' em len
        refine ih (by omega) l' h' _ r hi' em ?_
        have hle : ((List.range i).map fun i => (S.filter fun c => decide (q7 k c = i)).length * k).sum + (S.filter fun c => decide (q7 k c = i)).length * k ≤ S.length * k := by
          rw [← hsum]
          have hr4 : List.range 4 = [0, 1, 2, 3] := rfl
          rw [hr4]
          rcases (by omega : i = 0 ∨ i = 1 ∨ i = 2 ∨ i = 3) with rfl | rfl | rfl | rfl
          · simp; try omega
          · rw [show List.range 1 = [0] from rfl]; simp; try omega
          · rw [show List.range 2 = [0, 1] from rfl]; simp; try omega
          · rw [show List.range 3 = [0, 1, 2] from rfl]; simp; try omega
        omega
      · rw [hsum]
        omega
end Go.Proofs.Ytklccoodfhejbaa
namespace Go.Proofs.Ytklccoodfhejbaa.Qt
set_option linter.unusedVariables false
set_option linter.unusedSimpArgs false
open Go Go.Sort Go.RowKit

section
variable {P : Program} {ops : Array Oper} {md : Region.Mode} {C : World → Prop}

/-- f rounds of the head, whatever order, then L. -/
def headAny (P : Program) (md : Region.Mode) (ops : Array Oper) (C : World → Prop) (n : Nat) (L : Array Bool → Act → Prop) : Nat → Array Bool → Act → Prop
  | 0, listed, a => L listed a
  | f + 1, listed, a => Region.ready md ops listed ≠ [] ∧ ∀ i ∈ Region.ready md ops listed, i < n ∧ qOp P ops C i (headAny P md ops C n L f (listed.setIfInBounds i true)) a

theorem any_of_head {n g : Nat} {L : Array Bool → Act → Prop} {Q : Exit → Act → World → Prop} (hL : ∀ listed a w, C w → L listed a → wpAny P md ops Q g listed a w) (f : Nat) :
    ∀ listed a w, C w → headAny P md ops C n L f listed a → wpAny P md ops Q (f + g) listed a w := by
  induction f with
  | zero => intro listed a w hw h; rw [Nat.zero_add]; exact hL _ _ _ hw h
  | succ f ih =>
    intro listed a w hw h
    rw [Nat.succ_add]
    exact ⟨fun h0 => absurd h0 h.1, fun i hi => wpOp_of_qOp hw (fun a' w' hw' h' => ih _ a' w' hw' h') (h.2 i hi).2⟩

/-- What may be taken first is taken first. -/
theorem head_first {n i : Nat} {oi : Oper} {v : Value} {L : Array Bool → Act → Prop} (hi : ops[i]? = some oi) (hsel : ∀ (j : Nat) (o : Oper) cs b, ops[j]? = some o → o.op ≠ .select cs b)
    (hs : Region.sinkB md ops n = true) (hc : Region.chainB md ops n = true) (hn : n < ops.size) (hin : i < n) (hdone : ∀ listed a, L listed a → ∀ j ∈ Region.ready md ops listed, n ≤ j) (f : Nat) :
    ∀ (listed : Array Bool) (a : Act), HeadInv md ops n listed →
      (∀ j oj, ops[j]? = some oj → j ≠ i → listed.getD j true = false → (∀ e ∈ oj.after, Region.binds md e = true → e.on ≠ i) → oi.apart ops oj = true) →
      i ∈ Region.ready md ops listed → YieldsIn P ops C oi v a →
      headAny P md ops C n L f (listed.setIfInBounds i true) (a.put oi.dst v) → headAny P md ops C n L (f + 1) listed a := by
  induction f with
  | zero =>
    intro listed a inv _ hr hy H
    refine ⟨fun h => (by rw [h] at hr; cases hr), fun j hj => ?_⟩
    have hjn : j < n := Nat.lt_of_not_le fun h => tail_waits hs hc hn inv _ i rfl hin (mem_ready.1 hr).1 j h hj
    refine ⟨hjn, ?_⟩
    by_cases hji : j = i
    · subst hji; exact hy.qOp hi H
    · exact absurd (hdone _ _ H j (ready_mono hj hji)) (by omega)
  | succ f ih =>
    intro listed a inv hfree hr hy H
    have hun := (mem_ready.1 hr).1
    refine ⟨fun h => (by rw [h] at hr; cases hr), fun j hj => ?_⟩
    have hjn : j < n := Nat.lt_of_not_le fun h => tail_waits hs hc hn inv _ i rfl hin hun j h hj
    refine ⟨hjn, ?_⟩
    by_cases hji : j = i
    · subst hji; exact hy.qOp hi H
    · obtain ⟨hjun, oj, hoj, hall⟩ := mem_ready.1 hj
      have hnot : ∀ e ∈ oj.after, Region.binds md e = true → e.on ≠ i := fun e he hb heq => by
        have h1 := hall e he hb
        rw [heq, getD_both hun] at h1
        cases h1
      have hq := qOp_put hoj (hfree j oj hoj hji hjun hnot) (fun cs b => hsel i oi cs b hi) (fun cs b => hsel j oj cs b hoj) hy (H.2 j (ready_mono hj hji)).2
      refine qOp_mono (fun a' h3 => ih (listed.setIfInBounds j true) a' (inv.set hj hjn) (fun k ok hk hki hku hno => hfree k ok hk hki ?_ hno) (ready_mono hr (Ne.symm hji)) h3.1 ?_) hq
      · by_cases hjk : j = k
        · subst hjk; exact hjun
        · rwa [getD_set_ne true hjk] at hku
      · rw [Array.setIfInBounds_comm _ _ hji]; exact h3.2

theorem head_lex {n g : Nat} {Lq : Act → Prop} (hsel : Region.noSelect ops = true) (hs : Region.sinkB md ops n = true) (hc : Region.chainB md ops n = true) (hn : n < ops.size) (l : List Oper) :
    ∀ (k : Nat) (listed : Array Bool) (a : Act), (∀ j, j < l.length → l[j]? = ops[k + j]?) → k + l.length = n → HeadInv md ops n listed →
    Region.lexHead md ops g l.length k listed = true → wpQuiet P ops C Lq l a →
    headAny P md ops C n (fun listed' a' => Region.seqB md ops g n listed' = true ∧ Lq a') l.length listed a := by
  induction l with
  | nil =>
    intro k listed a _ hk _ hB h
    obtain rfl : k = n := by simpa using hk
    exact ⟨by simpa [Region.lexHead] using hB, h⟩
  | cons o l ih =>
    intro k listed a hl hk inv hB h
    have h0 : ops[k]? = some o := by simpa using (hl 0 (by simp)).symm
    simp only [List.length_cons, Region.lexHead, Bool.and_eq_true] at hB
    have hkn : k < n := by simp only [List.length_cons] at hk; omega
    have hr' : k ∈ Region.ready md ops listed := by simpa using hB.1.1
    have hst : qOp P ops C k (wpQuiet P ops C Lq l) a := by unfold qOp; simp only [h0]; exact h
    obtain ⟨v, hy, hK⟩ := yieldsIn_of_qOp h0 hst
    exact head_first h0 (Region.noSelect_spec hsel) hs hc hn hkn (fun listed' a' hL => seqB_ready hL.1) l.length listed a inv (Region.free_spec h0 hB.1.2) hr' hy
      (ih (k + 1) _ _ (fun j hj => by have := hl (j + 1) (by simp; omega); simpa [Nat.add_assoc, Nat.add_comm 1 j] using this) (by simp only [List.length_cons] at hk; omega) (inv.set hr' hkn) hB.2 hK)

theorem quiet_mono {Q Q' : Act → Prop} (hq : ∀ a, Q a → Q' a) (l : List Oper) : ∀ a, wpQuiet P ops C Q l a → wpQuiet P ops C Q' l a := by
  induction l with
  | nil => exact hq
  | cons o l ih =>
    intro a h
    unfold wpQuiet at h ⊢
    split
    · rename_i hw; rw [if_pos hw] at h; exact Oper.quiet_mono ih h
    · rename_i hw; rw [if_neg hw] at h; exact ih _ h

theorem region_tail {id : Nat} {Q : Exit → Act → World → Prop} {a : Act} {w : World} {l : List Oper} (n : Nat) (hm : P.follows .mixedOrders = true) (hB : Region.lexTailB .any l.toArray n = true) (hC : C w.drew)
    (h : wpQuiet P l.toArray C (fun a' => ∀ w', C w' → wpList P l.toArray Q (l.drop n) a' w') (l.take n) a) : (Code.region id l.toArray true).wp P Q a w := by
  simp only [Region.lexTailB, Bool.and_eq_true, decide_eq_true_eq] at hB
  obtain ⟨⟨⟨⟨hsel, hn⟩, hs⟩, hc⟩, hlex⟩ := hB
  have hn' : n < l.length := by simpa using hn
  have htl : (l.take n).length = n := by simp; omega
  have hdl : (l.drop n).length = l.toArray.size - n := by simp
  have inv0 : HeadInv .any l.toArray n (Array.replicate l.toArray.size false) :=
    ⟨by simp, fun j oj _ hl => (by rw [getD_replicate_false] at hl; cases hl), fun t _ ht => getD_in (by simpa using ht) (getD_replicate_false _ _)⟩
  have H := head_lex (P := P) (C := C) (md := .any) (g := l.toArray.size - n) hsel hs hc hn (l.take n) 0 _ a (fun j hj => by rw [htl] at hj; simp [hj]) (by simpa using htl) inv0 (by rw [htl]; exact hlex) h
  refine wp_region_any hm ?_
  have e := any_of_head (Q := Q) (g := l.toArray.size - n) (fun listed a' w' hw' hL => by
    have := wpAny_of_seq (md := .any) (Q' := Q) (l.drop n) n listed a' w' (fun j => by simp [List.getElem?_drop]) (by rw [hdl]; exact hL.1) (hL.2 w' hw')
    rwa [hdl] at this) _ _ _ w.drew hC H
  rw [htl, show n + (l.toArray.size - n) = l.toArray.size by omega] at e
  exact e

/-- .. at the class 'of what was there nothing has turned'; the tail in whatever such world. -/
theorem below_tail {id : Nat} {Q : Exit → Act → World → Prop} {a : Act} {w : World} {l : List Oper} (n : Nat) (hm : P.follows .mixedOrders = true) (hB : Region.lexTailB .any l.toArray n = true)
    (h : wpQuiet P l.toArray (fun w' => ∃ p : Regrown, w' = grow (redrawn w p.d) p.os) (fun a' => ∀ w', Below w.heap.size w w' → wpList P l.toArray Q (l.drop n) a' w') (l.take n) a) : (Code.region id l.toArray true).wp P Q a w :=
  region_tail n hm hB ⟨⟨w.drawn + 1, #[]⟩, by rw [grow_empty]; rfl⟩ (quiet_mono (fun a' h w' ⟨p, hp⟩ => h w' (hp ▸ below_regrown w p.d p.os)) _ _ h)

/-- The whole region quiet. -/
theorem below_all {id : Nat} {Q : Exit → Act → World → Prop} {a : Act} {w : World} {l : List Oper} (hm : P.follows .mixedOrders = true) (hB : Region.lexB .any l.toArray = true)
    (h : wpQuiet P l.toArray (fun w' => ∃ p : Regrown, w' = grow (redrawn w p.d) p.os) (fun a' => ∀ w', Below w.heap.size w w' → Q .normal a' w') l a) : (Code.region id l.toArray true).wp P Q a w :=
  wp_region_quiet_below hm hB (quiet_mono (fun a' h w' ⟨p, hp⟩ => h w' (hp ▸ below_regrown w p.d p.os)) _ _ h)

/-- A contract that ends in 'Below', at a call within such a region. -/
theorem at_call {f : FuncId} {args : Array Value} {w : World} {d : Nat} {os : Array Obj} {v : Value} (h : ∀ W, Calls P f args W fun e w' => e = .returned v ∧ Below W.heap.size W w') :
    Calls P f args (grow (redrawn w d) os) fun e w'' => e = .returned v ∧ ∃ p : Regrown, w'' = grow (redrawn w p.d) p.os := Calls.regrown_of (h _)

/-- .. one that leaves the world alone. -/
theorem at_same {f : FuncId} {args : Array Value} {w : World} {d : Nat} {os : Array Obj} {v : Value} (h : ∀ W, Below w.heap.size w W → Calls P f args W fun e w' => e = .returned v ∧ W = w') :
    Calls P f args (grow (redrawn w d) os) fun e w'' => e = .returned v ∧ ∃ p : Regrown, w'' = grow (redrawn w p.d) p.os :=
  Calls.regrown_of ((h _ (below_regrown w d os)).mono fun _ _ ⟨he, hw⟩ => ⟨he, hw ▸ Below.refl _ _⟩)

/-- A cell that is there, in every world of the class. -/
theorem cell_in {w : World} {a : Addr} {v : Value} (h : w.cell? a = some v) : ∀ d os, (grow (redrawn w d) os).cell? a = some v := cell_regrown h
/-- a cell that is there stays, and Below adds up -/
theorem keep {w w' : World} {a : Addr} {v : Value} (hb : Below w.heap.size w w') (h : w.cell? a = some v) : w'.cell? a = some v := (hb.cell (block_lt_of_cell h)).trans h
theorem more {B : Nat} {w0 w w' : World} (h : Below B w0 w) (hB : B ≤ w.heap.size) (hb : Below w.heap.size w w') : Below B w0 w' := h.trans (hb.mono hB)

theorem ret_bool {x y : Bool} (h : (x = true) ↔ (y = true)) : Ending.returned (.bool x) = .returned (.bool y) := by rw [Bool.eq_iff_iff.2 h]
theorem ret_int {k : IntKind} {x y : Int} (h : x = y) : Ending.returned (.int k x) = .returned (.int k y) := by rw [h]
end
end Go.Proofs.Ytklccoodfhejbaa.Qt
namespace Go.Proofs.Ytklccoodfhejbaa
set_option linter.unusedVariables false
set_option linter.unusedSimpArgs false
open Go.RowKit Go.Sort

/-- the six cells of a node -/
def cellsN (x : Nd) : List Value := [.int .i64 x.1, .int .i64 x.2.1.1, .int .i64 x.2.1.2.1, .int .i64 x.2.1.2.2.1, .int .i64 x.2.1.2.2.2, .int .i64 x.2.2]
def flN (l : List Nd) : List Value := l.flatMap cellsN
theorem flN_append (l m : List Nd) : flN (l ++ m) = flN l ++ flN m := by unfold flN; simp
theorem length_flN (l : List Nd) : (flN l).length = l.length * 6 := by
  induction l with
  | nil => rfl
  | cons x l ih => simp only [flN, cellsN, List.flatMap_cons, List.length_append, List.length_cons, List.length_nil] at ih ⊢; omega
theorem flN_get (l : List Nd) (j : Nat) (h : j < l.length) : (flN l)[j * 6]? = some (.int .i64 (l.getD j deadN).1) ∧ (flN l)[j * 6 + 1]? = some (.int .i64 (l.getD j deadN).2.1.1) ∧ (flN l)[j * 6 + 2]? = some (.int .i64 (l.getD j deadN).2.1.2.1) ∧ (flN l)[j * 6 + 3]? = some (.int .i64 (l.getD j deadN).2.1.2.2.1) ∧ (flN l)[j * 6 + 4]? = some (.int .i64 (l.getD j deadN).2.1.2.2.2) ∧ (flN l)[j * 6 + 5]? = some (.int .i64 (l.getD j deadN).2.2) := by
  induction l generalizing j with
  | nil => exact absurd h (Nat.not_lt_zero j)
  | cons x l ih =>
    cases j with
    | zero => simp [flN, cellsN]
    | succ j =>
      have := ih j (by simpa using h)
      have e1 : (j + 1) * 6 = j * 6 + 1 + 1 + 1 + 1 + 1 + 1 := by omega
      have e2 : flN (x :: l) = .int .i64 x.1 :: .int .i64 x.2.1.1 :: .int .i64 x.2.1.2.1 :: .int .i64 x.2.1.2.2.1 :: .int .i64 x.2.1.2.2.2 :: .int .i64 x.2.2 :: flN l := rfl
      rw [e1, e2]
      simpa using this
theorem flN_cell1 (m : List Nd) : ∀ u ∈ flN m, u.oneCell' = true := by
  intro u hu
  obtain ⟨x, _, hx⟩ := List.mem_flatMap.1 hu
  simp only [cellsN, List.mem_cons, List.not_mem_nil, or_false] at hx
  rcases hx with rfl | rfl | rfl | rfl | rfl | rfl <;> rfl

/-- a node lies here -/
def NdAt (w : World) (b o : Nat) (x : Nd) : Prop := w.cell? ⟨b, o, none⟩ = some (.int .i64 x.1) ∧ w.cell? ⟨b, o + 1, none⟩ = some (.int .i64 x.2.1.1) ∧ w.cell? ⟨b, o + 2, none⟩ = some (.int .i64 x.2.1.2.1) ∧ w.cell? ⟨b, o + 3, none⟩ = some (.int .i64 x.2.1.2.2.1) ∧ w.cell? ⟨b, o + 4, none⟩ = some (.int .i64 x.2.1.2.2.2) ∧ w.cell? ⟨b, o + 5, none⟩ = some (.int .i64 x.2.2)
/-- The slice at A of l.length nodes reads as l, below block B. -/
def RdN (w : World) (B : Nat) (A : Option Addr) (l : List Nd) : Prop :=
  ∀ j, j < l.length → ∃ b off, A = some ⟨b, off, none⟩ ∧ b < B ∧ NdAt w b (off + j * 6) (l.getD j deadN)
theorem NdAt.below {w w' : World} {b o B : Nat} {x : Nd} (h : NdAt w b o x) (hb : Below B w w') (hx : b < B) : NdAt w' b o x := by
  obtain ⟨h0, h1, h2, h3, h4, h5⟩ := h
  exact ⟨(hb.cell (p := ⟨b, o, none⟩) hx).trans h0, (hb.cell (p := ⟨b, o + 1, none⟩) hx).trans h1, (hb.cell (p := ⟨b, o + 2, none⟩) hx).trans h2, (hb.cell (p := ⟨b, o + 3, none⟩) hx).trans h3, (hb.cell (p := ⟨b, o + 4, none⟩) hx).trans h4, (hb.cell (p := ⟨b, o + 5, none⟩) hx).trans h5⟩
theorem RdN.below {w w' : World} {B B' : Nat} {A : Option Addr} {l : List Nd} (h : RdN w B A l) (hb : Below B' w w') (hB : B ≤ B') : RdN w' B A l := fun j hj => by
  obtain ⟨b, off, e, hlt, h0⟩ := h j hj
  exact ⟨b, off, e, hlt, h0.below hb (Nat.lt_of_lt_of_le hlt hB)⟩
theorem RdN.more {w : World} {B B' : Nat} {A : Option Addr} {l : List Nd} (h : RdN w B A l) (hB : B ≤ B') : RdN w B' A l := fun j hj => by
  obtain ⟨b, off, e, hlt, h0⟩ := h j hj
  exact ⟨b, off, e, by omega, h0⟩
theorem RdN.nil (w : World) (B : Nat) (A : Option Addr) : RdN w B A [] := fun j hj => absurd hj (Nat.not_lt_zero j)
theorem RdN.at_ {w : World} {B : Nat} {A : Option Addr} {l : List Nd} (h : RdN w B A l) (hn : 0 < l.length) :
    ∃ b off, A = some ⟨b, off, none⟩ ∧ b < B ∧ ∀ j, j < l.length → NdAt w b (off + j * 6) (l.getD j deadN) := by
  obtain ⟨b, off, e, hlt, _⟩ := h 0 hn
  refine ⟨b, off, e, hlt, fun j hj => ?_⟩
  obtain ⟨b', off', e', _, h0⟩ := h j hj
  rw [e] at e'
  injection e' with e'
  injection e' with e1 e2
  subst e1 e2
  exact h0
def NowN (w : World) (A : Option Addr) (l : List Nd) : Prop := RdN w w.heap.size A l
theorem NowN.below {w w' : World} {A : Option Addr} {l : List Nd} (h : NowN w A l) (hb : Below w.heap.size w w') : NowN w' A l := (RdN.below h hb (Nat.le_refl _)).more hb.size
theorem nowN_nil (w : World) (A : Option Addr) : NowN w A [] := RdN.nil _ _ _

abbrev OwnN (w : World) (B : Nat) (v : Value) (l : List Nd) : Prop := w.ownsRow B 35 6 v l.length (flN l)
/-- It reads as its list. -/
def ReadsN (w : World) (v : Value) (l : List Nd) : Prop := ∃ A c, v = .slice A l.length c ∧ l.length ≤ c ∧ NowN w A l
theorem OwnN.reads {w : World} {B : Nat} {v : Value} {l : List Nd} (h : OwnN w B v l) : ReadsN w v l := by
  rcases h.2 with ⟨rfl, h0⟩ | ⟨g, cap, cur, rfl, hb, hh, hn, hcap, hsz, htake⟩
  · have : l = [] := by simpa using h0
    subst this
    exact ⟨none, 0, rfl, Nat.le_refl _, nowN_nil _ _⟩
  · refine ⟨some ⟨g, 0, none⟩, cap, rfl, hn, fun j hj => ?_⟩
    obtain ⟨f0, f1, f2, f3, f4, f5⟩ := flN_get l j hj
    refine ⟨g, 0, rfl, (World.ownsRow.lt h g rfl).2, ?_⟩
    rw [Nat.zero_add]
    exact ⟨(World.ownsRow.cellAt h (j * 6) (by omega)).trans f0, (World.ownsRow.cellAt h (j * 6 + 1) (by omega)).trans f1, (World.ownsRow.cellAt h (j * 6 + 2) (by omega)).trans f2, (World.ownsRow.cellAt h (j * 6 + 3) (by omega)).trans f3, (World.ownsRow.cellAt h (j * 6 + 4) (by omega)).trans f4, (World.ownsRow.cellAt h (j * 6 + 5) (by omega)).trans f5⟩
theorem OwnN.below {w w' : World} {B : Nat} {v : Value} {l : List Nd} (h : OwnN w B v l) (hb : Below w.heap.size w w') : OwnN w' B v l :=
  World.ownsRow.kept h (row := none) ⟨hb.os, hb.tape, hb.output, hb.size, fun k hk _ => hb.block k hk⟩ (by cases v.ownBlock <;> simp)
theorem ReadsN.below {w w' : World} {v : Value} {l : List Nd} (h : ReadsN w v l) (hb : Below w.heap.size w w') : ReadsN w' v l := by
  obtain ⟨A, c, e, hc, hR⟩ := h
  exact ⟨A, c, e, hc, hR.below hb⟩

theorem info_node : (Try.prog.info? 35).map (fun i => (i.zero, i.size, i.bytes)) = some (some (.agg #[.int .i64 0, .int .i64 0, .int .i64 0, .int .i64 0, .int .i64 0, .int .i64 0]), 6, 48) := by kernel_rfl

theorem nowN_at {w : World} {m : List Nd} {b off : Nat} (h : ∀ j, j < m.length → NdAt w b (off + j * 6) (m.getD j deadN)) :
    ∀ j u, (flN m)[j]? = some u → w.cell? ((⟨b, off, none⟩ : Addr).add j) = some u := by
  intro j u hu
  rw [Addr.add_lit]
  have hj : j < m.length * 6 := by
    rcases Nat.lt_or_ge j (m.length * 6) with h1 | h1
    · exact h1
    · rw [List.getElem?_eq_none (by rw [length_flN]; exact h1)] at hu; cases hu
  obtain ⟨h0, h1, h2, h3, h4, h5⟩ := h (j / 6) (by omega)
  obtain ⟨f0, f1, f2, f3, f4, f5⟩ := flN_get m (j / 6) (by omega)
  have hc : j % 6 = 0 ∨ j % 6 = 1 ∨ j % 6 = 2 ∨ j % 6 = 3 ∨ j % 6 = 4 ∨ j % 6 = 5 := by omega
  rcases hc with hp | hp | hp | hp | hp | hp
  · have e : j = j / 6 * 6 := by omega
    rw [e] at hu ⊢
    rw [f0] at hu
    rw [← hu]
    exact h0
  · have e : j = j / 6 * 6 + 1 := by omega
    rw [e] at hu ⊢
    rw [f1] at hu
    rw [← hu, ← Nat.add_assoc]
    exact h1
  · have e : j = j / 6 * 6 + 2 := by omega
    rw [e] at hu ⊢
    rw [f2] at hu
    rw [← hu, ← Nat.add_assoc]
    exact h2
  · have e : j = j / 6 * 6 + 3 := by omega
    rw [e] at hu ⊢
    rw [f3] at hu
    rw [← hu, ← Nat.add_assoc]
    exact h3
  · have e : j = j / 6 * 6 + 4 := by omega
    rw [e] at hu ⊢
    rw [f4] at hu
    rw [← hu, ← Nat.add_assoc]
    exact h4
  · have e : j = j / 6 * 6 + 5 := by omega
    rw [e] at hu ⊢
    rw [f5] at hu
    rw [← hu, ← Nat.add_assoc]
    exact h5

theorem appendN_none {w : World} {B : Nat} {v : Value} {out : List Nd} (c : Nat) (ho : OwnN w B v out) :
    (Builtin.append_ #[24, 24] 24 #[v, .slice none 0 c]).run Try.prog w = .ok v w := by
  obtain ⟨i0, hi, hz0, hz1, hz2⟩ := info_parts info_node
  rcases ho.2 with ⟨rfl, _⟩ | ⟨g, cap, cur, rfl, _, _, hnc, _⟩
  · simp [Builtin.append_, run_underlying Try.underlying24, sizeOf, typeInfo, hi, Builtin.lenOf, Builtin.firstCells]
  · simp [Builtin.append_, run_underlying Try.underlying24, sizeOf, typeInfo, hi, Builtin.lenOf, Builtin.firstCells, storeCells, hnc]
theorem appN_any {w : World} {B : Nat} {v : Value} {out m : List Nd} {A : Option Addr} (c : Nat) (hB : B ≤ w.heap.size) (ho : OwnN w B v out) (hm : NowN w A m) (hl : out.length + m.length ≤ 1000000) :
    ∃ v' w', (Builtin.append_ #[24, 24] 24 #[v, .slice A m.length c]).run Try.prog w = .ok v' w' ∧ OwnN w' B v' (out ++ m) ∧ w.grownBy w' v.ownBlock := by
  obtain ⟨i0, hi, hz0, hz1, hz2⟩ := info_parts info_node
  by_cases h0 : m.length = 0
  · have : m = [] := List.eq_nil_of_length_eq_zero h0
    subst this
    cases A with
    | none => exact ⟨v, w, appendN_none c ho, by rw [List.append_nil]; exact ho, ⟨rfl, rfl, rfl, Nat.le_refl _, fun _ _ _ => rfl⟩⟩
    | some a =>
      obtain ⟨v', w', hr, h2, h3, _⟩ := run_append_own (P := Try.prog) (w := w) B 24 24 35 i0 (.agg #[.int .i64 0, .int .i64 0, .int .i64 0, .int .i64 0, .int .i64 0, .int .i64 0]) 6 48 Try.underlying24 hi hz0 hz1 hz2 rfl (by decide) v out.length (flN out) ho a 0 c [] rfl (fun j u h => by simp at h) (fun u h => by cases h) (by unfold maxLen; omega) (by omega) hB
      exact ⟨v', w', hr, by rw [List.append_nil] at h2 ⊢; exact h2, h3⟩
  · obtain ⟨b, off, rfl, _, hcell⟩ := hm.at_ (by omega)
    obtain ⟨v', w', hr, h2, h3, _⟩ := run_append_own (P := Try.prog) (w := w) B 24 24 35 i0 (.agg #[.int .i64 0, .int .i64 0, .int .i64 0, .int .i64 0, .int .i64 0, .int .i64 0]) 6 48 Try.underlying24 hi hz0 hz1 hz2 rfl (by decide) v out.length (flN out) ho ⟨b, off, none⟩ m.length c (flN m) (length_flN m) (nowN_at hcell) (flN_cell1 m) (by unfold maxLen; omega) (by omega) hB
    refine ⟨v', w', hr, ?_, h3⟩
    show World.ownsRow _ _ _ _ _ _ (flN (out ++ m))
    rw [flN_append, List.length_append]
    exact h2
theorem nowN_new (w : World) (x : Nd) : NowN (w.alloc (.cells #[.int .i64 x.1, .int .i64 x.2.1.1, .int .i64 x.2.1.2.1, .int .i64 x.2.1.2.2.1, .int .i64 x.2.1.2.2.2, .int .i64 x.2.2] 35)) (some ⟨w.heap.size, 0, none⟩) [x] := fun j hj => by
  have hj1 : j = 0 := by simp at hj; omega
  subst hj1
  exact ⟨w.heap.size, 0, rfl, by simp, by simp, by simp, by simp, by simp, by simp, by simp⟩
/-- one node more, that lies in a new block -/
theorem pushN_any {w : World} {B : Nat} {v : Value} {out : List Nd} (x : Nd) (hB : B ≤ w.heap.size) (ho : OwnN w B v out) (hl : out.length ≤ 999999) :
    ∃ v' w', (Builtin.append_ #[24, 24] 24 #[v, .slice (some ⟨w.heap.size, 0, none⟩) 1 1]).run Try.prog (w.alloc (.cells #[.int .i64 x.1, .int .i64 x.2.1.1, .int .i64 x.2.1.2.1, .int .i64 x.2.1.2.2.1, .int .i64 x.2.1.2.2.2, .int .i64 x.2.2] 35)) = .ok v' w' ∧ OwnN w' B v' (out ++ [x]) ∧ (w.alloc (.cells #[.int .i64 x.1, .int .i64 x.2.1.1, .int .i64 x.2.1.2.1, .int .i64 x.2.1.2.2.1, .int .i64 x.2.1.2.2.2, .int .i64 x.2.2] 35)).grownBy w' v.ownBlock ∧ Below B w w' := by
  have ho' : OwnN (w.alloc (.cells #[.int .i64 x.1, .int .i64 x.2.1.1, .int .i64 x.2.1.2.1, .int .i64 x.2.1.2.2.1, .int .i64 x.2.1.2.2.2, .int .i64 x.2.2] 35)) B v out := World.ownsRow.alloc ho _
  obtain ⟨v', w', hr, h1, h2⟩ := appN_any (m := [x]) 1 (by simp; omega) ho' (nowN_new w x) (by simp; omega)
  exact ⟨v', w', hr, h1, h2, Below.grown ((Below.refl _ _).alloc hB _) h2 (by simp; omega) (fun k e => (World.ownsRow.lt ho' k e).1)⟩
end Go.Proofs.Ytklccoodfhejbaa
namespace Go.Proofs.Ytklccoodfhejbaa
set_option linter.unusedVariables false
set_option linter.unusedSimpArgs false
open Go.RowKit Go.Sort

def kidsV (k : Kd) : Value := .agg #[.int .i64 k.1, .int .i64 k.2.1, .int .i64 k.2.2.1, .int .i64 k.2.2.2]
def nodeV (x : Nd) : Value := .agg #[.int .i64 x.1, .int .i64 x.2.1.1, .int .i64 x.2.1.2.1, .int .i64 x.2.1.2.2.1, .int .i64 x.2.1.2.2.2, .int .i64 x.2.2]
theorem kd_eq (x y : Kd) : (x.1 == y.1 && (x.2.1 == y.2.1 && (x.2.2.1 == y.2.2.1 && x.2.2.2 == y.2.2.2))) = decide (x = y) := by
  obtain ⟨a, b, c, d⟩ := x
  obtain ⟨a', b', c', d'⟩ := y
  rw [Bool.eq_iff_iff]
  simp
theorem eqK_at (n : Nat) (a b c d a' b' c' d' : Int) (w : World) : (Op.equalIn (n + 1 + 1) 33 (.agg #[.int .i64 a, .int .i64 b, .int .i64 c, .int .i64 d]) (.agg #[.int .i64 a', .int .i64 b', .int .i64 c', .int .i64 d'])).run Try.prog w = .ok (a == a' && (b == b' && (c == c' && d == d'))) w := by
  have u3 := Try.underlying3
  have a3 := Try.isAgg3
  have z3 := Try.sizeOf3
  rw [Op.equalIn]
  simp only [Sem.run_bind, run_underlying Try.underlying33, Result.andThen_ok]
  simp only [Std.Legacy.Range.forIn_eq_forIn_range', Std.Legacy.Range.size, Nat.sub_zero, Nat.add_sub_cancel, Nat.div_one, List.range'_succ, List.range'_zero, List.forIn_cons, List.forIn_nil]
  go_simp
  by_cases h1 : a = a' <;> by_cases h2 : b = b' <;> by_cases h3 : c = c' <;> by_cases h4 : d = d' <;> simp [h1, h2, h3, h4]
theorem eqlK (x y : Kd) (w : World) : (binOp .eql 33 (.agg #[.int .i64 x.1, .int .i64 x.2.1, .int .i64 x.2.2.1, .int .i64 x.2.2.2]) (.agg #[.int .i64 y.1, .int .i64 y.2.1, .int .i64 y.2.2.1, .int .i64 y.2.2.2])).run Try.prog w = .ok (.bool (decide (x = y))) w := by
  rw [run_eql_struct, show (10000 : Nat) = 9998 + 1 + 1 from rfl, eqK_at, kd_eq]
  rfl

/-- a store as it comes in -/
def storeV (A : Option Addr) (n c : Nat) (room : Int) : Value := .agg #[.slice A n c, .int .i64 room]
def atV (o : Option Nat) : Int := match o with | some n => (n : Int) | none => -1
/-- What is known at the head of the loop. -/
structure AtHead (w wr : World) (A : Option Addr) (n c : Nat) (room : Int) (k : Kd) : Prop where
  store : wr.heap[w.heap.size]? = some (.cells #[.slice A n c, .int .i64 room] 26 (0, 0))
  kids : wr.heap[w.heap.size + 1]? = some (.cells #[.int .i64 k.1, .int .i64 k.2.1, .int .i64 k.2.2.1, .int .i64 k.2.2.2] 33 (0, 0))
  bel : Below w.heap.size w wr
theorem lt_heap6 {w : World} {k : Nat} {o : Obj} (h : w.heap[k]? = some o) : k < w.heap.size := (Array.getElem?_eq_some_iff.1 h).1
theorem AtHead.below {w wr w' : World} {A : Option Addr} {n c : Nat} {room : Int} {k : Kd} (h : AtHead w wr A n c room k) (hb : Below wr.heap.size wr w') : AtHead w w' A n c room k :=
  ⟨(hb.block _ (lt_heap6 h.store)).trans h.store, (hb.block _ (lt_heap6 h.kids)).trans h.kids, Qt.more h.bel h.bel.size hb⟩
theorem atHead_0 (w : World) (A : Option Addr) (n c : Nat) (room : Int) (k : Kd) : AtHead w ((w.alloc (.cells #[.slice A n c, .int .i64 room] 26)).alloc (.cells #[.int .i64 k.1, .int .i64 k.2.1, .int .i64 k.2.2.1, .int .i64 k.2.2.2] 33)) A n c room k := by
  have hb1 : Below w.heap.size w (w.alloc (.cells #[.slice A n c, .int .i64 room] 26)) := (Below.refl _ _).alloc (Nat.le_refl _) _
  have hs1 : (w.alloc (.cells #[.slice A n c, .int .i64 room] 26)).heap.size = w.heap.size + 1 := by simp
  refine ⟨?_, ?_, hb1.alloc (by omega) _⟩
  · rw [Lib.alloc_old _ _ _ (by omega)]
    exact heap_alloc_new w _
  · rw [← hs1]
    exact heap_alloc_new (w.alloc (.cells #[.slice A n c, .int .i64 room] 26)) _

set_option maxHeartbeats 4000000 in
set_option maxRecDepth 100000 in
theorem refAt_any (A : Option Addr) (l : List Nd) (c : Nat) (room : Int) (k : Kd) (w : World) (hR : RdN w w.heap.size A l) (hl : l.length ≤ 1000000) :
    Calls Try.prog 76 #[storeV A l.length c room, kidsV k] w fun e w' => e = .returned (.int .i64 (atV (at6 l k))) ∧ Below w.heap.size w w' := by
  have HH0 := Lib.hid (atHead_0 w A l.length c room k)
  obtain ⟨r, hr⟩ : ∃ r, r = at6 l k := ⟨_, rfl⟩
  rw [← hr]
  have hat0 : Hid (2 ≤ l.length → atFrom l k 2 (l.length - 2) = r) := fun _ => hr.symm
  have HR0 := Lib.hid hr
  have heql := eqlK
  unfold storeV kidsV
  clear hr
  go_enter Try.func76, Try.ntmps76
  go_wp2
  go_loopw [5] (fun i wr => ∃ j : Nat, 2 ≤ j ∧ (j ≤ l.length ∨ j = 2) ∧ i = .int .i64 j ∧ Hid (AtHead w wr A l.length c room k ∧ (j ≤ l.length → atFrom l k j (l.length - j) = r))) (fun i _ => l.length - (intOf i).toNat)
  case atStart => exact ⟨2, Nat.le_refl _, .inr rfl, rfl, HH0.out, hat0.out⟩
  case round =>
    obtain ⟨j, hj2, hj, rfl, HH⟩ := hrel
    have H := HH.out.1
    have s0 : wr.cell? ⟨w.heap.size, 0, none⟩ = some (.slice A l.length c) := by rw [Lib.cell_of_heap H.store]; rfl
    by_cases hlt : j < l.length
    · have hltz : (j : Int) < (l.length : Int) := by omega
      obtain ⟨b0, off, rfl, hbB, hcell⟩ := hR.at_ (by omega)
      obtain ⟨n0, n1, n2, n3, n4, n5⟩ := hcell j hlt
      obtain ⟨⟨lv, kk, pp⟩, hx⟩ : ∃ x, x = l.getD j deadN := ⟨_, rfl⟩
      rw [← hx] at n0 n1 n2 n3 n4 n5
      simp only at n0 n1 n2 n3 n4 n5
      have hstep : (if kk = k then some j else atFrom l k (j + 1) (l.length - (j + 1))) = r := by
        have h1 := HH.out.2 (by omega)
        rw [show l.length - j = (l.length - (j + 1)) + 1 by omega] at h1
        unfold atFrom at h1
        rw [← hx] at h1
        exact h1
      have HS := Lib.hid hstep
      have q1 := Qt.cell_in (Qt.keep H.bel n1)
      have q2 := Qt.cell_in (Qt.keep H.bel n2)
      have q3 := Qt.cell_in (Qt.keep H.bel n3)
      have q4 := Qt.cell_in (Qt.keep H.bel n4)
      have p0 := Qt.cell_in s0
      have k0 : wr.cell? ⟨w.heap.size + 1, 0, none⟩ = some (.int .i64 k.1) := by rw [Lib.cell_of_heap H.kids]; rfl
      have k1 : wr.cell? ⟨w.heap.size + 1, 1, none⟩ = some (.int .i64 k.2.1) := by rw [Lib.cell_of_heap H.kids]; rfl
      have k2 : wr.cell? ⟨w.heap.size + 1, 2, none⟩ = some (.int .i64 k.2.2.1) := by rw [Lib.cell_of_heap H.kids]; rfl
      have k3 : wr.cell? ⟨w.heap.size + 1, 3, none⟩ = some (.int .i64 k.2.2.2) := by rw [Lib.cell_of_heap H.kids]; rfl
      have p1 := Qt.cell_in k0
      have p2 := Qt.cell_in k1
      have p3 := Qt.cell_in k2
      have p4 := Qt.cell_in k3
      have he := fun W => heql kk k W
      clear hstep hx hcell n0 n1 n2 n3 n4 n5 k0 k1 k2 k3 heql HR0 hat0 HH0
      go_wp2_with fail
      refine Qt.below_all (by kernel_rfl) (by kernel_rfl) ?_
      repeat (go_big_quiet_step (fail))
      refine wpQuiet_nil ?_
      intro w1 hb1
      have H1 := H.below hb1
      clear p0 p1 p2 p3 p4 q1 q2 q3 q4 he s0 H
      by_cases hkk : kk = k
      · have hrr := HS.out
        rw [if_pos hkk] at hrr
        subst hrr
        have hbel := H1.bel
        clear HS HH
        go_wp2
        go_ret
        exact ⟨rfl, hbel⟩
      · have hrr := HS.out
        rw [if_neg hkk] at hrr
        have HN : Hid (AtHead w w1 (some ⟨b0, off, none⟩) l.length c room k ∧ (j + 1 ≤ l.length → atFrom l k (j + 1) (l.length - (j + 1)) = r)) := ⟨H1, fun _ => hrr⟩
        clear HS HH hrr H1
        go_wp2
        go_roundw
        case measure => simp [intOf]; omega
        case rel => exact ⟨j + 1, by omega, .inl (by omega), by go_num, HN.out⟩
    · have hltz : ¬ (j : Int) < (l.length : Int) := by omega
      have hrr : r = none := by
        rw [HR0.out]
        by_cases h2 : 2 ≤ l.length
        · have h1 := HH.out.2 (by omega)
          rw [show l.length - j = 0 by omega] at h1
          rw [← HR0.out, ← h1]
          rfl
        · unfold at6
          rw [show l.length - 2 = 0 by omega]
          rfl
      subst hrr
      have hbel := H.bel
      clear HH HR0 hat0 HH0 H
      go_wp2
      go_ret
      exact ⟨rfl, hbel⟩
end Go.Proofs.Ytklccoodfhejbaa
