/-
  Texts that the claims of this seat share, part 0.
-/
import Derived.Lib.Hide
import Derived.Lib.QuietBelow
import Derived.StillTail
import Derived.BigQuiet
import Derived.KernelRfl
import Derived.Test.YtikgnjcjbjafaaaRows
import Derived.WalkKit
import Derived.WalkSpells
import Derived.WalkLawsBesides
import Derived.WalkArith
import Derived.IntWalk
import Derived.Lib.AppendZerosOnto
set_option linter.unusedVariables false
set_option linter.unusedSimpArgs false
namespace Go.Proofs.Ytikgnjcjbjafaaa
set_option linter.unusedVariables false
set_option linter.unusedSimpArgs false

/-- four kids; a node: its level, its kids, its cells -/
abbrev Kd := Int × Int × Int × Int
abbrev Nd := Int × Kd × Int
def kd (k : Kd) : Nat → Int
  | 0 => k.1
  | 1 => k.2.1
  | 2 => k.2.2.1
  | _ => k.2.2.2
theorem kd_ext {k m : Kd} (h : ∀ i, i < 4 → kd k i = kd m i) : k = m := by
  obtain ⟨a, b, c, d⟩ := k
  obtain ⟨a', b', c', d'⟩ := m
  have h0 : a = a' := h 0 (by decide)
  have h1 : b = b' := h 1 (by decide)
  have h2 : c = c' := h 2 (by decide)
  have h3 : d = d' := h 3 (by decide)
  rw [h0, h1, h2, h3]
def deadN : Nd := (0, (0, 0, 0, 0), 0)
def liveN : Nd := (0, (0, 0, 0, 0), 1)
def ndAt (l : List Nd) (i : Int) : Nd := l.getD i.toNat deadN
/-- the cells of the first kids together -/
def popTo (l : List Nd) (k : Kd) : Nat → Int
  | 0 => 0
  | i + 1 => min (popTo l k i + (ndAt l (kd k i)).2.2) 4611686018427387903
def kidB (l : List Nd) (n lev k : Int) : Bool := decide (0 ≤ k) && decide (k < n) && decide ((ndAt l k).1 = lev)
/-- the place of the node with these kids, from place i on, so many places -/
def atFrom (l : List Nd) (k : Kd) : Nat → Nat → Option Nat
  | _, 0 => none
  | i, f + 1 => if (l.getD i deadN).2.1 = k then some i else atFrom l k (i + 1) f
def at6 (l : List Nd) (k : Kd) : Option Nat := atFrom l k 2 (l.length - 2)
def kidsB (l : List Nd) (n lev : Int) (k : Kd) : Bool := kidB l n lev k.1 && kidB l n lev k.2.1 && kidB l n lev k.2.2.1 && kidB l n lev k.2.2.2
def fits6 (l : List Nd) (n : Nat) : Bool :=
  kidsB l n ((l.getD n deadN).1 - 1) (l.getD n deadN).2.1 && decide (1 ≤ (l.getD n deadN).1) && decide ((l.getD n deadN).1 ≤ 42) && decide ((l.getD n deadN).2.2 = popTo l (l.getD n deadN).2.1 4) && decide (at6 l (l.getD n deadN).2.1 = some n)
def headB6 (l : List Nd) (room : Int) : Bool :=
  decide (2 ≤ room) && decide (room ≤ 100000) && decide (2 ≤ l.length) && decide ((l.length : Int) ≤ room) && decide (l.getD 0 deadN = deadN) && decide (l.getD 1 deadN = liveN)
def right6 (l : List Nd) (room : Int) : Bool := headB6 l room && (List.range l.length).all fun i => decide (i < 2) || fits6 l i

theorem atFrom_some {l : List Nd} {k : Kd} : ∀ {f i n : Nat}, atFrom l k i f = some n → i ≤ n ∧ n < i + f ∧ (l.getD n deadN).2.1 = k ∧ ∀ j, i ≤ j → j < n → (l.getD j deadN).2.1 ≠ k := by
  intro f
  induction f with
  | zero => intro i n h; cases h
  | succ f ih =>
    intro i n h
    unfold atFrom at h
    by_cases he : (l.getD i deadN).2.1 = k
    · rw [if_pos he] at h
      injection h with h
      subst h
      exact ⟨Nat.le_refl _, by omega, he, fun j h1 h2 => by omega⟩
    · rw [if_neg he] at h
      obtain ⟨h1, h2, h3, h4⟩ := ih h
      refine ⟨by omega, by omega, h3, fun j hj1 hj2 => ?_⟩
      rcases Nat.eq_or_lt_of_le hj1 with rfl | h5
      · exact he
      · exact h4 j h5 hj2
theorem atFrom_none {l : List Nd} {k : Kd} : ∀ {f i : Nat}, atFrom l k i f = none ↔ ∀ j, i ≤ j → j < i + f → (l.getD j deadN).2.1 ≠ k := by
  intro f
  induction f with
  | zero => intro i; exact ⟨fun _ j h1 h2 => by omega, fun _ => rfl⟩
  | succ f ih =>
    intro i
    unfold atFrom
    by_cases he : (l.getD i deadN).2.1 = k
    · rw [if_pos he]
      exact ⟨fun h => (by cases h), fun h => absurd he (h i (Nat.le_refl _) (by omega))⟩
    · rw [if_neg he, ih]
      constructor
      · intro h j h1 h2
        rcases Nat.eq_or_lt_of_le h1 with rfl | h5
        · exact he
        · exact h j h5 (by omega)
      · intro h j h1 h2
        exact h j (by omega) (by omega)
theorem at_some {l : List Nd} {k : Kd} {n : Nat} (h : at6 l k = some n) : 2 ≤ n ∧ n < l.length ∧ (l.getD n deadN).2.1 = k ∧ ∀ j, 2 ≤ j → j < n → (l.getD j deadN).2.1 ≠ k := by
  obtain ⟨h1, h2, h3, h4⟩ := atFrom_some h
  exact ⟨h1, by omega, h3, h4⟩
theorem at_none {l : List Nd} {k : Kd} : at6 l k = none ↔ ∀ j, 2 ≤ j → j < l.length → (l.getD j deadN).2.1 ≠ k := by
  unfold at6
  rw [atFrom_none]
  exact ⟨fun h j h1 h2 => h j h1 (by omega), fun h j h1 h2 => h j h1 (by omega)⟩
theorem at_is {l : List Nd} {k : Kd} {n : Nat} (h2 : 2 ≤ n) (hn : n < l.length) (hk : (l.getD n deadN).2.1 = k) (hf : ∀ j, 2 ≤ j → j < n → (l.getD j deadN).2.1 ≠ k) : at6 l k = some n := by
  cases h : at6 l k with
  | none => exact absurd hk (at_none.1 h n h2 hn)
  | some m =>
    obtain ⟨m1, m2, m3, m4⟩ := at_some h
    rcases Nat.lt_trichotomy m n with h5 | h5 | h5
    · exact absurd m3 (hf m m1 h5)
    · rw [h5]
    · exact absurd hk (m4 n h2 h5)

/-- what a store that is right is -/
structure Right6 (l : List Nd) (room : Int) : Prop where
  room2 : 2 ≤ room
  room100 : room ≤ 100000
  two : 2 ≤ l.length
  len : (l.length : Int) ≤ room
  dead : l.getD 0 deadN = deadN
  live : l.getD 1 deadN = liveN
  fits : ∀ n, 2 ≤ n → n < l.length → fits6 l n = true
theorem right_iff {l : List Nd} {room : Int} : right6 l room = true ↔ Right6 l room := by
  unfold right6 headB6
  simp only [Bool.and_eq_true, decide_eq_true_eq, List.all_eq_true, List.mem_range, Bool.or_eq_true]
  constructor
  · rintro ⟨⟨⟨⟨⟨⟨h1, h2⟩, h3⟩, h4⟩, h5⟩, h6⟩, h7⟩
    exact ⟨h1, h2, h3, h4, h5, h6, fun n hn hl => (h7 n hl).resolve_left (by omega)⟩
  · intro h
    refine ⟨⟨⟨⟨⟨⟨h.room2, h.room100⟩, h.two⟩, h.len⟩, h.dead⟩, h.live⟩, fun i hi => ?_⟩
    by_cases h2 : i < 2
    · exact .inl h2
    · exact .inr (h.fits i (by omega) hi)
theorem kidB_iff {l : List Nd} {n lev k : Int} : kidB l n lev k = true ↔ 0 ≤ k ∧ k < n ∧ (ndAt l k).1 = lev := by unfold kidB; simp [and_assoc]
theorem kidsB_iff {l : List Nd} {n lev : Int} {k : Kd} : kidsB l n lev k = true ↔ ∀ i, i < 4 → kidB l n lev (kd k i) = true := by
  unfold kidsB
  simp only [Bool.and_eq_true]
  constructor
  · rintro ⟨⟨⟨h0, h1⟩, h2⟩, h3⟩ i hi
    match i, hi with
    | 0, _ => exact h0
    | 1, _ => exact h1
    | 2, _ => exact h2
    | 3, _ => exact h3
  · intro h
    exact ⟨⟨⟨h 0 (by decide), h 1 (by decide)⟩, h 2 (by decide)⟩, h 3 (by decide)⟩
/-- what a node that fits is -/
structure Fits6 (l : List Nd) (n : Nat) : Prop where
  kid : ∀ i, i < 4 → 0 ≤ kd (l.getD n deadN).2.1 i ∧ kd (l.getD n deadN).2.1 i < n ∧ (ndAt l (kd (l.getD n deadN).2.1 i)).1 = (l.getD n deadN).1 - 1
  lo : 1 ≤ (l.getD n deadN).1
  hi : (l.getD n deadN).1 ≤ 42
  pop : (l.getD n deadN).2.2 = popTo l (l.getD n deadN).2.1 4
  first : at6 l (l.getD n deadN).2.1 = some n
theorem fits_iff {l : List Nd} {n : Nat} : fits6 l n = true ↔ Fits6 l n := by
  unfold fits6
  simp only [Bool.and_eq_true, decide_eq_true_eq, kidsB_iff, kidB_iff]
  exact ⟨fun ⟨⟨⟨⟨h1, h2⟩, h3⟩, h4⟩, h5⟩ => ⟨h1, h2, h3, h4, h5⟩, fun h => ⟨⟨⟨⟨h.kid, h.lo⟩, h.hi⟩, h.pop⟩, h.first⟩⟩

/-! ### levels and cells are within bounds -/
theorem popTo_bd {l : List Nd} {k : Kd} (h : ∀ i, i < 4 → 0 ≤ (ndAt l (kd k i)).2.2) : ∀ i, i ≤ 4 → 0 ≤ popTo l k i ∧ popTo l k i ≤ 4611686018427387903 := by
  intro i
  induction i with
  | zero => intro _; unfold popTo; omega
  | succ i ih =>
    intro hi
    have h1 := ih (by omega)
    have h2 := h i (by omega)
    unfold popTo
    omega
theorem ndAt_nat (l : List Nd) (n : Nat) : ndAt l (n : Int) = l.getD n deadN := by unfold ndAt; rw [Int.toNat_natCast]
theorem right_bd {l : List Nd} {room : Int} (h : Right6 l room) : ∀ n, n < l.length → 0 ≤ (l.getD n deadN).1 ∧ (l.getD n deadN).1 ≤ 42 ∧ 0 ≤ (l.getD n deadN).2.2 ∧ (l.getD n deadN).2.2 ≤ 4611686018427387903 := by
  intro n
  induction n using Nat.strongRecOn with
  | ind n ih =>
    intro hn
    by_cases h2 : n < 2
    · rcases (by omega : n = 0 ∨ n = 1) with rfl | rfl
      · rw [h.dead]; decide
      · rw [h.live]; decide
    · have hf := fits_iff.1 (h.fits n (by omega) hn)
      have := popTo_bd (l := l) (k := (l.getD n deadN).2.1) (fun i hi => by
        obtain ⟨k1, k2, _⟩ := hf.kid i hi
        have := ih (kd (l.getD n deadN).2.1 i).toNat (by omega) (by omega)
        exact this.2.2.1) 4 (Nat.le_refl _)
      rw [← hf.pop] at this
      exact ⟨by have := hf.lo; omega, hf.hi, this.1, this.2⟩
/-- of level 0 there are just the two -/
theorem level_zero {l : List Nd} {room : Int} (h : Right6 l room) {n : Nat} (hn : n < l.length) : (l.getD n deadN).1 = 0 ↔ n < 2 := by
  constructor
  · intro h0
    rcases Nat.lt_or_ge n 2 with h2 | h2
    · exact h2
    · have := (fits_iff.1 (h.fits n h2 hn)).lo
      omega
  · intro h2
    rcases (by omega : n = 0 ∨ n = 1) with rfl | rfl
    · rw [h.dead]; rfl
    · rw [h.live]; rfl

/-! ### a node more -/
theorem getD_app {l : List Nd} {x : Nd} {i : Nat} (h : i < l.length) : (l ++ [x]).getD i deadN = l.getD i deadN := by
  rw [List.getD_eq_getElem?_getD, List.getD_eq_getElem?_getD, List.getElem?_append_left h]
theorem getD_last {l : List Nd} {x : Nd} : (l ++ [x]).getD l.length deadN = x := by
  rw [List.getD_eq_getElem?_getD, List.getElem?_append_right (Nat.le_refl _), Nat.sub_self]; rfl
theorem ndAt_app {l : List Nd} {x : Nd} {i : Int} (h0 : 0 ≤ i) (h : i < l.length) : ndAt (l ++ [x]) i = ndAt l i := getD_app (by omega)
theorem popTo_app {l : List Nd} {x : Nd} {k : Kd} (h : ∀ i, i < 4 → 0 ≤ kd k i ∧ kd k i < l.length) : ∀ i, i ≤ 4 → popTo (l ++ [x]) k i = popTo l k i := by
  intro i
  induction i with
  | zero => intro _; rfl
  | succ i ih =>
    intro hi
    have := h i (by omega)
    unfold popTo
    rw [ih (by omega), ndAt_app this.1 this.2]
/-- What Put answers, of a store that is right. -/
def put6 (l : List Nd) (room : Int) (k : Kd) : List Nd × Int × Int :=
  if kidsB l l.length (ndAt l k.1).1 k = false then (l, 0, 1)
  else if 42 < (ndAt l k.1).1 + 1 then (l, 0, 1)
  else match at6 l k with
    | some n => (l, n, 0)
    | none => if room ≤ l.length then (l, 0, 40) else (l ++ [((ndAt l k.1).1 + 1, k, popTo l k 4)], l.length, 0)
def intern6 (l : List Nd) (room : Int) (k : Kd) : List Nd × Int × Int := if right6 l room = true then put6 l room k else (l, 0, 1)
theorem right_app {l : List Nd} {room : Int} (h : Right6 l room) {k : Kd} (hk : kidsB l l.length (ndAt l k.1).1 k = true) (hl : (ndAt l k.1).1 + 1 ≤ 42) (ha : at6 l k = none) (hr : (l.length : Int) < room) : Right6 (l ++ [((ndAt l k.1).1 + 1, k, popTo l k 4)]) room := by
  have hkid := fun i hi => kidB_iff.1 (kidsB_iff.1 hk i hi)
  have h2 := h.two
  refine ⟨h.room2, h.room100, by rw [List.length_append]; omega, by rw [List.length_append, List.length_singleton]; omega, ?_, ?_, fun n hn hl2 => ?_⟩
  · rw [getD_app (by omega)]; exact h.dead
  · rw [getD_app (by omega)]; exact h.live
  rw [List.length_append, List.length_singleton] at hl2
  rw [fits_iff]
  have hlo := (right_bd h k.1.toNat (by have := hkid 0 (by decide); simp only [kd] at this; omega)).1
  by_cases hlast : n = l.length
  · subst hlast
    have e : (l ++ [((ndAt l k.1).1 + 1, k, popTo l k 4)]).getD l.length deadN = ((ndAt l k.1).1 + 1, k, popTo l k 4) := getD_last
    refine ⟨?_, ?_, ?_, ?_, ?_⟩
    · intro i hi
      rw [e]
      obtain ⟨k1, k2, k3⟩ := hkid i hi
      refine ⟨k1, k2, ?_⟩
      rw [ndAt_app k1 k2, k3]
      simp only
      omega
    · rw [e]; show 1 ≤ (l.getD k.1.toNat deadN).1 + 1; omega
    · rw [e]; exact hl
    · rw [e]; exact (popTo_app (fun i hi => ⟨(hkid i hi).1, (hkid i hi).2.1⟩) 4 (Nat.le_refl _)).symm
    · rw [e]
      refine at_is hn (by rw [List.length_append, List.length_singleton]; omega) (by rw [e]) (fun j hj1 hj2 => ?_)
      rw [getD_app hj2]
      exact at_none.1 ha j hj1 hj2
  · have hnl : n < l.length := by omega
    have hf := fits_iff.1 (h.fits n hn hnl)
    refine ⟨?_, by rw [getD_app hnl]; exact hf.lo, by rw [getD_app hnl]; exact hf.hi, ?_, ?_⟩
    · intro i hi
      rw [getD_app hnl]
      obtain ⟨k1, k2, k3⟩ := hf.kid i hi
      exact ⟨k1, k2, by rw [ndAt_app k1 (by omega)]; exact k3⟩
    · rw [getD_app hnl, popTo_app (fun i hi => ⟨(hf.kid i hi).1, by have := (hf.kid i hi).2.1; omega⟩) 4 (Nat.le_refl _)]
      exact hf.pop
    · rw [getD_app hnl]
      obtain ⟨a1, a2, a3, a4⟩ := at_some hf.first
      exact at_is hn (by rw [List.length_append, List.length_singleton]; omega) (by rw [getD_app hnl]) (fun j hj1 hj2 => by rw [getD_app (by omega)]; exact a4 j hj1 hj2)
theorem put_right {l : List Nd} {room : Int} (h : Right6 l room) (k : Kd) : Right6 (put6 l room k).1 room := by
  unfold put6
  by_cases h1 : kidsB l l.length (ndAt l k.1).1 k = false
  · rw [if_pos h1]; exact h
  · rw [if_neg h1]
    by_cases h2 : 42 < (ndAt l k.1).1 + 1
    · rw [if_pos h2]; exact h
    · rw [if_neg h2]
      cases h3 : at6 l k with
      | some n => exact h
      | none =>
        simp only
        by_cases h4 : room ≤ l.length
        · rw [if_pos h4]; exact h
        · rw [if_neg h4]
          exact right_app h (by simpa using h1) (by omega) h3 (by omega)
end Go.Proofs.Ytikgnjcjbjafaaa
namespace Go.Proofs.Ytikgnjcjbjafaaa
set_option linter.unusedVariables false
set_option linter.unusedSimpArgs false

/-! ### rows -/
def row (s : Nat) (a : List UInt8) (y : Nat) : List UInt8 := (a.drop (y * s)).take s
/-! ### how many are alive -/
/-! ### what a node stands for -/
end Go.Proofs.Ytikgnjcjbjafaaa
namespace Go.Proofs.Ytikgnjcjbjafaaa
set_option linter.unusedVariables false
set_option linter.unusedSimpArgs false

/-- kids that may be put -/
structure Fit4 (l : List Nd) (k : Kd) : Prop where
  kid : ∀ i, i < 4 → 0 ≤ kd k i ∧ kd k i < l.length ∧ (ndAt l (kd k i)).1 = (ndAt l k.1).1
  low : (ndAt l k.1).1 + 1 ≤ 42
theorem Fit4.b {l : List Nd} {k : Kd} (h : Fit4 l k) : kidsB l l.length (ndAt l k.1).1 k = true := kidsB_iff.2 fun i hi => kidB_iff.2 (h.kid i hi)
/-- What comes of it. -/
inductive PutCase (l : List Nd) (room : Int) (k : Kd) : Prop
  | had (n : Nat) (h : at6 l k = some n) (e : put6 l room k = (l, (n : Int), 0))
  | full (h : at6 l k = none) (hr : room ≤ l.length) (e : put6 l room k = (l, 0, 40))
  | new (h : at6 l k = none) (hr : (l.length : Int) < room) (e : put6 l room k = (l ++ [((ndAt l k.1).1 + 1, k, popTo l k 4)], (l.length : Int), 0))
theorem put_case {l : List Nd} {k : Kd} (h : Fit4 l k) (room : Int) : PutCase l room k := by
  have h1 := h.b
  have h2 := h.low
  have e : put6 l room k = match at6 l k with
    | some n => (l, (n : Int), 0)
    | none => if room ≤ l.length then (l, 0, 40) else (l ++ [((ndAt l k.1).1 + 1, k, popTo l k 4)], (l.length : Int), 0) := by
    unfold put6
    rw [if_neg (by rw [h1]; decide), if_neg (by omega)]
    all_goals rfl
  cases ha : at6 l k with
  | some n => rw [ha] at e; exact .had n ha e
  | none =>
    rw [ha] at e
    simp only at e
    by_cases hr : room ≤ l.length
    · rw [if_pos hr] at e; exact .full ha hr e
    · rw [if_neg hr] at e; exact .new ha (by omega) e
/-- a store that has another one's nodes, and maybe more -/
structure Grows (l m : List Nd) : Prop where
  len : l.length ≤ m.length
  same : ∀ i, i < l.length → m.getD i deadN = l.getD i deadN
theorem Grows.refl (l : List Nd) : Grows l l := ⟨Nat.le_refl _, fun _ _ => rfl⟩
theorem Grows.trans {a b c : List Nd} (h : Grows a b) (k : Grows b c) : Grows a c := ⟨Nat.le_trans h.len k.len, fun i hi => (k.same i (Nat.lt_of_lt_of_le hi h.len)).trans (h.same i hi)⟩
theorem Grows.app (l : List Nd) (x : Nd) : Grows l (l ++ [x]) := ⟨by simp, fun i hi => getD_app hi⟩
theorem Grows.nd {l m : List Nd} (h : Grows l m) {i : Int} (h0 : 0 ≤ i) (h1 : i < l.length) : ndAt m i = ndAt l i := h.same _ (by omega)
theorem Grows.fit4 {l m : List Nd} (h : Grows l m) {k : Kd} (hk : Fit4 l k) : Fit4 m k := by
  have h0 := hk.kid 0 (by decide)
  have e0 : ndAt m k.1 = ndAt l k.1 := h.nd h0.1 h0.2.1
  have hl := h.len
  refine ⟨fun i hi => ?_, by rw [e0]; exact hk.low⟩
  obtain ⟨k1, k2, k3⟩ := hk.kid i hi
  exact ⟨k1, by omega, by rw [h.nd k1 k2, e0]; exact k3⟩
/-- a store where a node stands has it at its place -/
theorem Grows.at_ {l m : List Nd} (h : Grows l m) {k : Kd} {n : Nat} (ha : at6 l k = some n) : at6 m k = some n := by
  obtain ⟨a1, a2, a3, a4⟩ := at_some ha
  exact at_is a1 (Nat.lt_of_lt_of_le a2 h.len) (by rw [h.same n a2]; exact a3) (fun j hj1 hj2 => by rw [h.same j (by omega)]; exact a4 j hj1 hj2)
theorem at_new {l : List Nd} {k : Kd} (h2 : 2 ≤ l.length) (ha : at6 l k = none) (lev pop : Int) : at6 (l ++ [(lev, k, pop)]) k = some l.length :=
  at_is h2 (by simp) (by rw [getD_last]) (fun j hj1 hj2 => by rw [getD_app hj2]; exact at_none.1 ha j hj1 hj2)
/-- what was put -/
structure Put6 (l m : List Nd) (room : Int) (k : Kd) (n : Nat) : Prop where
  grows : Grows l m
  right : Right6 m room
  at_ : at6 m k = some n
  more : m.length ≤ l.length + 1
theorem put_ok {l : List Nd} {room : Int} (hr : Right6 l room) {k : Kd} (h : Fit4 l k) : (∃ (m : List Nd) (n : Nat), put6 l room k = (m, (n : Int), 0) ∧ Put6 l m room k n) ∨ (put6 l room k = (l, 0, 40) ∧ room ≤ l.length ∧ at6 l k = none) := by
  have hp := put_right hr k
  rcases put_case h room with ⟨n, ha, e⟩ | ⟨ha, hf, e⟩ | ⟨ha, hf, e⟩
  · exact .inl ⟨l, n, e, Grows.refl l, hr, ha, Nat.le_succ _⟩
  · exact .inr ⟨e, hf, ha⟩
  · rw [e] at hp
    exact .inl ⟨_, l.length, e, Grows.app l _, hp, at_new hr.two ha _ _, by simp⟩
/-- put again -/
theorem put_again {m : List Nd} {room : Int} {k : Kd} {n : Nat} (h : Fit4 m k) (ha : at6 m k = some n) : put6 m room k = (m, (n : Int), 0) := by
  rcases put_case h room with ⟨n', ha', e⟩ | ⟨ha', _, _⟩ | ⟨ha', _, _⟩
  · rw [ha] at ha'; injection ha' with ha'; subst ha'; exact e
  · rw [ha] at ha'; cases ha'
  · rw [ha] at ha'; cases ha'
theorem intern_right {l : List Nd} {room : Int} (h : Right6 l room) (k : Kd) : intern6 l room k = put6 l room k := by unfold intern6; rw [if_pos (right_iff.2 h)]

/-! ### a node's level is below its place -/
theorem level_low {l : List Nd} {room : Int} (h : Right6 l room) : ∀ n, n < l.length → 2 ≤ n → (l.getD n deadN).1 ≤ (n : Int) - 1 := by
  intro n
  induction n using Nat.strongRecOn with
  | ind n ih =>
    intro hn h2
    have hf := fits_iff.1 (h.fits n h2 hn)
    obtain ⟨k1, k2, k3⟩ := hf.kid 0 (by decide)
    by_cases hk : (kd (l.getD n deadN).2.1 0).toNat < 2
    · have h0 := (level_zero h (n := (kd (l.getD n deadN).2.1 0).toNat) (by omega)).2 hk
      have e : (ndAt l (kd (l.getD n deadN).2.1 0)).1 = 0 := h0
      rw [e] at k3
      omega
    · have := ih (kd (l.getD n deadN).2.1 0).toNat (by omega) (by omega) (by omega)
      have e : (ndAt l (kd (l.getD n deadN).2.1 0)).1 ≤ _ := this
      rw [k3] at e
      omega
theorem level_lt {l : List Nd} {room : Int} (h : Right6 l room) {n : Nat} (hn : n < l.length) : (l.getD n deadN).1 ≤ (l.length : Int) - 2 := by
  have h2 := h.two
  by_cases hn2 : n < 2
  · have := (level_zero h hn).2 hn2
    omega
  · have := level_low h n hn (by omega)
    omega

/-! ### the laws' raw stores -/
def pick6 (c n : Int) : Int := if c < 0 then (-(c + 1)) % n else c % n
theorem pick6_bd (c n : Int) (hn : 1 ≤ n) : 0 ≤ pick6 c n ∧ pick6 c n < n := by
  unfold pick6
  split
  · exact ⟨Int.emod_nonneg _ (by omega), Int.emod_lt_of_pos _ (by omega)⟩
  · exact ⟨Int.emod_nonneg _ (by omega), Int.emod_lt_of_pos _ (by omega)⟩
def new6 : List Nd := [deadN, liveN]
theorem right_new {room : Int} (h2 : 2 ≤ room) (h : room ≤ 100000) : Right6 new6 room := ⟨h2, h, by decide, h2, rfl, rfl, fun n hn hl => absurd hl (by have : new6.length = 2 := rfl; omega)⟩
/-- the places of a level, so many of the places seen -/
def sameTo (l : List Nd) (lev : Int) (n : Nat) : List Int := ((List.range n).filter fun i => decide ((l.getD i deadN).1 = lev)).map fun i : Nat => (i : Int)
theorem sameTo_succ (l : List Nd) (lev : Int) (n : Nat) : sameTo l lev (n + 1) = if (l.getD n deadN).1 = lev then sameTo l lev n ++ [(n : Int)] else sameTo l lev n := by
  unfold sameTo
  rw [List.range_succ, List.filter_append, List.map_append]
  by_cases h : (l.getD n deadN).1 = lev
  · rw [if_pos h, List.filter_cons, if_pos (by simpa using h)]; rfl
  · rw [if_neg h, List.filter_cons, if_neg (by simpa using h)]; simp
theorem mem_sameTo {l : List Nd} {lev : Int} {n : Nat} {x : Int} (h : x ∈ sameTo l lev n) : 0 ≤ x ∧ x < n ∧ (ndAt l x).1 = lev := by
  unfold sameTo at h
  obtain ⟨i, hi, rfl⟩ := List.mem_map.1 h
  obtain ⟨h1, h2⟩ := List.mem_filter.1 hi
  rw [List.mem_range] at h1
  refine ⟨by omega, by omega, ?_⟩
  rw [ndAt_nat]
  simpa using h2
theorem sameTo_mem {l : List Nd} {lev : Int} {n i : Nat} (h : i < n) (hl : (l.getD i deadN).1 = lev) : (i : Int) ∈ sameTo l lev n := by
  unfold sameTo
  exact List.mem_map.2 ⟨i, List.mem_filter.2 ⟨List.mem_range.2 h, by simpa using hl⟩, rfl⟩
theorem sameTo_len (l : List Nd) (lev : Int) (n : Nat) : (sameTo l lev n).length ≤ n := by
  unfold sameTo
  rw [List.length_map]
  refine Nat.le_trans (List.length_filter_le _ _) ?_
  simp
abbrev Raw5 := Int × Int × Int × Int × Int
def levOf (l : List Nd) (r : Raw5) : Int := if 0 < l.length then (ndAt l (pick6 r.2.2.2.2 l.length)).1 else 0
def pickOf (s : List Int) (c : Int) : Int := if 0 < s.length then s.getD (pick6 c s.length).toNat 0 else 0
/-- what the laws' Kids answers -/
def kids6 (l : List Nd) (r : Raw5) : Kd :=
  (pickOf (sameTo l (levOf l r) l.length) r.1, pickOf (sameTo l (levOf l r) l.length) r.2.1, pickOf (sameTo l (levOf l r) l.length) r.2.2.1, pickOf (sameTo l (levOf l r) l.length) r.2.2.2.1)
theorem pickOf_mem {s : List Int} (h : 0 < s.length) (c : Int) : pickOf s c ∈ s := by
  unfold pickOf
  rw [if_pos h]
  have hb := pick6_bd c s.length (by omega)
  rw [List.getD_eq_getElem?_getD, List.getElem?_eq_getElem (by omega)]
  exact List.getElem_mem _
theorem kids_fit {l : List Nd} {room : Int} (h : Right6 l room) (hl : l.length ≤ 43) (r : Raw5) : Fit4 l (kids6 l r) := by
  have h2 := h.two
  have hp := pick6_bd r.2.2.2.2 l.length (by omega)
  have hlev : levOf l r = (l.getD (pick6 r.2.2.2.2 l.length).toNat deadN).1 := by unfold levOf; rw [if_pos (by omega)]; rfl
  have hmem : (((pick6 r.2.2.2.2 l.length).toNat : Nat) : Int) ∈ sameTo l (levOf l r) l.length := sameTo_mem (by omega) hlev.symm
  have hs : 0 < (sameTo l (levOf l r) l.length).length := List.length_pos_of_mem hmem
  have key : ∀ i, i < 4 → kd (kids6 l r) i ∈ sameTo l (levOf l r) l.length := by
    intro i hi
    match i, hi with
    | 0, _ => exact pickOf_mem hs _
    | 1, _ => exact pickOf_mem hs _
    | 2, _ => exact pickOf_mem hs _
    | 3, _ => exact pickOf_mem hs _
  have e0 : (ndAt l (kids6 l r).1).1 = levOf l r := (mem_sameTo (key 0 (by decide))).2.2
  have hlow := level_lt h (n := (pick6 r.2.2.2.2 l.length).toNat) (by omega)
  refine ⟨fun i hi => ?_, by rw [e0, hlev]; omega⟩
  obtain ⟨k1, k2, k3⟩ := mem_sameTo (key i hi)
  exact ⟨k1, k2, by rw [e0]; exact k3⟩
/-- a store of raw numbers -/
def storeTo (room : Int) (raw : List Raw5) : Nat → List Nd
  | 0 => new6
  | n + 1 => (intern6 (storeTo room raw n) room (kids6 (storeTo room raw n) (raw.getD n (0, 0, 0, 0, 0)))).1
def store6 (room : Int) (raw : List Raw5) : List Nd := storeTo (2 + pick6 room 60) raw (min raw.length 40)
theorem storeTo_right {room : Int} (h2 : 2 ≤ room) (h : room ≤ 100000) (raw : List Raw5) : ∀ n, n ≤ 40 → Right6 (storeTo room raw n) room ∧ (storeTo room raw n).length ≤ n + 2 := by
  intro n
  induction n with
  | zero => intro _; exact ⟨right_new h2 h, Nat.le_refl 2⟩
  | succ n ih =>
    intro hn
    obtain ⟨h1, h3⟩ := ih (by omega)
    have hf := kids_fit h1 (by omega) (raw.getD n (0, 0, 0, 0, 0))
    show Right6 (intern6 _ room _).1 room ∧ _
    rw [intern_right h1]
    refine ⟨put_right h1 _, ?_⟩
    show (intern6 _ room _).1.length ≤ _
    rw [intern_right h1]
    rcases put_ok h1 hf with ⟨m, k, e, hp⟩ | ⟨e, _, _⟩
    · rw [e]; have := hp.more; simp only; omega
    · rw [e]; simp only; omega
theorem store_right (room : Int) (raw : List Raw5) : Right6 (store6 room raw) (2 + pick6 room 60) ∧ (store6 room raw).length ≤ 42 := by
  have hp := pick6_bd room 60 (by decide)
  have := storeTo_right (room := 2 + pick6 room 60) (by omega) (by omega) raw (min raw.length 40) (by omega)
  exact ⟨this.1, by unfold store6; omega⟩
end Go.Proofs.Ytikgnjcjbjafaaa
namespace Go.Proofs.Ytikgnjcjbjafaaa
set_option linter.unusedVariables false
set_option linter.unusedSimpArgs false

/-- the cells of four kids, with none cut off ahead of the end -/
theorem popTo_sum {l : List Nd} {k : Kd} (h : ∀ i, i < 4 → 0 ≤ (ndAt l (kd k i)).2.2) : popTo l k 4 = min ((ndAt l k.1).2.2 + (ndAt l k.2.1).2.2 + (ndAt l k.2.2.1).2.2 + (ndAt l k.2.2.2).2.2) 4611686018427387903 := by
  have h0 := h 0 (by decide)
  have h1 := h 1 (by decide)
  have h2 := h 2 (by decide)
  have h3 := h 3 (by decide)
  simp only [kd] at h0 h1 h2 h3
  unfold popTo popTo popTo popTo popTo
  simp only [kd]
  omega
/-- the node that was put -/
theorem Put6.node {l m : List Nd} {room : Int} {k : Kd} {n : Nat} (h : Put6 l m room k n) (hf : Fit4 l k) : 2 ≤ n ∧ n < m.length ∧ (m.getD n deadN).2.1 = k ∧ (m.getD n deadN).1 = (ndAt l k.1).1 + 1 ∧ (m.getD n deadN).2.2 = popTo l k 4 := by
  obtain ⟨a1, a2, a3, _⟩ := at_some h.at_
  have hfn := fits_iff.1 (h.right.fits n a1 a2)
  have hk0 := hfn.kid 0 (by decide)
  rw [a3] at hk0
  have e0 : ndAt m k.1 = ndAt l k.1 := h.grows.nd (hf.kid 0 (by decide)).1 (hf.kid 0 (by decide)).2.1
  have ep : ∀ i, i ≤ 4 → popTo m k i = popTo l k i := by
    intro i
    induction i with
    | zero => intro _; rfl
    | succ i ih =>
      intro hi
      unfold popTo
      rw [ih (by omega), h.grows.nd (hf.kid i (by omega)).1 (hf.kid i (by omega)).2.1]
  refine ⟨a1, a2, a3, ?_, ?_⟩
  · have : (ndAt m k.1).1 = (m.getD n deadN).1 - 1 := hk0.2.2
    rw [e0] at this
    omega
  · rw [hfn.pop, a3, ep 4 (Nat.le_refl _)]

/-! ### nodes in which all is dead -/
/-- what Empty does, so many levels up -/
def emptyTo (l : List Nd) (room : Int) : Nat → List Nd × Int × Int
  | 0 => (l, 0, 0)
  | j + 1 => if (emptyTo l room j).2.2 = 0 then put6 (emptyTo l room j).1 room ((emptyTo l room j).2.1, (emptyTo l room j).2.1, (emptyTo l room j).2.1, (emptyTo l room j).2.1) else emptyTo l room j
/-- a node is the dead one of its level -/
def Emp (l : List Nd) : Nat → Nat → Prop
  | 0, n => n = 0
  | j + 1, n => ∃ e : Nat, Emp l j e ∧ at6 l ((e : Int), (e : Int), (e : Int), (e : Int)) = some n
theorem emp_grows {l m : List Nd} (h : Grows l m) : ∀ j n, Emp l j n → Emp m j n := by
  intro j
  induction j with
  | zero => intro n hn; exact hn
  | succ j ih =>
    intro n hn
    obtain ⟨e, he, ha⟩ := hn
    exact ⟨e, ih e he, h.at_ ha⟩
theorem emp_node {l : List Nd} {room : Int} (h : Right6 l room) : ∀ j n, Emp l j n → n < l.length ∧ (l.getD n deadN).1 = j ∧ (l.getD n deadN).2.2 = 0 := by
  intro j
  induction j with
  | zero =>
    intro n hn
    have h2 := h.two
    obtain rfl : n = 0 := hn
    rw [h.dead]
    exact ⟨by omega, rfl, rfl⟩
  | succ j ih =>
    intro n ⟨e, he, ha⟩
    obtain ⟨e1, e2, e3⟩ := ih e he
    obtain ⟨a1, a2, a3, _⟩ := at_some ha
    have hf := fits_iff.1 (h.fits n a1 a2)
    have hk := (hf.kid 0 (by decide)).2.2
    have hp := hf.pop
    rw [a3] at hk hp
    have ee : ndAt l (e : Int) = l.getD e deadN := ndAt_nat l e
    simp only [kd] at hk
    rw [ee, e2] at hk
    refine ⟨a2, by omega, ?_⟩
    rw [hp]
    unfold popTo popTo popTo popTo popTo
    simp only [kd]
    rw [ee, e3]
    decide
/-- where they stand already nothing is put -/
theorem empty_had {l : List Nd} {room : Int} (h : Right6 l room) : ∀ j n, j ≤ 42 → Emp l j n → emptyTo l room j = (l, (n : Int), 0) := by
  intro j
  induction j with
  | zero => intro n _ hn; obtain rfl : n = 0 := hn; rfl
  | succ j ih =>
    intro n hj ⟨e, he, ha⟩
    have h1 := ih e (by omega) he
    obtain ⟨n1, n2, n3⟩ := emp_node h j e he
    have e4 : emptyTo l room (j + 1) = put6 l room ((e : Int), (e : Int), (e : Int), (e : Int)) := by
      show (if (emptyTo l room j).2.2 = 0 then _ else _) = _
      rw [h1, if_pos rfl]
    rw [e4]
    refine put_again ⟨fun i hi => ?_, ?_⟩ ha
    · have : kd ((e : Int), (e : Int), (e : Int), (e : Int)) i = (e : Int) := by
        match i, hi with
        | 0, _ => rfl
        | 1, _ => rfl
        | 2, _ => rfl
        | 3, _ => rfl
      rw [this]
      exact ⟨by omega, by omega, rfl⟩
    · show (ndAt l (e : Int)).1 + 1 ≤ 42
      rw [ndAt_nat, n2]
      omega
theorem emp_below {l : List Nd} : ∀ j n, Emp l j n → ∀ i, i ≤ j → ∃ e, Emp l i e := by
  intro j
  induction j with
  | zero =>
    intro n hn i hi
    obtain rfl : i = 0 := by omega
    exact ⟨n, hn⟩
  | succ j ih =>
    intro n hn i hi
    obtain ⟨e, he, ha⟩ := hn
    rcases Nat.lt_or_ge i (j + 1) with h | h
    · exact ih e he i (by omega)
    · obtain rfl : i = j + 1 := by omega
      exact ⟨n, e, he, ha⟩
end Go.Proofs.Ytikgnjcjbjafaaa
namespace Go.Proofs.Ytikgnjcjbjafaaa
set_option linter.unusedVariables false
set_option linter.unusedSimpArgs false

/-! ### where what is kept goes -/
def cnt (K : Nat → Bool) (n : Nat) : Nat := ((List.range n).filter K).length
def mapK (K : Nat → Bool) (k : Kd) : Kd := (cnt K k.1.toNat, cnt K k.2.1.toNat, cnt K k.2.2.1.toNat, cnt K k.2.2.2.toNat)
def mapN (K : Nat → Bool) (x : Nd) : Nd := (x.1, mapK K x.2.1, x.2.2)
/-- the nodes that are kept, so many seen -/
def newTo (l : List Nd) (K : Nat → Bool) (n : Nat) : List Nd := ((List.range n).filter K).map fun i => mapN K (l.getD i deadN)
section
variable {l : List Nd} {room : Int} {R : List Int} {K : Nat → Bool}
end
end Go.Proofs.Ytikgnjcjbjafaaa
namespace Go.Proofs.Ytikgnjcjbjafaaa.Qt
set_option linter.unusedVariables false
set_option linter.unusedSimpArgs false
open Go Go.Sort Go.RowKit

section
variable {P : Program} {ops : Array Oper} {md : Region.Mode} {C : World → Prop}

/-- f rounds of the head, whatever order, then L. -/
def headAny (P : Program) (md : Region.Mode) (ops : Array Oper) (C : World → Prop) (n : Nat) (L : Array Bool → Act → Prop) : Nat → Array Bool → Act → Prop
  | 0, listed, a => L listed a
  | f + 1, listed, a => Region.ready md ops listed ≠ [] ∧ ∀ i ∈ Region.ready md ops listed, i < n ∧ qOp P ops C i (headAny P md ops C n L f (listed.setIfInBounds i true)) a

theorem any_of_head {n g : Nat} {L : Array Bool → Act → Prop} {Q : Exit → Act → World → Prop} (hL : ∀ listed a w, C w → L listed a → wpAny P md ops Q g listed a w) (f : Nat) :
    ∀ listed a w, C w → headAny P md ops C n L f listed a → wpAny P md ops Q (f + g) listed a w := by
  induction f with
  | zero => intro listed a w hw h; rw [Nat.zero_add]; exact hL _ _ _ hw h
  | succ f ih =>
    intro listed a w hw h
    rw [Nat.succ_add]
    exact ⟨fun h0 => absurd h0 h.1, fun i hi => wpOp_of_qOp hw (fun a' w' hw' h' => ih _ a' w' hw' h') (h.2 i hi).2⟩

/-- What may be taken first is taken first. -/
theorem head_first {n i : Nat} {oi : Oper} {v : Value} {L : Array Bool → Act → Prop} (hi : ops[i]? = some oi) (hsel : ∀ (j : Nat) (o : Oper) cs b, ops[j]? = some o → o.op ≠ .select cs b)
    (hs : Region.sinkB md ops n = true) (hc : Region.chainB md ops n = true) (hn : n < ops.size) (hin : i < n) (hdone : ∀ listed a, L listed a → ∀ j ∈ Region.ready md ops listed, n ≤ j) (f : Nat) :
    ∀ (listed : Array Bool) (a : Act), HeadInv md ops n listed →
      (∀ j oj, ops[j]? = some oj → j ≠ i → listed.getD j true = false → (∀ e ∈ oj.after, Region.binds md e = true → e.on ≠ i) → oi.apart ops oj = true) →
      i ∈ Region.ready md ops listed → YieldsIn P ops C oi v a →
      headAny P md ops C n L f (listed.setIfInBounds i true) (a.put oi.dst v) → headAny P md ops C n L (f + 1) listed a := by
  induction f with
  | zero =>
    intro listed a inv _ hr hy H
    refine ⟨fun h => (by rw [h] at hr; cases hr), fun j hj => ?_⟩
    have hjn : j < n := Nat.lt_of_not_le fun h => tail_waits hs hc hn inv _ i rfl hin (mem_ready.1 hr).1 j h hj
    refine ⟨hjn, ?_⟩
    by_cases hji : j = i
    · subst hji; exact hy.qOp hi H
    · exact absurd (hdone _ _ H j (ready_mono hj hji)) (by omega)
  | succ f ih =>
    intro listed a inv hfree hr hy H
    have hun := (mem_ready.1 hr).1
    refine ⟨fun h => (by rw [h] at hr; cases hr), fun j hj => ?_⟩
    have hjn : j < n := Nat.lt_of_not_le fun h => tail_waits hs hc hn inv _ i rfl hin hun j h hj
    refine ⟨hjn, ?_⟩
    by_cases hji : j = i
    · subst hji; exact hy.qOp hi H
    · obtain ⟨hjun, oj, hoj, hall⟩ := mem_ready.1 hj
      have hnot : ∀ e ∈ oj.after, Region.binds md e = true → e.on ≠ i := fun e he hb heq => by
        have h1 := hall e he hb
        rw [heq, getD_both hun] at h1
        cases h1
      have hq := qOp_put hoj (hfree j oj hoj hji hjun hnot) (fun cs b => hsel i oi cs b hi) (fun cs b => hsel j oj cs b hoj) hy (H.2 j (ready_mono hj hji)).2
      refine qOp_mono (fun a' h3 => ih (listed.setIfInBounds j true) a' (inv.set hj hjn) (fun k ok hk hki hku hno => hfree k ok hk hki ?_ hno) (ready_mono hr (Ne.symm hji)) h3.1 ?_) hq
      · by_cases hjk : j = k
        · subst hjk; exact hjun
        · rwa [getD_set_ne true hjk] at hku
      · rw [Array.setIfInBounds_comm _ _ hji]; exact h3.2

theorem head_lex {n g : Nat} {Lq : Act → Prop} (hsel : Region.noSelect ops = true) (hs : Region.sinkB md ops n = true) (hc : Region.chainB md ops n = true) (hn : n < ops.size) (l : List Oper) :
    ∀ (k : Nat) (listed : Array Bool) (a : Act), (∀ j, j < l.length → l[j]? = ops[k + j]?) → k + l.length = n → HeadInv md ops n listed →
    Region.lexHead md ops g l.length k listed = true → wpQuiet P ops C Lq l a →
    headAny P md ops C n (fun listed' a' => Region.seqB md ops g n listed' = true ∧ Lq a') l.length listed a := by
  induction l with
  | nil =>
    intro k listed a _ hk _ hB h
    obtain rfl : k = n := by simpa using hk
    exact ⟨by simpa [Region.lexHead] using hB, h⟩
  | cons o l ih =>
    intro k listed a hl hk inv hB h
    have h0 : ops[k]? = some o := by simpa using (hl 0 (by simp)).symm
    simp only [List.length_cons, Region.lexHead, Bool.and_eq_true] at hB
    have hkn : k < n := by simp only [List.length_cons] at hk; omega
    have hr' : k ∈ Region.ready md ops listed := by simpa using hB.1.1
    have hst : qOp P ops C k (wpQuiet P ops C Lq l) a := by unfold qOp; simp only [h0]; exact h
    obtain ⟨v, hy, hK⟩ := yieldsIn_of_qOp h0 hst
    exact head_first h0 (Region.noSelect_spec hsel) hs hc hn hkn (fun listed' a' hL => seqB_ready hL.1) l.length listed a inv (Region.free_spec h0 hB.1.2) hr' hy
      (ih (k + 1) _ _ (fun j hj => by have := hl (j + 1) (by simp; omega); simpa [Nat.add_assoc, Nat.add_comm 1 j] using this) (by simp only [List.length_cons] at hk; omega) (inv.set hr' hkn) hB.2 hK)

theorem quiet_mono {Q Q' : Act → Prop} (hq : ∀ a, Q a → Q' a) (l : List Oper) : ∀ a, wpQuiet P ops C Q l a → wpQuiet P ops C Q' l a := by
  induction l with
  | nil => exact hq
  | cons o l ih =>
    intro a h
    unfold wpQuiet at h ⊢
    split
    · rename_i hw; rw [if_pos hw] at h; exact Oper.quiet_mono ih h
    · rename_i hw; rw [if_neg hw] at h; exact ih _ h

theorem region_tail {id : Nat} {Q : Exit → Act → World → Prop} {a : Act} {w : World} {l : List Oper} (n : Nat) (hm : P.follows .mixedOrders = true) (hB : Region.lexTailB .any l.toArray n = true) (hC : C w.drew)
    (h : wpQuiet P l.toArray C (fun a' => ∀ w', C w' → wpList P l.toArray Q (l.drop n) a' w') (l.take n) a) : (Code.region id l.toArray true).wp P Q a w := by
  simp only [Region.lexTailB, Bool.and_eq_true, decide_eq_true_eq] at hB
  obtain ⟨⟨⟨⟨hsel, hn⟩, hs⟩, hc⟩, hlex⟩ := hB
  have hn' : n < l.length := by simpa using hn
  have htl : (l.take n).length = n := by simp; omega
  have hdl : (l.drop n).length = l.toArray.size - n := by simp
  have inv0 : HeadInv .any l.toArray n (Array.replicate l.toArray.size false) :=
    ⟨by simp, fun j oj _ hl => (by rw [getD_replicate_false] at hl; cases hl), fun t _ ht => getD_in (by simpa using ht) (getD_replicate_false _ _)⟩
  have H := head_lex (P := P) (C := C) (md := .any) (g := l.toArray.size - n) hsel hs hc hn (l.take n) 0 _ a (fun j hj => by rw [htl] at hj; simp [hj]) (by simpa using htl) inv0 (by rw [htl]; exact hlex) h
  refine wp_region_any hm ?_
  have e := any_of_head (Q := Q) (g := l.toArray.size - n) (fun listed a' w' hw' hL => by
    have := wpAny_of_seq (md := .any) (Q' := Q) (l.drop n) n listed a' w' (fun j => by simp [List.getElem?_drop]) (by rw [hdl]; exact hL.1) (hL.2 w' hw')
    rwa [hdl] at this) _ _ _ w.drew hC H
  rw [htl, show n + (l.toArray.size - n) = l.toArray.size by omega] at e
  exact e

/-- .. at the class 'of what was there nothing has turned'; the tail in whatever such world. -/
theorem below_tail {id : Nat} {Q : Exit → Act → World → Prop} {a : Act} {w : World} {l : List Oper} (n : Nat) (hm : P.follows .mixedOrders = true) (hB : Region.lexTailB .any l.toArray n = true)
    (h : wpQuiet P l.toArray (fun w' => ∃ p : Regrown, w' = grow (redrawn w p.d) p.os) (fun a' => ∀ w', Below w.heap.size w w' → wpList P l.toArray Q (l.drop n) a' w') (l.take n) a) : (Code.region id l.toArray true).wp P Q a w :=
  region_tail n hm hB ⟨⟨w.drawn + 1, #[]⟩, by rw [grow_empty]; rfl⟩ (quiet_mono (fun a' h w' ⟨p, hp⟩ => h w' (hp ▸ below_regrown w p.d p.os)) _ _ h)

/-- The whole region quiet. -/
theorem below_all {id : Nat} {Q : Exit → Act → World → Prop} {a : Act} {w : World} {l : List Oper} (hm : P.follows .mixedOrders = true) (hB : Region.lexB .any l.toArray = true)
    (h : wpQuiet P l.toArray (fun w' => ∃ p : Regrown, w' = grow (redrawn w p.d) p.os) (fun a' => ∀ w', Below w.heap.size w w' → Q .normal a' w') l a) : (Code.region id l.toArray true).wp P Q a w :=
  wp_region_quiet_below hm hB (quiet_mono (fun a' h w' ⟨p, hp⟩ => h w' (hp ▸ below_regrown w p.d p.os)) _ _ h)

/-- A contract that ends in 'Below', at a call within such a region. -/
theorem at_call {f : FuncId} {args : Array Value} {w : World} {d : Nat} {os : Array Obj} {v : Value} (h : ∀ W, Calls P f args W fun e w' => e = .returned v ∧ Below W.heap.size W w') :
    Calls P f args (grow (redrawn w d) os) fun e w'' => e = .returned v ∧ ∃ p : Regrown, w'' = grow (redrawn w p.d) p.os := Calls.regrown_of (h _)

/-- .. one that asks for the world ahead. -/
theorem at_call' {f : FuncId} {args : Array Value} {w : World} {d : Nat} {os : Array Obj} {v : Value} (h : ∀ W, Below w.heap.size w W → Calls P f args W fun e w' => e = .returned v ∧ Below W.heap.size W w') :
    Calls P f args (grow (redrawn w d) os) fun e w'' => e = .returned v ∧ ∃ p : Regrown, w'' = grow (redrawn w p.d) p.os := Calls.regrown_of (h _ (below_regrown w d os))

/-- .. one that leaves the world alone. -/
theorem at_same {f : FuncId} {args : Array Value} {w : World} {d : Nat} {os : Array Obj} {v : Value} (h : ∀ W, Below w.heap.size w W → Calls P f args W fun e w' => e = .returned v ∧ W = w') :
    Calls P f args (grow (redrawn w d) os) fun e w'' => e = .returned v ∧ ∃ p : Regrown, w'' = grow (redrawn w p.d) p.os :=
  Calls.regrown_of ((h _ (below_regrown w d os)).mono fun _ _ ⟨he, hw⟩ => ⟨he, hw ▸ Below.refl _ _⟩)

/-- A cell that is there, in every world of the class. -/
theorem cell_in {w : World} {a : Addr} {v : Value} (h : w.cell? a = some v) : ∀ d os, (grow (redrawn w d) os).cell? a = some v := cell_regrown h
/-- a cell that is there stays, and Below adds up -/
theorem keep {w w' : World} {a : Addr} {v : Value} (hb : Below w.heap.size w w') (h : w.cell? a = some v) : w'.cell? a = some v := (hb.cell (block_lt_of_cell h)).trans h
theorem more {B : Nat} {w0 w w' : World} (h : Below B w0 w) (hB : B ≤ w.heap.size) (hb : Below w.heap.size w w') : Below B w0 w' := h.trans (hb.mono hB)

theorem ret_bool {x y : Bool} (h : (x = true) ↔ (y = true)) : Ending.returned (.bool x) = .returned (.bool y) := by rw [Bool.eq_iff_iff.2 h]
theorem ret_int {k : IntKind} {x y : Int} (h : x = y) : Ending.returned (.int k x) = .returned (.int k y) := by rw [h]
end
end Go.Proofs.Ytikgnjcjbjafaaa.Qt
namespace Go.Proofs.Ytikgnjcjbjafaaa
set_option linter.unusedVariables false
set_option linter.unusedSimpArgs false
open Go.RowKit Go.Sort

/-- the six cells of a node -/
def cellsN (x : Nd) : List Value := [.int .i64 x.1, .int .i64 x.2.1.1, .int .i64 x.2.1.2.1, .int .i64 x.2.1.2.2.1, .int .i64 x.2.1.2.2.2, .int .i64 x.2.2]
def flN (l : List Nd) : List Value := l.flatMap cellsN
theorem flN_append (l m : List Nd) : flN (l ++ m) = flN l ++ flN m := by unfold flN; simp
theorem length_flN (l : List Nd) : (flN l).length = l.length * 6 := by
  induction l with
  | nil => rfl
  | cons x l ih => simp only [flN, cellsN, List.flatMap_cons, List.length_append, List.length_cons, List.length_nil] at ih ⊢; omega
theorem flN_get (l : List Nd) (j : Nat) (h : j < l.length) : (flN l)[j * 6]? = some (.int .i64 (l.getD j deadN).1) ∧ (flN l)[j * 6 + 1]? = some (.int .i64 (l.getD j deadN).2.1.1) ∧ (flN l)[j * 6 + 2]? = some (.int .i64 (l.getD j deadN).2.1.2.1) ∧ (flN l)[j * 6 + 3]? = some (.int .i64 (l.getD j deadN).2.1.2.2.1) ∧ (flN l)[j * 6 + 4]? = some (.int .i64 (l.getD j deadN).2.1.2.2.2) ∧ (flN l)[j * 6 + 5]? = some (.int .i64 (l.getD j deadN).2.2) := by
  induction l generalizing j with
  | nil => exact absurd h (Nat.not_lt_zero j)
  | cons x l ih =>
    cases j with
    | zero => simp [flN, cellsN]
    | succ j =>
      have := ih j (by simpa using h)
      have e1 : (j + 1) * 6 = j * 6 + 1 + 1 + 1 + 1 + 1 + 1 := by omega
      have e2 : flN (x :: l) = .int .i64 x.1 :: .int .i64 x.2.1.1 :: .int .i64 x.2.1.2.1 :: .int .i64 x.2.1.2.2.1 :: .int .i64 x.2.1.2.2.2 :: .int .i64 x.2.2 :: flN l := rfl
      rw [e1, e2]
      simpa using this
theorem flN_cell1 (m : List Nd) : ∀ u ∈ flN m, u.oneCell' = true := by
  intro u hu
  obtain ⟨x, _, hx⟩ := List.mem_flatMap.1 hu
  simp only [cellsN, List.mem_cons, List.not_mem_nil, or_false] at hx
  rcases hx with rfl | rfl | rfl | rfl | rfl | rfl <;> rfl

/-- a node lies here -/
def NdAt (w : World) (b o : Nat) (x : Nd) : Prop := w.cell? ⟨b, o, none⟩ = some (.int .i64 x.1) ∧ w.cell? ⟨b, o + 1, none⟩ = some (.int .i64 x.2.1.1) ∧ w.cell? ⟨b, o + 2, none⟩ = some (.int .i64 x.2.1.2.1) ∧ w.cell? ⟨b, o + 3, none⟩ = some (.int .i64 x.2.1.2.2.1) ∧ w.cell? ⟨b, o + 4, none⟩ = some (.int .i64 x.2.1.2.2.2) ∧ w.cell? ⟨b, o + 5, none⟩ = some (.int .i64 x.2.2)
/-- The slice at A of l.length nodes reads as l, below block B. -/
def RdN (w : World) (B : Nat) (A : Option Addr) (l : List Nd) : Prop :=
  ∀ j, j < l.length → ∃ b off, A = some ⟨b, off, none⟩ ∧ b < B ∧ NdAt w b (off + j * 6) (l.getD j deadN)
theorem NdAt.below {w w' : World} {b o B : Nat} {x : Nd} (h : NdAt w b o x) (hb : Below B w w') (hx : b < B) : NdAt w' b o x := by
  obtain ⟨h0, h1, h2, h3, h4, h5⟩ := h
  exact ⟨(hb.cell (p := ⟨b, o, none⟩) hx).trans h0, (hb.cell (p := ⟨b, o + 1, none⟩) hx).trans h1, (hb.cell (p := ⟨b, o + 2, none⟩) hx).trans h2, (hb.cell (p := ⟨b, o + 3, none⟩) hx).trans h3, (hb.cell (p := ⟨b, o + 4, none⟩) hx).trans h4, (hb.cell (p := ⟨b, o + 5, none⟩) hx).trans h5⟩
theorem RdN.below {w w' : World} {B B' : Nat} {A : Option Addr} {l : List Nd} (h : RdN w B A l) (hb : Below B' w w') (hB : B ≤ B') : RdN w' B A l := fun j hj => by
  obtain ⟨b, off, e, hlt, h0⟩ := h j hj
  exact ⟨b, off, e, hlt, h0.below hb (Nat.lt_of_lt_of_le hlt hB)⟩
theorem RdN.more {w : World} {B B' : Nat} {A : Option Addr} {l : List Nd} (h : RdN w B A l) (hB : B ≤ B') : RdN w B' A l := fun j hj => by
  obtain ⟨b, off, e, hlt, h0⟩ := h j hj
  exact ⟨b, off, e, by omega, h0⟩
theorem RdN.nil (w : World) (B : Nat) (A : Option Addr) : RdN w B A [] := fun j hj => absurd hj (Nat.not_lt_zero j)
theorem RdN.at_ {w : World} {B : Nat} {A : Option Addr} {l : List Nd} (h : RdN w B A l) (hn : 0 < l.length) :
    ∃ b off, A = some ⟨b, off, none⟩ ∧ b < B ∧ ∀ j, j < l.length → NdAt w b (off + j * 6) (l.getD j deadN) := by
  obtain ⟨b, off, e, hlt, _⟩ := h 0 hn
  refine ⟨b, off, e, hlt, fun j hj => ?_⟩
  obtain ⟨b', off', e', _, h0⟩ := h j hj
  rw [e] at e'
  injection e' with e'
  injection e' with e1 e2
  subst e1 e2
  exact h0
def NowN (w : World) (A : Option Addr) (l : List Nd) : Prop := RdN w w.heap.size A l
theorem NowN.below {w w' : World} {A : Option Addr} {l : List Nd} (h : NowN w A l) (hb : Below w.heap.size w w') : NowN w' A l := (RdN.below h hb (Nat.le_refl _)).more hb.size
theorem nowN_nil (w : World) (A : Option Addr) : NowN w A [] := RdN.nil _ _ _

abbrev OwnN (w : World) (B : Nat) (v : Value) (l : List Nd) : Prop := w.ownsRow B 54 6 v l.length (flN l)
/-- It reads as its list. -/
def ReadsN (w : World) (v : Value) (l : List Nd) : Prop := ∃ A c, v = .slice A l.length c ∧ l.length ≤ c ∧ NowN w A l
theorem OwnN.reads {w : World} {B : Nat} {v : Value} {l : List Nd} (h : OwnN w B v l) : ReadsN w v l := by
  rcases h.2 with ⟨rfl, h0⟩ | ⟨g, cap, cur, rfl, hb, hh, hn, hcap, hsz, htake⟩
  · have : l = [] := by simpa using h0
    subst this
    exact ⟨none, 0, rfl, Nat.le_refl _, nowN_nil _ _⟩
  · refine ⟨some ⟨g, 0, none⟩, cap, rfl, hn, fun j hj => ?_⟩
    obtain ⟨f0, f1, f2, f3, f4, f5⟩ := flN_get l j hj
    refine ⟨g, 0, rfl, (World.ownsRow.lt h g rfl).2, ?_⟩
    rw [Nat.zero_add]
    exact ⟨(World.ownsRow.cellAt h (j * 6) (by omega)).trans f0, (World.ownsRow.cellAt h (j * 6 + 1) (by omega)).trans f1, (World.ownsRow.cellAt h (j * 6 + 2) (by omega)).trans f2, (World.ownsRow.cellAt h (j * 6 + 3) (by omega)).trans f3, (World.ownsRow.cellAt h (j * 6 + 4) (by omega)).trans f4, (World.ownsRow.cellAt h (j * 6 + 5) (by omega)).trans f5⟩
theorem OwnN.below {w w' : World} {B : Nat} {v : Value} {l : List Nd} (h : OwnN w B v l) (hb : Below w.heap.size w w') : OwnN w' B v l :=
  World.ownsRow.kept h (row := none) ⟨hb.os, hb.tape, hb.output, hb.size, fun k hk _ => hb.block k hk⟩ (by cases v.ownBlock <;> simp)
theorem ReadsN.below {w w' : World} {v : Value} {l : List Nd} (h : ReadsN w v l) (hb : Below w.heap.size w w') : ReadsN w' v l := by
  obtain ⟨A, c, e, hc, hR⟩ := h
  exact ⟨A, c, e, hc, hR.below hb⟩

theorem info_node : (Try.prog.info? 54).map (fun i => (i.zero, i.size, i.bytes)) = some (some (.agg #[.int .i64 0, .int .i64 0, .int .i64 0, .int .i64 0, .int .i64 0, .int .i64 0]), 6, 48) := by kernel_rfl

theorem nowN_at {w : World} {m : List Nd} {b off : Nat} (h : ∀ j, j < m.length → NdAt w b (off + j * 6) (m.getD j deadN)) :
    ∀ j u, (flN m)[j]? = some u → w.cell? ((⟨b, off, none⟩ : Addr).add j) = some u := by
  intro j u hu
  rw [Addr.add_lit]
  have hj : j < m.length * 6 := by
    rcases Nat.lt_or_ge j (m.length * 6) with h1 | h1
    · exact h1
    · rw [List.getElem?_eq_none (by rw [length_flN]; exact h1)] at hu; cases hu
  obtain ⟨h0, h1, h2, h3, h4, h5⟩ := h (j / 6) (by omega)
  obtain ⟨f0, f1, f2, f3, f4, f5⟩ := flN_get m (j / 6) (by omega)
  have hc : j % 6 = 0 ∨ j % 6 = 1 ∨ j % 6 = 2 ∨ j % 6 = 3 ∨ j % 6 = 4 ∨ j % 6 = 5 := by omega
  rcases hc with hp | hp | hp | hp | hp | hp
  · have e : j = j / 6 * 6 := by omega
    rw [e] at hu ⊢
    rw [f0] at hu
    rw [← hu]
    exact h0
  · have e : j = j / 6 * 6 + 1 := by omega
    rw [e] at hu ⊢
    rw [f1] at hu
    rw [← hu, ← Nat.add_assoc]
    exact h1
  · have e : j = j / 6 * 6 + 2 := by omega
    rw [e] at hu ⊢
    rw [f2] at hu
    rw [← hu, ← Nat.add_assoc]
    exact h2
  · have e : j = j / 6 * 6 + 3 := by omega
    rw [e] at hu ⊢
    rw [f3] at hu
    rw [← hu, ← Nat.add_assoc]
    exact h3
  · have e : j = j / 6 * 6 + 4 := by omega
    rw [e] at hu ⊢
    rw [f4] at hu
    rw [← hu, ← Nat.add_assoc]
    exact h4
  · have e : j = j / 6 * 6 + 5 := by omega
    rw [e] at hu ⊢
    rw [f5] at hu
    rw [← hu, ← Nat.add_assoc]
    exact h5

theorem appendN_none {w : World} {B : Nat} {v : Value} {out : List Nd} (c : Nat) (ho : OwnN w B v out) :
    (Builtin.append_ #[25, 25] 25 #[v, .slice none 0 c]).run Try.prog w = .ok v w := by
  obtain ⟨i0, hi, hz0, hz1, hz2⟩ := info_parts info_node
  rcases ho.2 with ⟨rfl, _⟩ | ⟨g, cap, cur, rfl, _, _, hnc, _⟩
  · simp [Builtin.append_, run_underlying Try.underlying25, sizeOf, typeInfo, hi, Builtin.lenOf, Builtin.firstCells]
  · simp [Builtin.append_, run_underlying Try.underlying25, sizeOf, typeInfo, hi, Builtin.lenOf, Builtin.firstCells, storeCells, hnc]
theorem appN_any {w : World} {B : Nat} {v : Value} {out m : List Nd} {A : Option Addr} (c : Nat) (hB : B ≤ w.heap.size) (ho : OwnN w B v out) (hm : NowN w A m) (hl : out.length + m.length ≤ 1000000) :
    ∃ v' w', (Builtin.append_ #[25, 25] 25 #[v, .slice A m.length c]).run Try.prog w = .ok v' w' ∧ OwnN w' B v' (out ++ m) ∧ w.grownBy w' v.ownBlock := by
  obtain ⟨i0, hi, hz0, hz1, hz2⟩ := info_parts info_node
  by_cases h0 : m.length = 0
  · have : m = [] := List.eq_nil_of_length_eq_zero h0
    subst this
    cases A with
    | none => exact ⟨v, w, appendN_none c ho, by rw [List.append_nil]; exact ho, ⟨rfl, rfl, rfl, Nat.le_refl _, fun _ _ _ => rfl⟩⟩
    | some a =>
      obtain ⟨v', w', hr, h2, h3, _⟩ := run_append_own (P := Try.prog) (w := w) B 25 25 54 i0 (.agg #[.int .i64 0, .int .i64 0, .int .i64 0, .int .i64 0, .int .i64 0, .int .i64 0]) 6 48 Try.underlying25 hi hz0 hz1 hz2 rfl (by decide) v out.length (flN out) ho a 0 c [] rfl (fun j u h => by simp at h) (fun u h => by cases h) (by unfold maxLen; omega) (by omega) hB
      exact ⟨v', w', hr, by rw [List.append_nil] at h2 ⊢; exact h2, h3⟩
  · obtain ⟨b, off, rfl, _, hcell⟩ := hm.at_ (by omega)
    obtain ⟨v', w', hr, h2, h3, _⟩ := run_append_own (P := Try.prog) (w := w) B 25 25 54 i0 (.agg #[.int .i64 0, .int .i64 0, .int .i64 0, .int .i64 0, .int .i64 0, .int .i64 0]) 6 48 Try.underlying25 hi hz0 hz1 hz2 rfl (by decide) v out.length (flN out) ho ⟨b, off, none⟩ m.length c (flN m) (length_flN m) (nowN_at hcell) (flN_cell1 m) (by unfold maxLen; omega) (by omega) hB
    refine ⟨v', w', hr, ?_, h3⟩
    show World.ownsRow _ _ _ _ _ _ (flN (out ++ m))
    rw [flN_append, List.length_append]
    exact h2
theorem nowN_new (w : World) (x : Nd) : NowN (w.alloc (.cells #[.int .i64 x.1, .int .i64 x.2.1.1, .int .i64 x.2.1.2.1, .int .i64 x.2.1.2.2.1, .int .i64 x.2.1.2.2.2, .int .i64 x.2.2] 54)) (some ⟨w.heap.size, 0, none⟩) [x] := fun j hj => by
  have hj1 : j = 0 := by simp at hj; omega
  subst hj1
  exact ⟨w.heap.size, 0, rfl, by simp, by simp, by simp, by simp, by simp, by simp, by simp⟩
/-- one node more, that lies in a new block -/
theorem pushN_any {w : World} {B : Nat} {v : Value} {out : List Nd} (x : Nd) (hB : B ≤ w.heap.size) (ho : OwnN w B v out) (hl : out.length ≤ 999999) :
    ∃ v' w', (Builtin.append_ #[25, 25] 25 #[v, .slice (some ⟨w.heap.size, 0, none⟩) 1 1]).run Try.prog (w.alloc (.cells #[.int .i64 x.1, .int .i64 x.2.1.1, .int .i64 x.2.1.2.1, .int .i64 x.2.1.2.2.1, .int .i64 x.2.1.2.2.2, .int .i64 x.2.2] 54)) = .ok v' w' ∧ OwnN w' B v' (out ++ [x]) ∧ (w.alloc (.cells #[.int .i64 x.1, .int .i64 x.2.1.1, .int .i64 x.2.1.2.1, .int .i64 x.2.1.2.2.1, .int .i64 x.2.1.2.2.2, .int .i64 x.2.2] 54)).grownBy w' v.ownBlock ∧ Below B w w' := by
  have ho' : OwnN (w.alloc (.cells #[.int .i64 x.1, .int .i64 x.2.1.1, .int .i64 x.2.1.2.1, .int .i64 x.2.1.2.2.1, .int .i64 x.2.1.2.2.2, .int .i64 x.2.2] 54)) B v out := World.ownsRow.alloc ho _
  obtain ⟨v', w', hr, h1, h2⟩ := appN_any (m := [x]) 1 (by simp; omega) ho' (nowN_new w x) (by simp; omega)
  exact ⟨v', w', hr, h1, h2, Below.grown ((Below.refl _ _).alloc hB _) h2 (by simp; omega) (fun k e => (World.ownsRow.lt ho' k e).1)⟩
end Go.Proofs.Ytikgnjcjbjafaaa
namespace Go.Proofs.Ytikgnjcjbjafaaa
set_option linter.unusedVariables false
set_option linter.unusedSimpArgs false
open Go.RowKit Go.Sort

def kidsV (k : Kd) : Value := .agg #[.int .i64 k.1, .int .i64 k.2.1, .int .i64 k.2.2.1, .int .i64 k.2.2.2]
def nodeV (x : Nd) : Value := .agg #[.int .i64 x.1, .int .i64 x.2.1.1, .int .i64 x.2.1.2.1, .int .i64 x.2.1.2.2.1, .int .i64 x.2.1.2.2.2, .int .i64 x.2.2]
theorem kd_eq (x y : Kd) : (x.1 == y.1 && (x.2.1 == y.2.1 && (x.2.2.1 == y.2.2.1 && x.2.2.2 == y.2.2.2))) = decide (x = y) := by
  obtain ⟨a, b, c, d⟩ := x
  obtain ⟨a', b', c', d'⟩ := y
  rw [Bool.eq_iff_iff]
  simp
theorem eqK_at (n : Nat) (a b c d a' b' c' d' : Int) (w : World) : (Op.equalIn (n + 1 + 1) 52 (.agg #[.int .i64 a, .int .i64 b, .int .i64 c, .int .i64 d]) (.agg #[.int .i64 a', .int .i64 b', .int .i64 c', .int .i64 d'])).run Try.prog w = .ok (a == a' && (b == b' && (c == c' && d == d'))) w := by
  have u3 := Try.underlying3
  have a3 := Try.isAgg3
  have z3 := Try.sizeOf3
  rw [Op.equalIn]
  simp only [Sem.run_bind, run_underlying Try.underlying52, Result.andThen_ok]
  simp only [Std.Legacy.Range.forIn_eq_forIn_range', Std.Legacy.Range.size, Nat.sub_zero, Nat.add_sub_cancel, Nat.div_one, List.range'_succ, List.range'_zero, List.forIn_cons, List.forIn_nil]
  go_simp
  by_cases h1 : a = a' <;> by_cases h2 : b = b' <;> by_cases h3 : c = c' <;> by_cases h4 : d = d' <;> simp [h1, h2, h3, h4]
theorem eqlK (x y : Kd) (w : World) : (binOp .eql 52 (.agg #[.int .i64 x.1, .int .i64 x.2.1, .int .i64 x.2.2.1, .int .i64 x.2.2.2]) (.agg #[.int .i64 y.1, .int .i64 y.2.1, .int .i64 y.2.2.1, .int .i64 y.2.2.2])).run Try.prog w = .ok (.bool (decide (x = y))) w := by
  rw [run_eql_struct, show (10000 : Nat) = 9998 + 1 + 1 from rfl, eqK_at, kd_eq]
  rfl

/-- a store as it comes in -/
def storeV (A : Option Addr) (n c : Nat) (room : Int) : Value := .agg #[.slice A n c, .int .i64 room]
def atV (o : Option Nat) : Int := match o with | some n => (n : Int) | none => -1
/-- What is known at the head of the loop. -/
structure AtHead (w wr : World) (A : Option Addr) (n c : Nat) (room : Int) (k : Kd) : Prop where
  store : wr.heap[w.heap.size]? = some (.cells #[.slice A n c, .int .i64 room] 27 (0, 0))
  kids : wr.heap[w.heap.size + 1]? = some (.cells #[.int .i64 k.1, .int .i64 k.2.1, .int .i64 k.2.2.1, .int .i64 k.2.2.2] 52 (0, 0))
  bel : Below w.heap.size w wr
theorem lt_heap6 {w : World} {k : Nat} {o : Obj} (h : w.heap[k]? = some o) : k < w.heap.size := (Array.getElem?_eq_some_iff.1 h).1
theorem AtHead.below {w wr w' : World} {A : Option Addr} {n c : Nat} {room : Int} {k : Kd} (h : AtHead w wr A n c room k) (hb : Below wr.heap.size wr w') : AtHead w w' A n c room k :=
  ⟨(hb.block _ (lt_heap6 h.store)).trans h.store, (hb.block _ (lt_heap6 h.kids)).trans h.kids, Qt.more h.bel h.bel.size hb⟩
theorem atHead_0 (w : World) (A : Option Addr) (n c : Nat) (room : Int) (k : Kd) : AtHead w ((w.alloc (.cells #[.slice A n c, .int .i64 room] 27)).alloc (.cells #[.int .i64 k.1, .int .i64 k.2.1, .int .i64 k.2.2.1, .int .i64 k.2.2.2] 52)) A n c room k := by
  have hb1 : Below w.heap.size w (w.alloc (.cells #[.slice A n c, .int .i64 room] 27)) := (Below.refl _ _).alloc (Nat.le_refl _) _
  have hs1 : (w.alloc (.cells #[.slice A n c, .int .i64 room] 27)).heap.size = w.heap.size + 1 := by simp
  refine ⟨?_, ?_, hb1.alloc (by omega) _⟩
  · rw [Lib.alloc_old _ _ _ (by omega)]
    exact heap_alloc_new w _
  · rw [← hs1]
    exact heap_alloc_new (w.alloc (.cells #[.slice A n c, .int .i64 room] 27)) _

set_option maxHeartbeats 4000000 in
set_option maxRecDepth 100000 in
theorem refAt_any (A : Option Addr) (l : List Nd) (c : Nat) (room : Int) (k : Kd) (w : World) (hR : RdN w w.heap.size A l) (hl : l.length ≤ 1000000) :
    Calls Try.prog 107 #[storeV A l.length c room, kidsV k] w fun e w' => e = .returned (.int .i64 (atV (at6 l k))) ∧ Below w.heap.size w w' := by
  have HH0 := Lib.hid (atHead_0 w A l.length c room k)
  obtain ⟨r, hr⟩ : ∃ r, r = at6 l k := ⟨_, rfl⟩
  rw [← hr]
  have hat0 : Hid (2 ≤ l.length → atFrom l k 2 (l.length - 2) = r) := fun _ => hr.symm
  have HR0 := Lib.hid hr
  have heql := eqlK
  unfold storeV kidsV
  clear hr
  go_enter Try.func107, Try.ntmps107
  go_wp2
  go_loopw [5] (fun i wr => ∃ j : Nat, 2 ≤ j ∧ (j ≤ l.length ∨ j = 2) ∧ i = .int .i64 j ∧ Hid (AtHead w wr A l.length c room k ∧ (j ≤ l.length → atFrom l k j (l.length - j) = r))) (fun i _ => l.length - (intOf i).toNat)
  case atStart => exact ⟨2, Nat.le_refl _, .inr rfl, rfl, HH0.out, hat0.out⟩
  case round =>
    obtain ⟨j, hj2, hj, rfl, HH⟩ := hrel
    have H := HH.out.1
    have s0 : wr.cell? ⟨w.heap.size, 0, none⟩ = some (.slice A l.length c) := by rw [Lib.cell_of_heap H.store]; rfl
    by_cases hlt : j < l.length
    · have hltz : (j : Int) < (l.length : Int) := by omega
      obtain ⟨b0, off, rfl, hbB, hcell⟩ := hR.at_ (by omega)
      obtain ⟨n0, n1, n2, n3, n4, n5⟩ := hcell j hlt
      obtain ⟨⟨lv, kk, pp⟩, hx⟩ : ∃ x, x = l.getD j deadN := ⟨_, rfl⟩
      rw [← hx] at n0 n1 n2 n3 n4 n5
      simp only at n0 n1 n2 n3 n4 n5
      have hstep : (if kk = k then some j else atFrom l k (j + 1) (l.length - (j + 1))) = r := by
        have h1 := HH.out.2 (by omega)
        rw [show l.length - j = (l.length - (j + 1)) + 1 by omega] at h1
        unfold atFrom at h1
        rw [← hx] at h1
        exact h1
      have HS := Lib.hid hstep
      have q1 := Qt.cell_in (Qt.keep H.bel n1)
      have q2 := Qt.cell_in (Qt.keep H.bel n2)
      have q3 := Qt.cell_in (Qt.keep H.bel n3)
      have q4 := Qt.cell_in (Qt.keep H.bel n4)
      have p0 := Qt.cell_in s0
      have k0 : wr.cell? ⟨w.heap.size + 1, 0, none⟩ = some (.int .i64 k.1) := by rw [Lib.cell_of_heap H.kids]; rfl
      have k1 : wr.cell? ⟨w.heap.size + 1, 1, none⟩ = some (.int .i64 k.2.1) := by rw [Lib.cell_of_heap H.kids]; rfl
      have k2 : wr.cell? ⟨w.heap.size + 1, 2, none⟩ = some (.int .i64 k.2.2.1) := by rw [Lib.cell_of_heap H.kids]; rfl
      have k3 : wr.cell? ⟨w.heap.size + 1, 3, none⟩ = some (.int .i64 k.2.2.2) := by rw [Lib.cell_of_heap H.kids]; rfl
      have p1 := Qt.cell_in k0
      have p2 := Qt.cell_in k1
      have p3 := Qt.cell_in k2
      have p4 := Qt.cell_in k3
      have he := fun W => heql kk k W
      clear hstep hx hcell n0 n1 n2 n3 n4 n5 k0 k1 k2 k3 heql HR0 hat0 HH0
      go_wp2_with fail
      refine Qt.below_all (by kernel_rfl) (by kernel_rfl) ?_
      repeat (go_big_quiet_step (fail))
      refine wpQuiet_nil ?_
      intro w1 hb1
      have H1 := H.below hb1
      clear p0 p1 p2 p3 p4 q1 q2 q3 q4 he s0 H
      by_cases hkk : kk = k
      · have hrr := HS.out
        rw [if_pos hkk] at hrr
        subst hrr
        have hbel := H1.bel
        clear HS HH
        go_wp2
        go_ret
        exact ⟨rfl, hbel⟩
      · have hrr := HS.out
        rw [if_neg hkk] at hrr
        have HN : Hid (AtHead w w1 (some ⟨b0, off, none⟩) l.length c room k ∧ (j + 1 ≤ l.length → atFrom l k (j + 1) (l.length - (j + 1)) = r)) := ⟨H1, fun _ => hrr⟩
        clear HS HH hrr H1
        go_wp2
        go_roundw
        case measure => simp [intOf]; omega
        case rel => exact ⟨j + 1, by omega, .inl (by omega), by go_num, HN.out⟩
    · have hltz : ¬ (j : Int) < (l.length : Int) := by omega
      have hrr : r = none := by
        rw [HR0.out]
        by_cases h2 : 2 ≤ l.length
        · have h1 := HH.out.2 (by omega)
          rw [show l.length - j = 0 by omega] at h1
          rw [← HR0.out, ← h1]
          rfl
        · unfold at6
          rw [show l.length - 2 = 0 by omega]
          rfl
      subst hrr
      have hbel := H.bel
      clear HH HR0 hat0 HH0 H
      go_wp2
      go_ret
      exact ⟨rfl, hbel⟩
end Go.Proofs.Ytikgnjcjbjafaaa
namespace Go.Proofs.Ytikgnjcjbjafaaa
set_option linter.unusedVariables false
set_option linter.unusedSimpArgs false
open Go.RowKit Go.Sort

/-- What is known within fits: the store, the node. -/
structure FitHead (w wr : World) (A : Option Addr) (n c : Nat) (room : Int) (x : Nd) : Prop where
  store : wr.heap[w.heap.size]? = some (.cells #[.slice A n c, .int .i64 room] 27 (0, 0))
  node : wr.heap[w.heap.size + 1]? = some (.cells #[.int .i64 x.1, .int .i64 x.2.1.1, .int .i64 x.2.1.2.1, .int .i64 x.2.1.2.2.1, .int .i64 x.2.1.2.2.2, .int .i64 x.2.2] 54 (0, 0))
  bel : Below w.heap.size w wr
section
variable {w wr w' : World} {A : Option Addr} {n c : Nat} {room : Int} {x : Nd}
theorem FitHead.below (h : FitHead w wr A n c room x) (hb : Below wr.heap.size wr w') : FitHead w w' A n c room x :=
  ⟨(hb.block _ (lt_heap6 h.store)).trans h.store, (hb.block _ (lt_heap6 h.node)).trans h.node, Qt.more h.bel h.bel.size hb⟩
theorem FitHead.s0 (h : FitHead w wr A n c room x) : wr.cell? ⟨w.heap.size, 0, none⟩ = some (.slice A n c) := by rw [Lib.cell_of_heap h.store]; rfl
theorem FitHead.s1 (h : FitHead w wr A n c room x) : wr.cell? ⟨w.heap.size, 1, none⟩ = some (.int .i64 room) := by rw [Lib.cell_of_heap h.store]; rfl
theorem FitHead.lv (h : FitHead w wr A n c room x) : wr.cell? ⟨w.heap.size + 1, 0, none⟩ = some (.int .i64 x.1) := by rw [Lib.cell_of_heap h.node]; rfl
theorem FitHead.pop (h : FitHead w wr A n c room x) : wr.cell? ⟨w.heap.size + 1, 5, none⟩ = some (.int .i64 x.2.2) := by rw [Lib.cell_of_heap h.node]; rfl
theorem FitHead.kid (h : FitHead w wr A n c room x) {i : Nat} (hi : i < 4) : wr.cell? ⟨w.heap.size + 1, 1 + i, none⟩ = some (.int .i64 (kd x.2.1 i)) := by
  rw [Lib.cell_of_heap h.node]
  match i, hi with
  | 0, _ => rfl
  | 1, _ => rfl
  | 2, _ => rfl
  | 3, _ => rfl
end
theorem fitHead_0 (w : World) (A : Option Addr) (n c : Nat) (room : Int) (x : Nd) : FitHead w ((w.alloc (.cells #[.slice A n c, .int .i64 room] 27)).alloc (.cells #[.int .i64 x.1, .int .i64 x.2.1.1, .int .i64 x.2.1.2.1, .int .i64 x.2.1.2.2.1, .int .i64 x.2.1.2.2.2, .int .i64 x.2.2] 54)) A n c room x := by
  have hb1 : Below w.heap.size w (w.alloc (.cells #[.slice A n c, .int .i64 room] 27)) := (Below.refl _ _).alloc (Nat.le_refl _) _
  have hs1 : (w.alloc (.cells #[.slice A n c, .int .i64 room] 27)).heap.size = w.heap.size + 1 := by simp
  refine ⟨?_, ?_, hb1.alloc (by omega) _⟩
  · rw [Lib.alloc_old _ _ _ (by omega)]
    exact heap_alloc_new w _
  · rw [← hs1]
    exact heap_alloc_new (w.alloc (.cells #[.slice A n c, .int .i64 room] 27)) _
theorem fits_no {l : List Nd} {n i : Nat} (hi : i < 4) (h : kidB l n ((l.getD n deadN).1 - 1) (kd (l.getD n deadN).2.1 i) = false) : fits6 l n = false := by
  rw [Bool.eq_false_iff]
  intro hf
  unfold fits6 at hf
  simp only [Bool.and_eq_true] at hf
  have := kidsB_iff.1 hf.1.1.1.1 i hi
  rw [h] at this
  cases this
/-- what is left to ask, where the kids are right -/
def lastB (l : List Nd) (n : Nat) : Bool := decide (1 ≤ (l.getD n deadN).1) && decide ((l.getD n deadN).1 ≤ 42) && decide ((l.getD n deadN).2.2 = popTo l (l.getD n deadN).2.1 4) && decide (at6 l (l.getD n deadN).2.1 = some n)
theorem fits_last {l : List Nd} {n : Nat} (h : ∀ i, i < 4 → kidB l n ((l.getD n deadN).1 - 1) (kd (l.getD n deadN).2.1 i) = true) : fits6 l n = lastB l n := by
  unfold fits6 lastB
  rw [kidsB_iff.2 h, Bool.true_and]

set_option maxHeartbeats 4000000 in
set_option maxRecDepth 100000 in
theorem refFits_any (A : Option Addr) (l : List Nd) (c : Nat) (room : Int) (n : Nat) (w : World) (hR : RdN w w.heap.size A l) (hl : l.length ≤ 1000000) (hn : n < l.length)
    (hb : ∀ i, i < n → 0 ≤ (l.getD i deadN).1 ∧ (l.getD i deadN).1 ≤ 42 ∧ 0 ≤ (l.getD i deadN).2.2 ∧ (l.getD i deadN).2.2 ≤ 4611686018427387903) (hw : -9223372036854775807 ≤ (l.getD n deadN).1 ∧ (l.getD n deadN).1 ≤ 9223372036854775807) :
    Calls Try.prog 73 #[storeV A l.length c room, .int .i64 n] w fun e w' => e = .returned (.bool (fits6 l n)) ∧ Below w.heap.size w w' := by
  have HH0 := Lib.hid (fitHead_0 w A l.length c room (l.getD n deadN))
  obtain ⟨b0, off, rfl, hbB, hcell⟩ := hR.at_ (by omega)
  obtain ⟨n0, n1, n2, n3, n4, n5⟩ := hcell n hn
  obtain ⟨r, hr⟩ : ∃ r, r = fits6 l n := ⟨_, rfl⟩
  have hno := fun i hi h => fits_no (l := l) (n := n) (i := i) hi h
  have hlast := fits_last (l := l) (n := n)
  rw [← hr] at hno hlast ⊢
  have hat := fun W hR => refAt_any (some ⟨b0, off, none⟩) l c room (l.getD n deadN).2.1 W hR hl
  have hlastB : lastB l n = (decide (1 ≤ (l.getD n deadN).1) && decide ((l.getD n deadN).1 ≤ 42) && decide ((l.getD n deadN).2.2 = popTo l (l.getD n deadN).2.1 4) && decide (at6 l (l.getD n deadN).2.1 = some n)) := rfl
  rw [hlastB] at hlast
  have hnn : n ≤ 1000000 := by omega
  have hnz : (n : Int) < (l.length : Int) := by omega
  generalize l.getD n deadN = x at *
  have HNO := Lib.hid hno
  have HLA := Lib.hid hlast
  have HB := Lib.hid hb
  have HC := Lib.hid hcell
  have HRR := Lib.hid hR
  unfold storeV
  clear hr hno hlast hlastB hb hcell hR
  go_enter Try.func73, Try.ntmps73
  go_wp2
  clear n0 n1 n2 n3 n4 n5
  go_loopw [6, 7] (fun p i wr => ∃ j : Nat, j ≤ 4 ∧ p = .int .i64 (popTo l x.2.1 j) ∧ i = .int .i64 j ∧ 0 ≤ popTo l x.2.1 j ∧ popTo l x.2.1 j ≤ 4611686018427387903 ∧ Hid (FitHead w wr (some ⟨b0, off, none⟩) l.length c room x ∧ ∀ q, q < j → kidB l n (x.1 - 1) (kd x.2.1 q) = true)) (fun _ i _ => 4 - (intOf i).toNat)
  case atStart => exact ⟨0, by omega, rfl, rfl, Int.le_refl _, (show (0 : Int) ≤ 4611686018427387903 by decide), HH0.out, fun q hq => absurd hq (Nat.not_lt_zero q)⟩
  case round =>
    obtain ⟨j, hj, rfl, rfl, hp0, hp1, HH⟩ := hrel
    have H := HH.out.1
    by_cases hlt : j < 4
    · have hltz : (j : Int) < 4 := by omega
      have kc := H.kid hlt
      have hsucc : popTo l x.2.1 (j + 1) = min (popTo l x.2.1 j + (ndAt l (kd x.2.1 j)).2.2) 4611686018427387903 := rfl
      have hno := HNO.out j hlt
      obtain ⟨K, hK⟩ : ∃ K, K = kd x.2.1 j := ⟨_, rfl⟩
      rw [← hK] at kc hsucc hno
      have e1 := Qt.cell_in kc
      by_cases hneg : K < 0
      · have hf := hno (by unfold kidB; rw [decide_eq_false (by omega)]; rfl)
        subst hf
        have hbel := H.bel
        clear hno HNO HLA HB HC HRR HH0 HH hsucc hK hat
        go_wp2_with fail
        refine Qt.below_all (by kernel_rfl) (by kernel_rfl) ?_
        repeat (go_big_quiet_step (fail))
        refine wpQuiet_nil ?_
        intro w1 hb1
        have hbb := Qt.more hbel hbel.size hb1
        clear e1 kc
        go_wp2
        go_ret
        exact ⟨rfl, hbb⟩
      · obtain ⟨m, rfl⟩ : ∃ m : Nat, K = (m : Int) := ⟨K.toNat, by omega⟩
        have hm0 : ¬ (m : Int) < 0 := hneg
        have hd0 : decide ((m : Int) < 0) = false := decide_eq_false hneg
        by_cases hge : (n : Int) ≤ (m : Int)
        · have hf := hno (by unfold kidB; rw [decide_eq_true (by omega), decide_eq_false (by omega)]; rfl)
          have hd1 : decide (n ≤ m) = true := decide_eq_true (by omega)
          clear hK
          subst hf
          have hbel := H.bel
          clear hno HNO HLA HB HC HRR HH0 HH hsucc hat
          go_wp2_with fail
          refine Qt.below_all (by kernel_rfl) (by kernel_rfl) ?_
          repeat (go_big_quiet_step (fail))
          refine wpQuiet_nil ?_
          intro w1 hb1
          have hbb := Qt.more hbel hbel.size hb1
          clear e1 kc
          go_wp2
          go_ret
          exact ⟨rfl, hbb⟩
        · have hml : m < n := by omega
          have hd1 : decide (n ≤ m) = false := decide_eq_false (by omega)
          have hmz : (m : Int) < (l.length : Int) := by omega
          obtain ⟨m0, m1, m2, m3, m4, m5⟩ := HC.out m (by omega)
          obtain ⟨b1, b2, b3, b4⟩ := HB.out m hml
          have hnd : ndAt l (m : Int) = l.getD m deadN := ndAt_nat l m
          rw [hnd] at hsucc
          have hkb : kidB l n (x.1 - 1) (m : Int) = decide ((l.getD m deadN).1 = x.1 - 1) := by
            unfold kidB
            rw [decide_eq_true (by omega), decide_eq_true (by omega), hnd]
            rfl
          rw [hkb] at hno
          have m0 := Qt.keep H.bel m0
          have m5 := Qt.keep H.bel m5
          generalize (l.getD m deadN).1 = lv at *
          generalize (l.getD m deadN).2.2 = pp at *
          have e2 := Qt.cell_in m0
          have e3 := Qt.cell_in H.s0
          have e4 := Qt.cell_in H.lv
          by_cases hlv : lv = x.1 - 1
          · subst hlv
            have hnew : ∀ q, q < j + 1 → kidB l n (x.1 - 1) (kd x.2.1 q) = true := by
              intro q hq
              rcases Nat.lt_or_ge q j with h1 | h1
              · exact HH.out.2 q h1
              · obtain rfl : q = j := by omega
                rw [← hK, hkb]
                exact decide_eq_true rfl
            have HNW := Lib.hid hnew
            have HKK := Lib.hid hK
            clear hno hK hkb m1 m2 m3 m4 hnd hnew HH
            go_wp2_with fail
            refine Qt.below_all (by kernel_rfl) (by kernel_rfl) ?_
            repeat (go_big_quiet_step (fail))
            refine wpQuiet_nil ?_
            intro w1 hb1
            have H1 := H.below hb1
            have m5 := Qt.keep hb1 m5
            clear e1 kc e2 e3 e4 m0 hd0 hd1 H hb1
            have kc := H1.kid hlt
            rw [← HKK.out] at kc
            have e1 := Qt.cell_in kc
            have e3 := Qt.cell_in H1.s0
            have e5 := Qt.cell_in m5
            go_wp2_with fail
            refine Qt.below_all (by kernel_rfl) (by kernel_rfl) ?_
            repeat (go_big_quiet_step (fail))
            refine wpQuiet_nil ?_
            intro w2 hb2
            have HN : Hid (FitHead w w2 (some ⟨b0, off, none⟩) l.length c room x ∧ ∀ q, q < j + 1 → kidB l n (x.1 - 1) (kd x.2.1 q) = true) := ⟨H1.below hb2, HNW.out⟩
            have hpn : 0 ≤ popTo l x.2.1 (j + 1) ∧ popTo l x.2.1 (j + 1) ≤ 4611686018427387903 := by rw [hsucc]; omega
            have HSC := Lib.hid hsucc
            clear e1 e3 e5 kc m5 H1 hb2 hsucc
            go_wp2
            go_roundw
            case measure => simp [intOf]; omega
            case rel => exact ⟨j + 1, by omega, congrArg (Value.int .i64) (by rw [HSC.out]; omega), by go_num, hpn.1, hpn.2, HN.out⟩
          · have hf := hno (decide_eq_false hlv)
            have hd2 : (lv == x.1 - 1) = false := beq_eq_false_iff_ne.2 hlv
            clear hK hkb m1 m2 m3 m4 m5 hnd
            subst hf
            have hbel := H.bel
            clear hno HNO HLA HB HC HRR HH0 HH hsucc hat
            go_wp2_with fail
            refine Qt.below_all (by kernel_rfl) (by kernel_rfl) ?_
            repeat (go_big_quiet_step (fail))
            refine wpQuiet_nil ?_
            intro w1 hb1
            have hbb := Qt.more hbel hbel.size hb1
            clear e1 kc e2 e3 e4 m0
            go_wp2
            go_ret
            exact ⟨rfl, hbb⟩
    · obtain rfl : j = 4 := by omega
      have hall : ∀ i, i < 4 → kidB l n (x.1 - 1) (kd x.2.1 i) = true := HH.out.2
      have hrr := HLA.out hall
      have c0 := H.kid (i := 0) (by decide)
      have c1 := H.kid (i := 1) (by decide)
      have c2 := H.kid (i := 2) (by decide)
      have c3 := H.kid (i := 3) (by decide)
      simp only [kd, Nat.add_zero] at c0 c1 c2 c3
      have l0 := H.lv
      have l5 := H.pop
      have s0 := H.s0
      have s1 := H.s1
      have hatt := hat wr ((HRR.out.below H.bel (Nat.le_refl _)).more H.bel.size)
      unfold storeV kidsV at hatt
      have hbel := H.bel
      clear HNO HLA HB HC HH0 HH hat hall HRR
      by_cases h1 : 1 ≤ x.1
      · by_cases h2 : x.1 ≤ 42
        · by_cases h3 : x.2.2 = popTo l x.2.1 4
          · rw [decide_eq_true h1, decide_eq_true h2, decide_eq_true h3] at hrr
            have hav : (atV (at6 l x.2.1) == (n : Int)) = r := by
              rw [hrr]
              cases ho : at6 l x.2.1 with
              | none => unfold atV; simp
              | some q =>
                unfold atV
                rw [Bool.eq_iff_iff]
                simp
                constructor <;> intro h <;> omega
            have h3b : (x.2.2 == popTo l x.2.1 4) = true := beq_iff_eq.2 h3
            clear hrr
            generalize atV (at6 l x.2.1) = av at *
            generalize popTo l x.2.1 4 = pt at *
            go_wp2_with fail
            refine hatt.mono ?_
            rintro e w3 ⟨rfl, hb3⟩
            have hbb := Qt.more hbel hbel.size hb3
            clear hatt hb3 c0 c1 c2 c3 l0 l5 s0 s1 H
            go_wp2
            go_ret
            exact ⟨by first | rfl | (simp [*]; done), hbb⟩
          · rw [decide_eq_true h1, decide_eq_true h2, decide_eq_false h3] at hrr
            have hf : r = false := hrr
            subst hf
            have h3b : (x.2.2 == popTo l x.2.1 4) = false := beq_eq_false_iff_ne.2 h3
            clear hatt hrr
            go_wp2
            go_ret
            exact ⟨by first | rfl | (simp [*]; done), hbel⟩
        · rw [decide_eq_true h1, decide_eq_false h2] at hrr
          have hf : r = false := hrr
          subst hf
          clear hatt hrr
          go_wp2
          go_ret
          exact ⟨by first | rfl | (simp [*]; done), hbel⟩
      · rw [decide_eq_false h1] at hrr
        have hf : r = false := hrr
        subst hf
        clear hatt hrr
        go_wp2
        go_ret
        exact ⟨by first | rfl | (simp [*]; done), hbel⟩
end Go.Proofs.Ytikgnjcjbjafaaa
namespace Go.Proofs.Ytikgnjcjbjafaaa
set_option linter.unusedVariables false
set_option linter.unusedSimpArgs false
open Go.RowKit Go.Sort

set_option maxHeartbeats 4000000 in
set_option maxRecDepth 100000 in
theorem refFits_low (A : Option Addr) (l : List Nd) (c : Nat) (room : Int) (n : Nat) (w : World) (hR : RdN w w.heap.size A l) (hl : l.length ≤ 1000000) (hn : n < l.length)
    (hb : ∀ i, i < n → 0 ≤ (l.getD i deadN).1 ∧ (l.getD i deadN).1 ≤ 42 ∧ 0 ≤ (l.getD i deadN).2.2 ∧ (l.getD i deadN).2.2 ≤ 4611686018427387903) (hw : (l.getD n deadN).1 = -9223372036854775808) :
    Calls Try.prog 73 #[storeV A l.length c room, .int .i64 n] w fun e w' => e = .returned (.bool (fits6 l n)) ∧ Below w.heap.size w w' := by
  have HH0 := Lib.hid (fitHead_0 w A l.length c room (l.getD n deadN))
  obtain ⟨b0, off, rfl, hbB, hcell⟩ := hR.at_ (by omega)
  obtain ⟨n0, n1, n2, n3, n4, n5⟩ := hcell n hn
  have hf : fits6 l n = false := by
    cases h : fits6 l n with
    | false => rfl
    | true =>
      have h1 := (fits_iff.1 h).lo
      omega
  rw [hf]
  have hnn : n ≤ 1000000 := by omega
  have hnz : (n : Int) < (l.length : Int) := by omega
  generalize l.getD n deadN = x at *
  obtain ⟨lv0, kk, pq⟩ := x
  simp only at hw n0 n1 n2 n3 n4 n5 HH0
  subst hw
  have HB := Lib.hid hb
  have HC := Lib.hid hcell
  unfold storeV
  clear hf hb hcell hR
  go_enter Try.func73, Try.ntmps73
  go_wp2
  clear n0 n1 n2 n3 n4 n5
  go_loopw [6, 7] (fun p i wr => p = .int .i64 0 ∧ i = .int .i64 0 ∧ Hid (FitHead w wr (some ⟨b0, off, none⟩) l.length c room (-9223372036854775808, kk, pq))) (fun _ i _ => 0)
  case atStart => exact ⟨rfl, rfl, HH0⟩
  case round =>
    obtain ⟨rfl, rfl, HH⟩ := hrel
    have H := HH.out
    have kc := H.kid (i := 0) (by decide)
    simp only [kd] at kc
    obtain ⟨K, hK⟩ : ∃ K, K = kk.1 := ⟨_, rfl⟩
    rw [← hK] at kc
    have e1 := Qt.cell_in kc
    have hbel := H.bel
    by_cases hneg : K < 0
    · clear HB HC HH0 HH hK H
      go_wp2_with fail
      refine Qt.below_all (by kernel_rfl) (by kernel_rfl) ?_
      repeat (go_big_quiet_step (fail))
      refine wpQuiet_nil ?_
      intro w1 hb1
      have hbb := Qt.more hbel hbel.size hb1
      clear e1 kc
      go_wp2
      go_ret
      exact ⟨rfl, hbb⟩
    · obtain ⟨m, rfl⟩ : ∃ m : Nat, K = (m : Int) := ⟨K.toNat, by omega⟩
      have hm0 : ¬ (m : Int) < 0 := hneg
      have hd0 : decide ((m : Int) < 0) = false := decide_eq_false hneg
      by_cases hge : (n : Int) ≤ (m : Int)
      · have hd1 : decide (n ≤ m) = true := decide_eq_true (by omega)
        clear HB HC HH0 HH hK H
        go_wp2_with fail
        refine Qt.below_all (by kernel_rfl) (by kernel_rfl) ?_
        repeat (go_big_quiet_step (fail))
        refine wpQuiet_nil ?_
        intro w1 hb1
        have hbb := Qt.more hbel hbel.size hb1
        clear e1 kc
        go_wp2
        go_ret
        exact ⟨rfl, hbb⟩
      · have hml : m < n := by omega
        have hd1 : decide (n ≤ m) = false := decide_eq_false (by omega)
        have hmz : (m : Int) < (l.length : Int) := by omega
        obtain ⟨m0, _, _, _, _, _⟩ := HC.out m (by omega)
        obtain ⟨b1, b2, b3, b4⟩ := HB.out m hml
        have m0 := Qt.keep H.bel m0
        generalize (l.getD m deadN).1 = lv at *
        have e2 := Qt.cell_in m0
        have e3 := Qt.cell_in H.s0
        have l0 := H.lv
        simp only at l0
        have e4 := Qt.cell_in l0
        have hd2 : (lv != wrap64 (-9223372036854775809)) = true := by
          rw [show wrap64 (-9223372036854775809) = 9223372036854775807 by first | decide +kernel | kernel_rfl]
          exact bne_iff_ne.2 (by omega)
        clear HB HC HH0 HH hK H
        go_wp2_with fail
        refine Qt.below_all (by kernel_rfl) (by kernel_rfl) ?_
        repeat (go_big_quiet_step (fail))
        refine wpQuiet_nil ?_
        intro w1 hb1
        have hbb := Qt.more hbel hbel.size hb1
        clear e1 kc e2 e3 e4 m0
        go_wp2
        go_ret
        exact ⟨rfl, hbb⟩
/-- whatever the level -/
theorem refFits_all (A : Option Addr) (l : List Nd) (c : Nat) (room : Int) (n : Nat) (w : World) (hR : RdN w w.heap.size A l) (hl : l.length ≤ 1000000) (hn : n < l.length)
    (hb : ∀ i, i < n → 0 ≤ (l.getD i deadN).1 ∧ (l.getD i deadN).1 ≤ 42 ∧ 0 ≤ (l.getD i deadN).2.2 ∧ (l.getD i deadN).2.2 ≤ 4611686018427387903) (hw : -9223372036854775808 ≤ (l.getD n deadN).1 ∧ (l.getD n deadN).1 ≤ 9223372036854775807) :
    Calls Try.prog 73 #[storeV A l.length c room, .int .i64 n] w fun e w' => e = .returned (.bool (fits6 l n)) ∧ Below w.heap.size w w' := by
  by_cases h : (l.getD n deadN).1 = -9223372036854775808
  · exact refFits_low A l c room n w hR hl hn hb h
  · exact refFits_any A l c room n w hR hl hn hb ⟨by omega, hw.2⟩
end Go.Proofs.Ytikgnjcjbjafaaa
