/-
  Texts that the claims of this seat share, part 2.
-/
import Derived.Lib.Hide
import Derived.Test.YtocepdhjkhhpfaaRows
import Derived.Test.YtocepdhjkhhpfaaB00
import Derived.WalkKit
import Derived.WalkSpells
import Derived.WalkLawsBesides
import Derived.WalkArith
import Derived.IntWalk
import Derived.Lib.AppendZerosOnto
import Derived.Lib.QuietBelow
import Derived.Laws.Rows
import Derived.Deep.RegionWith
set_option linter.unusedVariables false
set_option linter.unusedSimpArgs false
namespace Go.Proofs.Ytocepdhjkhhpfaa
set_option linter.unusedVariables false
set_option linter.unusedSimpArgs false

/-- four kids; a node: its level, its kids, its cells -/
abbrev Kd := Int × Int × Int × Int
abbrev Nd := Int × Kd × Int
def kd (k : Kd) : Nat → Int
  | 0 => k.1
  | 1 => k.2.1
  | 2 => k.2.2.1
  | _ => k.2.2.2
def deadN : Nd := (0, (0, 0, 0, 0), 0)
def liveN : Nd := (0, (0, 0, 0, 0), 1)
def ndAt (l : List Nd) (i : Int) : Nd := l.getD i.toNat deadN
/-- the cells of the first kids together -/
def popTo (l : List Nd) (k : Kd) : Nat → Int
  | 0 => 0
  | i + 1 => min (popTo l k i + (ndAt l (kd k i)).2.2) 4611686018427387903
def kidB (l : List Nd) (n lev k : Int) : Bool := decide (0 ≤ k) && decide (k < n) && decide ((ndAt l k).1 = lev)
/-- the place of the node with these kids, from place i on, so many places -/
def atFrom (l : List Nd) (k : Kd) : Nat → Nat → Option Nat
  | _, 0 => none
  | i, f + 1 => if (l.getD i deadN).2.1 = k then some i else atFrom l k (i + 1) f
def at6 (l : List Nd) (k : Kd) : Option Nat := atFrom l k 2 (l.length - 2)
def kidsB (l : List Nd) (n lev : Int) (k : Kd) : Bool := kidB l n lev k.1 && kidB l n lev k.2.1 && kidB l n lev k.2.2.1 && kidB l n lev k.2.2.2
def fits6 (l : List Nd) (n : Nat) : Bool :=
  kidsB l n ((l.getD n deadN).1 - 1) (l.getD n deadN).2.1 && decide (1 ≤ (l.getD n deadN).1) && decide ((l.getD n deadN).1 ≤ 42) && decide ((l.getD n deadN).2.2 = popTo l (l.getD n deadN).2.1 4) && decide (at6 l (l.getD n deadN).2.1 = some n)
theorem atFrom_some {l : List Nd} {k : Kd} : ∀ {f i n : Nat}, atFrom l k i f = some n → i ≤ n ∧ n < i + f ∧ (l.getD n deadN).2.1 = k ∧ ∀ j, i ≤ j → j < n → (l.getD j deadN).2.1 ≠ k := by
  intro f
  induction f with
  | zero => intro i n h; cases h
  | succ f ih =>
    intro i n h
    unfold atFrom at h
    by_cases he : (l.getD i deadN).2.1 = k
    · rw [if_pos he] at h
      injection h with h
      subst h
      exact ⟨Nat.le_refl _, by omega, he, fun j h1 h2 => by omega⟩
    · rw [if_neg he] at h
      obtain ⟨h1, h2, h3, h4⟩ := ih h
      refine ⟨by omega, by omega, h3, fun j hj1 hj2 => ?_⟩
      rcases Nat.eq_or_lt_of_le hj1 with rfl | h5
      · exact he
      · exact h4 j h5 hj2
theorem atFrom_none {l : List Nd} {k : Kd} : ∀ {f i : Nat}, atFrom l k i f = none ↔ ∀ j, i ≤ j → j < i + f → (l.getD j deadN).2.1 ≠ k := by
  intro f
  induction f with
  | zero => intro i; exact ⟨fun _ j h1 h2 => by omega, fun _ => rfl⟩
  | succ f ih =>
    intro i
    unfold atFrom
    by_cases he : (l.getD i deadN).2.1 = k
    · rw [if_pos he]
      exact ⟨fun h => (by cases h), fun h => absurd he (h i (Nat.le_refl _) (by omega))⟩
    · rw [if_neg he, ih]
      constructor
      · intro h j h1 h2
        rcases Nat.eq_or_lt_of_le h1 with rfl | h5
        · exact he
        · exact h j h5 (by omega)
      · intro h j h1 h2
        exact h j (by omega) (by omega)
theorem at_some {l : List Nd} {k : Kd} {n : Nat} (h : at6 l k = some n) : 2 ≤ n ∧ n < l.length ∧ (l.getD n deadN).2.1 = k ∧ ∀ j, 2 ≤ j → j < n → (l.getD j deadN).2.1 ≠ k := by
  obtain ⟨h1, h2, h3, h4⟩ := atFrom_some h
  exact ⟨h1, by omega, h3, h4⟩
theorem at_none {l : List Nd} {k : Kd} : at6 l k = none ↔ ∀ j, 2 ≤ j → j < l.length → (l.getD j deadN).2.1 ≠ k := by
  unfold at6
  rw [atFrom_none]
  exact ⟨fun h j h1 h2 => h j h1 (by omega), fun h j h1 h2 => h j h1 (by omega)⟩
theorem at_is {l : List Nd} {k : Kd} {n : Nat} (h2 : 2 ≤ n) (hn : n < l.length) (hk : (l.getD n deadN).2.1 = k) (hf : ∀ j, 2 ≤ j → j < n → (l.getD j deadN).2.1 ≠ k) : at6 l k = some n := by
  cases h : at6 l k with
  | none => exact absurd hk (at_none.1 h n h2 hn)
  | some m =>
    obtain ⟨m1, m2, m3, m4⟩ := at_some h
    rcases Nat.lt_trichotomy m n with h5 | h5 | h5
    · exact absurd m3 (hf m m1 h5)
    · rw [h5]
    · exact absurd hk (m4 n h2 h5)

/-- what a store that is right is -/
structure Right6 (l : List Nd) (room : Int) : Prop where
  room2 : 2 ≤ room
  room100 : room ≤ 100000
  two : 2 ≤ l.length
  len : (l.length : Int) ≤ room
  dead : l.getD 0 deadN = deadN
  live : l.getD 1 deadN = liveN
  fits : ∀ n, 2 ≤ n → n < l.length → fits6 l n = true
theorem kidB_iff {l : List Nd} {n lev k : Int} : kidB l n lev k = true ↔ 0 ≤ k ∧ k < n ∧ (ndAt l k).1 = lev := by unfold kidB; simp [and_assoc]
theorem kidsB_iff {l : List Nd} {n lev : Int} {k : Kd} : kidsB l n lev k = true ↔ ∀ i, i < 4 → kidB l n lev (kd k i) = true := by
  unfold kidsB
  simp only [Bool.and_eq_true]
  constructor
  · rintro ⟨⟨⟨h0, h1⟩, h2⟩, h3⟩ i hi
    match i, hi with
    | 0, _ => exact h0
    | 1, _ => exact h1
    | 2, _ => exact h2
    | 3, _ => exact h3
  · intro h
    exact ⟨⟨⟨h 0 (by decide), h 1 (by decide)⟩, h 2 (by decide)⟩, h 3 (by decide)⟩
/-- what a node that fits is -/
structure Fits6 (l : List Nd) (n : Nat) : Prop where
  kid : ∀ i, i < 4 → 0 ≤ kd (l.getD n deadN).2.1 i ∧ kd (l.getD n deadN).2.1 i < n ∧ (ndAt l (kd (l.getD n deadN).2.1 i)).1 = (l.getD n deadN).1 - 1
  lo : 1 ≤ (l.getD n deadN).1
  hi : (l.getD n deadN).1 ≤ 42
  pop : (l.getD n deadN).2.2 = popTo l (l.getD n deadN).2.1 4
  first : at6 l (l.getD n deadN).2.1 = some n
theorem fits_iff {l : List Nd} {n : Nat} : fits6 l n = true ↔ Fits6 l n := by
  unfold fits6
  simp only [Bool.and_eq_true, decide_eq_true_eq, kidsB_iff, kidB_iff]
  exact ⟨fun ⟨⟨⟨⟨h1, h2⟩, h3⟩, h4⟩, h5⟩ => ⟨h1, h2, h3, h4, h5⟩, fun h => ⟨⟨⟨⟨h.kid, h.lo⟩, h.hi⟩, h.pop⟩, h.first⟩⟩

/-! ### levels and cells are within bounds -/
/-! ### a node more -/
/-- What Put answers, of a store that is right. -/
def put6 (l : List Nd) (room : Int) (k : Kd) : List Nd × Int × Int :=
  if kidsB l l.length (ndAt l k.1).1 k = false then (l, 0, 1)
  else if 42 < (ndAt l k.1).1 + 1 then (l, 0, 1)
  else match at6 l k with
    | some n => (l, n, 0)
    | none => if room ≤ l.length then (l, 0, 40) else (l ++ [((ndAt l k.1).1 + 1, k, popTo l k 4)], l.length, 0)
end Go.Proofs.Ytocepdhjkhhpfaa
namespace Go.Proofs.Ytocepdhjkhhpfaa
set_option linter.unusedVariables false
set_option linter.unusedSimpArgs false

/-! ### rows -/
def row (s : Nat) (a : List UInt8) (y : Nat) : List UInt8 := (a.drop (y * s)).take s
/-! ### how many are alive -/
/-! ### what a node stands for -/
end Go.Proofs.Ytocepdhjkhhpfaa
namespace Go.Proofs.Ytocepdhjkhhpfaa
set_option linter.unusedVariables false
set_option linter.unusedSimpArgs false

/-- kids that may be put -/
structure Fit4 (l : List Nd) (k : Kd) : Prop where
  kid : ∀ i, i < 4 → 0 ≤ kd k i ∧ kd k i < l.length ∧ (ndAt l (kd k i)).1 = (ndAt l k.1).1
  low : (ndAt l k.1).1 + 1 ≤ 42
theorem Fit4.b {l : List Nd} {k : Kd} (h : Fit4 l k) : kidsB l l.length (ndAt l k.1).1 k = true := kidsB_iff.2 fun i hi => kidB_iff.2 (h.kid i hi)
/-- a store that has another one's nodes, and maybe more -/
structure Grows (l m : List Nd) : Prop where
  len : l.length ≤ m.length
  same : ∀ i, i < l.length → m.getD i deadN = l.getD i deadN
theorem Grows.refl (l : List Nd) : Grows l l := ⟨Nat.le_refl _, fun _ _ => rfl⟩
theorem Grows.trans {a b c : List Nd} (h : Grows a b) (k : Grows b c) : Grows a c := ⟨Nat.le_trans h.len k.len, fun i hi => (k.same i (Nat.lt_of_lt_of_le hi h.len)).trans (h.same i hi)⟩
theorem Grows.nd {l m : List Nd} (h : Grows l m) {i : Int} (h0 : 0 ≤ i) (h1 : i < l.length) : ndAt m i = ndAt l i := h.same _ (by omega)
/-- a store where a node stands has it at its place -/
theorem Grows.at_ {l m : List Nd} (h : Grows l m) {k : Kd} {n : Nat} (ha : at6 l k = some n) : at6 m k = some n := by
  obtain ⟨a1, a2, a3, a4⟩ := at_some ha
  exact at_is a1 (Nat.lt_of_lt_of_le a2 h.len) (by rw [h.same n a2]; exact a3) (fun j hj1 hj2 => by rw [h.same j (by omega)]; exact a4 j hj1 hj2)
/-- what was put -/
structure Put6 (l m : List Nd) (room : Int) (k : Kd) (n : Nat) : Prop where
  grows : Grows l m
  right : Right6 m room
  at_ : at6 m k = some n
  more : m.length ≤ l.length + 1
/-! ### a node's level is below its place -/
/-! ### the laws' raw stores -/
abbrev Raw5 := Int × Int × Int × Int × Int
end Go.Proofs.Ytocepdhjkhhpfaa
namespace Go.Proofs.Ytocepdhjkhhpfaa
set_option linter.unusedVariables false
set_option linter.unusedSimpArgs false

/-- the node that was put -/
theorem Put6.node {l m : List Nd} {room : Int} {k : Kd} {n : Nat} (h : Put6 l m room k n) (hf : Fit4 l k) : 2 ≤ n ∧ n < m.length ∧ (m.getD n deadN).2.1 = k ∧ (m.getD n deadN).1 = (ndAt l k.1).1 + 1 ∧ (m.getD n deadN).2.2 = popTo l k 4 := by
  obtain ⟨a1, a2, a3, _⟩ := at_some h.at_
  have hfn := fits_iff.1 (h.right.fits n a1 a2)
  have hk0 := hfn.kid 0 (by decide)
  rw [a3] at hk0
  have e0 : ndAt m k.1 = ndAt l k.1 := h.grows.nd (hf.kid 0 (by decide)).1 (hf.kid 0 (by decide)).2.1
  have ep : ∀ i, i ≤ 4 → popTo m k i = popTo l k i := by
    intro i
    induction i with
    | zero => intro _; rfl
    | succ i ih =>
      intro hi
      unfold popTo
      rw [ih (by omega), h.grows.nd (hf.kid i (by omega)).1 (hf.kid i (by omega)).2.1]
  refine ⟨a1, a2, a3, ?_, ?_⟩
  · have : (ndAt m k.1).1 = (m.getD n deadN).1 - 1 := hk0.2.2
    rw [e0] at this
    omega
  · rw [hfn.pop, a3, ep 4 (Nat.le_refl _)]

/-! ### nodes in which all is dead -/
end Go.Proofs.Ytocepdhjkhhpfaa
namespace Go.Proofs.Ytocepdhjkhhpfaa
set_option linter.unusedVariables false
set_option linter.unusedSimpArgs false

/-! ### where what is kept goes -/
def cnt (K : Nat → Bool) (n : Nat) : Nat := ((List.range n).filter K).length
section
variable {l : List Nd} {room : Int} {R : List Int} {K : Nat → Bool}
end
end Go.Proofs.Ytocepdhjkhhpfaa
namespace Go.Proofs.Ytocepdhjkhhpfaa
set_option linter.unusedVariables false
set_option linter.unusedSimpArgs false
open Go.RowKit Go.Sort

/-- a node lies here -/
def NdAt (w : World) (b o : Nat) (x : Nd) : Prop := w.cell? ⟨b, o, none⟩ = some (.int .i64 x.1) ∧ w.cell? ⟨b, o + 1, none⟩ = some (.int .i64 x.2.1.1) ∧ w.cell? ⟨b, o + 2, none⟩ = some (.int .i64 x.2.1.2.1) ∧ w.cell? ⟨b, o + 3, none⟩ = some (.int .i64 x.2.1.2.2.1) ∧ w.cell? ⟨b, o + 4, none⟩ = some (.int .i64 x.2.1.2.2.2) ∧ w.cell? ⟨b, o + 5, none⟩ = some (.int .i64 x.2.2)
/-- The slice at A of l.length nodes reads as l, below block B. -/
def RdN (w : World) (B : Nat) (A : Option Addr) (l : List Nd) : Prop :=
  ∀ j, j < l.length → ∃ b off, A = some ⟨b, off, none⟩ ∧ b < B ∧ NdAt w b (off + j * 6) (l.getD j deadN)
theorem NdAt.below {w w' : World} {b o B : Nat} {x : Nd} (h : NdAt w b o x) (hb : Below B w w') (hx : b < B) : NdAt w' b o x := by
  obtain ⟨h0, h1, h2, h3, h4, h5⟩ := h
  exact ⟨(hb.cell (p := ⟨b, o, none⟩) hx).trans h0, (hb.cell (p := ⟨b, o + 1, none⟩) hx).trans h1, (hb.cell (p := ⟨b, o + 2, none⟩) hx).trans h2, (hb.cell (p := ⟨b, o + 3, none⟩) hx).trans h3, (hb.cell (p := ⟨b, o + 4, none⟩) hx).trans h4, (hb.cell (p := ⟨b, o + 5, none⟩) hx).trans h5⟩
theorem RdN.below {w w' : World} {B B' : Nat} {A : Option Addr} {l : List Nd} (h : RdN w B A l) (hb : Below B' w w') (hB : B ≤ B') : RdN w' B A l := fun j hj => by
  obtain ⟨b, off, e, hlt, h0⟩ := h j hj
  exact ⟨b, off, e, hlt, h0.below hb (Nat.lt_of_lt_of_le hlt hB)⟩
theorem RdN.more {w : World} {B B' : Nat} {A : Option Addr} {l : List Nd} (h : RdN w B A l) (hB : B ≤ B') : RdN w B' A l := fun j hj => by
  obtain ⟨b, off, e, hlt, h0⟩ := h j hj
  exact ⟨b, off, e, by omega, h0⟩
theorem RdN.nil (w : World) (B : Nat) (A : Option Addr) : RdN w B A [] := fun j hj => absurd hj (Nat.not_lt_zero j)
theorem RdN.at_ {w : World} {B : Nat} {A : Option Addr} {l : List Nd} (h : RdN w B A l) (hn : 0 < l.length) :
    ∃ b off, A = some ⟨b, off, none⟩ ∧ b < B ∧ ∀ j, j < l.length → NdAt w b (off + j * 6) (l.getD j deadN) := by
  obtain ⟨b, off, e, hlt, _⟩ := h 0 hn
  refine ⟨b, off, e, hlt, fun j hj => ?_⟩
  obtain ⟨b', off', e', _, h0⟩ := h j hj
  rw [e] at e'
  injection e' with e'
  injection e' with e1 e2
  subst e1 e2
  exact h0
def NowN (w : World) (A : Option Addr) (l : List Nd) : Prop := RdN w w.heap.size A l
theorem NowN.below {w w' : World} {A : Option Addr} {l : List Nd} (h : NowN w A l) (hb : Below w.heap.size w w') : NowN w' A l := (RdN.below h hb (Nat.le_refl _)).more hb.size
/-- It reads as its list. -/
def ReadsN (w : World) (v : Value) (l : List Nd) : Prop := ∃ A c, v = .slice A l.length c ∧ l.length ≤ c ∧ NowN w A l
theorem ReadsN.below {w w' : World} {v : Value} {l : List Nd} (h : ReadsN w v l) (hb : Below w.heap.size w w') : ReadsN w' v l := by
  obtain ⟨A, c, e, hc, hR⟩ := h
  exact ⟨A, c, e, hc, hR.below hb⟩

end Go.Proofs.Ytocepdhjkhhpfaa
namespace Go.Proofs.Ytocepdhjkhhpfaa
set_option linter.unusedVariables false
set_option linter.unusedSimpArgs false
open Go.RowKit Go.Sort

def kidsV (k : Kd) : Value := .agg #[.int .i64 k.1, .int .i64 k.2.1, .int .i64 k.2.2.1, .int .i64 k.2.2.2]
theorem kd_eq (x y : Kd) : (x.1 == y.1 && (x.2.1 == y.2.1 && (x.2.2.1 == y.2.2.1 && x.2.2.2 == y.2.2.2))) = decide (x = y) := by
  obtain ⟨a, b, c, d⟩ := x
  obtain ⟨a', b', c', d'⟩ := y
  rw [Bool.eq_iff_iff]
  simp
theorem eqK_at (n : Nat) (a b c d a' b' c' d' : Int) (w : World) : (Op.equalIn (n + 1 + 1) 53 (.agg #[.int .i64 a, .int .i64 b, .int .i64 c, .int .i64 d]) (.agg #[.int .i64 a', .int .i64 b', .int .i64 c', .int .i64 d'])).run Try.prog w = .ok (a == a' && (b == b' && (c == c' && d == d'))) w := by
  have u3 := Try.underlying3
  have a3 := Try.isAgg3
  have z3 := Try.sizeOf3
  rw [Op.equalIn]
  simp only [Sem.run_bind, run_underlying Try.underlying53, Result.andThen_ok]
  simp only [Std.Legacy.Range.forIn_eq_forIn_range', Std.Legacy.Range.size, Nat.sub_zero, Nat.add_sub_cancel, Nat.div_one, List.range'_succ, List.range'_zero, List.forIn_cons, List.forIn_nil]
  go_simp
  by_cases h1 : a = a' <;> by_cases h2 : b = b' <;> by_cases h3 : c = c' <;> by_cases h4 : d = d' <;> simp [h1, h2, h3, h4]
end Go.Proofs.Ytocepdhjkhhpfaa
namespace Go.Proofs.Ytocepdhjkhhpfaa
set_option linter.unusedVariables false
set_option linter.unusedSimpArgs false
open Go.RowKit Go.Sort

def rd5 (r : Raw5) : Nat → Int
  | 0 => r.1
  | 1 => r.2.1
  | 2 => r.2.2.1
  | 3 => r.2.2.2.1
  | _ => r.2.2.2.2
def Fine5 (r : Raw5) : Prop := I64 r.1 ∧ I64 r.2.1 ∧ I64 r.2.2.1 ∧ I64 r.2.2.2.1 ∧ I64 r.2.2.2.2
theorem Fine5.at_ {r : Raw5} (h : Fine5 r) : ∀ i, I64 (rd5 r i) := by
  intro i
  match i with
  | 0 => exact h.1
  | 1 => exact h.2.1
  | 2 => exact h.2.2.1
  | 3 => exact h.2.2.2.1
  | n + 4 => exact h.2.2.2.2
section
variable {w wr w' : World} {A : Option Addr} {n c : Nat} {room : Int} {r : Raw5}
end
end Go.Proofs.Ytocepdhjkhhpfaa
