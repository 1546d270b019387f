/-
  Texts that the claims of this seat share, part 11.
-/
import Derived.Test.YtikgnjcjbjafaaaB10
import Derived.Test.YtikgnjcjbjafaaaB08
set_option linter.unusedVariables false
set_option linter.unusedSimpArgs false
namespace Go.Proofs.Ytikgnjcjbjafaaa
set_option maxRecDepth 100000
set_option linter.unusedVariables false
set_option linter.unusedSimpArgs false
open Go.RowKit Go.Sort

/-- What is known within a call that makes a node in a store: the store, what is to be told. -/
structure WrAt (w wr : World) (A : Option Addr) (n c : Nat) (room : Int) (p : Nat) : Prop where
  store : wr.heap[w.heap.size]? = some (.cells #[.slice A n c, .int .i64 room] 27 (0, 0))
  res : wr.heap[p]? = some (.cells #[.slice none 0 0, .int .i64 0] 27 (0, 0))
  bel : Below w.heap.size w wr
  hp : w.heap.size ≤ p
section
variable {w wr w' : World} {A : Option Addr} {n c : Nat} {room : Int} {p : Nat}
theorem WrAt.below (h : WrAt w wr A n c room p) (hb : Below wr.heap.size wr w') : WrAt w w' A n c room p :=
  ⟨(hb.block _ (lt_heap6 h.store)).trans h.store, (hb.block _ (lt_heap6 h.res)).trans h.res, Qt.more h.bel h.bel.size hb, h.hp⟩
theorem WrAt.s0 (h : WrAt w wr A n c room p) : wr.cell? ⟨w.heap.size, 0, none⟩ = some (.slice A n c) := by rw [Lib.cell_of_heap h.store]; rfl
theorem WrAt.s1 (h : WrAt w wr A n c room p) : wr.cell? ⟨w.heap.size, 1, none⟩ = some (.int .i64 room) := by rw [Lib.cell_of_heap h.store]; rfl
theorem WrAt.r0 (h : WrAt w wr A n c room p) : wr.cell? ⟨p, 0, none⟩ = some (.slice none 0 0) := by rw [Lib.cell_of_heap h.res]; rfl
theorem WrAt.r1 (h : WrAt w wr A n c room p) : wr.cell? ⟨p, 1, none⟩ = some (.int .i64 0) := by rw [Lib.cell_of_heap h.res]; rfl
theorem WrAt.free (h : WrAt w wr A n c room p) (j : Nat) : wr.frozen? ⟨p, j, none⟩ = false := Lib.frozen_of_heap h.res j
theorem WrAt.told (h : WrAt w wr A n c room p) (u v : Value) : ((wr.setCell ⟨p, 0, none⟩ u).setCell ⟨p, 1, none⟩ v).heap[p]? = some (.cells #[u, v] 27 (0, 0)) ∧ Below w.heap.size w ((wr.setCell ⟨p, 0, none⟩ u).setCell ⟨p, 1, none⟩ v) := by
  have hr := h.res
  refine ⟨?_, (h.bel.setCell (by show _ ≤ p; exact h.hp) _).setCell (by show _ ≤ p; exact h.hp) _⟩
  simp [World.setCell, Array.getElem?_modify, hr]
end
theorem heap_new {W : World} {o : Obj} {b : Nat} (h : W.heap.size = b) : (W.alloc o).heap[b]? = some o := by rw [← h]; exact heap_alloc_new W o
theorem heap_old {W : World} {o o' : Obj} {b : Nat} (h : W.heap[b]? = some o') : (W.alloc o).heap[b]? = some o' := (Lib.alloc_old _ _ _ (lt_heap6 h)).trans h

/-- may a place be that of a node whose square has a middle -/
def hasB (l : List Nd) (n : Int) : Bool := decide (0 ≤ n ∧ n < l.length ∧ 0 < (ndAt l n).1)
/-- what Make answers -/
def make7 (l : List Nd) (room : Int) (S : List (Int × Int)) (lev : Int) : List Nd × Int × Int := grown6 l room (makeZ room l S lev)
/-- what Maker.Set answers -/
def setZ (room : Int) (l : List Nd) (n : Int) (c : Int × Int) (a : Bool) : List Nd × Int × Int :=
  if hasB l n = true then (if insideB ((ndAt l n).1.toNat - 1) c = true then setC room (ndAt l n).1.toNat l n.toNat (inwardC ((ndAt l n).1.toNat - 1) c) a else (l, 0, 2)) else (l, 0, 1)
/-- a maker and a cell in boxes -/
structure McAt (n0 : Nat) (w W : World) (g b : Nat) (l : List Nd) (room : Int) (c : Int × Int) : Prop where
  ix : Ix n0 W g b l room
  mkr : MR W w.heap.size g
  cl : ClB W (w.heap.size + 1) c
  bel : BelK n0 w W
theorem McAt.below {n0 : Nat} {w W W' : World} {g b : Nat} {l : List Nd} {room : Int} {c : Int × Int} (h : McAt n0 w W g b l room c) (hn : n0 ≤ w.heap.size) (hb : Below W.heap.size W W') : McAt n0 w W' g b l room c :=
  ⟨h.ix.below hb, h.mkr.below hb, h.cl.below hb, h.bel.more hb hn⟩
theorem ix_rd {n0 : Nat} {w : World} {g b : Nat} {l : List Nd} {room : Int} (h : Ix n0 w g b l room) (h2 : 2 ≤ l.length) : ∃ q cap, w.cell? ⟨g, 0, none⟩ = some (.slice (some ⟨q, 0, none⟩) l.length cap) ∧ w.cell? ⟨g, 1, none⟩ = some (.int .i64 room) ∧ RdN w w.heap.size (some ⟨q, 0, none⟩) l ∧ l.length ≤ cap ∧ ∀ j, j < l.length → NdAt w q (j * 6) (l.getD j deadN) := by
  obtain ⟨v, D, h⟩ := h
  obtain ⟨q, cap, rfl, hcap⟩ := ownN_val h.own (by omega)
  obtain ⟨A, c', e, _, hRd⟩ := h.own.reads
  injection e with e1 e2 e3
  subst e1
  refine ⟨q, cap, h.row.c0, h.row.c1, hRd, hcap, fun j hj => ?_⟩
  have := ownN_nd h.own j hj
  rwa [Nat.zero_add] at this
end Go.Proofs.Ytikgnjcjbjafaaa
namespace Go.Proofs.Ytikgnjcjbjafaaa
set_option maxRecDepth 100000
set_option linter.unusedVariables false
set_option linter.unusedSimpArgs false
open Go.RowKit Go.Sort

/-- what Set answers -/
def set7 (l : List Nd) (room n : Int) (c : Int × Int) (a : Bool) : List Nd × Int × Int := grown6 l room (setZ room l n c a)
/-! ### Grow -/
/-- what Maker.Grow answers -/
def growZ (room : Int) (l : List Nd) (n : Int) : List Nd × Int × Int :=
  if (hasB l n && decide (¬ (ndAt l n).1 = 42)) = true then growC room l n.toNat ((ndAt l n).1.toNat - 1) else (l, 0, 1)
/-- what is in boxes while a node is grown: a dead node's place, the node -/
structure GcAt (W : World) (db xb mb g : Nat) (d lev : Int) (k : Kd) (pop : Int) : Prop where
  dead : LR W db d
  nd : NR W xb lev k pop
  mkr : MR W mb g
theorem GcAt.kp {W W' : World} {db xb mb g : Nat} {d lev : Int} {k : Kd} {pop : Int} (h : GcAt W db xb mb g d lev k pop) (hk : Kp W W') : GcAt W' db xb mb g d lev k pop := ⟨h.dead.kp hk, h.nd.kp hk, h.mkr.kp hk⟩
theorem GcAt.below {W W' : World} {db xb mb g : Nat} {d lev : Int} {k : Kd} {pop : Int} (h : GcAt W db xb mb g d lev k pop) (hb : Below W.heap.size W W') : GcAt W' db xb mb g d lev k pop := ⟨h.dead.below hb, h.nd.below hb, h.mkr.below hb⟩
end Go.Proofs.Ytikgnjcjbjafaaa
namespace Go.Proofs.Ytikgnjcjbjafaaa
set_option maxRecDepth 100000
set_option linter.unusedVariables false
set_option linter.unusedSimpArgs false
open Go.RowKit Go.Sort

/-- a maker in a box -/
structure MiAt (n0 : Nat) (w W : World) (g b : Nat) (l : List Nd) (room : Int) : Prop where
  ix : Ix n0 W g b l room
  mkr : MR W w.heap.size g
  bel : BelK n0 w W
theorem MiAt.below {n0 : Nat} {w W W' : World} {g b : Nat} {l : List Nd} {room : Int} (h : MiAt n0 w W g b l room) (hn : n0 ≤ w.heap.size) (hb : Below W.heap.size W W') : MiAt n0 w W' g b l room :=
  ⟨h.ix.below hb, h.mkr.below hb, h.bel.more hb hn⟩
theorem MiAt.kp {n0 : Nat} {w W W' : World} {g b : Nat} {l l' : List Nd} {room : Int} (h : MiAt n0 w W g b l room) (hi : Ix n0 W' g b l' room) (hb : BelK n0 W W') : MiAt n0 w W' g b l' room := ⟨hi, h.mkr.kp hb.kp, h.bel.trans hb⟩
/-- what Grow answers -/
def grow7 (l : List Nd) (room n : Int) : List Nd × Int × Int := grown6 l room (growZ room l n)
end Go.Proofs.Ytikgnjcjbjafaaa
namespace Go.Proofs.Ytikgnjcjbjafaaa
set_option maxRecDepth 100000
set_option linter.unusedVariables false
set_option linter.unusedSimpArgs false
open Go.RowKit Go.Sort

/-- what is in boxes within Get: the store, the cell -/
structure GbAt (w wr : World) (A : Option Addr) (n c : Nat) (room : Int) (k : Int × Int) : Prop where
  store : wr.heap[w.heap.size]? = some (.cells #[.slice A n c, .int .i64 room] 27 (0, 0))
  cl : ClB wr (w.heap.size + 1) k
  bel : Below w.heap.size w wr
section
variable {w wr w' : World} {A : Option Addr} {n c : Nat} {room : Int} {k : Int × Int}
theorem GbAt.below (h : GbAt w wr A n c room k) (hb : Below wr.heap.size wr w') : GbAt w w' A n c room k := ⟨(hb.block _ (lt_heap6 h.store)).trans h.store, h.cl.below hb, Qt.more h.bel h.bel.size hb⟩
theorem GbAt.s0 (h : GbAt w wr A n c room k) : wr.cell? ⟨w.heap.size, 0, none⟩ = some (.slice A n c) := by rw [Lib.cell_of_heap h.store]; rfl
theorem GbAt.s1 (h : GbAt w wr A n c room k) : wr.cell? ⟨w.heap.size, 1, none⟩ = some (.int .i64 room) := by rw [Lib.cell_of_heap h.store]; rfl
/-- the cell is told anew -/
theorem GbAt.cell (h : GbAt w wr A n c room k) (x y : Int) : GbAt w ((wr.setCell ⟨w.heap.size + 1, 0, none⟩ (.int .i64 x)).setCell ⟨w.heap.size + 1, 1, none⟩ (.int .i64 y)) A n c room (x, y) := by
  have hr := h.cl.row
  refine ⟨?_, ⟨?_⟩, (h.bel.setCell (by show _ ≤ _ + 1; omega) _).setCell (by show _ ≤ _ + 1; omega) _⟩
  · rw [Below.heap_setCell _ _ _ _ (by show w.heap.size ≠ w.heap.size + 1; omega), Below.heap_setCell _ _ _ _ (by show w.heap.size ≠ w.heap.size + 1; omega)]; exact h.store
  · simp [World.setCell, Array.getElem?_modify, hr]
end
theorem NR.all {w : World} {b : Nat} {lev : Int} {k : Kd} {pop : Int} (h : NR w b lev k pop) : NdAt w b 0 (lev, k, pop) := by
  refine ⟨?_, ?_, ?_, ?_, ?_, ?_⟩ <;> (rw [Lib.cell_of_heap h]; rfl)
/-- a node is told anew -/
theorem NR.told {w : World} {b : Nat} {lev : Int} {k : Kd} {pop : Int} (h : NR w b lev k pop) (x : Nd) :
    NR ((((((w.setCell ⟨b, 0, none⟩ (.int .i64 x.1)).setCell ⟨b, 1, none⟩ (.int .i64 x.2.1.1)).setCell ⟨b, 2, none⟩ (.int .i64 x.2.1.2.1)).setCell ⟨b, 3, none⟩ (.int .i64 x.2.1.2.2.1)).setCell ⟨b, 4, none⟩ (.int .i64 x.2.1.2.2.2)).setCell ⟨b, 5, none⟩ (.int .i64 x.2.2)) b x.1 x.2.1 x.2.2 := by
  unfold NR at h ⊢
  simp [World.setCell, Array.getElem?_modify, h]
end Go.Proofs.Ytikgnjcjbjafaaa
namespace Go.Proofs.Ytikgnjcjbjafaaa
set_option maxRecDepth 100000
set_option linter.unusedVariables false
set_option linter.unusedSimpArgs false

/-- where a quarter's corner is -/
def corner7 (k : Nat) (p : Int × Int) (i : Nat) : Int × Int := (p.1 + ((i % 2 : Nat) : Int) * 2 ^ k, p.2 + ((i / 2 : Nat) : Int) * 2 ^ k)
/-- the cells of a node, whose square's corner is known -/
def flat (l : List Nd) : Nat → Nat → Int × Int → List (Int × Int)
  | 0, n, p => if n = 1 then [p] else []
  | k + 1, n, p => flat l k (kidN l n 0) (corner7 k p 0) ++ flat l k (kidN l n 1) (corner7 k p 1) ++ flat l k (kidN l n 2) (corner7 k p 2) ++ flat l k (kidN l n 3) (corner7 k p 3)
/-- a node's cells are counted -/
theorem flat_pop {l : List Nd} {room : Int} (hr : Right6 l room) : ∀ (k n : Nat) (p : Int × Int), Is l k n → (l.getD n deadN).2.2 = min ((flat l k n p).length : Int) 4611686018427387903
  | 0, n, p, h => by
    have := h.zero hr
    rcases (by omega : n = 0 ∨ n = 1) with rfl | rfl
    · rw [hr.dead]; rfl
    · rw [hr.live]; rfl
  | k + 1, n, p, h => by
    have hf := fits_iff.1 (hr.fits n (h.two hr) h.lt)
    have hk : ∀ i, i < 4 → (ndAt l (kd (l.getD n deadN).2.1 i)).2.2 = min ((flat l k (kidN l n i) (corner7 k p i)).length : Int) 4611686018427387903 := fun i hi => by
      rw [kid_cast hr h hi, ndAt_nat]
      exact flat_pop hr k _ _ (kid_is hr h hi)
    rw [hf.pop, popTo_sum (fun i hi => by rw [hk i hi]; omega)]
    have h0 := hk 0 (by decide)
    have h1 := hk 1 (by decide)
    have h2 := hk 2 (by decide)
    have h3 := hk 3 (by decide)
    simp only [kd] at h0 h1 h2 h3
    rw [h0, h1, h2, h3]
    show _ = min (((flat l k (kidN l n 0) (corner7 k p 0) ++ flat l k (kidN l n 1) (corner7 k p 1) ++ flat l k (kidN l n 2) (corner7 k p 2) ++ flat l k (kidN l n 3) (corner7 k p 3)).length : Nat) : Int) _
    simp only [List.length_append]
    omega
/-- a square from a corner on -/
def InAt7 (k : Nat) (p c : Int × Int) : Prop := p.1 ≤ c.1 ∧ c.1 < p.1 + 2 ^ k ∧ p.2 ≤ c.2 ∧ c.2 < p.2 + 2 ^ k
theorem quarter_of {k : Nat} {p c : Int × Int} (h : InAt7 (k + 1) p c) : InAt7 k (corner7 k p (q7 k (c.1 - p.1, c.2 - p.2))) c ∧ ∀ i, i < 4 → InAt7 k (corner7 k p i) c → i = q7 k (c.1 - p.1, c.2 - p.2) := by
  obtain ⟨h1, h2, h3, h4⟩ := h
  have e : (2 : Int) ^ (k + 1) = 2 ^ k * 2 := Int.pow_succ ..
  have hp := pow_pos7 k
  rw [e] at h2 h4
  have key : ∀ x : Int, 0 ≤ x → x < 2 ^ k * 2 → (x / 2 ^ k = 0 ∧ x < 2 ^ k) ∨ (x / 2 ^ k = 1 ∧ 2 ^ k ≤ x) := fun x hx0 hx1 => by
    by_cases hx : x < 2 ^ k
    · exact .inl ⟨Int.ediv_eq_zero_of_lt hx0 hx, hx⟩
    · refine .inr ⟨?_, by omega⟩
      have : x = (x - 2 ^ k) + 2 ^ k * 1 := by omega
      rw [this, Int.add_mul_ediv_left _ _ (by omega), Int.ediv_eq_zero_of_lt (by omega) (by omega)]
      omega
  have ha := key (c.1 - p.1) (by omega) (by omega)
  have hb := key (c.2 - p.2) (by omega) (by omega)
  have hq := q7_cast k (c.1 - p.1, c.2 - p.2)
  have hq4 := q7_lt k (c.1 - p.1, c.2 - p.2)
  simp only at hq
  generalize q7 k (c.1 - p.1, c.2 - p.2) = q at *
  generalize (c.1 - p.1) / 2 ^ k = a at *
  generalize (c.2 - p.2) / 2 ^ k = b at *
  have hcor : ∀ i, i < 4 → corner7 k p i = (p.1 + (if i = 1 ∨ i = 3 then 2 ^ k else 0), p.2 + (if i = 2 ∨ i = 3 then 2 ^ k else 0)) := fun i hi => by
    unfold corner7
    rcases (by omega : i = 0 ∨ i = 1 ∨ i = 2 ∨ i = 3) with rfl | rfl | rfl | rfl <;> simp
  generalize (2 : Int) ^ k = s at *
  constructor
  · unfold InAt7
    rw [hcor q hq4]
    rcases (by omega : q = 0 ∨ q = 1 ∨ q = 2 ∨ q = 3) with rfl | rfl | rfl | rfl <;> simp <;> omega
  · intro i hi hin
    unfold InAt7 at hin
    rw [hcor i hi] at hin
    rcases (by omega : i = 0 ∨ i = 1 ∨ i = 2 ∨ i = 3) with rfl | rfl | rfl | rfl <;> simp at hin <;> omega
theorem corner_in {k : Nat} {p c : Int × Int} {i : Nat} (hi : i < 4) (h : InAt7 k (corner7 k p i) c) : InAt7 (k + 1) p c := by
  have e : (2 : Int) ^ (k + 1) = 2 ^ k * 2 := Int.pow_succ ..
  have hp := pow_pos7 k
  unfold InAt7 corner7 at *
  rw [e]
  generalize (2 : Int) ^ k = s at *
  rcases (by omega : i = 0 ∨ i = 1 ∨ i = 2 ∨ i = 3) with rfl | rfl | rfl | rfl <;> simp at h ⊢ <;> omega
theorem agree_corner (k : Nat) (p c : Int × Int) (i : Nat) : Agree k (c.1 - (corner7 k p i).1, c.2 - (corner7 k p i).2) (c.1 - p.1, c.2 - p.2) := by
  have h := agree_shift (c.1 - p.1, c.2 - p.2) (-((i % 2 : Nat) : Int)) (-((i / 2 : Nat) : Int)) k
  have e1 : c.1 - (corner7 k p i).1 = c.1 - p.1 + 2 ^ k * (-((i % 2 : Nat) : Int)) := by
    unfold corner7
    simp only
    rw [Int.mul_neg, Int.mul_comm]
    omega
  have e2 : c.2 - (corner7 k p i).2 = c.2 - p.2 + 2 ^ k * (-((i / 2 : Nat) : Int)) := by
    unfold corner7
    simp only
    rw [Int.mul_neg, Int.mul_comm]
    omega
  rw [e1, e2]
  exact h
/-- what is in the list is what is alive -/
theorem mem_flat {l : List Nd} : ∀ (k n : Nat) (p c : Int × Int), c ∈ flat l k n p ↔ InAt7 k p c ∧ alive l k n (c.1 - p.1, c.2 - p.2) = true
  | 0, n, p, c => by
    unfold flat alive InAt7
    have h1 : (2 : Int) ^ 0 = 1 := rfl
    rw [h1]
    by_cases hn : n = 1
    · rw [if_pos hn]
      simp only [List.mem_singleton, decide_eq_true_eq]
      constructor
      · rintro rfl; exact ⟨by omega, hn⟩
      · rintro ⟨h, _⟩; exact Prod.ext (by omega) (by omega)
    · rw [if_neg hn]
      simp [hn]
  | k + 1, n, p, c => by
    have ih := fun i => mem_flat (l := l) k (kidN l n i) (corner7 k p i) c
    have hone : c ∈ flat l (k + 1) n p ↔ ∃ i, i < 4 ∧ c ∈ flat l k (kidN l n i) (corner7 k p i) := by
      show c ∈ _ ++ _ ++ _ ++ _ ↔ _
      simp only [List.mem_append]
      constructor
      · rintro (((h | h) | h) | h)
        · exact ⟨0, by decide, h⟩
        · exact ⟨1, by decide, h⟩
        · exact ⟨2, by decide, h⟩
        · exact ⟨3, by decide, h⟩
      · rintro ⟨i, hi, h⟩
        rcases (by omega : i = 0 ∨ i = 1 ∨ i = 2 ∨ i = 3) with rfl | rfl | rfl | rfl
        · exact .inl (.inl (.inl h))
        · exact .inl (.inl (.inr h))
        · exact .inl (.inr h)
        · exact .inr h
    rw [hone]
    constructor
    · rintro ⟨i, hi, h⟩
      obtain ⟨h1, h2⟩ := (ih i).1 h
      have hin := corner_in hi h1
      have hq := (quarter_of hin).2 i hi h1
      refine ⟨hin, ?_⟩
      show alive l k (kidN l n (q7 k (c.1 - p.1, c.2 - p.2))) _ = true
      rw [← hq, ← alive_agree k _ (agree_corner k p c i)]
      exact h2
    · rintro ⟨hin, h2⟩
      refine ⟨q7 k (c.1 - p.1, c.2 - p.2), q7_lt _ _, (ih _).2 ⟨(quarter_of hin).1, ?_⟩⟩
      rw [alive_agree k _ (agree_corner k p c _)]
      exact h2
/-- no cell is there twice -/
theorem flat_nodup {l : List Nd} : ∀ (k n : Nat) (p : Int × Int), (flat l k n p).Nodup
  | 0, n, p => by
    unfold flat
    split
    · simp
    · exact List.nodup_nil
  | k + 1, n, p => by
    have hd : ∀ i j, i < 4 → j < 4 → i ≠ j → ∀ a ∈ flat l k (kidN l n i) (corner7 k p i), ∀ b ∈ flat l k (kidN l n j) (corner7 k p j), a ≠ b := by
      intro i j hi hj hij a ha b hb e
      subst e
      have h1 := ((mem_flat k _ _ _).1 ha).1
      have h2 := ((mem_flat k _ _ _).1 hb).1
      have hin := corner_in hi h1
      exact hij (((quarter_of hin).2 i hi h1).trans ((quarter_of hin).2 j hj h2).symm)
    show List.Nodup (flat l k (kidN l n 0) (corner7 k p 0) ++ flat l k (kidN l n 1) (corner7 k p 1) ++ flat l k (kidN l n 2) (corner7 k p 2) ++ flat l k (kidN l n 3) (corner7 k p 3))
    have h0 := flat_nodup (l := l) k (kidN l n 0) (corner7 k p 0)
    have h1 := flat_nodup (l := l) k (kidN l n 1) (corner7 k p 1)
    have h2 := flat_nodup (l := l) k (kidN l n 2) (corner7 k p 2)
    have h3 := flat_nodup (l := l) k (kidN l n 3) (corner7 k p 3)
    simp only [List.nodup_append, List.mem_append]
    refine ⟨⟨⟨h0, h1, hd 0 1 (by decide) (by decide) (by decide)⟩, h2, ?_⟩, h3, ?_⟩
    · rintro a (ha | ha) b hb
      · exact hd 0 2 (by decide) (by decide) (by decide) a ha b hb
      · exact hd 1 2 (by decide) (by decide) (by decide) a ha b hb
    · rintro a ((ha | ha) | ha) b hb
      · exact hd 0 3 (by decide) (by decide) (by decide) a ha b hb
      · exact hd 1 3 (by decide) (by decide) (by decide) a ha b hb
      · exact hd 2 3 (by decide) (by decide) (by decide) a ha b hb
end Go.Proofs.Ytikgnjcjbjafaaa
