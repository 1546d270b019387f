/-
  Texts that the claims of this seat share, part 6.
-/
import Derived.Test.YtikgnjcjbjafaaaB05
import Derived.RangeFuncNested
import Derived.RangeFuncBound
import Derived.RangeFuncCalls
import Derived.RangeFuncLeaves
import Derived.Shelf.Abstract
import Derived.Shelf.RegionOpen
import Derived.WalkKit
import Derived.OwnWalkIn
import Derived.TacticsInMore
import Derived.LoopNIn
import Derived.LoopIn
import Derived.Test.YtikgnjcjbjafaaaRows
import Derived.Test.YtikgnjcjbjafaaaSh
import Derived.Lib.ItoaMem
import GoSem.Op.String
import Derived.Test.YtikgnjcjbjafaaaB00
import Derived.WalkSpells
import Derived.WalkLawsBesides
import Derived.WalkArith
import Derived.IntWalk
import Derived.Lib.QuietBelow
import Derived.Lib.Hide
import Derived.Lib.AppendIntMem
import Derived.BigQuiet
import Derived.StillTailTactics
import Derived.LoopN
import Derived.Handy
import Derived.Deep.LoopGhost
import Derived.Lib.AppendZerosOnto
import Derived.Test.YtikgnjcjbjafaaaB03
import Derived.Deep.RegionWith
set_option linter.unusedVariables false
set_option linter.unusedSimpArgs false
namespace Go.Proofs.Ytikgnjcjbjafaaa
set_option maxRecDepth 100000
set_option linter.unusedVariables false
set_option linter.unusedSimpArgs false
open Go.RowKit Go.Sort

/-- What grown answers. -/
def grown6 (l : List Nd) (room : Int) (z : List Nd × Int × Int) : List Nd × Int × Int := if right6 l room = true then (if z.2.2 = 0 then z else (l, 0, z.2.2)) else (l, 0, 1)
theorem grown_intern (l : List Nd) (room : Int) (k : Kd) : grown6 l room (put6 l room k) = intern6 l room k := by
  unfold grown6 intern6
  by_cases h : right6 l room = true
  · rw [if_pos h, if_pos h]
    by_cases he : (put6 l room k).2.2 = 0
    · rw [if_pos he]
    · rw [if_neg he]; exact (put_err he).symm
  · rw [if_neg h, if_neg h]
theorem ix_boxed {w : World} {l : List Nd} {room : Int} {v : Value} {b n0 : Nat} {D : DataW Unit} (h : OwnN w n0 v l) (hm : MapAt w b l.length D) (hs : Says D l) (hb : n0 ≤ b) (hn : n0 ≤ w.heap.size) : Ix n0 (w.alloc (.cells #[v, .int .i64 room, .map (some b)] 115)) w.heap.size b l room :=
  ⟨v, D, ⟨heap_alloc_new w _, World.ownsRow.alloc h _, hm.alloc _, hs, hn, hb, by simp; omega⟩⟩

/-- What is known within Empty: the store, the level, what is to be told. -/
structure LevHead (w wr : World) (A : Option Addr) (n c : Nat) (room lev : Int) : Prop where
  store : wr.heap[w.heap.size]? = some (.cells #[.slice A n c, .int .i64 room] 27 (0, 0))
  lev : wr.heap[w.heap.size + 1]? = some (.cells #[.int .i64 lev] 3 (0, 0))
  res : wr.heap[w.heap.size + 2]? = some (.cells #[.slice none 0 0, .int .i64 0] 27 (0, 0))
  bel : Below w.heap.size w wr
section
variable {w wr w' : World} {A : Option Addr} {n c : Nat} {room lev : Int}
theorem LevHead.below (h : LevHead w wr A n c room lev) (hb : Below wr.heap.size wr w') : LevHead w w' A n c room lev :=
  ⟨(hb.block _ (lt_heap6 h.store)).trans h.store, (hb.block _ (lt_heap6 h.lev)).trans h.lev, (hb.block _ (lt_heap6 h.res)).trans h.res, Qt.more h.bel h.bel.size hb⟩
theorem LevHead.s0 (h : LevHead w wr A n c room lev) : wr.cell? ⟨w.heap.size, 0, none⟩ = some (.slice A n c) := by rw [Lib.cell_of_heap h.store]; rfl
theorem LevHead.s1 (h : LevHead w wr A n c room lev) : wr.cell? ⟨w.heap.size, 1, none⟩ = some (.int .i64 room) := by rw [Lib.cell_of_heap h.store]; rfl
theorem LevHead.l0 (h : LevHead w wr A n c room lev) : wr.cell? ⟨w.heap.size + 1, 0, none⟩ = some (.int .i64 lev) := by rw [Lib.cell_of_heap h.lev]; rfl
theorem LevHead.r0 (h : LevHead w wr A n c room lev) : wr.cell? ⟨w.heap.size + 2, 0, none⟩ = some (.slice none 0 0) := by rw [Lib.cell_of_heap h.res]; rfl
theorem LevHead.r1 (h : LevHead w wr A n c room lev) : wr.cell? ⟨w.heap.size + 2, 1, none⟩ = some (.int .i64 0) := by rw [Lib.cell_of_heap h.res]; rfl
theorem LevHead.free (h : LevHead w wr A n c room lev) (j : Nat) : wr.frozen? ⟨w.heap.size + 2, j, none⟩ = false := Lib.frozen_of_heap h.res j
theorem LevHead.told (h : LevHead w wr A n c room lev) (u v : Value) : ((wr.setCell ⟨w.heap.size + 2, 0, none⟩ u).setCell ⟨w.heap.size + 2, 1, none⟩ v).heap[w.heap.size + 2]? = some (.cells #[u, v] 27 (0, 0)) ∧ Below w.heap.size w ((wr.setCell ⟨w.heap.size + 2, 0, none⟩ u).setCell ⟨w.heap.size + 2, 1, none⟩ v) := by
  have hr := h.res
  refine ⟨?_, (h.bel.setCell (by show _ ≤ _ + 2; omega) _).setCell (by show _ ≤ _ + 2; omega) _⟩
  simp [World.setCell, Array.getElem?_modify, hr]
end
end Go.Proofs.Ytikgnjcjbjafaaa
namespace Go.Proofs.Ytikgnjcjbjafaaa
set_option maxRecDepth 100000
set_option linter.unusedVariables false
set_option linter.unusedSimpArgs false
open Go.RowKit Go.Sort

/-- a row of cells -/
def RowV (w : World) (q T : Nat) (xs : List Value) : Prop := w.heap[q]? = some (.cells xs.toArray T (0, 0))
section
variable {w w' : World} {q T : Nat} {xs : List Value}
theorem RowV.lt (h : RowV w q T xs) : q < w.heap.size := lt_heap6 h
theorem RowV.cell (h : RowV w q T xs) {i : Nat} {v : Value} (hi : xs[i]? = some v) : w.cell? ⟨q, i, none⟩ = some v := by
  rw [Lib.cell_of_heap h]
  simpa using hi
theorem RowV.free (h : RowV w q T xs) (i : Nat) : w.frozen? ⟨q, i, none⟩ = false := Lib.frozen_of_heap h i
theorem RowV.set (h : RowV w q T xs) (i : Nat) (u : Value) : RowV (w.setCell ⟨q, i, none⟩ u) q T (xs.set i u) := by
  unfold RowV at h ⊢
  simp [World.setCell, Array.getElem?_modify, h]
theorem RowV.other (h : RowV w q T xs) {p : Nat} (hne : q ≠ p) (i : Nat) (u : Value) : RowV (w.setCell ⟨p, i, none⟩ u) q T xs := by
  unfold RowV at h ⊢
  have hne' : p ≠ q := fun e => hne e.symm
  simp [World.setCell, Array.getElem?_modify, hne', h]
theorem RowV.below (h : RowV w q T xs) {B : Nat} (hb : Below B w w') (hB : q < B) : RowV w' q T xs := (hb.block _ hB).trans h
theorem RowV.now (h : RowV w q T xs) (hb : Below w.heap.size w w') : RowV w' q T xs := h.below hb h.lt
theorem RowV.drew (h : RowV w q T xs) : RowV w.drew q T xs := h
theorem RowV.made (w : World) (T : Nat) (xs : List Value) : RowV (w.alloc (.cells xs.toArray T)) w.heap.size T xs := heap_alloc_new w _
end
def boolsL (n : Nat) (f : Nat → Bool) : List Value := (List.range n).map fun i => .bool (f i)
theorem boolsL_get {n i : Nat} (f : Nat → Bool) (h : i < n) : (boolsL n f)[i]? = some (.bool (f i)) := by
  unfold boolsL
  rw [List.getElem?_map, List.getElem?_range h]
  rfl
theorem boolsL_len (n : Nat) (f : Nat → Bool) : (boolsL n f).length = n := by unfold boolsL; simp
theorem boolsL_set (n i : Nat) (f : Nat → Bool) : (boolsL n f).set i (.bool true) = boolsL n (fun x => f x || decide (x = i)) := by
  refine List.ext_getElem? fun k => ?_
  rw [List.getElem?_set]
  by_cases hk : k < n
  · by_cases hik : i = k
    · rw [if_pos hik, if_pos (by rw [boolsL_len]; omega), boolsL_get _ hk]
      simp [hik]
    · rw [if_neg hik, boolsL_get _ hk, boolsL_get _ hk]
      have : ¬ k = i := fun e => hik e.symm
      simp [this]
  · have h1 : (boolsL n f)[k]? = none := List.getElem?_eq_none (by rw [boolsL_len]; omega)
    have h2 : (boolsL n (fun x => f x || decide (x = i)))[k]? = none := List.getElem?_eq_none (by rw [boolsL_len]; omega)
    rw [h1, h2]
    split
    · rw [if_neg (by rw [boolsL_len]; omega)]
    · rfl
def intsL (l : List Int) : List Value := l.map fun x => .int .i64 x
theorem intsL_set (l : List Int) (i : Nat) (x : Int) : (intsL l).set i (.int .i64 x) = intsL (l.set i x) := by
  unfold intsL
  rw [List.map_set]
/-- numbers told place by place: those below n by f, the others 0 -/
def numsL (n : Nat) (f : Nat → Int) : List Int := (List.range n).map f
theorem numsL_set (n i : Nat) (f : Nat → Int) (x : Int) : (numsL n f).set i x = numsL n (fun k => if k = i then x else f k) := by
  refine List.ext_getElem? fun k => ?_
  rw [List.getElem?_set]
  unfold numsL
  by_cases hk : k < n
  · rw [List.getElem?_map, List.getElem?_map, List.getElem?_range hk]
    by_cases hik : i = k
    · rw [if_pos hik, if_pos (by simp; omega)]
      simp [hik]
    · rw [if_neg hik]
      have : ¬ k = i := fun e => hik e.symm
      simp [this]
  · have h1 : ∀ g : Nat → Int, ((List.range n).map g)[k]? = none := fun g => List.getElem?_eq_none (by simp; omega)
    rw [h1, h1]
    split
    · rw [if_neg (by simp; omega)]
    · rfl
end Go.Proofs.Ytikgnjcjbjafaaa
namespace Go.Proofs.Ytikgnjcjbjafaaa
set_option maxRecDepth 100000
set_option linter.unusedVariables false
set_option linter.unusedSimpArgs false
open Go.RowKit Go.Sort Go.Shelf
attribute [local go_sem] Oper.semAt_some

/-- a node's place -/
abbrev Ind (l : List Nd) := { i : Nat // i < l.length }
/-- the last k places, from behind -/
def come (l : List Nd) (k : Nat) : List (Ind l) := (List.range k).filterMap fun j => if h : l.length - 1 - j < l.length then some ⟨l.length - 1 - j, h⟩ else none
/-- what lay below m, and block B, lies as it lay -/
def KpA (m B : Nat) (W W' : World) : Prop := ∀ k, (k < m ∨ k = B) → W'.heap[k]? = W.heap[k]?
theorem KpA.refl (m B : Nat) (W : World) : KpA m B W W := fun _ _ => rfl
theorem KpA.trans {m B : Nat} {W W' W'' : World} (h : KpA m B W W') (h' : KpA m B W' W'') : KpA m B W W'' := fun k hk => (h' k hk).trans (h k hk)
theorem KpA.nd {m B b o : Nat} {W W' : World} {x : Nd} (h : KpA m B W W') (hb : b < m) (hx : NdAt W b o x) : NdAt W' b o x := by
  have hc : ∀ i, W'.cell? ⟨b, i, none⟩ = W.cell? ⟨b, i, none⟩ := fun i => World.cell?_of_block (w := W) (h b (.inl hb))
  obtain ⟨h0, h1, h2, h3, h4, h5⟩ := hx
  exact ⟨(hc _).trans h0, (hc _).trans h1, (hc _).trans h2, (hc _).trans h3, (hc _).trans h4, (hc _).trans h5⟩

theorem KpA.setCell {m B : Nat} (W : World) {q i : Nat} (u : Value) (hm : m ≤ q) (hB : q ≠ B) : KpA m B W (W.setCell ⟨q, i, none⟩ u) := fun k hk => by
  have hne : q ≠ k := by rcases hk with h | h <;> omega
  simp [World.setCell, Array.getElem?_modify, hne]
theorem KpA.alloc {m B : Nat} (W : World) (o : Obj) (hm : m ≤ W.heap.size) (hB : B < W.heap.size) : KpA m B W (W.alloc o) := fun k hk => Lib.alloc_old _ _ _ (by omega)
/-! ### the flags -/
end Go.Proofs.Ytikgnjcjbjafaaa
namespace Go.Proofs.Ytikgnjcjbjafaaa
open Go.RowKit Go.Sort

def I64 (n : Int) : Prop := -9223372036854775808 ≤ n ∧ n ≤ 9223372036854775807

/-- The table of powers of ten, that the library's Itoa looks into. -/
def tabName : String := Rows.squareSetsRow.named.getD 0 default
def Tab (w : World) : Prop := Lib.TabIs Try.prog w tabName .u64 Lib.pow10Tab
theorem Tab.below {w w' : World} (h : Tab w) (hb : Below w.heap.size w w') : Tab w' := Lib.tabBelow_of_tabIs h w' hb

def pickI (c n : Int) : Int := if c < 0 then (-(c + 1)) % n else c % n
theorem pickI_bd (c n : Int) (hn : 1 ≤ n) : 0 ≤ pickI c n ∧ pickI c n < n := by
  unfold pickI
  split
  · exact ⟨Int.emod_nonneg _ (by omega), Int.emod_lt_of_pos _ (by omega)⟩
  · exact ⟨Int.emod_nonneg _ (by omega), Int.emod_lt_of_pos _ (by omega)⟩

theorem pick_any (c n : Int) (w : World) (h1 : -9223372036854775808 ≤ c) (h2 : c ≤ 9223372036854775807) (hn : 1 ≤ n) (hn2 : n ≤ 9223372036854775807) :
    Calls Try.prog 75 #[.int .i64 c, .int .i64 n] w fun e w' => e = .returned (.int .i64 (pickI c n)) ∧ w = w' := by
  generalize hr : pickI c n = r
  have HR := Lib.hid hr
  clear hr
  go_enter Try.func75, Try.ntmps75
  go_wp2
  all_goals go_ret
  all_goals refine ⟨?_, rfl⟩
  all_goals (refine Qt.ret_int ?_; rw [← HR.out]; unfold pickI)
  · rw [if_pos (by assumption), ← Int.neg_tmod, Int.tmod_eq_emod_of_nonneg (by omega)]
  · rw [if_neg (by omega)]
/-- .. whatever number comes in: a number from 0 on, below n. -/
theorem pick_nat (c n : Int) (w : World) (hc : I64 c) (hn : 1 ≤ n) (hn2 : n ≤ 9223372036854775807) :
    Calls Try.prog 75 #[.int .i64 c, .int .i64 n] w fun e w' => e = .returned (.int .i64 ((pickI c n).toNat : Int)) ∧ w = w' := by
  have h := pickI_bd c n hn
  have := pick_any c n w hc.1 hc.2 hn hn2
  rwa [show (((pickI c n).toNat : Nat) : Int) = pickI c n by omega]

/-! ### slices of numbers -/

/-- The slice at A of l.length numbers reads as l, below block B. -/
def Rd (w : World) (B : Nat) (A : Option Addr) (l : List Int) : Prop :=
  ∀ j, j < l.length → ∃ b off, A = some ⟨b, off, none⟩ ∧ b < B ∧ w.cell? ⟨b, off + j, none⟩ = some (.int .i64 (l.getD j 0))

theorem Rd.below {w w' : World} {B B' : Nat} {A : Option Addr} {l : List Int} (h : Rd w B A l) (hb : Below B' w w') (hB : B ≤ B') : Rd w' B A l := fun j hj => by
  obtain ⟨b, off, e, hlt, h0⟩ := h j hj
  exact ⟨b, off, e, hlt, (hb.cell (p := ⟨b, off + j, none⟩) (Nat.lt_of_lt_of_le hlt hB)).trans h0⟩
theorem Rd.more {w : World} {B B' : Nat} {A : Option Addr} {l : List Int} (h : Rd w B A l) (hB : B ≤ B') : Rd w B' A l := fun j hj => by
  obtain ⟨b, off, e, hlt, h0⟩ := h j hj
  exact ⟨b, off, e, by omega, h0⟩
theorem Rd.nil (w : World) (B : Nat) (A : Option Addr) : Rd w B A [] := fun j hj => absurd hj (Nat.not_lt_zero j)
theorem Rd.at_ {w : World} {B : Nat} {A : Option Addr} {l : List Int} (h : Rd w B A l) (hn : 0 < l.length) :
    ∃ b off, A = some ⟨b, off, none⟩ ∧ b < B ∧ ∀ j, j < l.length → w.cell? ⟨b, off + j, none⟩ = some (.int .i64 (l.getD j 0)) := by
  obtain ⟨b, off, e, hlt, _⟩ := h 0 hn
  refine ⟨b, off, e, hlt, fun j hj => ?_⟩
  obtain ⟨b', off', e', _, h0⟩ := h j hj
  rw [e] at e'
  injection e' with e'
  injection e' with e1 e2
  subst e1 e2
  exact h0
/-- A slice whose cells read as a list, now. -/
def Now (w : World) (A : Option Addr) (l : List Int) : Prop := Rd w w.heap.size A l
theorem Now.below {w w' : World} {A : Option Addr} {l : List Int} (h : Now w A l) (hb : Below w.heap.size w w') : Now w' A l := (Rd.below h hb (Nat.le_refl _)).more hb.size
theorem now_nil (w : World) (A : Option Addr) : Now w A [] := Rd.nil _ _ _

/-- A slice that the call itself has made. -/
abbrev Own (w : World) (B : Nat) (v : Value) (l : List Int) : Prop := w.ownsRow B 3 1 v l.length (l.map (Value.int .i64))
/-- It reads as its list. -/
def Reads (w : World) (v : Value) (l : List Int) : Prop := ∃ A c, v = .slice A l.length c ∧ l.length ≤ c ∧ Now w A l
theorem Own.reads {w : World} {B : Nat} {v : Value} {l : List Int} (h : Own w B v l) : Reads w v l := by
  rcases h.2 with ⟨rfl, h0⟩ | ⟨g, cap, cur, rfl, hb, hh, hn, hcap, hsz, htake⟩
  · have : l = [] := by simpa using h0
    subst this
    exact ⟨none, 0, rfl, Nat.le_refl _, now_nil _ _⟩
  · refine ⟨some ⟨g, 0, none⟩, cap, rfl, hn, fun j hj => ⟨g, 0, rfl, (World.ownsRow.lt h g rfl).2, ?_⟩⟩
    have := World.ownsRow.cellAt h j (by simpa using hj)
    rw [Nat.zero_add]
    rw [this]
    simp [List.getD_eq_getElem?_getD, List.getElem?_eq_getElem hj]
theorem Reads.below {w w' : World} {v : Value} {l : List Int} (h : Reads w v l) (hb : Below w.heap.size w w') : Reads w' v l := by
  obtain ⟨A, c, e, hc, hR⟩ := h
  exact ⟨A, c, e, hc, hR.below hb⟩

end Go.Proofs.Ytikgnjcjbjafaaa
namespace Go.Proofs.Ytikgnjcjbjafaaa
set_option maxRecDepth 100000
set_option linter.unusedVariables false
set_option linter.unusedSimpArgs false
open Go.RowKit Go.Sort

/-- a root is no place -/
def beyondB (n : Nat) (r : Int) : Bool := decide (r < 0) || decide ((n : Int) ≤ r)
def rootsB (l : List Nd) (R : List Int) : Bool := R.all fun r => decide (0 ≤ r) && decide (r < l.length)
theorem beyond_any (l : List Nd) (R : List Int) : (R.any fun r => beyondB l.length r) = !rootsB l R := by
  unfold rootsB
  rw [List.not_all_eq_any_not]
  congr 1
  funext r
  unfold beyondB
  rw [Bool.not_and]
  rw [Bool.eq_iff_iff]
  simp only [Bool.or_eq_true, decide_eq_true_eq, Bool.not_eq_true', decide_eq_false_iff_not]
  omega
end Go.Proofs.Ytikgnjcjbjafaaa
namespace Go.Proofs.Ytikgnjcjbjafaaa
set_option maxRecDepth 100000
set_option linter.unusedVariables false
set_option linter.unusedSimpArgs false
open Go.RowKit Go.Sort

/-- where the nodes seen so far are in the new store -/
def toF (K : Nat → Bool) (n : Nat) : Nat → Int := fun i => if i < n ∧ K i = true then (cnt K i : Int) else 0
section
variable {l : List Nd} {room : Int} {R : List Int} {K : Nat → Bool}
end
/-- What is known at the head of the loop over nodes. -/
structure LvAt (w wr : World) (A : Option Addr) (l : List Nd) (c : Nat) (room : Int) (K : Nat → Bool) (o q t n : Nat) (v : Value) : Prop where
  head : EmpHead w wr A l.length c room
  flg : RowV wr q 4 (boolsL l.length K)
  tor : RowV wr t 3 (intsL (numsL l.length (toF K n)))
  out : wr.heap[o]? = some (.cells #[v, .int .i64 room] 27 (0, 0))
  own : OwnN wr (w.heap.size + 2) v (newTo l K n)
  lo : w.heap.size + 2 ≤ o ∧ w.heap.size + 2 ≤ q ∧ w.heap.size + 2 ≤ t
section
variable {w wr w' : World} {A : Option Addr} {l : List Nd} {c : Nat} {room : Int} {K : Nat → Bool} {o q t n : Nat} {v : Value}
theorem LvAt.below (h : LvAt w wr A l c room K o q t n v) (hb : Below wr.heap.size wr w') : LvAt w w' A l c room K o q t n v :=
  ⟨h.head.below hb, h.flg.now hb, h.tor.now hb, (hb.block _ (lt_heap6 h.out)).trans h.out, h.own.below hb, h.lo⟩
theorem LvAt.c0 (h : LvAt w wr A l c room K o q t n v) : wr.cell? ⟨o, 0, none⟩ = some v := by rw [Lib.cell_of_heap h.out]; rfl
theorem LvAt.c1 (h : LvAt w wr A l c room K o q t n v) : wr.cell? ⟨o, 1, none⟩ = some (.int .i64 room) := by rw [Lib.cell_of_heap h.out]; rfl
theorem LvAt.f0 (h : LvAt w wr A l c room K o q t n v) : wr.frozen? ⟨o, 0, none⟩ = false := Lib.frozen_of_heap h.out 0
theorem LvAt.ot (h : LvAt w wr A l c room K o q t n v) : o ≠ t := by
  intro e
  have h1 := h.out
  have h2 := h.tor
  unfold RowV at h2
  rw [e, h2] at h1
  injection h1 with h1
  injection h1 with _ h1 _
  exact absurd h1 (by decide)
theorem LvAt.qt (h : LvAt w wr A l c room K o q t n v) : q ≠ t := by
  intro e
  have h1 := h.flg
  have h2 := h.tor
  unfold RowV at h1 h2
  rw [e, h2] at h1
  injection h1 with h1
  injection h1 with _ h1 _
  exact absurd h1 (by decide)
theorem own_ne {B i T : Nat} {cs : Array Value} {m : List Nd} (ho : OwnN wr B v m) (hi : wr.heap[i]? = some (.cells cs T (0, 0))) (hT : T ≠ 54) : v.ownBlock ≠ some i := by
  intro e
  obtain ⟨_, _, cs', fz, hc⟩ := ownN_kind ho i e
  rw [hi] at hc
  injection hc with hc
  injection hc with _ hc _
  exact hT hc
/-- a node's place is told -/
theorem LvAt.told (h : LvAt w wr A l c room K o q t n v) (i : Nat) (x : Int) (f : Nat → Int) (hf : (fun k => if k = i then x else toF K n k) = f) :
    EmpHead w (wr.setCell ⟨t, i, none⟩ (.int .i64 x)) A l.length c room ∧ RowV (wr.setCell ⟨t, i, none⟩ (.int .i64 x)) q 4 (boolsL l.length K) ∧ RowV (wr.setCell ⟨t, i, none⟩ (.int .i64 x)) t 3 (intsL (numsL l.length f)) ∧ (wr.setCell ⟨t, i, none⟩ (.int .i64 x)).heap[o]? = some (.cells #[v, .int .i64 room] 27 (0, 0)) ∧ OwnN (wr.setCell ⟨t, i, none⟩ (.int .i64 x)) (w.heap.size + 2) v (newTo l K n) := by
  have hb := h.lo.2.2
  have hset := h.tor.set i (.int .i64 x)
  rw [intsL_set, numsL_set, hf] at hset
  have hk : ∀ p, p < t → (wr.setCell ⟨t, i, none⟩ (.int .i64 x)).heap[p]? = wr.heap[p]? := fun p hp => Below.heap_setCell _ _ _ _ (by show p ≠ t; omega)
  have htor : wr.heap[t]? = some (.cells (intsL (numsL l.length (toF K n))).toArray 3 (0, 0)) := h.tor
  refine ⟨⟨(hk _ (by omega)).trans h.head.store, (hk _ (by omega)).trans h.head.res, h.head.bel.setCell (by show w.heap.size ≤ t; omega) _⟩, h.flg.other h.qt _ _, hset, ?_, World.ownsRow.kept h.own (but_set i _) (.inr (own_ne h.own htor (by decide)))⟩
  rw [Below.heap_setCell _ _ _ _ (by show o ≠ t; exact h.ot)]
  exact h.out
theorem LvAt.pushed {w7 w8 : World} {v v' : Value} {x : Nd} {ob : Obj} {m : List Nd} (hhead : EmpHead w w7 A l.length c room) (hflg : RowV w7 q 4 (boolsL l.length K)) (htor : RowV w7 t 3 (intsL (numsL l.length (toF K (n + 1)))))
    (hout : w7.heap[o]? = some (.cells #[v, .int .i64 room] 27 (0, 0))) (hown : OwnN w7 (w.heap.size + 2) v m) (hlo : w.heap.size + 2 ≤ o ∧ w.heap.size + 2 ≤ q ∧ w.heap.size + 2 ≤ t)
    (hg : (w7.alloc ob).grownBy w8 v.ownBlock) (hbp : Below (w.heap.size + 2) w7 w8) (ho : OwnN w8 (w.heap.size + 2) v' (m ++ [x])) (hs : newTo l K (n + 1) = m ++ [x]) :
    LvAt w (w8.setCell ⟨o, 0, none⟩ v') A l c room K o q t (n + 1) v' ∧ w8.heap[o]? = some (.cells #[v, .int .i64 room] 27 (0, 0)) := by
  have hsz : (w7.alloc ob).heap.size = w7.heap.size + 1 := by simp
  have hkeep : ∀ {i T : Nat} {cs : Array Value}, w7.heap[i]? = some (.cells cs T (0, 0)) → T ≠ 54 → w8.heap[i]? = some (.cells cs T (0, 0)) := by
    intro i T cs hi hT
    rw [hg.block i (by have := lt_heap6 hi; omega) (fun e => own_ne hown hi hT e.symm), Lib.alloc_old _ _ _ (lt_heap6 hi)]
    exact hi
  have hout8 := hkeep hout (by decide)
  have hflg8 : RowV w8 q 4 (boolsL l.length K) := hkeep hflg (by decide)
  have htor8 : RowV w8 t 3 (intsL (numsL l.length (toF K (n + 1)))) := hkeep htor (by decide)
  have hoq : q ≠ o := by
    intro e
    have h1 := hflg8
    unfold RowV at h1
    rw [e, hout8] at h1
    injection h1 with h1
    injection h1 with _ h1 _
    exact absurd h1 (by decide)
  have hot : t ≠ o := by
    intro e
    have h1 := htor8
    unfold RowV at h1
    rw [e, hout8] at h1
    injection h1 with h1
    injection h1 with _ h1 _
    exact absurd h1 (by decide)
  have hk : ∀ p, p < o → (w8.setCell ⟨o, 0, none⟩ v').heap[p]? = w8.heap[p]? := fun p hp => Below.heap_setCell _ _ _ _ (by show p ≠ o; omega)
  refine ⟨⟨⟨?_, ?_, (hhead.bel.trans (hbp.mono (by omega))).setCell (by show w.heap.size ≤ o; omega) _⟩, hflg8.other hoq _ _, htor8.other hot _ _, ?_, ?_, hlo⟩, hout8⟩
  · rw [hk _ (by omega), hbp.block _ (by omega)]
    exact hhead.store
  · rw [hk _ (by omega), hbp.block _ (by omega)]
    exact hhead.res
  · simp [World.setCell, Array.getElem?_modify, hout8]
  · rw [hs]
    exact World.ownsRow.kept ho (but_set 0 _) (.inr (own_ne ho hout8 (by decide)))
end
end Go.Proofs.Ytikgnjcjbjafaaa
namespace Go.Proofs.Ytikgnjcjbjafaaa
open Go.RowKit Go.Sort

def fl (l : List Int) : List Value := l.map (Value.int .i64)
theorem length_fl (l : List Int) : (fl l).length = l.length * 1 := by simp [fl]
theorem fl_append (l m : List Int) : fl (l ++ m) = fl l ++ fl m := List.map_append
theorem fl_at {w : World} {m : List Int} {b off : Nat} (h : ∀ j, j < m.length → w.cell? ⟨b, off + j, none⟩ = some (.int .i64 (m.getD j 0))) : ∀ j u, (fl m)[j]? = some u → w.cell? ((⟨b, off, none⟩ : Addr).add j) = some u := by
  intro j u hj
  have hlt : j < m.length := by
    have := (List.getElem?_eq_some_iff.1 hj).1
    simpa [fl] using this
  have e : u = .int .i64 (m.getD j 0) := by
    simp only [fl, List.getElem?_map, List.getElem?_eq_getElem hlt, Option.map_some, Option.some.injEq] at hj
    rw [← hj, List.getD_eq_getElem?_getD, List.getElem?_eq_getElem hlt, Option.getD_some]
  rw [e]
  rw [Addr.add_lit]
  exact h j hlt
theorem fl_cell1 (m : List Int) : ∀ u ∈ fl m, u.oneCell' = true := by
  intro u hu
  obtain ⟨x, _, rfl⟩ := List.mem_map.1 hu
  rfl

theorem info_int : (Try.prog.info? 3).map (fun i => (i.zero, i.size, i.bytes)) = some (some (.int .i64 0), 1, 8) := by kernel_rfl

theorem append_none {w : World} {B : Nat} {v : Value} {out : List Int} (c : Nat) (ho : Own w B v out) :
    (Builtin.append_ #[60, 60] 60 #[v, .slice none 0 c]).run Try.prog w = .ok v w := by
  obtain ⟨i0, hi, hz0, hz1, hz2⟩ := info_parts info_int
  rcases ho.2 with ⟨rfl, _⟩ | ⟨g, cap, cur, rfl, _, _, hnc, _⟩
  · simp [Builtin.append_, run_underlying Try.underlying60, sizeOf, typeInfo, hi, Builtin.lenOf, Builtin.firstCells]
  · simp [Builtin.append_, run_underlying Try.underlying60, sizeOf, typeInfo, hi, Builtin.lenOf, Builtin.firstCells, storeCells, hnc]

theorem app_any {w : World} {B : Nat} {v : Value} {out m : List Int} {A : Option Addr} (c : Nat) (hB : B ≤ w.heap.size) (ho : Own w B v out) (hm : Now w A m) (hl : out.length + m.length ≤ 1000000) :
    ∃ v' w', (Builtin.append_ #[60, 60] 60 #[v, .slice A m.length c]).run Try.prog w = .ok v' w' ∧ Own w' B v' (out ++ m) ∧ w.grownBy w' v.ownBlock := by
  obtain ⟨i0, hi, hz0, hz1, hz2⟩ := info_parts info_int
  by_cases h0 : m.length = 0
  · have : m = [] := List.eq_nil_of_length_eq_zero h0
    subst this
    cases A with
    | none => exact ⟨v, w, append_none c ho, by rw [List.append_nil]; exact ho, ⟨rfl, rfl, rfl, Nat.le_refl _, fun _ _ _ => rfl⟩⟩
    | some a =>
      obtain ⟨v', w', hr, h2, h3, _⟩ := run_append_own (P := Try.prog) (w := w) B 60 60 3 i0 (.int .i64 0) 1 8 Try.underlying60 hi hz0 hz1 hz2 rfl (by decide) v out.length (fl out) ho a 0 c [] rfl (fun j u h => by simp at h) (fun u h => by cases h) (by unfold maxLen; omega) (by omega) hB
      exact ⟨v', w', hr, by rw [List.append_nil] at h2 ⊢; exact h2, h3⟩
  · obtain ⟨b, off, rfl, _, hcell⟩ := hm.at_ (by omega)
    obtain ⟨v', w', hr, h2, h3, _⟩ := run_append_own (P := Try.prog) (w := w) B 60 60 3 i0 (.int .i64 0) 1 8 Try.underlying60 hi hz0 hz1 hz2 rfl (by decide) v out.length (fl out) ho ⟨b, off, none⟩ m.length c (fl m) (length_fl m) (fl_at hcell) (fl_cell1 m) (by unfold maxLen; omega) (by omega) hB
    refine ⟨v', w', hr, ?_, h3⟩
    show World.ownsRow _ _ _ _ _ _ (fl (out ++ m))
    rw [fl_append, List.length_append]
    exact h2

/-- one number more, that lies in a new block -/
theorem push_any {w : World} {B : Nat} {v : Value} {out : List Int} (x : Int) (hB : B ≤ w.heap.size) (ho : Own w B v out) (hl : out.length ≤ 999999) :
    ∃ v' w', (Builtin.append_ #[60, 60] 60 #[v, .slice (some ⟨w.heap.size, 0, none⟩) 1 1]).run Try.prog (w.alloc (.cells #[.int .i64 x] 3)) = .ok v' w' ∧ Own w' B v' (out ++ [x]) ∧ Below B w w' := by
  have hm : Now (w.alloc (.cells #[.int .i64 x] 3)) (some ⟨w.heap.size, 0, none⟩) [x] := fun j hj => by
    have hj1 : j = 0 := by simp at hj; omega
    subst hj1
    exact ⟨w.heap.size, 0, rfl, by simp, by simp⟩
  have ho' : Own (w.alloc (.cells #[.int .i64 x] 3)) B v out := World.ownsRow.alloc ho _
  obtain ⟨v', w', hr, h1, h2⟩ := app_any (m := [x]) 1 (by simp; omega) ho' hm (by simp; omega)
  exact ⟨v', w', hr, h1, Below.grown ((Below.refl _ _).alloc hB _) h2 (by simp; omega) (fun k e => (World.ownsRow.lt ho' k e).1)⟩

/-! ### bit k of a number, as the two texts ask for it -/
end Go.Proofs.Ytikgnjcjbjafaaa
namespace Go.Proofs.Ytikgnjcjbjafaaa
set_option maxRecDepth 100000
set_option linter.unusedVariables false
set_option linter.unusedSimpArgs false
open Go.RowKit Go.Sort

/-- A store in a box. -/
structure StB (w : World) (b : Nat) (A : Option Addr) (l : List Nd) (c : Nat) (room : Int) : Prop where
  row : w.heap[b]? = some (.cells #[.slice A l.length c, .int .i64 room] 27 (0, 0))
  rd : NowN w A l
  cap : l.length ≤ c
section
variable {w w' : World} {b : Nat} {A : Option Addr} {l : List Nd} {c : Nat} {room : Int}
theorem StB.below (h : StB w b A l c room) (hb : Below w.heap.size w w') : StB w' b A l c room := ⟨(hb.block _ (lt_heap6 h.row)).trans h.row, h.rd.below hb, h.cap⟩
theorem StB.s0 (h : StB w b A l c room) : w.cell? ⟨b, 0, none⟩ = some (.slice A l.length c) := by rw [Lib.cell_of_heap h.row]; rfl
theorem StB.s1 (h : StB w b A l c room) : w.cell? ⟨b, 1, none⟩ = some (.int .i64 room) := by rw [Lib.cell_of_heap h.row]; rfl
theorem StB.f0 (h : StB w b A l c room) : w.frozen? ⟨b, 0, none⟩ = false := Lib.frozen_of_heap h.row 0
theorem StB.f1 (h : StB w b A l c room) : w.frozen? ⟨b, 1, none⟩ = false := Lib.frozen_of_heap h.row 1
theorem stB_new (hr : NowN w A l) (hc : l.length ≤ c) (room : Int) : StB (w.alloc (.cells #[.slice A l.length c, .int .i64 room] 27)) w.heap.size A l c room :=
  ⟨heap_alloc_new w _, hr.below ((Below.refl _ _).alloc (Nat.le_refl _) _), hc⟩
theorem StB.nd (h : StB w b A l c room) (hl : 0 < l.length) : ∃ q off, A = some ⟨q, off, none⟩ ∧ q < w.heap.size ∧ ∀ j, j < l.length → NdAt w q (off + j * 6) (l.getD j deadN) := h.rd.at_ hl
end
theorem putR_box {p : List Nd × Int × Int} {room : Int} {w : World} {e : Ending} {w' : World} (h : PutR p room w e w') : ∃ A c, e = .returned (.tuple #[.agg #[.slice A p.1.length c, .int .i64 room], .int .i64 p.2.1, .int .i64 p.2.2]) ∧ p.1.length ≤ c ∧ NowN w' A p.1 ∧ Below w.heap.size w w' := by
  obtain ⟨v, rfl, ⟨A, c, rfl, hc, hN⟩, hb⟩ := h
  exact ⟨A, c, rfl, hc, hN, hb⟩
end Go.Proofs.Ytikgnjcjbjafaaa
namespace Go.Proofs.Ytikgnjcjbjafaaa
set_option linter.unusedVariables false
set_option linter.unusedSimpArgs false
open Go.RowKit Go.Sort

/-- Two stores as they lie in boxes. -/
structure TwoAt (w wr : World) (A : Option Addr) (n c : Nat) (room : Int) (B : Option Addr) (m d : Nat) (ro : Int) : Prop where
  one : wr.heap[w.heap.size]? = some (.cells #[.slice A n c, .int .i64 room] 27 (0, 0))
  two : wr.heap[w.heap.size + 1]? = some (.cells #[.slice B m d, .int .i64 ro] 27 (0, 0))
  bel : Below w.heap.size w wr
section
variable {w wr w' : World} {A B : Option Addr} {n c m d : Nat} {room ro : Int}
theorem TwoAt.below (h : TwoAt w wr A n c room B m d ro) (hb : Below wr.heap.size wr w') : TwoAt w w' A n c room B m d ro :=
  ⟨(hb.block _ (lt_heap6 h.one)).trans h.one, (hb.block _ (lt_heap6 h.two)).trans h.two, Qt.more h.bel h.bel.size hb⟩
theorem TwoAt.a0 (h : TwoAt w wr A n c room B m d ro) : wr.cell? ⟨w.heap.size, 0, none⟩ = some (.slice A n c) := by rw [Lib.cell_of_heap h.one]; rfl
theorem TwoAt.a1 (h : TwoAt w wr A n c room B m d ro) : wr.cell? ⟨w.heap.size, 1, none⟩ = some (.int .i64 room) := by rw [Lib.cell_of_heap h.one]; rfl
theorem TwoAt.b0 (h : TwoAt w wr A n c room B m d ro) : wr.cell? ⟨w.heap.size + 1, 0, none⟩ = some (.slice B m d) := by rw [Lib.cell_of_heap h.two]; rfl
theorem TwoAt.b1 (h : TwoAt w wr A n c room B m d ro) : wr.cell? ⟨w.heap.size + 1, 1, none⟩ = some (.int .i64 ro) := by rw [Lib.cell_of_heap h.two]; rfl
end
theorem twoAt_0 (w : World) (A : Option Addr) (n c : Nat) (room : Int) (B : Option Addr) (m d : Nat) (ro : Int) : TwoAt w ((w.alloc (.cells #[.slice A n c, .int .i64 room] 27)).alloc (.cells #[.slice B m d, .int .i64 ro] 27)) A n c room B m d ro := by
  have h1 := storeAt_0 w A n c room
  have hs := lt_heap6 h1.store
  have hsz : (w.alloc (.cells #[.slice A n c, .int .i64 room] 27)).heap.size = w.heap.size + 1 := by simp
  refine ⟨(Lib.alloc_old _ _ _ (by omega)).trans h1.store, ?_, h1.bel.alloc (by omega) _⟩
  rw [← hsz]
  exact heap_alloc_new _ _
theorem ext_nd {l m : List Nd} (h : l.length = m.length) (hq : ∀ q, q < l.length → l.getD q deadN = m.getD q deadN) : l = m := by
  refine List.ext_getElem h fun i h1 h2 => ?_
  have := hq i h1
  simpa [List.getD, h1, h2] using this

set_option maxHeartbeats 4000000 in
set_option maxRecDepth 100000 in
theorem refSame6_any (A : Option Addr) (l : List Nd) (c : Nat) (room : Int) (B : Option Addr) (m : List Nd) (d : Nat) (ro : Int) (w : World) (hR : RdN w w.heap.size A l) (hS : RdN w w.heap.size B m) (hl : l.length ≤ 1000000) (hm : m.length ≤ 1000000) :
    Calls Try.prog 20 #[storeV A l.length c room, storeV B m.length d ro] w fun e w' => e = .returned (.bool (decide (room = ro ∧ l = m))) ∧ Below w.heap.size w w' := by
  have HH0 := Lib.hid (twoAt_0 w A l.length c room B m.length d ro)
  have a0 := HH0.out.a0
  have a1 := HH0.out.a1
  have b0 := HH0.out.b0
  have b1 := HH0.out.b1
  have hbel := HH0.out.bel
  unfold storeV
  by_cases h1 : room = ro
  · subst h1
    by_cases h2 : l.length = m.length
    · have h2z : (l.length : Int) = (m.length : Int) := by omega
      have hyes : (∀ q, q < l.length → l.getD q deadN = m.getD q deadN) → decide (room = room ∧ l = m) = true := fun h => decide_eq_true ⟨rfl, ext_nd h2 h⟩
      have hno : ∀ q, l.getD q deadN ≠ m.getD q deadN → decide (room = room ∧ l = m) = false := fun q h => decide_eq_false fun hh => h (by rw [hh.2])
      generalize decide (room = room ∧ l = m) = r at *
      have HY := Lib.hid hyes
      have HN := Lib.hid hno
      have H2 := Lib.hid h2
      rw [← h2] at b0 hm
      clear hyes hno h2z
      go_enter Try.func20, Try.ntmps20
      rw [← h2]
      clear h2
      go_wp2
      clear a0 a1 b0 b1 hbel
      go_loopw [5] (fun i wr => ∃ j : Nat, j ≤ l.length ∧ i = .int .i64 j ∧ Hid (TwoAt w wr A l.length c room B l.length d room ∧ ∀ q, q < j → l.getD q deadN = m.getD q deadN)) (fun i _ => l.length - (intOf i).toNat)
      case atStart => exact ⟨0, Nat.zero_le _, rfl, H2.out ▸ HH0.out, fun q h => absurd h (Nat.not_lt_zero q)⟩
      case round =>
        obtain ⟨j, hj, rfl, HH⟩ := hrel
        have H := HH.out.1
        have s0 := H.a0
        by_cases hlt : j < l.length
        · have hltz : (j : Int) < (l.length : Int) := by omega
          obtain ⟨c0, off, rfl, hbB, hcell⟩ := hR.at_ (by omega)
          obtain ⟨n0, n1, n2, n3, n4, n5⟩ := hcell j hlt
          obtain ⟨e0, off2, rfl, hbE, hcel2⟩ := hS.at_ (by have := H2.out; omega)
          obtain ⟨m0, m1, m2, m3, m4, m5⟩ := hcel2 j (by have := H2.out; omega)
          have hne := fun W => neqN (l.getD j deadN) (m.getD j deadN) W
          have hn := HN.out j
          have hstep : l.getD j deadN = m.getD j deadN → ∀ q, q < j + 1 → l.getD q deadN = m.getD q deadN := by
            intro he q hq
            rcases Nat.lt_or_ge q j with h | h
            · exact HH.out.2 q h
            · obtain rfl : q = j := by omega
              exact he
          have HS := Lib.hid hstep
          obtain ⟨x, hx⟩ : ∃ x, x = l.getD j deadN := ⟨_, rfl⟩
          obtain ⟨y, hy⟩ : ∃ y, y = m.getD j deadN := ⟨_, rfl⟩
          rw [← hx] at n0 n1 n2 n3 n4 n5
          rw [← hy] at m0 m1 m2 m3 m4 m5
          rw [← hx, ← hy] at hne hn
          have HX := Lib.hid (show (x = y → l.getD j deadN = m.getD j deadN) from fun h => by rw [← hx, ← hy, h])
          have q0 := Qt.cell_in (Qt.keep H.bel n0)
          have q1 := Qt.cell_in (Qt.keep H.bel n1)
          have q2 := Qt.cell_in (Qt.keep H.bel n2)
          have q3 := Qt.cell_in (Qt.keep H.bel n3)
          have q4 := Qt.cell_in (Qt.keep H.bel n4)
          have q5 := Qt.cell_in (Qt.keep H.bel n5)
          have p0 := Qt.cell_in (Qt.keep H.bel m0)
          have p1 := Qt.cell_in (Qt.keep H.bel m1)
          have p2 := Qt.cell_in (Qt.keep H.bel m2)
          have p3 := Qt.cell_in (Qt.keep H.bel m3)
          have p4 := Qt.cell_in (Qt.keep H.bel m4)
          have p5 := Qt.cell_in (Qt.keep H.bel m5)
          have t0 := Qt.cell_in H.a0
          have t1 := Qt.cell_in H.b0
          clear n0 n1 n2 n3 n4 n5 m0 m1 m2 m3 m4 m5 hstep hx hy hcell hcel2
          by_cases hxy : x = y
          · have HE := HX.out hxy
            rw [decide_eq_true hxy] at hne
            clear hn hxy
            go_wp2_with fail
            refine Qt.below_all (by kernel_rfl) (by kernel_rfl) ?_
            repeat (go_big_quiet_step (fail))
            refine wpQuiet_nil ?_
            intro w1 hb1
            have H1 := H.below hb1
            clear q0 q1 q2 q3 q4 q5 p0 p1 p2 p3 p4 p5 t0 t1 hne s0 H hb1
            have HN2 : Hid (TwoAt w w1 (some ⟨c0, off, none⟩) l.length c room (some ⟨e0, off2, none⟩) l.length d room ∧ ∀ q, q < j + 1 → l.getD q deadN = m.getD q deadN) := ⟨H1, HS.out HE⟩
            clear HE HX HS HH H1
            go_wp2
            go_roundw
            case measure => simp [intOf]; omega
            case rel => exact ⟨j + 1, by omega, by go_num, HN2.out⟩
          · have hr := hn hxy
            rw [decide_eq_false hxy] at hne
            subst hr
            clear hn HX HS HH hxy
            go_wp2_with fail
            refine Qt.below_all (by kernel_rfl) (by kernel_rfl) ?_
            repeat (go_big_quiet_step (fail))
            refine wpQuiet_nil ?_
            intro w1 hb1
            have H1 := H.below hb1
            clear q0 q1 q2 q3 q4 q5 p0 p1 p2 p3 p4 p5 t0 t1 hne s0 H hb1
            have hbel := H1.bel
            clear H1
            go_wp2
            go_ret
            exact ⟨rfl, hbel⟩
        · obtain rfl : j = l.length := by omega
          have hltz : ¬ (l.length : Int) < (l.length : Int) := by omega
          have hr := HY.out HH.out.2
          subst hr
          have hbel := H.bel
          clear HH H
          go_wp2
          go_ret
          exact ⟨rfl, hbel⟩
    · have hf : decide (room = room ∧ l = m) = false := decide_eq_false fun h => h2 (by rw [h.2])
      rw [hf]
      have h2z : ¬ (l.length : Int) = (m.length : Int) := by omega
      clear hf
      go_enter Try.func20, Try.ntmps20
      go_wp2
      go_ret
      exact ⟨rfl, hbel⟩
  · have hf : decide (room = ro ∧ l = m) = false := decide_eq_false fun h => h1 h.1
    rw [hf]
    clear hf
    go_enter Try.func20, Try.ntmps20
    go_wp2
    go_ret
    exact ⟨rfl, hbel⟩
end Go.Proofs.Ytikgnjcjbjafaaa
namespace Go.Proofs.Ytikgnjcjbjafaaa
set_option linter.unusedVariables false
set_option linter.unusedSimpArgs false
open Go.RowKit Go.Sort

def rd5 (r : Raw5) : Nat → Int
  | 0 => r.1
  | 1 => r.2.1
  | 2 => r.2.2.1
  | 3 => r.2.2.2.1
  | _ => r.2.2.2.2
def rawV (r : Raw5) : Value := .agg #[.int .i64 r.1, .int .i64 r.2.1, .int .i64 r.2.2.1, .int .i64 r.2.2.2.1, .int .i64 r.2.2.2.2]
def Fine5 (r : Raw5) : Prop := I64 r.1 ∧ I64 r.2.1 ∧ I64 r.2.2.1 ∧ I64 r.2.2.2.1 ∧ I64 r.2.2.2.2
theorem Fine5.at_ {r : Raw5} (h : Fine5 r) : ∀ i, I64 (rd5 r i) := by
  intro i
  match i with
  | 0 => exact h.1
  | 1 => exact h.2.1
  | 2 => exact h.2.2.1
  | 3 => exact h.2.2.2.1
  | n + 4 => exact h.2.2.2.2
/-- so many of the four -/
def kdTo (K : Kd) (n : Nat) : Kd := (if 0 < n then K.1 else 0, if 1 < n then K.2.1 else 0, if 2 < n then K.2.2.1 else 0, if 3 < n then K.2.2.2 else 0)
theorem kdTo_4 (K : Kd) : kdTo K 4 = K := rfl
theorem kids6_kd (l : List Nd) (r : Raw5) : ∀ i, i < 4 → kd (kids6 l r) i = pickOf (sameTo l (levOf l r) l.length) (rd5 r i) := by
  intro i hi
  match i, hi with
  | 0, _ => rfl
  | 1, _ => rfl
  | 2, _ => rfl
  | 3, _ => rfl
theorem kdTo_set {w : World} {g T : Nat} {K : Kd} {k : Nat} (hk : k < 4) (h : w.heap[g]? = some (.cells #[.int .i64 (kdTo K k).1, .int .i64 (kdTo K k).2.1, .int .i64 (kdTo K k).2.2.1, .int .i64 (kdTo K k).2.2.2] T (0, 0))) :
    (w.setCell ⟨g, k, none⟩ (.int .i64 (kd K k))).heap[g]? = some (.cells #[.int .i64 (kdTo K (k + 1)).1, .int .i64 (kdTo K (k + 1)).2.1, .int .i64 (kdTo K (k + 1)).2.2.1, .int .i64 (kdTo K (k + 1)).2.2.2] T (0, 0)) := by
  match k, hk with
  | 0, _ => simp [World.setCell, Array.getElem?_modify, h, kdTo, kd]
  | 1, _ => simp [World.setCell, Array.getElem?_modify, h, kdTo, kd]
  | 2, _ => simp [World.setCell, Array.getElem?_modify, h, kdTo, kd]
  | 3, _ => simp [World.setCell, Array.getElem?_modify, h, kdTo, kd]
theorem kdTo_cell {w : World} {g T : Nat} {K : Kd} {k j : Nat} (hj : j < 4) (h : w.heap[g]? = some (.cells #[.int .i64 (kdTo K k).1, .int .i64 (kdTo K k).2.1, .int .i64 (kdTo K k).2.2.1, .int .i64 (kdTo K k).2.2.2] T (0, 0))) :
    w.cell? ⟨g, j, none⟩ = some (.int .i64 (kd (kdTo K k) j)) := by
  rw [Lib.cell_of_heap h]
  match j, hj with
  | 0, _ => rfl
  | 1, _ => rfl
  | 2, _ => rfl
  | 3, _ => rfl
/-- What is known within Kids. -/
structure KidHead (w wr : World) (A : Option Addr) (n c : Nat) (room : Int) (r : Raw5) : Prop where
  store : wr.heap[w.heap.size]? = some (.cells #[.slice A n c, .int .i64 room] 27 (0, 0))
  raw : wr.heap[w.heap.size + 1]? = some (.cells #[.int .i64 r.1, .int .i64 r.2.1, .int .i64 r.2.2.1, .int .i64 r.2.2.2.1, .int .i64 r.2.2.2.2] 107 (0, 0))
  res : wr.heap[w.heap.size + 2]? = some (.cells #[.int .i64 0, .int .i64 0, .int .i64 0, .int .i64 0] 52 (0, 0))
  bel : Below w.heap.size w wr
section
variable {w wr w' : World} {A : Option Addr} {n c : Nat} {room : Int} {r : Raw5}
theorem KidHead.size (h : KidHead w wr A n c room r) : w.heap.size + 3 ≤ wr.heap.size := lt_heap6 h.res
theorem KidHead.below (h : KidHead w wr A n c room r) (hb : Below (w.heap.size + 3) wr w') : KidHead w w' A n c room r :=
  ⟨(hb.block _ (by omega)).trans h.store, (hb.block _ (by omega)).trans h.raw, (hb.block _ (by omega)).trans h.res, h.bel.trans (hb.mono (by omega))⟩
theorem KidHead.s0 (h : KidHead w wr A n c room r) : wr.cell? ⟨w.heap.size, 0, none⟩ = some (.slice A n c) := by rw [Lib.cell_of_heap h.store]; rfl
theorem KidHead.r_ (h : KidHead w wr A n c room r) {i : Nat} (hi : i < 5) : wr.cell? ⟨w.heap.size + 1, i, none⟩ = some (.int .i64 (rd5 r i)) := by
  rw [Lib.cell_of_heap h.raw]
  match i, hi with
  | 0, _ => rfl
  | 1, _ => rfl
  | 2, _ => rfl
  | 3, _ => rfl
  | 4, _ => rfl
end
theorem kidHead_0 (w : World) (A : Option Addr) (n c : Nat) (room : Int) (r : Raw5) : KidHead w (((w.alloc (.cells #[.slice A n c, .int .i64 room] 27)).alloc (.cells #[.int .i64 r.1, .int .i64 r.2.1, .int .i64 r.2.2.1, .int .i64 r.2.2.2.1, .int .i64 r.2.2.2.2] 107)).alloc (.cells #[.int .i64 0, .int .i64 0, .int .i64 0, .int .i64 0] 52)) A n c room r := by
  have h1 := storeAt_0 w A n c room
  have hs := lt_heap6 h1.store
  have hsz : (w.alloc (.cells #[.slice A n c, .int .i64 room] 27)).heap.size = w.heap.size + 1 := by simp
  have hsz2 : ((w.alloc (.cells #[.slice A n c, .int .i64 room] 27)).alloc (.cells #[.int .i64 r.1, .int .i64 r.2.1, .int .i64 r.2.2.1, .int .i64 r.2.2.2.1, .int .i64 r.2.2.2.2] 107)).heap.size = w.heap.size + 2 := by simp
  refine ⟨(Lib.alloc_old _ _ _ (by omega)).trans ((Lib.alloc_old _ _ _ (by omega)).trans h1.store), (Lib.alloc_old _ _ _ (by omega)).trans ?_, ?_, (h1.bel.alloc (by omega) _).alloc (by omega) _⟩
  · rw [← hsz]
    exact heap_alloc_new _ _
  · rw [← hsz2]
    exact heap_alloc_new _ _

/-- what was told -/
theorem kid_told {w wr : World} {K : Kd} (h : wr.heap[w.heap.size + 2]? = some (.cells #[.int .i64 0, .int .i64 0, .int .i64 0, .int .i64 0] 52 (0, 0))) (hb : Below w.heap.size w wr) :
    ((((wr.setCell ⟨w.heap.size + 1 + 1, 0, none⟩ (.int .i64 K.1)).setCell ⟨w.heap.size + 1 + 1, 1, none⟩ (.int .i64 K.2.1)).setCell ⟨w.heap.size + 1 + 1, 2, none⟩ (.int .i64 K.2.2.1)).setCell ⟨w.heap.size + 1 + 1, 3, none⟩ (.int .i64 K.2.2.2)).heap[w.heap.size + 1 + 1]? = some (.cells #[.int .i64 K.1, .int .i64 K.2.1, .int .i64 K.2.2.1, .int .i64 K.2.2.2] 52 (0, 0)) ∧
    Below w.heap.size w ((((wr.setCell ⟨w.heap.size + 1 + 1, 0, none⟩ (.int .i64 K.1)).setCell ⟨w.heap.size + 1 + 1, 1, none⟩ (.int .i64 K.2.1)).setCell ⟨w.heap.size + 1 + 1, 2, none⟩ (.int .i64 K.2.2.1)).setCell ⟨w.heap.size + 1 + 1, 3, none⟩ (.int .i64 K.2.2.2)) := by
  refine ⟨by simp [World.setCell, Array.getElem?_modify, h], ?_⟩
  exact (((hb.setCell (by show _ ≤ _ + 1 + 1; omega) _).setCell (by show _ ≤ _ + 1 + 1; omega) _).setCell (by show _ ≤ _ + 1 + 1; omega) _).setCell (by show _ ≤ _ + 1 + 1; omega) _

set_option maxHeartbeats 4000000 in
set_option maxRecDepth 100000 in
theorem kids6_any (A : Option Addr) (l : List Nd) (c : Nat) (room : Int) (r : Raw5) (w : World) (hR : RdN w w.heap.size A l) (hl : l.length ≤ 100000) (hr : Fine5 r) :
    Calls Try.prog 77 #[storeV A l.length c room, rawV r] w fun e w' => e = .returned (kidsV (kids6 l r)) ∧ Below w.heap.size w w' := by
  have HH0 := Lib.hid (kidHead_0 w A l.length c room r)
  have s0 := HH0.out.s0
  have k4 := HH0.out.r_ (i := 4) (by decide)
  simp only [rd5] at k4
  obtain ⟨lev, hlev⟩ : ∃ lev, lev = levOf l r := ⟨_, rfl⟩
  have hkk := kids6_kd l r
  rw [← hlev] at hkk
  obtain ⟨K, hK⟩ : ∃ K, K = kids6 l r := ⟨_, rfl⟩
  rw [← hK] at hkk ⊢
  have HKK := Lib.hid hkk
  have HK := Lib.hid hK
  unfold storeV rawV
  clear hkk hK
  by_cases h0 : 0 < l.length
  · have h0z : (l.length : Int) > 0 := by omega
    obtain ⟨m, hm⟩ : ∃ m, m = (pickI r.2.2.2.2 l.length).toNat := ⟨_, rfl⟩
    have hmb := pickI_bd r.2.2.2.2 l.length (by omega)
    have hml : m < l.length := by omega
    have hpick := fun W => pick_nat r.2.2.2.2 l.length W hr.2.2.2.2 (by omega) (by omega)
    rw [← hm] at hpick
    have hlv : (l.getD m deadN).1 = lev := by
      rw [hlev]
      unfold levOf
      rw [if_pos h0, hm]
      rfl
    have hSpos : 0 < (sameTo l lev l.length).length := List.length_pos_of_mem (sameTo_mem hml hlv)
    obtain ⟨b0, off, rfl, hbB, hcell⟩ := hR.at_ h0
    obtain ⟨m0, _, _, _, _, _⟩ := hcell m hml
    rw [hlv] at m0
    have m0 := Qt.keep HH0.out.bel m0
    have hd0 : decide ((m : Int) < 0) = false := decide_eq_false (by omega)
    have hd1 : decide (l.length ≤ m) = false := decide_eq_false (by omega)
    have hmlz : (m : Int) < (l.length : Int) := by omega
    clear hm hmb hlv hlev hcell
    go_enter Try.func77, Try.ntmps77
    go_wp2_with fail
    generalize ((w.alloc (.cells #[.slice (some ⟨b0, off, none⟩) l.length c, .int .i64 room] 27)).alloc (.cells #[.int .i64 r.1, .int .i64 r.2.1, .int .i64 r.2.2.1, .int .i64 r.2.2.2.1, .int .i64 r.2.2.2.2] 107)).alloc (.cells #[.int .i64 0, .int .i64 0, .int .i64 0, .int .i64 0] 52) = w0 at *
    have q0 := Qt.cell_in s0
    have q1 := Qt.cell_in k4
    have q2 := Qt.cell_in m0
    refine Qt.below_all (by kernel_rfl) (by kernel_rfl) ?_
    repeat (go_big_quiet_step (first | (go_at_call 75; exact Qt.at_same fun _ _ => hpick _)))
    refine wpQuiet_nil ?_
    intro w1 hb1
    have H1 := HH0.out.below (hb1.mono HH0.out.size)
    clear q0 q1 q2 s0 k4 m0 hd0 hd1 hpick hb1
    have HR := Lib.hid hR
    have HF := Lib.hid hr
    clear hr
    have hlen0 := h0
    clear h0 h0z hml hmlz m0
    go_wp2_with fail
    go_loopw [5, 7] (fun v i wr => ∃ j : Nat, j ≤ l.length ∧ i = .int .i64 j ∧ Hid (KidHead w wr (some ⟨b0, off, none⟩) l.length c room r ∧ Own wr (w.heap.size + 3) v (sameTo l lev j))) (fun _ i _ => l.length - (intOf i).toNat)
    case atStart => exact ⟨0, Nat.zero_le _, rfl, H1, World.ownsRow_nil _ _ _ _⟩
    case round =>
      obtain ⟨j, hj, rfl, HH⟩ := hrel
      have H := HH.out.1
      have s0 := H.s0
      by_cases hlt : j < l.length
      · have hltz : (j : Int) < (l.length : Int) := by omega
        obtain ⟨b1, off1, he, hbB1, hcell⟩ := HR.out.at_ hlen0
        obtain ⟨rfl, rfl⟩ : b0 = b1 ∧ off = off1 := by injection he with he; injection he with h1 h2; exact ⟨h1, h2⟩
        obtain ⟨n0, _, _, _, _, _⟩ := hcell j hlt
        have n0 := Qt.keep H.bel n0
        have hsucc := sameTo_succ l lev j
        have hsl := sameTo_len l lev j
        clear hcell he
        generalize (l.getD j deadN).1 = x at *
        by_cases hx : x = lev
        · subst hx
          rw [if_pos rfl] at hsucc
          obtain ⟨v', w', hrun, hown, hb2⟩ := push_any (j : Int) H.size HH.out.2 (by omega)
          have HS := Lib.hid hsucc
          have HN : Hid (KidHead w w' (some ⟨b0, off, none⟩) l.length c room r ∧ Own w' (w.heap.size + 3) v' (sameTo l x (j + 1))) := ⟨H.below hb2, by rw [hsucc]; exact hown⟩
          have HRUN := Lib.hid hrun
          clear hsucc hown hrun hsl hb2
          go_wp2_with (at_builtin; refine Lib.wpList_append_run _ rfl (.tmp 40) (.tmp 42) 60 60 rfl _ _ rfl rfl _ _ HRUN.out ?_)
          go_roundw
          case measure => simp [intOf]; omega
          case rel => exact ⟨j + 1, by omega, by go_num, HN.out⟩
        · rw [if_neg hx] at hsucc
          have hown := HH.out.2
          rw [← hsucc] at hown
          have HN := Lib.hid (And.intro H hown)
          clear hsucc hsl HH H hown
          go_wp2
          go_roundw
          case measure => simp [intOf]; omega
          case rel => exact ⟨j + 1, by omega, by go_num, HN.out⟩
      · obtain rfl : j = l.length := by omega
        have hltz : ¬ (l.length : Int) < (l.length : Int) := by omega
        obtain ⟨A2, c2, rfl, hc2, hN⟩ := HH.out.2.reads
        have hsl := sameTo_len l lev l.length
        generalize sameTo l lev l.length = S at *
        have hgs := H.size
        have hrow := heap_alloc_new wr (.cells #[.int .i64 0, .int .i64 0, .int .i64 0, .int .i64 0] 52 (0, 0))
        have hba : Below wr.heap.size wr (wr.alloc (.cells #[.int .i64 0, .int .i64 0, .int .i64 0, .int .i64 0] 52)) := (Below.refl _ _).alloc (Nat.le_refl _) _
        have h20 := Lib.hid (And.intro (H.below (hba.mono hgs)) (And.intro (show (wr.alloc (.cells #[.int .i64 0, .int .i64 0, .int .i64 0, .int .i64 0] 52)).heap[wr.heap.size]? = some (.cells #[.int .i64 (kdTo K 0).1, .int .i64 (kdTo K 0).2.1, .int .i64 (kdTo K 0).2.2.1, .int .i64 (kdTo K 0).2.2.2] 52 (0, 0)) from hrow) (Rd.below hN hba (Nat.le_refl _))))
        have hSz : (S.length : Int) > 0 := by omega
        clear hrow hba hN HH H
        go_wp2_with fail
        generalize wr.alloc (.cells #[.int .i64 0, .int .i64 0, .int .i64 0, .int .i64 0] 52) = wx at *
        generalize wr.heap.size = g at *
        clear s0
        go_loopw [9] (fun i wq => ∃ k : Nat, k ≤ 4 ∧ i = .int .i64 k ∧ Hid (KidHead w wq (some ⟨b0, off, none⟩) l.length c room r ∧ wq.heap[g]? = some (.cells #[.int .i64 (kdTo K k).1, .int .i64 (kdTo K k).2.1, .int .i64 (kdTo K k).2.2.1, .int .i64 (kdTo K k).2.2.2] 52 (0, 0)) ∧ Rd wq g A2 S)) (fun i _ => 4 - (intOf i).toNat)
        case atStart => exact ⟨0, by omega, rfl, h20⟩
        case round =>
          obtain ⟨k, hk, rfl, HH⟩ := hrel
          obtain ⟨H, hrow, hRd⟩ := HH.out
          by_cases hlt : k < 4
          · have hltz : (k : Int) < 4 := by omega
            obtain ⟨q, hq⟩ : ∃ q, q = (pickI (rd5 r k) S.length).toNat := ⟨_, rfl⟩
            have hqb := pickI_bd (rd5 r k) S.length (by omega)
            have hql : q < S.length := by omega
            have hpick := fun W => pick_nat (rd5 r k) S.length W (HF.out.at_ k) (by omega) (by omega)
            rw [← hq] at hpick
            have hkd : kd K k = S.getD q 0 := by
              rw [HKK.out k hlt]
              unfold pickOf
              rw [if_pos hSpos, hq]
              rfl
            obtain ⟨b1, off1, rfl, hb1g, hcell⟩ := hRd.at_ hSpos
            have hc := hcell q hql
            rw [← hkd] at hc
            have r_ := H.r_ (i := k) (by omega)
            have hqz : (q : Int) < (S.length : Int) := by omega
            have hkz : (k : Int) < 5 := by omega
            have gc := kdTo_cell hlt hrow
            have gf := Lib.frozen_of_heap hrow k
            have hbs : Below g wr (wr.setCell ⟨g, k, none⟩ (.int .i64 (kd K k))) := (Below.refl _ _).setCell (by show g ≤ g; omega) _
            have HN := Lib.hid (And.intro (H.below (hbs.mono hgs)) (And.intro (kdTo_set hlt hrow) (Rd.below hRd hbs (Nat.le_refl _))))
            clear hq hqb hcell hrow hRd HH H hbs h20 hkd
            generalize rd5 r k = x at *
            generalize kd K k = y at *
            generalize kd (kdTo K k) k = z at *
            go_wp2_with fail
            refine (hpick _).mono ?_
            rintro e w' ⟨rfl, rfl⟩
            clear hpick
            go_wp2
            go_roundw
            case measure => simp [intOf]; omega
            case rel => exact ⟨k + 1, by omega, by go_num, HN⟩
          · obtain rfl : k = 4 := by omega
            have hltz : ¬ ((4 : Nat) : Int) < 4 := by decide
            have c0 := kdTo_cell (j := 0) (by decide) hrow
            have c1 := kdTo_cell (j := 1) (by decide) hrow
            have c2 := kdTo_cell (j := 2) (by decide) hrow
            have c3 := kdTo_cell (j := 3) (by decide) hrow
            rw [kdTo_4] at c0 c1 c2 c3
            simp only [kd] at c0 c1 c2 c3
            have hres := H.res
            have t0 : wr.cell? ⟨w.heap.size + 1 + 1, 0, none⟩ = some (.int .i64 0) := by rw [Lib.cell_of_heap hres]; rfl
            have t1 : wr.cell? ⟨w.heap.size + 1 + 1, 1, none⟩ = some (.int .i64 0) := by rw [Lib.cell_of_heap hres]; rfl
            have t2 : wr.cell? ⟨w.heap.size + 1 + 1, 2, none⟩ = some (.int .i64 0) := by rw [Lib.cell_of_heap hres]; rfl
            have t3 : wr.cell? ⟨w.heap.size + 1 + 1, 3, none⟩ = some (.int .i64 0) := by rw [Lib.cell_of_heap hres]; rfl
            have f0 : wr.frozen? ⟨w.heap.size + 1 + 1, 0, none⟩ = false := Lib.frozen_of_heap hres 0
            have f1 : wr.frozen? ⟨w.heap.size + 1 + 1, 1, none⟩ = false := Lib.frozen_of_heap hres 1
            have f2 : wr.frozen? ⟨w.heap.size + 1 + 1, 2, none⟩ = false := Lib.frozen_of_heap hres 2
            have f3 : wr.frozen? ⟨w.heap.size + 1 + 1, 3, none⟩ = false := Lib.frozen_of_heap hres 3
            have hbel := H.bel
            have HT := Lib.hid (kid_told (K := K) hres hbel)
            clear HH hRd H h20 hrow
            go_wp2
            refine bodyPost_ret (results_cell1 rfl _ _ (w.heap.size + 1 + 1) _ _ _ _ rfl HT.out.1 Try.underlying52 rfl (by kernel_rfl)) rfl ?_
            exact ⟨rfl, HT.out.2⟩
  · obtain rfl : l = [] := List.eq_nil_of_length_eq_zero (by omega)
    have hK0 : K = (0, 0, 0, 0) := HK.out
    subst hK0
    have h0z : ¬ (([] : List Nd).length : Int) > 0 := by decide
    have h0y : ¬ (0 : Int) < (([] : List Nd).length : Int) := by decide
    clear hlev HKK HK k4 h0z h0y h0 hr hR hl
    simp only [List.length_nil] at HH0 s0 ⊢
    go_enter Try.func77, Try.ntmps77
    go_wp2_with fail
    generalize ((w.alloc (.cells #[.slice A 0 c, .int .i64 room] 27)).alloc (.cells #[.int .i64 r.1, .int .i64 r.2.1, .int .i64 r.2.2.1, .int .i64 r.2.2.2.1, .int .i64 r.2.2.2.2] 107)).alloc (.cells #[.int .i64 0, .int .i64 0, .int .i64 0, .int .i64 0] 52) = w0 at *
    go_loopw [5, 7] (fun v i wr => v = .slice none 0 0 ∧ i = .int .i64 0 ∧ wr = w0) (fun _ i _ => 0)
    case atStart => exact ⟨rfl, rfl, rfl⟩
    case round =>
      obtain ⟨rfl, rfl, rfl⟩ := hrel
      have H := HH0.out
      have hgs := H.size
      have hrow := heap_alloc_new wr (.cells #[.int .i64 0, .int .i64 0, .int .i64 0, .int .i64 0] 52 (0, 0))
      have hba : Below wr.heap.size wr (wr.alloc (.cells #[.int .i64 0, .int .i64 0, .int .i64 0, .int .i64 0] 52)) := (Below.refl _ _).alloc (Nat.le_refl _) _
      have H2 := H.below (hba.mono hgs)
      clear H HH0 hba
      go_wp2_with fail
      generalize wr.alloc (.cells #[.int .i64 0, .int .i64 0, .int .i64 0, .int .i64 0] 52) = wx at *
      generalize wr.heap.size = g at *
      clear s0
      go_loopw [9] (fun i wq => i = .int .i64 0 ∧ wq = wx) (fun i _ => 0)
      case atStart => exact ⟨rfl, rfl⟩
      case round =>
        obtain ⟨rfl, rfl⟩ := hrel
        have c0 : wr.cell? ⟨g, 0, none⟩ = some (.int .i64 0) := by rw [Lib.cell_of_heap hrow]; rfl
        have c1 : wr.cell? ⟨g, 1, none⟩ = some (.int .i64 0) := by rw [Lib.cell_of_heap hrow]; rfl
        have c2 : wr.cell? ⟨g, 2, none⟩ = some (.int .i64 0) := by rw [Lib.cell_of_heap hrow]; rfl
        have c3 : wr.cell? ⟨g, 3, none⟩ = some (.int .i64 0) := by rw [Lib.cell_of_heap hrow]; rfl
        have hres := H2.res
        have t0 : wr.cell? ⟨w.heap.size + 1 + 1, 0, none⟩ = some (.int .i64 0) := by rw [Lib.cell_of_heap hres]; rfl
        have t1 : wr.cell? ⟨w.heap.size + 1 + 1, 1, none⟩ = some (.int .i64 0) := by rw [Lib.cell_of_heap hres]; rfl
        have t2 : wr.cell? ⟨w.heap.size + 1 + 1, 2, none⟩ = some (.int .i64 0) := by rw [Lib.cell_of_heap hres]; rfl
        have t3 : wr.cell? ⟨w.heap.size + 1 + 1, 3, none⟩ = some (.int .i64 0) := by rw [Lib.cell_of_heap hres]; rfl
        have f0 : wr.frozen? ⟨w.heap.size + 1 + 1, 0, none⟩ = false := Lib.frozen_of_heap hres 0
        have f1 : wr.frozen? ⟨w.heap.size + 1 + 1, 1, none⟩ = false := Lib.frozen_of_heap hres 1
        have f2 : wr.frozen? ⟨w.heap.size + 1 + 1, 2, none⟩ = false := Lib.frozen_of_heap hres 2
        have f3 : wr.frozen? ⟨w.heap.size + 1 + 1, 3, none⟩ = false := Lib.frozen_of_heap hres 3
        have HT := Lib.hid (kid_told (K := (0, 0, 0, 0)) hres H2.bel)
        clear H2 hrow
        go_wp2
        refine bodyPost_ret (results_cell1 rfl _ _ (w.heap.size + 1 + 1) _ _ _ _ rfl HT.out.1 Try.underlying52 rfl (by kernel_rfl)) rfl ?_
        exact ⟨rfl, HT.out.2⟩
end Go.Proofs.Ytikgnjcjbjafaaa
