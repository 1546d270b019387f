/-
  Texts that the claims of this seat share, part 7.
-/
import Derived.Test.YtikgnjcjbjafaaaB06
import Derived.RangeFuncNested
import Derived.RangeFuncBound
import Derived.RangeFuncCalls
import Derived.RangeFuncLeaves
import Derived.Shelf.Abstract
import Derived.Shelf.RegionOpen
import Derived.WalkKit
import Derived.OwnWalkIn
import Derived.TacticsInMore
import Derived.LoopNIn
import Derived.LoopIn
import Derived.Lib.ItoaMem
import GoSem.Op.String
import Derived.Test.YtikgnjcjbjafaaaRows
import Derived.Test.YtikgnjcjbjafaaaSh
import Derived.Test.YtikgnjcjbjafaaaB00
import Derived.WalkSpells
import Derived.WalkLawsBesides
import Derived.WalkArith
import Derived.IntWalk
import Derived.Lib.QuietBelow
import Derived.Lib.Hide
import Derived.Lib.AppendIntMem
import Derived.BigQuiet
import Derived.StillTailTactics
import Derived.LoopN
import Derived.Handy
import Derived.Deep.LoopGhost
import Derived.Lib.AppendZerosOnto
import Derived.Test.YtikgnjcjbjafaaaB04
set_option linter.unusedVariables false
set_option linter.unusedSimpArgs false
namespace Go.Proofs.Ytikgnjcjbjafaaa
set_option maxRecDepth 100000
set_option linter.unusedVariables false
set_option linter.unusedSimpArgs false
open Go.RowKit Go.Sort

/-- What grown answers. -/
def grown6 (l : List Nd) (room : Int) (z : List Nd × Int × Int) : List Nd × Int × Int := if right6 l room = true then (if z.2.2 = 0 then z else (l, 0, z.2.2)) else (l, 0, 1)
theorem grown_intern (l : List Nd) (room : Int) (k : Kd) : grown6 l room (put6 l room k) = intern6 l room k := by
  unfold grown6 intern6
  by_cases h : right6 l room = true
  · rw [if_pos h, if_pos h]
    by_cases he : (put6 l room k).2.2 = 0
    · rw [if_pos he]
    · rw [if_neg he]; exact (put_err he).symm
  · rw [if_neg h, if_neg h]
theorem grown_empty (l : List Nd) (room lev : Int) : grown6 l room (ixEmpty l room lev) = empty6 l room lev := by
  unfold grown6 ixEmpty
  by_cases h : right6 l room = true
  · rw [if_pos h]
    by_cases hl : 0 ≤ lev ∧ lev ≤ 42
    · simp only [if_pos hl]
      unfold empty6
      simp only [h, decide_eq_true hl.1, decide_eq_true hl.2, Bool.and_self, if_true]
    · simp only [if_neg hl]
      rw [if_neg (by decide)]
      exact (empty_bad (by omega)).symm
  · rw [if_neg h]
    exact (empty_bad (.inl (by simpa using h))).symm

theorem ix_boxed {w : World} {l : List Nd} {room : Int} {v : Value} {b n0 : Nat} {D : DataW Unit} (h : OwnN w n0 v l) (hm : MapAt w b l.length D) (hs : Says D l) (hb : n0 ≤ b) (hn : n0 ≤ w.heap.size) : Ix n0 (w.alloc (.cells #[v, .int .i64 room, .map (some b)] 115)) w.heap.size b l room :=
  ⟨v, D, ⟨heap_alloc_new w _, World.ownsRow.alloc h _, hm.alloc _, hs, hn, hb, by simp; omega⟩⟩

/-- What is known within Empty: the store, the level, what is to be told. -/
structure LevHead (w wr : World) (A : Option Addr) (n c : Nat) (room lev : Int) : Prop where
  store : wr.heap[w.heap.size]? = some (.cells #[.slice A n c, .int .i64 room] 27 (0, 0))
  lev : wr.heap[w.heap.size + 1]? = some (.cells #[.int .i64 lev] 3 (0, 0))
  res : wr.heap[w.heap.size + 2]? = some (.cells #[.slice none 0 0, .int .i64 0] 27 (0, 0))
  bel : Below w.heap.size w wr
section
variable {w wr w' : World} {A : Option Addr} {n c : Nat} {room lev : Int}
theorem LevHead.below (h : LevHead w wr A n c room lev) (hb : Below wr.heap.size wr w') : LevHead w w' A n c room lev :=
  ⟨(hb.block _ (lt_heap6 h.store)).trans h.store, (hb.block _ (lt_heap6 h.lev)).trans h.lev, (hb.block _ (lt_heap6 h.res)).trans h.res, Qt.more h.bel h.bel.size hb⟩
theorem LevHead.s0 (h : LevHead w wr A n c room lev) : wr.cell? ⟨w.heap.size, 0, none⟩ = some (.slice A n c) := by rw [Lib.cell_of_heap h.store]; rfl
theorem LevHead.s1 (h : LevHead w wr A n c room lev) : wr.cell? ⟨w.heap.size, 1, none⟩ = some (.int .i64 room) := by rw [Lib.cell_of_heap h.store]; rfl
theorem LevHead.l0 (h : LevHead w wr A n c room lev) : wr.cell? ⟨w.heap.size + 1, 0, none⟩ = some (.int .i64 lev) := by rw [Lib.cell_of_heap h.lev]; rfl
theorem LevHead.r0 (h : LevHead w wr A n c room lev) : wr.cell? ⟨w.heap.size + 2, 0, none⟩ = some (.slice none 0 0) := by rw [Lib.cell_of_heap h.res]; rfl
theorem LevHead.r1 (h : LevHead w wr A n c room lev) : wr.cell? ⟨w.heap.size + 2, 1, none⟩ = some (.int .i64 0) := by rw [Lib.cell_of_heap h.res]; rfl
theorem LevHead.free (h : LevHead w wr A n c room lev) (j : Nat) : wr.frozen? ⟨w.heap.size + 2, j, none⟩ = false := Lib.frozen_of_heap h.res j
theorem LevHead.told (h : LevHead w wr A n c room lev) (u v : Value) : ((wr.setCell ⟨w.heap.size + 2, 0, none⟩ u).setCell ⟨w.heap.size + 2, 1, none⟩ v).heap[w.heap.size + 2]? = some (.cells #[u, v] 27 (0, 0)) ∧ Below w.heap.size w ((wr.setCell ⟨w.heap.size + 2, 0, none⟩ u).setCell ⟨w.heap.size + 2, 1, none⟩ v) := by
  have hr := h.res
  refine ⟨?_, (h.bel.setCell (by show _ ≤ _ + 2; omega) _).setCell (by show _ ≤ _ + 2; omega) _⟩
  simp [World.setCell, Array.getElem?_modify, hr]
end
theorem levHead_0 (w : World) (A : Option Addr) (n c : Nat) (room lev : Int) : LevHead w (((w.alloc (.cells #[.slice A n c, .int .i64 room] 27)).alloc (.cells #[.int .i64 lev] 3)).alloc (.cells #[.slice none 0 0, .int .i64 0] 27)) A n c room lev := by
  have h1 := storeAt_0 w A n c room
  have hs := lt_heap6 h1.store
  have hs1 : (w.alloc (.cells #[.slice A n c, .int .i64 room] 27)).heap.size = w.heap.size + 1 := by simp
  have hsz : ((w.alloc (.cells #[.slice A n c, .int .i64 room] 27)).alloc (.cells #[.int .i64 lev] 3)).heap.size = w.heap.size + 2 := by simp
  refine ⟨(Lib.alloc_old _ _ _ (by omega)).trans ((Lib.alloc_old _ _ _ (by omega)).trans h1.store), (Lib.alloc_old _ _ _ (by omega)).trans ?_, ?_, (h1.bel.alloc (by omega) _).alloc (by omega) _⟩
  · rw [← hs1]
    exact heap_alloc_new _ _
  · rw [← hsz]
    exact heap_alloc_new _ _

set_option maxHeartbeats 8000000 in
set_option maxRecDepth 100000 in
theorem nodeRight_any (A : Option Addr) (l : List Nd) (c : Nat) (room : Int) (w : World) (hR : RdN w w.heap.size A l) (hl : l.length ≤ 1000000) (hc : l.length ≤ c) :
    Calls Try.prog 45 #[storeV A l.length c room] w fun e w' => e = .returned (.bool (right6 l room)) ∧ Below w.heap.size w w' := by
  have HH0 := storeAt_0 w A l.length c room
  have hidx := indexOf_any A l c room _ ((hR.below HH0.bel (Nat.le_refl _)).more HH0.bel.size) hl hc
  unfold storeV IndexR at hidx
  unfold storeV
  have HH := Lib.hid HH0
  have s0 := HH0.s0
  have s1 := HH0.s1
  cases hr : right6 l room with
  | false =>
    rw [hr] at hidx
    clear HH0
    go_enter Try.func45, Try.ntmps45
    go_wp2_with fail
    refine hidx.mono ?_
    rintro e w1 ⟨hb1, (⟨_, rfl⟩ | ⟨hh, _⟩)⟩
    rotate_left
    · exact absurd hh (by decide)
    have hbel := Lib.hid ((HH.out.bel.trans (hb1.mono (by simp))).alloc (B := w.heap.size) (by have := hb1.size; simp at this; omega) (.cells #[.slice none 0 0, .int .i64 0, .map none] 115))
    clear hidx hb1 s0 s1
    go_wp2
    go_ret
    exact ⟨rfl, hbel.out⟩
  | true =>
    have h2 := (right_iff.1 hr).two
    rw [hr] at hidx
    clear HH0
    go_enter Try.func45, Try.ntmps45
    go_wp2_with fail
    refine hidx.mono ?_
    rintro e w1 ⟨hb1, (⟨hh, _⟩ | ⟨_, v, b, D, rfl, hown, hmap, hsays, hbB⟩)⟩
    · exact absurd hh (by decide)
    obtain ⟨q1, cap, rfl, hcap⟩ := ownN_val hown (by omega)
    have hbel := Lib.hid ((HH.out.bel.trans (hb1.mono (by simp))).alloc (B := w.heap.size) (by have := hb1.size; simp at this; omega) (.cells #[.slice (some ⟨q1, 0, none⟩) l.length cap, .int .i64 room, .map (some b)] 115))
    clear hidx hb1 s0 s1 hown hmap hsays
    go_wp2
    go_ret
    exact ⟨rfl, hbel.out⟩
end Go.Proofs.Ytikgnjcjbjafaaa
namespace Go.Proofs.Ytikgnjcjbjafaaa
set_option maxRecDepth 100000
set_option linter.unusedVariables false
set_option linter.unusedSimpArgs false
open Go.RowKit Go.Sort

/-- a row of cells -/
def RowV (w : World) (q T : Nat) (xs : List Value) : Prop := w.heap[q]? = some (.cells xs.toArray T (0, 0))
section
variable {w w' : World} {q T : Nat} {xs : List Value}
theorem RowV.lt (h : RowV w q T xs) : q < w.heap.size := lt_heap6 h
theorem RowV.cell (h : RowV w q T xs) {i : Nat} {v : Value} (hi : xs[i]? = some v) : w.cell? ⟨q, i, none⟩ = some v := by
  rw [Lib.cell_of_heap h]
  simpa using hi
theorem RowV.free (h : RowV w q T xs) (i : Nat) : w.frozen? ⟨q, i, none⟩ = false := Lib.frozen_of_heap h i
theorem RowV.set (h : RowV w q T xs) (i : Nat) (u : Value) : RowV (w.setCell ⟨q, i, none⟩ u) q T (xs.set i u) := by
  unfold RowV at h ⊢
  simp [World.setCell, Array.getElem?_modify, h]
theorem RowV.other (h : RowV w q T xs) {p : Nat} (hne : q ≠ p) (i : Nat) (u : Value) : RowV (w.setCell ⟨p, i, none⟩ u) q T xs := by
  unfold RowV at h ⊢
  have hne' : p ≠ q := fun e => hne e.symm
  simp [World.setCell, Array.getElem?_modify, hne', h]
theorem RowV.below (h : RowV w q T xs) {B : Nat} (hb : Below B w w') (hB : q < B) : RowV w' q T xs := (hb.block _ hB).trans h
theorem RowV.now (h : RowV w q T xs) (hb : Below w.heap.size w w') : RowV w' q T xs := h.below hb h.lt
theorem RowV.drew (h : RowV w q T xs) : RowV w.drew q T xs := h
theorem RowV.made (w : World) (T : Nat) (xs : List Value) : RowV (w.alloc (.cells xs.toArray T)) w.heap.size T xs := heap_alloc_new w _
end
def boolsL (n : Nat) (f : Nat → Bool) : List Value := (List.range n).map fun i => .bool (f i)
theorem boolsL_get {n i : Nat} (f : Nat → Bool) (h : i < n) : (boolsL n f)[i]? = some (.bool (f i)) := by
  unfold boolsL
  rw [List.getElem?_map, List.getElem?_range h]
  rfl
theorem boolsL_len (n : Nat) (f : Nat → Bool) : (boolsL n f).length = n := by unfold boolsL; simp
theorem boolsL_set (n i : Nat) (f : Nat → Bool) : (boolsL n f).set i (.bool true) = boolsL n (fun x => f x || decide (x = i)) := by
  refine List.ext_getElem? fun k => ?_
  rw [List.getElem?_set]
  by_cases hk : k < n
  · by_cases hik : i = k
    · rw [if_pos hik, if_pos (by rw [boolsL_len]; omega), boolsL_get _ hk]
      simp [hik]
    · rw [if_neg hik, boolsL_get _ hk, boolsL_get _ hk]
      have : ¬ k = i := fun e => hik e.symm
      simp [this]
  · have h1 : (boolsL n f)[k]? = none := List.getElem?_eq_none (by rw [boolsL_len]; omega)
    have h2 : (boolsL n (fun x => f x || decide (x = i)))[k]? = none := List.getElem?_eq_none (by rw [boolsL_len]; omega)
    rw [h1, h2]
    split
    · rw [if_neg (by rw [boolsL_len]; omega)]
    · rfl
theorem boolsL_congr {n : Nat} {f g : Nat → Bool} (h : ∀ i, i < n → f i = g i) : boolsL n f = boolsL n g := by
  unfold boolsL
  refine List.map_congr_left fun i hi => ?_
  rw [h i (List.mem_range.1 hi)]
def intsL (l : List Int) : List Value := l.map fun x => .int .i64 x
theorem intsL_get {l : List Int} {i : Nat} (h : i < l.length) : (intsL l)[i]? = some (.int .i64 (l.getD i 0)) := by
  unfold intsL
  rw [List.getElem?_map, List.getElem?_eq_getElem h, List.getD_eq_getElem?_getD, List.getElem?_eq_getElem h]
  rfl
theorem intsL_set (l : List Int) (i : Nat) (x : Int) : (intsL l).set i (.int .i64 x) = intsL (l.set i x) := by
  unfold intsL
  rw [List.map_set]
/-- numbers told place by place: those below n by f, the others 0 -/
def numsL (n : Nat) (f : Nat → Int) : List Int := (List.range n).map f
theorem numsL_len (n : Nat) (f : Nat → Int) : (numsL n f).length = n := by unfold numsL; simp
theorem numsL_get {n i : Nat} (f : Nat → Int) (h : i < n) : (numsL n f).getD i 0 = f i := by
  unfold numsL
  rw [List.getD_eq_getElem?_getD, List.getElem?_map, List.getElem?_range h]
  rfl
theorem numsL_set (n i : Nat) (f : Nat → Int) (x : Int) : (numsL n f).set i x = numsL n (fun k => if k = i then x else f k) := by
  refine List.ext_getElem? fun k => ?_
  rw [List.getElem?_set]
  unfold numsL
  by_cases hk : k < n
  · rw [List.getElem?_map, List.getElem?_map, List.getElem?_range hk]
    by_cases hik : i = k
    · rw [if_pos hik, if_pos (by simp; omega)]
      simp [hik]
    · rw [if_neg hik]
      have : ¬ k = i := fun e => hik e.symm
      simp [this]
  · have h1 : ∀ g : Nat → Int, ((List.range n).map g)[k]? = none := fun g => List.getElem?_eq_none (by simp; omega)
    rw [h1, h1]
    split
    · rw [if_neg (by simp; omega)]
    · rfl
theorem info_bool : (Try.prog.info? 4).map (fun i => (i.zero, i.size, i.bytes)) = some (some (.bool false), 1, 1) := by kernel_rfl
theorem info_int6 : (Try.prog.info? 3).map (fun i => (i.zero, i.size, i.bytes)) = some (some (.int .i64 0), 1, 8) := by kernel_rfl
theorem made_bools (n : Nat) : (madeCells #[.bool false] n) = (boolsL n fun _ => false).toArray := by
  unfold madeCells boolsL
  refine Array.ext (by simp) fun i h1 h2 => ?_
  simp [Nat.mod_one]
theorem made_ints (n : Nat) : (madeCells #[.int .i64 0] n) = (intsL (numsL n fun _ => 0)).toArray := by
  unfold madeCells intsL numsL
  refine Array.ext (by simp) fun i h1 h2 => ?_
  simp [Nat.mod_one]
theorem makeInts (n : Nat) (hn : n ≤ 1000000) (u : World) : (Instr.makeSlice 60 (.int .i64 (n : Int)) (.int .i64 (n : Int))).run Try.prog u = .ok (.slice (some ⟨u.heap.size, 0, none⟩) n n) (u.alloc (.cells (intsL (numsL n fun _ => 0)).toArray 3)) := by
  obtain ⟨i0, hi, hz0, hz1, hz2⟩ := info_parts info_int6
  have h := run_make (P := Try.prog) u 60 3 i0 _ Try.underlying60 hi hz0 .i64 .i64 (n : Int) (n : Int) (by omega) (Int.le_refl _) (by rw [hz2]; omega) (by omega)
  rw [← made_ints]
  simpa [hz1, Value.cells] using h
end Go.Proofs.Ytikgnjcjbjafaaa
namespace Go.Proofs.Ytikgnjcjbjafaaa
set_option maxRecDepth 100000
set_option linter.unusedVariables false
set_option linter.unusedSimpArgs false
open Go.RowKit Go.Sort Go.Shelf
attribute [local go_sem] Oper.semAt_some

/-- a node's place -/
abbrev Ind (l : List Nd) := { i : Nat // i < l.length }
def indV (l : List Nd) (x : Ind l) : Array Value := #[.int .i64 (x.1 : Int), .agg #[.int .i64 (l.getD x.1 deadN).1, .int .i64 (l.getD x.1 deadN).2.1.1, .int .i64 (l.getD x.1 deadN).2.1.2.1, .int .i64 (l.getD x.1 deadN).2.1.2.2.1, .int .i64 (l.getD x.1 deadN).2.1.2.2.2, .int .i64 (l.getD x.1 deadN).2.2]]
/-- the last k places, from behind -/
def come (l : List Nd) (k : Nat) : List (Ind l) := (List.range k).filterMap fun j => if h : l.length - 1 - j < l.length then some ⟨l.length - 1 - j, h⟩ else none
theorem come_succ {l : List Nd} {k p : Nat} (h : k + (p + 1) = l.length) : come l (k + 1) = come l k ++ [⟨p, by omega⟩] := by
  unfold come
  rw [List.range_succ, List.filterMap_append]
  congr 1
  have e : l.length - 1 - k = p := by omega
  simp only [List.filterMap_cons, List.filterMap_nil]
  rw [dif_pos (by omega)]
  simp [e]
theorem come_len {l : List Nd} : ∀ k, k ≤ l.length → (come l k).length = k := by
  intro k
  induction k with
  | zero => intro _; rfl
  | succ k ih =>
    intro h
    rw [come_succ (p := l.length - (k + 1)) (by omega), List.length_append, ih (by omega)]
    rfl
/-- what lay below m, and block B, lies as it lay -/
def KpA (m B : Nat) (W W' : World) : Prop := ∀ k, (k < m ∨ k = B) → W'.heap[k]? = W.heap[k]?
theorem KpA.refl (m B : Nat) (W : World) : KpA m B W W := fun _ _ => rfl
theorem KpA.trans {m B : Nat} {W W' W'' : World} (h : KpA m B W W') (h' : KpA m B W' W'') : KpA m B W W'' := fun k hk => (h' k hk).trans (h k hk)
theorem KpA.nd {m B b o : Nat} {W W' : World} {x : Nd} (h : KpA m B W W') (hb : b < m) (hx : NdAt W b o x) : NdAt W' b o x := by
  have hc : ∀ i, W'.cell? ⟨b, i, none⟩ = W.cell? ⟨b, i, none⟩ := fun i => World.cell?_of_block (w := W) (h b (.inl hb))
  obtain ⟨h0, h1, h2, h3, h4, h5⟩ := hx
  exact ⟨(hc _).trans h0, (hc _).trans h1, (hc _).trans h2, (hc _).trans h3, (hc _).trans h4, (hc _).trans h5⟩

theorem kpA_t {m B : Nat} {A C D : World} (h : KpA m B A C) (k : KpA m B C D) : KpA m B A D := h.trans k
theorem kpA_b {m B : Nat} {w : World} (hm : m ≤ w.heap.size) (hB : B < w.heap.size) (W : World) (l : Nat) (o o' : Obj) (hl : w.heap.size ≤ l) (_ : W.heap[l]? = some o) (_ : o.isCells = false) (_ : o.isWalk = false) : KpA m B W (W.putObj l o') :=
  fun k hk => World.putObj_heap_other (by omega)
theorem KpA.setCell {m B : Nat} (W : World) {q i : Nat} (u : Value) (hm : m ≤ q) (hB : q ≠ B) : KpA m B W (W.setCell ⟨q, i, none⟩ u) := fun k hk => by
  have hne : q ≠ k := by rcases hk with h | h <;> omega
  simp [World.setCell, Array.getElem?_modify, hne]
theorem KpA.alloc {m B : Nat} (W : World) (o : Obj) (hm : m ≤ W.heap.size) (hB : B < W.heap.size) : KpA m B W (W.alloc o) := fun k hk => Lib.alloc_old _ _ _ (by omega)
theorem rowV_own {β : Type} (q T : Nat) (f : β → List Value) : Own (fun s W => RowV W q T (f s)) := fun s X Y row hs hg hrow => by
  have hne : row ≠ some q := fun e => by
    obtain ⟨o, ho, hc⟩ := hrow q e
    unfold RowV at hs
    rw [hs] at ho
    cases ho
    cases hc
  exact (hg.block q hs.lt (fun e => hne e.symm)).trans hs

/-! ### the flags -/
def stepF (l : List Nd) (f : Nat → Bool) (i : Nat) : Nat → Bool := if f i = true then setK (l.getD i deadN).2.1 f else f
def foldF (l : List Nd) (pre : List (Ind l)) (f : Nat → Bool) : Nat → Bool := pre.foldl (fun f x => stepF l f x.1) f
theorem foldF_snoc (l : List Nd) (pre : List (Ind l)) (x : Ind l) (f : Nat → Bool) : foldF l (pre ++ [x]) f = stepF l (foldF l pre f) x.1 := by unfold foldF; rw [List.foldl_append]; rfl
theorem step_mono {l : List Nd} {f : Nat → Bool} {i x : Nat} (h : f x = true) : stepF l f i x = true := by
  unfold stepF
  split
  · unfold setK; rw [h]; rfl
  · exact h
theorem step_same {l : List Nd} {room : Int} (hr : Right6 l room) {f : Nat → Bool} (h0 : f 0 = true) {i : Nat} (hi : i < l.length) : stepF l f i = (if (decide (2 ≤ i) && f i) = true then setK (l.getD i deadN).2.1 f else f) := by
  unfold stepF
  by_cases h2 : 2 ≤ i
  · rw [decide_eq_true h2, Bool.true_and]
  · have hd : (decide (2 ≤ i) && f i) = false := by rw [decide_eq_false h2]; rfl
    rw [hd]
    simp only [Bool.false_eq_true, if_false]
    split
    · have hk : (l.getD i deadN).2.1 = (0, 0, 0, 0) := by
        rcases (by omega : i = 0 ∨ i = 1) with rfl | rfl
        · rw [hr.dead]; rfl
        · rw [hr.live]; rfl
      rw [hk]
      funext x
      unfold setK isKid
      simp only
      by_cases hx : (x : Int) = 0
      · have : x = 0 := by omega
        subst this
        rw [h0]; rfl
      · have hx' : ¬ x = 0 := by omega
        simp [hx']
    · rfl
theorem fold_come {l : List Nd} {room : Int} (hr : Right6 l room) {f : Nat → Bool} (h0 : f 0 = true) : ∀ k p, k + p = l.length → foldF l (come l k) f 0 = true ∧ down l p (foldF l (come l k) f) = down l l.length f := by
  intro k
  induction k with
  | zero =>
    intro p hp
    obtain rfl : p = l.length := by omega
    exact ⟨h0, rfl⟩
  | succ k ih =>
    intro p hp
    obtain ⟨i0, i1⟩ := ih (p + 1) (by omega)
    rw [come_succ (p := p) (by omega), foldF_snoc]
    refine ⟨step_mono i0, ?_⟩
    rw [← i1]
    show _ = down l p _
    rw [step_same hr i0 (by show p < _; omega)]
theorem fold_all {l : List Nd} {room : Int} (hr : Right6 l room) {f : Nat → Bool} (h0 : f 0 = true) : foldF l (come l l.length) f = down l l.length f := (fold_come hr h0 l.length 0 (by omega)).2
/-- the first kids of four are told -/
def setTo (k : Kd) (f : Nat → Bool) (i : Nat) : Nat → Bool := fun x => f x || (List.range i).any fun c => decide (kd k c = (x : Int))
theorem setTo_zero (k : Kd) (f : Nat → Bool) : setTo k f 0 = f := by funext x; simp [setTo]
theorem setTo_succ (k : Kd) (f : Nat → Bool) (i p : Nat) (h : kd k i = (p : Int)) : (fun x => setTo k f i x || decide (x = p)) = setTo k f (i + 1) := by
  funext x
  unfold setTo
  rw [List.range_succ, List.any_append]
  simp only [List.any_cons, List.any_nil, Bool.or_false, Bool.or_assoc]
  congr 2
  rw [h]
  by_cases hx : x = p
  · simp [hx]
  · have : ¬ (p : Int) = (x : Int) := by omega
    simp [hx, this]
theorem setTo_all (k : Kd) (f : Nat → Bool) : setTo k f 4 = setK k f := by
  funext x
  unfold setTo setK isKid
  congr 1
  rw [show List.range 4 = [0, 1, 2, 3] from rfl]
  simp only [List.any_cons, List.any_nil, Bool.or_false, kd, Bool.or_assoc, @eq_comm Int _ (x : Int)]
theorem kid_in {l : List Nd} {room : Int} (hr : Right6 l room) {i : Nat} (hi : i < l.length) {c : Nat} (hc : c < 4) : 0 ≤ kd (l.getD i deadN).2.1 c ∧ kd (l.getD i deadN).2.1 c < l.length := by
  have h2 := hr.two
  by_cases h : 2 ≤ i
  · have := (fits_iff.1 (hr.fits i h hi)).kid c hc
    omega
  · have hk : (l.getD i deadN).2.1 = (0, 0, 0, 0) := by
      rcases (by omega : i = 0 ∨ i = 1) with rfl | rfl
      · rw [hr.dead]; rfl
      · rw [hr.live]; rfl
    rw [hk]
    have : kd (0, 0, 0, 0) c = 0 := by rcases (by omega : c = 0 ∨ c = 1 ∨ c = 2 ∨ c = 3) with rfl | rfl | rfl | rfl <;> rfl
    rw [this]
    omega
/-- the roots' flags, so many roots seen -/
def rootF (R : List Int) (i : Nat) : Nat → Bool := fun x => decide (x < 2) || (R.take i).any fun r => decide (r = (x : Int))
theorem rootF_zero (R : List Int) : rootF R 0 = fun x => ((fun _ => false) x || decide (x = 0)) || decide (x = 1) := by
  funext x
  unfold rootF
  by_cases h : x < 2
  · rcases (by omega : x = 0 ∨ x = 1) with rfl | rfl <;> simp
  · have h1 : ¬ x = 0 := by omega
    have h2 : ¬ x = 1 := by omega
    simp [h, h1, h2]
theorem rootF_succ (R : List Int) (i p : Nat) (hi : i < R.length) (h : R.getD i 0 = (p : Int)) : (fun x => rootF R i x || decide (x = p)) = rootF R (i + 1) := by
  funext x
  unfold rootF
  rw [List.take_add_one, List.getElem?_eq_getElem hi, List.any_append]
  rw [List.getD_eq_getElem?_getD, List.getElem?_eq_getElem hi, Option.getD_some] at h
  simp only [Option.toList_some, List.any_cons, List.any_nil, Bool.or_false, Bool.or_assoc]
  congr 2
  rw [h]
  by_cases hx : x = p
  · simp [hx]
  · have : ¬ (p : Int) = (x : Int) := by omega
    simp [hx, this]
theorem rootF_all (R : List Int) : rootF R R.length = base6 R := by
  funext x
  unfold rootF base6
  rw [List.take_length]
end Go.Proofs.Ytikgnjcjbjafaaa
namespace Go.Proofs.Ytikgnjcjbjafaaa
open Go.Lib

/-! ### texts -/
def dv (c : UInt8) : Nat := c.toNat - 48
def digB (c : UInt8) : Bool := decide (48 ≤ c.toNat) && decide (c.toNat ≤ 57)
theorem digB_iff (c : UInt8) : digB c = true ↔ 48 ≤ c.toNat ∧ c.toNat ≤ 57 := by unfold digB; simp
theorem dv_le {c : UInt8} (h : digB c = true) : dv c ≤ 9 := by have := (digB_iff c).1 h; unfold dv; omega
def val (l : List UInt8) : Nat := l.foldl (fun n c => 10 * n + dv c) 0
theorem val_snoc (l : List UInt8) (c : UInt8) : val (l ++ [c]) = 10 * val l + dv c := by unfold val; rw [List.foldl_append]; rfl
theorem foldl_val (l : List UInt8) (a : Nat) : l.foldl (fun n c => 10 * n + dv c) a = a * 10 ^ l.length + val l := by
  induction l generalizing a with
  | nil => simp [val]
  | cons c l ih =>
    unfold val
    simp only [List.foldl_cons, List.length_cons]
    rw [ih, ih (10 * 0 + dv c), Nat.pow_succ]
    grind
theorem val_cons (c : UInt8) (l : List UInt8) : val (c :: l) = dv c * 10 ^ l.length + val l := by
  have := foldl_val l (10 * 0 + dv c)
  simpa [val] using this
theorem val_lt {l : List UInt8} (h : ∀ c ∈ l, digB c = true) : val l < 10 ^ l.length := by
  induction l with
  | nil => simp [val]
  | cons c l ih =>
    rw [val_cons, List.length_cons, Nat.pow_succ]
    have h1 := ih fun d hd => h d (List.mem_cons_of_mem _ hd)
    have h2 := dv_le (h c List.mem_cons_self)
    have h3 : dv c * 10 ^ l.length ≤ 9 * 10 ^ l.length := Nat.mul_le_mul_right _ h2
    omega

/-- a 0 that others follow -/
def zeroB (l : List UInt8) : Bool := decide (1 < l.length) && (l.getD 0 0 == 48)
def badL (l : List UInt8) : Bool := l.isEmpty || zeroB l || !l.all digB
def parseL (l : List UInt8) : Int × Int := if badL l = true then (0, 20) else if 4611686018427387903 < val l then (0, 21) else (val l, 0)
theorem badL_iff (l : List UInt8) : badL l = false ↔ l ≠ [] ∧ zeroB l = false ∧ ∀ c ∈ l, digB c = true := by
  unfold badL
  simp [List.all_eq_true, and_assoc]

theorem ofNat_to (u : Nat) (h : u < 10) : (UInt8.ofNat (48 + u)).toNat = 48 + u := by simp; omega
theorem dig_of (u : Nat) (h : u < 10) : digB (UInt8.ofNat (48 + u)) = true ∧ dv (UInt8.ofNat (48 + u)) = u := by
  rw [digB_iff]
  unfold dv
  rw [ofNat_to u h]
  omega
theorem dec_small {u : Nat} (h : u < 10) : decDigits u = [UInt8.ofNat (48 + u)] := decDigits_one h
theorem dec_big {u : Nat} (h : ¬ u < 10) : decDigits u = decDigits (u / 10) ++ [UInt8.ofNat (48 + u % 10)] := by rw [decDigits, dif_neg h]
theorem dec_dig (u : Nat) : ∀ c ∈ decDigits u, digB c = true := by
  induction u using Nat.strongRecOn with
  | _ u ih =>
    by_cases h : u < 10
    · rw [dec_small h]; intro c hc; simp at hc; subst hc; have := (dig_of u h).1; simpa using this
    · rw [dec_big h]
      intro c hc
      rcases List.mem_append.1 hc with h1 | h1
      · exact ih (u / 10) (by omega) c h1
      · rw [List.mem_singleton.1 h1]; exact (dig_of (u % 10) (by omega)).1
theorem dec_val (u : Nat) : val (decDigits u) = u := by
  induction u using Nat.strongRecOn with
  | _ u ih =>
    by_cases h : u < 10
    · rw [dec_small h]; have := (dig_of u h).2; simp only [val, List.foldl_cons, List.foldl_nil]; omega
    · rw [dec_big h, val_snoc, ih (u / 10) (by omega), (dig_of (u % 10) (by omega)).2]; omega
theorem dec_pos (u : Nat) : 0 < (decDigits u).length := by rw [decDigits_length]; exact nDigits_pos u
theorem dec_head (u : Nat) (h1 : 1 ≤ u) : (decDigits u).getD 0 0 ≠ 48 := by
  induction u using Nat.strongRecOn with
  | _ u ih =>
    by_cases h : u < 10
    · rw [dec_small h]
      intro e
      have e2 := congrArg UInt8.toNat e
      rw [List.getD_cons_zero, ofNat_to u h] at e2
      have : (48 : UInt8).toNat = 48 := rfl
      omega
    · rw [dec_big h]
      have hp := dec_pos (u / 10)
      rw [List.getD_eq_getElem?_getD, List.getElem?_append_left hp, ← List.getD_eq_getElem?_getD]
      exact ih (u / 10) (by omega) (by omega)
theorem dec_zero (u : Nat) : zeroB (decDigits u) = false := by
  unfold zeroB
  by_cases h : u < 10
  · rw [dec_small h]; simp
  · have := dec_head u (by omega)
    simp only [Bool.and_eq_false_iff]
    right
    simpa using this
theorem dec_good (u : Nat) : badL (decDigits u) = false := (badL_iff _).2 ⟨fun e => by have := dec_pos u; rw [e] at this; simp at this, dec_zero u, dec_dig u⟩
theorem parse_dec {u : Nat} (h : u ≤ 4611686018427387903) : parseL (decDigits u) = ((u : Int), 0) := by
  unfold parseL
  rw [dec_good, dec_val]
  simp
  omega
theorem dec_of_val : ∀ (n : Nat) (l : List UInt8), l.length = n → badL l = false → decDigits (val l) = l := by
  intro n
  induction n with
  | zero => intro l hl h; exact absurd (List.eq_nil_of_length_eq_zero hl) ((badL_iff l).1 h).1
  | succ n ih =>
    intro l hl h
    obtain ⟨hne, hz, hd⟩ := (badL_iff l).1 h
    obtain ⟨m, c, rfl⟩ : ∃ m c, l = m ++ [c] := ⟨l.dropLast, l.getLast hne, (List.dropLast_concat_getLast hne).symm⟩
    have hc := hd c (by simp)
    have hc9 := dv_le hc
    have hcc : UInt8.ofNat (48 + dv c) = c := by
      have := (digB_iff c).1 hc
      unfold dv
      rw [show 48 + (c.toNat - 48) = c.toNat by omega]
      simp
    by_cases hm : m = []
    · subst hm
      have e : val ([] ++ [c]) = dv c := by rw [val_snoc]; simp [val]
      rw [e, dec_small (by omega), hcc]
      rfl
    · have hml : 0 < m.length := List.length_pos_iff.2 hm
      have hh : (m ++ [c]).getD 0 0 = m.getD 0 0 := by rw [List.getD_eq_getElem?_getD, List.getElem?_append_left hml, ← List.getD_eq_getElem?_getD]
      have h48 : m.getD 0 0 ≠ 48 := by
        intro e
        unfold zeroB at hz
        rw [hh, e] at hz
        simp at hz
        exact hm hz
      have hgm : badL m = false := (badL_iff m).2 ⟨hm, by
        unfold zeroB
        simp only [Bool.and_eq_false_iff]
        right
        simpa using h48, fun d hdm => hd d (by simp [hdm])⟩
      have hi := ih m (by simp at hl; omega) hgm
      have h1 : 1 ≤ val m := by
        rcases Nat.eq_zero_or_pos (val m) with e | e
        · rw [e, dec_small (by omega)] at hi
          exact absurd (by rw [← hi]; rfl) h48
        · exact e
      rw [val_snoc, dec_big (by omega), show (10 * val m + dv c) / 10 = val m by omega, show (10 * val m + dv c) % 10 = dv c by omega, hi, hcc]
theorem dec_back {l : List UInt8} (h : badL l = false) : decDigits (val l) = l := dec_of_val _ l rfl h
theorem nd_le (u : Nat) (h : 1 ≤ u) : 10 ^ nDigits u ≤ 10 * u := by
  induction u using Nat.strongRecOn with
  | _ u ih =>
    by_cases h10 : u < 10
    · rw [nDigits_small h10]; omega
    · rw [nDigits_big h10, Nat.pow_succ]
      have := ih (u / 10) (by omega) (by omega)
      omega
theorem nd_max {u : Nat} (h : u ≤ 4611686018427387903) : nDigits u ≤ 19 := by
  rcases Nat.eq_zero_or_pos u with rfl | hp
  · rw [nDigits_small (by omega)]; omega
  · have := nd_le u hp
    rcases Nat.lt_or_ge 19 (nDigits u) with h1 | h1
    · have h2 := Nat.pow_le_pow_right (n := 10) (by decide) h1
      have h3 : (10 : Nat) ^ (19 + 1) = 100000000000000000000 := by decide
      have h4 : (10 : Nat) ^ Nat.succ 19 = 100000000000000000000 := by decide
      omega
    · exact h1
theorem nd_min {u : Nat} (h : 4611686018427387903 < u) : 19 ≤ nDigits u := by
  have := lt_pow_nDigits u
  rcases Nat.lt_or_ge (nDigits u) 19 with h1 | h1
  · have h2 := Nat.pow_le_pow_right (n := 10) (by decide) (show nDigits u ≤ 18 by omega)
    have h3 : (10 : Nat) ^ 18 = 1000000000000000000 := by decide
    omega
  · exact h1
theorem long_big {l : List UInt8} (h : badL l = false) (hl : 19 < l.length) : 4611686018427387903 < val l := by
  rcases Nat.lt_or_ge 4611686018427387903 (val l) with h1 | h1
  · exact h1
  · have := nd_max h1
    rw [← decDigits_length, dec_back h] at this
    omega
theorem big_long {l : List UInt8} (h : badL l = false) (hv : 4611686018427387903 < val l) : 19 ≤ l.length := by
  have := nd_min hv
  rwa [← decDigits_length, dec_back h] at this
theorem val_mono {l : List UInt8} (k : Nat) : val (l.take k) ≤ val l := by
  have h : ∀ (m : List UInt8) (a : Nat), a ≤ m.foldl (fun n c => 10 * n + dv c) a := by
    intro m
    induction m with
    | nil => intro a; exact Nat.le_refl _
    | cons c m ih => intro a; exact Nat.le_trans (by omega) (ih (10 * a + dv c))
  have e : l = l.take k ++ l.drop k := (List.take_append_drop k l).symm
  conv => rhs; rw [e]
  unfold val
  rw [List.foldl_append]
  exact h _ _

/-! ### the order of texts -/
theorem less_val : ∀ (l m : List UInt8), l.length = m.length → (∀ c ∈ l, digB c = true) → (∀ c ∈ m, digB c = true) → Op.bytesLess l m = decide (val l < val m)
  | [], [], _, _, _ => by simp [Op.bytesLess]
  | [], _ :: _, h, _, _ => by simp at h
  | _ :: _, [], h, _, _ => by simp at h
  | a :: l, b :: m, h, hl, hm => by
    have hlen : l.length = m.length := by simpa using h
    have ih := less_val l m hlen (fun c hc => hl c (List.mem_cons_of_mem _ hc)) (fun c hc => hm c (List.mem_cons_of_mem _ hc))
    have v1 := val_lt (l := l) (fun c hc => hl c (List.mem_cons_of_mem _ hc))
    have v2 := val_lt (l := m) (fun c hc => hm c (List.mem_cons_of_mem _ hc))
    have d1 := (digB_iff a).1 (hl a List.mem_cons_self)
    have d2 := (digB_iff b).1 (hm b List.mem_cons_self)
    have ea : dv a = a.toNat - 48 := rfl
    have eb : dv b = b.toNat - 48 := rfl
    rw [Op.bytesLess, ih, val_cons, val_cons, hlen]
    rw [hlen] at v1
    generalize val l = x at *
    generalize val m = y at *
    generalize 10 ^ m.length = p at *
    rw [Bool.eq_iff_iff]
    simp only [Bool.or_eq_true, Bool.and_eq_true, decide_eq_true_eq, beq_iff_eq, UInt8.lt_iff_toNat_lt, ← UInt8.toNat_inj]
    rcases Nat.lt_trichotomy a.toNat b.toNat with h1 | h1 | h1
    · have h2 : dv a * p + p ≤ dv b * p := by
        have : (dv a + 1) * p ≤ dv b * p := Nat.mul_le_mul_right p (by omega)
        rwa [Nat.add_mul, Nat.one_mul] at this
      omega
    · rw [ea, eb, h1]; omega
    · have h2 : dv b * p + p ≤ dv a * p := by
        have : (dv b + 1) * p ≤ dv a * p := Nat.mul_le_mul_right p (by omega)
        rwa [Nat.add_mul, Nat.one_mul] at this
      omega
theorem dec_order (x y : Nat) : decide (x < y) = (decide ((decDigits x).length < (decDigits y).length) || (decide ((decDigits x).length = (decDigits y).length) && Op.bytesLess (decDigits x) (decDigits y))) := by
  have key : ∀ x y : Nat, (decDigits x).length < (decDigits y).length → x < y := by
    intro x y h
    rw [decDigits_length, decDigits_length] at h
    have h1 := lt_pow_nDigits x
    have h0 := nDigits_pos x
    have h2 := nd_le y (by
      rcases Nat.eq_zero_or_pos y with rfl | hp
      · rw [nDigits_small (u := 0) (by decide)] at h; have := nDigits_pos x; omega
      · exact hp)
    have h3 := Nat.pow_le_pow_right (n := 10) (by decide) h
    rw [Nat.pow_succ] at h3
    omega
  rcases Nat.lt_trichotomy (decDigits x).length (decDigits y).length with h | h | h
  · have := key x y h
    simp [this, h]
  · rw [less_val _ _ h (dec_dig x) (dec_dig y), dec_val, dec_val]
    simp [h]
  · have := key y x h
    have h1 : ¬ x < y := by omega
    have h2 : ¬ (decDigits x).length < (decDigits y).length := by omega
    have h3 : ¬ (decDigits x).length = (decDigits y).length := by omega
    simp [h1, h2, h3]
theorem dec_inj {x y : Nat} (h : decDigits x = decDigits y) : x = y := by rw [← dec_val x, h, dec_val]

def txtL (n : Int) : List UInt8 := if 0 ≤ n ∧ n ≤ 4611686018427387903 then decDigits n.toNat else []
theorem txtL_nat {u : Nat} (h : u ≤ 4611686018427387903) : txtL (u : Int) = decDigits u := by unfold txtL; rw [if_pos (by omega)]; simp
theorem txtL_len (n : Int) : (txtL n).length ≤ 19 := by
  unfold txtL
  split
  · rw [decDigits_length]; exact nd_max (by omega)
  · simp

/-! ### exponents -/
def bitsTo (n k : Nat) : List Int := ((List.range k).filter fun i => n.testBit i).map fun i : Nat => (i : Int)
theorem bitsTo_succ (n k : Nat) : bitsTo n (k + 1) = bitsTo n k ++ if n.testBit k = true then [(k : Int)] else [] := by
  unfold bitsTo
  rw [List.range_succ, List.filter_append, List.map_append]
  congr 1
  by_cases h : n.testBit k = true <;> simp [h]
theorem bitsTo_len (n k : Nat) : (bitsTo n k).length ≤ k := by
  unfold bitsTo
  rw [List.length_map]
  exact Nat.le_trans (List.length_filter_le _ _) (by simp)
theorem bitsTo_bd (n k : Nat) : ∀ e ∈ bitsTo n k, 0 ≤ e ∧ e < k := by
  intro e he
  unfold bitsTo at he
  obtain ⟨i, hi, rfl⟩ := List.mem_map.1 he
  have := List.mem_range.1 (List.mem_filter.1 hi).1
  omega
theorem bitsTo_rises (n k : Nat) : (bitsTo n k).Pairwise (· < ·) := by
  unfold bitsTo
  rw [List.pairwise_map]
  refine List.Pairwise.imp ?_ (List.Pairwise.filter _ (List.pairwise_lt_range (n := k)))
  intro a b h
  omega
def bitsL (n : Int) : List Int := if 0 ≤ n ∧ n ≤ 4611686018427387903 then bitsTo n.toNat 62 else []
theorem bitsL_nat {u : Nat} (h : u ≤ 4611686018427387903) : bitsL (u : Int) = bitsTo u 62 := by unfold bitsL; rw [if_pos (by omega)]; simp
theorem bitsL_len (n : Int) : (bitsL n).length ≤ 62 := by
  unfold bitsL
  split
  · exact bitsTo_len _ _
  · simp
theorem bitsL_bd (n : Int) : ∀ e ∈ bitsL n, 0 ≤ e ∧ e ≤ 61 := by
  intro e he
  unfold bitsL at he
  split at he
  · have := bitsTo_bd _ _ e he; omega
  · simp at he
theorem bitsL_rises (n : Int) : (bitsL n).Pairwise (· < ·) := by
  unfold bitsL
  split
  · exact bitsTo_rises _ _
  · exact List.Pairwise.nil

def total (l : List Int) : Nat := (l.map fun e => 2 ^ e.toNat).sum
theorem total_nil : total [] = 0 := rfl
theorem total_append (l m : List Int) : total (l ++ m) = total l + total m := by unfold total; rw [List.map_append, List.sum_append]
theorem total_one (e : Int) : total [e] = 2 ^ e.toNat := by simp [total]
theorem total_take_succ {l : List Int} {k : Nat} (h : k < l.length) : total (l.take (k + 1)) = total (l.take k) + 2 ^ (l.getD k 0).toNat := by
  rw [List.take_succ_eq_append_getElem h, total_append, total_one, List.getD_eq_getElem?_getD, List.getElem?_eq_getElem h, Option.getD_some]
theorem total_take_le (l : List Int) (k : Nat) : total (l.take k) ≤ total l := by
  conv => rhs; rw [← List.take_append_drop k l]
  rw [total_append]
  omega
theorem total_up {l : List Int} (h : ∀ e ∈ l, 0 ≤ e) : total (l.map (· + 1)) = 2 * total l := by
  induction l with
  | nil => rfl
  | cons e l ih =>
    have h0 := h e List.mem_cons_self
    have hi := ih fun d hd => h d (List.mem_cons_of_mem _ hd)
    unfold total at *
    simp only [List.map_cons, List.sum_cons]
    rw [hi, show (e + 1).toNat = e.toNat + 1 by omega, Nat.pow_succ]
    omega
theorem total_bits (n k : Nat) : total (bitsTo n k) = n % 2 ^ k := by
  induction k with
  | zero => simp [bitsTo, total, Nat.mod_one]
  | succ k ih =>
    rw [bitsTo_succ, total_append, ih, Nat.pow_succ, Nat.mod_mul]
    congr 1
    rw [Nat.testBit_eq_decide_div_mod_eq]
    by_cases h : n / 2 ^ k % 2 = 1
    · simp [h, total]
    · have : n / 2 ^ k % 2 = 0 := by omega
      simp [this, total]
theorem total_bitsL {u : Nat} (h : u ≤ 4611686018427387903) : total (bitsL (u : Int)) = u := by
  rw [bitsL_nat h, total_bits]
  exact Nat.mod_eq_of_lt (by have : (2 : Nat) ^ 62 = 4611686018427387904 := by decide
                             omega)
def awayB (l : List Int) : Bool := l.any fun e => decide (e < 0) || decide (61 < e)
theorem awayB_no {l : List Int} (h : ∀ e ∈ l, 0 ≤ e ∧ e ≤ 61) : awayB l = false := by
  unfold awayB
  rw [List.any_eq_false]
  intro e he
  have := h e he
  simp
  omega
def sumL (l : List Int) : Int × Int := if awayB l = true then (0, 1) else if 4611686018427387903 < total l then (0, 21) else (total l, 0)
theorem sumL_ok {l : List Int} (h : ∀ e ∈ l, 0 ≤ e ∧ e ≤ 61) (ht : total l ≤ 4611686018427387903) : sumL l = ((total l : Int), 0) := by
  unfold sumL
  rw [awayB_no h, if_neg (by decide), if_neg (by omega)]
theorem sumL_bits {u : Nat} (h : u ≤ 4611686018427387903) : sumL (bitsL (u : Int)) = ((u : Int), 0) := by
  have := sumL_ok (bitsL_bd (u : Int)) (by rw [total_bitsL h]; exact h)
  rwa [total_bitsL h] at this

theorem bits_twice {x : Nat} (h : x < 1152921504606846976) : bitsTo (2 * x) 62 = (bitsTo x 62).map (· + 1) := by
  have h61 : x.testBit 61 = false := Nat.testBit_lt_two_pow (by have : (2 : Nat) ^ 61 = 2305843009213693952 := by decide
                                                                omega)
  have e1 : bitsTo x 62 = bitsTo x 61 := by rw [bitsTo_succ]; simp [h61]
  rw [e1]
  unfold bitsTo
  rw [List.range_succ_eq_map, List.filter_cons]
  have h0 : (2 * x).testBit 0 = false := by simp
  rw [if_neg (by rw [h0]; decide), List.filter_map, List.map_map, List.map_map]
  have e2 : ((fun i => (2 * x).testBit i) ∘ Nat.succ) = fun i => x.testBit i := by
    funext i
    simp only [Function.comp_apply]
    rw [Nat.testBit_succ, show 2 * x / 2 = x by omega]
  rw [e2]
  refine List.map_congr_left fun i _ => ?_
  simp
theorem bits_twice1 {x : Nat} (h : x < 1152921504606846976) : bitsTo (2 * x + 1) 62 = 0 :: (bitsTo x 62).map (· + 1) := by
  have h61 : x.testBit 61 = false := Nat.testBit_lt_two_pow (by have : (2 : Nat) ^ 61 = 2305843009213693952 := by decide
                                                                omega)
  have e1 : bitsTo x 62 = bitsTo x 61 := by rw [bitsTo_succ]; simp [h61]
  rw [e1]
  unfold bitsTo
  rw [List.range_succ_eq_map, List.filter_cons]
  have h0 : (2 * x + 1).testBit 0 = true := by simp
  rw [if_pos h0, List.filter_map, List.map_cons, List.map_map, List.map_map]
  have e2 : ((fun i => (2 * x + 1).testBit i) ∘ Nat.succ) = fun i => x.testBit i := by
    funext i
    simp only [Function.comp_apply]
    rw [Nat.testBit_succ, show (2 * x + 1) / 2 = x by omega]
  rw [e2]
  rfl

end Go.Proofs.Ytikgnjcjbjafaaa
namespace Go.Proofs.Ytikgnjcjbjafaaa
open Go.RowKit Go.Sort

def I64 (n : Int) : Prop := -9223372036854775808 ≤ n ∧ n ≤ 9223372036854775807

/-- The table of powers of ten, that the library's Itoa looks into. -/
def tabName : String := Rows.squareSetsRow.named.getD 0 default
def Tab (w : World) : Prop := Lib.TabIs Try.prog w tabName .u64 Lib.pow10Tab
theorem Tab.below {w w' : World} (h : Tab w) (hb : Below w.heap.size w w') : Tab w' := Lib.tabBelow_of_tabIs h w' hb

def pickI (c n : Int) : Int := if c < 0 then (-(c + 1)) % n else c % n
theorem pickI_bd (c n : Int) (hn : 1 ≤ n) : 0 ≤ pickI c n ∧ pickI c n < n := by
  unfold pickI
  split
  · exact ⟨Int.emod_nonneg _ (by omega), Int.emod_lt_of_pos _ (by omega)⟩
  · exact ⟨Int.emod_nonneg _ (by omega), Int.emod_lt_of_pos _ (by omega)⟩

theorem pick_any (c n : Int) (w : World) (h1 : -9223372036854775808 ≤ c) (h2 : c ≤ 9223372036854775807) (hn : 1 ≤ n) (hn2 : n ≤ 9223372036854775807) :
    Calls Try.prog 75 #[.int .i64 c, .int .i64 n] w fun e w' => e = .returned (.int .i64 (pickI c n)) ∧ w = w' := by
  generalize hr : pickI c n = r
  have HR := Lib.hid hr
  clear hr
  go_enter Try.func75, Try.ntmps75
  go_wp2
  all_goals go_ret
  all_goals refine ⟨?_, rfl⟩
  all_goals (refine Qt.ret_int ?_; rw [← HR.out]; unfold pickI)
  · rw [if_pos (by assumption), ← Int.neg_tmod, Int.tmod_eq_emod_of_nonneg (by omega)]
  · rw [if_neg (by omega)]
/-- .. whatever number comes in: a number from 0 on, below n. -/
theorem pick_nat (c n : Int) (w : World) (hc : I64 c) (hn : 1 ≤ n) (hn2 : n ≤ 9223372036854775807) :
    Calls Try.prog 75 #[.int .i64 c, .int .i64 n] w fun e w' => e = .returned (.int .i64 ((pickI c n).toNat : Int)) ∧ w = w' := by
  have h := pickI_bd c n hn
  have := pick_any c n w hc.1 hc.2 hn hn2
  rwa [show (((pickI c n).toNat : Nat) : Int) = pickI c n by omega]

def txt (n : Int) : ByteArray := ⟨(txtL n).toArray⟩

/-! ### slices of numbers -/

/-- The slice at A of l.length numbers reads as l, below block B. -/
def Rd (w : World) (B : Nat) (A : Option Addr) (l : List Int) : Prop :=
  ∀ j, j < l.length → ∃ b off, A = some ⟨b, off, none⟩ ∧ b < B ∧ w.cell? ⟨b, off + j, none⟩ = some (.int .i64 (l.getD j 0))

theorem Rd.below {w w' : World} {B B' : Nat} {A : Option Addr} {l : List Int} (h : Rd w B A l) (hb : Below B' w w') (hB : B ≤ B') : Rd w' B A l := fun j hj => by
  obtain ⟨b, off, e, hlt, h0⟩ := h j hj
  exact ⟨b, off, e, hlt, (hb.cell (p := ⟨b, off + j, none⟩) (Nat.lt_of_lt_of_le hlt hB)).trans h0⟩
theorem Rd.more {w : World} {B B' : Nat} {A : Option Addr} {l : List Int} (h : Rd w B A l) (hB : B ≤ B') : Rd w B' A l := fun j hj => by
  obtain ⟨b, off, e, hlt, h0⟩ := h j hj
  exact ⟨b, off, e, by omega, h0⟩
theorem Rd.nil (w : World) (B : Nat) (A : Option Addr) : Rd w B A [] := fun j hj => absurd hj (Nat.not_lt_zero j)
theorem Rd.at_ {w : World} {B : Nat} {A : Option Addr} {l : List Int} (h : Rd w B A l) (hn : 0 < l.length) :
    ∃ b off, A = some ⟨b, off, none⟩ ∧ b < B ∧ ∀ j, j < l.length → w.cell? ⟨b, off + j, none⟩ = some (.int .i64 (l.getD j 0)) := by
  obtain ⟨b, off, e, hlt, _⟩ := h 0 hn
  refine ⟨b, off, e, hlt, fun j hj => ?_⟩
  obtain ⟨b', off', e', _, h0⟩ := h j hj
  rw [e] at e'
  injection e' with e'
  injection e' with e1 e2
  subst e1 e2
  exact h0
/-- A slice whose cells read as a list, now. -/
def Now (w : World) (A : Option Addr) (l : List Int) : Prop := Rd w w.heap.size A l
theorem Now.below {w w' : World} {A : Option Addr} {l : List Int} (h : Now w A l) (hb : Below w.heap.size w w') : Now w' A l := (Rd.below h hb (Nat.le_refl _)).more hb.size
theorem now_nil (w : World) (A : Option Addr) : Now w A [] := Rd.nil _ _ _

/-- A slice that the call itself has made. -/
abbrev Own (w : World) (B : Nat) (v : Value) (l : List Int) : Prop := w.ownsRow B 3 1 v l.length (l.map (Value.int .i64))
/-- It reads as its list. -/
def Reads (w : World) (v : Value) (l : List Int) : Prop := ∃ A c, v = .slice A l.length c ∧ l.length ≤ c ∧ Now w A l
theorem Own.reads {w : World} {B : Nat} {v : Value} {l : List Int} (h : Own w B v l) : Reads w v l := by
  rcases h.2 with ⟨rfl, h0⟩ | ⟨g, cap, cur, rfl, hb, hh, hn, hcap, hsz, htake⟩
  · have : l = [] := by simpa using h0
    subst this
    exact ⟨none, 0, rfl, Nat.le_refl _, now_nil _ _⟩
  · refine ⟨some ⟨g, 0, none⟩, cap, rfl, hn, fun j hj => ⟨g, 0, rfl, (World.ownsRow.lt h g rfl).2, ?_⟩⟩
    have := World.ownsRow.cellAt h j (by simpa using hj)
    rw [Nat.zero_add]
    rw [this]
    simp [List.getD_eq_getElem?_getD, List.getElem?_eq_getElem hj]
theorem Reads.below {w w' : World} {v : Value} {l : List Int} (h : Reads w v l) (hb : Below w.heap.size w w') : Reads w' v l := by
  obtain ⟨A, c, e, hc, hR⟩ := h
  exact ⟨A, c, e, hc, hR.below hb⟩

end Go.Proofs.Ytikgnjcjbjafaaa
namespace Go.Proofs.Ytikgnjcjbjafaaa
set_option maxRecDepth 100000
set_option linter.unusedVariables false
set_option linter.unusedSimpArgs false
open Go.RowKit Go.Sort

/-- a root is no place -/
def beyondB (n : Nat) (r : Int) : Bool := decide (r < 0) || decide ((n : Int) ≤ r)
def rootsB (l : List Nd) (R : List Int) : Bool := R.all fun r => decide (0 ≤ r) && decide (r < l.length)
theorem beyond_any (l : List Nd) (R : List Int) : (R.any fun r => beyondB l.length r) = !rootsB l R := by
  unfold rootsB
  rw [List.not_all_eq_any_not]
  congr 1
  funext r
  unfold beyondB
  rw [Bool.not_and]
  rw [Bool.eq_iff_iff]
  simp only [Bool.or_eq_true, decide_eq_true_eq, Bool.not_eq_true', decide_eq_false_iff_not]
  omega
theorem rootsB_iff {l : List Nd} {R : List Int} : rootsB l R = true ↔ ∀ r ∈ R, 0 ≤ r ∧ r < l.length := by
  unfold rootsB
  simp [List.all_eq_true]

end Go.Proofs.Ytikgnjcjbjafaaa
namespace Go.Proofs.Ytikgnjcjbjafaaa
set_option maxRecDepth 100000
set_option linter.unusedVariables false
set_option linter.unusedSimpArgs false
open Go.RowKit Go.Sort

/-- where the nodes seen so far are in the new store -/
def toF (K : Nat → Bool) (n : Nat) : Nat → Int := fun i => if i < n ∧ K i = true then (cnt K i : Int) else 0
theorem toF_zero (K : Nat → Bool) : toF K 0 = fun _ => 0 := by
  funext i
  unfold toF
  rw [if_neg (by omega)]
theorem toF_on (K : Nat → Bool) (n : Nat) (h : K n = true) : (fun k => if k = n then (cnt K n : Int) else toF K n k) = toF K (n + 1) := by
  funext k
  unfold toF
  by_cases e : k = n
  · subst e
    rw [if_pos rfl, if_pos ⟨Nat.lt_succ_self _, h⟩]
  · rw [if_neg e]
    by_cases h1 : k < n ∧ K k = true
    · rw [if_pos h1, if_pos ⟨by omega, h1.2⟩]
    · rw [if_neg h1, if_neg (fun h2 => h1 ⟨by omega, h2.2⟩)]
theorem toF_off (K : Nat → Bool) (n : Nat) (h : K n = false) : toF K n = toF K (n + 1) := by
  funext k
  unfold toF
  by_cases h1 : k < n ∧ K k = true
  · rw [if_pos h1, if_pos ⟨by omega, h1.2⟩]
  · rw [if_neg h1, if_neg (fun h2 => h1 ⟨by
      have : k ≠ n := fun e => by rw [e, h] at h2; exact absurd h2.2 (by decide)
      omega, h2.2⟩)]
section
variable {l : List Nd} {room : Int} {R : List Int} {K : Nat → Bool}
theorem to_kid (hr : Right6 l room) (hK : Kept l R K) {n : Nat} (hn : n < l.length) (hKn : K n = true) {c : Nat} (hc : c < 4) : toF K n (kd (l.getD n deadN).2.1 c).toNat = (cnt K (kd (l.getD n deadN).2.1 c).toNat : Int) := by
  by_cases h2 : 2 ≤ n
  · have h1 := (fits_iff.1 (hr.fits n h2 hn)).kid c hc
    unfold toF
    rw [if_pos ⟨by omega, hK.kid n h2 hn hKn c hc⟩]
  · have hk : (l.getD n deadN).2.1 = (0, 0, 0, 0) := by
      rcases (by omega : n = 0 ∨ n = 1) with rfl | rfl
      · rw [hr.dead]; rfl
      · rw [hr.live]; rfl
    rw [hk]
    have h0 : kd (0, 0, 0, 0) c = 0 := by rcases (by omega : c = 0 ∨ c = 1 ∨ c = 2 ∨ c = 3) with rfl | rfl | rfl | rfl <;> rfl
    rw [h0]
    have hc0 : cnt K 0 = 0 := rfl
    unfold toF
    simp only [Int.toNat_zero, hc0]
    split <;> rfl
theorem to_root (hK : Kept l R K) {r : Int} (hr : r ∈ R) (h0 : 0 ≤ r ∧ r < l.length) : toF K l.length r.toNat = (cnt K r.toNat : Int) := by
  unfold toF
  rw [if_pos ⟨by omega, hK.root r hr h0.1⟩]
end
/-- the first kids mapped -/
def mixK (K : Nat → Bool) (k : Kd) (j : Nat) : Kd :=
  (if 0 < j then (cnt K k.1.toNat : Int) else k.1, if 1 < j then (cnt K k.2.1.toNat : Int) else k.2.1, if 2 < j then (cnt K k.2.2.1.toNat : Int) else k.2.2.1, if 3 < j then (cnt K k.2.2.2.toNat : Int) else k.2.2.2)
theorem mixK_zero (K : Nat → Bool) (k : Kd) : mixK K k 0 = k := rfl
theorem mixK_all (K : Nat → Bool) (k : Kd) : mixK K k 4 = mapK K k := rfl
theorem mixK_set (K : Nat → Bool) (lv pp : Int) (k : Kd) (j : Nat) (hj : j < 4) : (cellsN (lv, mixK K k j, pp)).set (1 + j) (.int .i64 (cnt K (kd k j).toNat : Int)) = cellsN (lv, mixK K k (j + 1), pp) := by
  rcases (by omega : j = 0 ∨ j = 1 ∨ j = 2 ∨ j = 3) with rfl | rfl | rfl | rfl <;> rfl
theorem mixK_get (K : Nat → Bool) (lv pp : Int) (k : Kd) (j : Nat) (hj : j < 4) : ∃ v, (cellsN (lv, mixK K k j, pp))[1 + j]? = some v := by
  rcases (by omega : j = 0 ∨ j = 1 ∨ j = 2 ∨ j = 3) with rfl | rfl | rfl | rfl <;> exact ⟨_, rfl⟩

/-- where the roots are, so many told -/
def foundF (K : Nat → Bool) (R : List Int) (k : Nat) : Nat → Int := fun i => if i < k then (cnt K (R.getD i 0).toNat : Int) else 0
theorem foundF_zero (K : Nat → Bool) (R : List Int) : foundF K R 0 = fun _ => 0 := by
  funext i
  unfold foundF
  rw [if_neg (by omega)]
theorem foundF_succ (K : Nat → Bool) (R : List Int) (k : Nat) : (fun i => if i = k then (cnt K (R.getD k 0).toNat : Int) else foundF K R k i) = foundF K R (k + 1) := by
  funext i
  unfold foundF
  by_cases e : i = k
  · subst e
    rw [if_pos rfl, if_pos (Nat.lt_succ_self _)]
  · rw [if_neg e]
    by_cases h : i < k
    · rw [if_pos h, if_pos (by omega)]
    · rw [if_neg h, if_neg (by omega)]
theorem foundF_all (K : Nat → Bool) (R : List Int) : numsL R.length (foundF K R R.length) = R.map fun r => (cnt K r.toNat : Int) := by
  refine List.ext_getElem? fun i => ?_
  unfold numsL
  by_cases h : i < R.length
  · rw [List.getElem?_map, List.getElem?_range h, List.getElem?_map, List.getElem?_eq_getElem h]
    unfold foundF
    simp [h]
  · rw [List.getElem?_eq_none (by simp; omega), List.getElem?_eq_none (by simp; omega)]
theorem reads_row {w : World} {f : Nat} {xs : List Int} (h : RowV w f 3 (intsL xs)) : Reads w (.slice (some ⟨f, 0, none⟩) xs.length xs.length) xs :=
  ⟨_, _, rfl, Nat.le_refl _, fun j hj => ⟨f, 0, rfl, h.lt, by rw [Nat.zero_add]; exact h.cell (intsL_get hj)⟩⟩
/-- What Live answers, of a store and roots. -/
def live6 (l : List Nd) (room : Int) (R : List Int) : List Nd × List Int × Int := if (right6 l room && rootsB l R) = true then (liveL l R, liveAt l R, 0) else (l, [], 1)
def LiveR (p : List Nd × List Int × Int) (room : Int) (w : World) (e : Ending) (w' : World) : Prop :=
  ∃ v u, e = .returned (.tuple #[.agg #[v, .int .i64 room], u, .int .i64 p.2.2]) ∧ ReadsN w' v p.1 ∧ Reads w' u p.2.1 ∧ Below w.heap.size w w'

/-- What is known at the head of the loop over nodes. -/
structure LvAt (w wr : World) (A : Option Addr) (l : List Nd) (c : Nat) (room : Int) (K : Nat → Bool) (o q t n : Nat) (v : Value) : Prop where
  head : EmpHead w wr A l.length c room
  flg : RowV wr q 4 (boolsL l.length K)
  tor : RowV wr t 3 (intsL (numsL l.length (toF K n)))
  out : wr.heap[o]? = some (.cells #[v, .int .i64 room] 27 (0, 0))
  own : OwnN wr (w.heap.size + 2) v (newTo l K n)
  lo : w.heap.size + 2 ≤ o ∧ w.heap.size + 2 ≤ q ∧ w.heap.size + 2 ≤ t
section
variable {w wr w' : World} {A : Option Addr} {l : List Nd} {c : Nat} {room : Int} {K : Nat → Bool} {o q t n : Nat} {v : Value}
theorem LvAt.below (h : LvAt w wr A l c room K o q t n v) (hb : Below wr.heap.size wr w') : LvAt w w' A l c room K o q t n v :=
  ⟨h.head.below hb, h.flg.now hb, h.tor.now hb, (hb.block _ (lt_heap6 h.out)).trans h.out, h.own.below hb, h.lo⟩
theorem LvAt.c0 (h : LvAt w wr A l c room K o q t n v) : wr.cell? ⟨o, 0, none⟩ = some v := by rw [Lib.cell_of_heap h.out]; rfl
theorem LvAt.c1 (h : LvAt w wr A l c room K o q t n v) : wr.cell? ⟨o, 1, none⟩ = some (.int .i64 room) := by rw [Lib.cell_of_heap h.out]; rfl
theorem LvAt.f0 (h : LvAt w wr A l c room K o q t n v) : wr.frozen? ⟨o, 0, none⟩ = false := Lib.frozen_of_heap h.out 0
theorem LvAt.ot (h : LvAt w wr A l c room K o q t n v) : o ≠ t := by
  intro e
  have h1 := h.out
  have h2 := h.tor
  unfold RowV at h2
  rw [e, h2] at h1
  injection h1 with h1
  injection h1 with _ h1 _
  exact absurd h1 (by decide)
theorem LvAt.oq (h : LvAt w wr A l c room K o q t n v) : o ≠ q := by
  intro e
  have h1 := h.out
  have h2 := h.flg
  unfold RowV at h2
  rw [e, h2] at h1
  injection h1 with h1
  injection h1 with _ h1 _
  exact absurd h1 (by decide)
theorem LvAt.qt (h : LvAt w wr A l c room K o q t n v) : q ≠ t := by
  intro e
  have h1 := h.flg
  have h2 := h.tor
  unfold RowV at h1 h2
  rw [e, h2] at h1
  injection h1 with h1
  injection h1 with _ h1 _
  exact absurd h1 (by decide)
theorem own_ne {B i T : Nat} {cs : Array Value} {m : List Nd} (ho : OwnN wr B v m) (hi : wr.heap[i]? = some (.cells cs T (0, 0))) (hT : T ≠ 54) : v.ownBlock ≠ some i := by
  intro e
  obtain ⟨_, _, cs', fz, hc⟩ := ownN_kind ho i e
  rw [hi] at hc
  injection hc with hc
  injection hc with _ hc _
  exact hT hc
/-- a node's place is told -/
theorem LvAt.told (h : LvAt w wr A l c room K o q t n v) (i : Nat) (x : Int) (f : Nat → Int) (hf : (fun k => if k = i then x else toF K n k) = f) :
    EmpHead w (wr.setCell ⟨t, i, none⟩ (.int .i64 x)) A l.length c room ∧ RowV (wr.setCell ⟨t, i, none⟩ (.int .i64 x)) q 4 (boolsL l.length K) ∧ RowV (wr.setCell ⟨t, i, none⟩ (.int .i64 x)) t 3 (intsL (numsL l.length f)) ∧ (wr.setCell ⟨t, i, none⟩ (.int .i64 x)).heap[o]? = some (.cells #[v, .int .i64 room] 27 (0, 0)) ∧ OwnN (wr.setCell ⟨t, i, none⟩ (.int .i64 x)) (w.heap.size + 2) v (newTo l K n) := by
  have hb := h.lo.2.2
  have hset := h.tor.set i (.int .i64 x)
  rw [intsL_set, numsL_set, hf] at hset
  have hk : ∀ p, p < t → (wr.setCell ⟨t, i, none⟩ (.int .i64 x)).heap[p]? = wr.heap[p]? := fun p hp => Below.heap_setCell _ _ _ _ (by show p ≠ t; omega)
  have htor : wr.heap[t]? = some (.cells (intsL (numsL l.length (toF K n))).toArray 3 (0, 0)) := h.tor
  refine ⟨⟨(hk _ (by omega)).trans h.head.store, (hk _ (by omega)).trans h.head.res, h.head.bel.setCell (by show w.heap.size ≤ t; omega) _⟩, h.flg.other h.qt _ _, hset, ?_, World.ownsRow.kept h.own (but_set i _) (.inr (own_ne h.own htor (by decide)))⟩
  rw [Below.heap_setCell _ _ _ _ (by show o ≠ t; exact h.ot)]
  exact h.out
theorem LvAt.pushed {w7 w8 : World} {v v' : Value} {x : Nd} {ob : Obj} {m : List Nd} (hhead : EmpHead w w7 A l.length c room) (hflg : RowV w7 q 4 (boolsL l.length K)) (htor : RowV w7 t 3 (intsL (numsL l.length (toF K (n + 1)))))
    (hout : w7.heap[o]? = some (.cells #[v, .int .i64 room] 27 (0, 0))) (hown : OwnN w7 (w.heap.size + 2) v m) (hlo : w.heap.size + 2 ≤ o ∧ w.heap.size + 2 ≤ q ∧ w.heap.size + 2 ≤ t)
    (hg : (w7.alloc ob).grownBy w8 v.ownBlock) (hbp : Below (w.heap.size + 2) w7 w8) (ho : OwnN w8 (w.heap.size + 2) v' (m ++ [x])) (hs : newTo l K (n + 1) = m ++ [x]) :
    LvAt w (w8.setCell ⟨o, 0, none⟩ v') A l c room K o q t (n + 1) v' ∧ w8.heap[o]? = some (.cells #[v, .int .i64 room] 27 (0, 0)) := by
  have hsz : (w7.alloc ob).heap.size = w7.heap.size + 1 := by simp
  have hkeep : ∀ {i T : Nat} {cs : Array Value}, w7.heap[i]? = some (.cells cs T (0, 0)) → T ≠ 54 → w8.heap[i]? = some (.cells cs T (0, 0)) := by
    intro i T cs hi hT
    rw [hg.block i (by have := lt_heap6 hi; omega) (fun e => own_ne hown hi hT e.symm), Lib.alloc_old _ _ _ (lt_heap6 hi)]
    exact hi
  have hout8 := hkeep hout (by decide)
  have hflg8 : RowV w8 q 4 (boolsL l.length K) := hkeep hflg (by decide)
  have htor8 : RowV w8 t 3 (intsL (numsL l.length (toF K (n + 1)))) := hkeep htor (by decide)
  have hoq : q ≠ o := by
    intro e
    have h1 := hflg8
    unfold RowV at h1
    rw [e, hout8] at h1
    injection h1 with h1
    injection h1 with _ h1 _
    exact absurd h1 (by decide)
  have hot : t ≠ o := by
    intro e
    have h1 := htor8
    unfold RowV at h1
    rw [e, hout8] at h1
    injection h1 with h1
    injection h1 with _ h1 _
    exact absurd h1 (by decide)
  have hk : ∀ p, p < o → (w8.setCell ⟨o, 0, none⟩ v').heap[p]? = w8.heap[p]? := fun p hp => Below.heap_setCell _ _ _ _ (by show p ≠ o; omega)
  refine ⟨⟨⟨?_, ?_, (hhead.bel.trans (hbp.mono (by omega))).setCell (by show w.heap.size ≤ o; omega) _⟩, hflg8.other hoq _ _, htor8.other hot _ _, ?_, ?_, hlo⟩, hout8⟩
  · rw [hk _ (by omega), hbp.block _ (by omega)]
    exact hhead.store
  · rw [hk _ (by omega), hbp.block _ (by omega)]
    exact hhead.res
  · simp [World.setCell, Array.getElem?_modify, hout8]
  · rw [hs]
    exact World.ownsRow.kept ho (but_set 0 _) (.inr (own_ne ho hout8 (by decide)))
end
end Go.Proofs.Ytikgnjcjbjafaaa
namespace Go.Proofs.Ytikgnjcjbjafaaa
open Go.RowKit Go.Sort

def fl (l : List Int) : List Value := l.map (Value.int .i64)
theorem length_fl (l : List Int) : (fl l).length = l.length * 1 := by simp [fl]
theorem fl_append (l m : List Int) : fl (l ++ m) = fl l ++ fl m := List.map_append
theorem fl_at {w : World} {m : List Int} {b off : Nat} (h : ∀ j, j < m.length → w.cell? ⟨b, off + j, none⟩ = some (.int .i64 (m.getD j 0))) : ∀ j u, (fl m)[j]? = some u → w.cell? ((⟨b, off, none⟩ : Addr).add j) = some u := by
  intro j u hj
  have hlt : j < m.length := by
    have := (List.getElem?_eq_some_iff.1 hj).1
    simpa [fl] using this
  have e : u = .int .i64 (m.getD j 0) := by
    simp only [fl, List.getElem?_map, List.getElem?_eq_getElem hlt, Option.map_some, Option.some.injEq] at hj
    rw [← hj, List.getD_eq_getElem?_getD, List.getElem?_eq_getElem hlt, Option.getD_some]
  rw [e]
  rw [Addr.add_lit]
  exact h j hlt
theorem fl_cell1 (m : List Int) : ∀ u ∈ fl m, u.oneCell' = true := by
  intro u hu
  obtain ⟨x, _, rfl⟩ := List.mem_map.1 hu
  rfl

theorem info_int : (Try.prog.info? 3).map (fun i => (i.zero, i.size, i.bytes)) = some (some (.int .i64 0), 1, 8) := by kernel_rfl

theorem append_none {w : World} {B : Nat} {v : Value} {out : List Int} (c : Nat) (ho : Own w B v out) :
    (Builtin.append_ #[60, 60] 60 #[v, .slice none 0 c]).run Try.prog w = .ok v w := by
  obtain ⟨i0, hi, hz0, hz1, hz2⟩ := info_parts info_int
  rcases ho.2 with ⟨rfl, _⟩ | ⟨g, cap, cur, rfl, _, _, hnc, _⟩
  · simp [Builtin.append_, run_underlying Try.underlying60, sizeOf, typeInfo, hi, Builtin.lenOf, Builtin.firstCells]
  · simp [Builtin.append_, run_underlying Try.underlying60, sizeOf, typeInfo, hi, Builtin.lenOf, Builtin.firstCells, storeCells, hnc]

theorem app_any {w : World} {B : Nat} {v : Value} {out m : List Int} {A : Option Addr} (c : Nat) (hB : B ≤ w.heap.size) (ho : Own w B v out) (hm : Now w A m) (hl : out.length + m.length ≤ 1000000) :
    ∃ v' w', (Builtin.append_ #[60, 60] 60 #[v, .slice A m.length c]).run Try.prog w = .ok v' w' ∧ Own w' B v' (out ++ m) ∧ w.grownBy w' v.ownBlock := by
  obtain ⟨i0, hi, hz0, hz1, hz2⟩ := info_parts info_int
  by_cases h0 : m.length = 0
  · have : m = [] := List.eq_nil_of_length_eq_zero h0
    subst this
    cases A with
    | none => exact ⟨v, w, append_none c ho, by rw [List.append_nil]; exact ho, ⟨rfl, rfl, rfl, Nat.le_refl _, fun _ _ _ => rfl⟩⟩
    | some a =>
      obtain ⟨v', w', hr, h2, h3, _⟩ := run_append_own (P := Try.prog) (w := w) B 60 60 3 i0 (.int .i64 0) 1 8 Try.underlying60 hi hz0 hz1 hz2 rfl (by decide) v out.length (fl out) ho a 0 c [] rfl (fun j u h => by simp at h) (fun u h => by cases h) (by unfold maxLen; omega) (by omega) hB
      exact ⟨v', w', hr, by rw [List.append_nil] at h2 ⊢; exact h2, h3⟩
  · obtain ⟨b, off, rfl, _, hcell⟩ := hm.at_ (by omega)
    obtain ⟨v', w', hr, h2, h3, _⟩ := run_append_own (P := Try.prog) (w := w) B 60 60 3 i0 (.int .i64 0) 1 8 Try.underlying60 hi hz0 hz1 hz2 rfl (by decide) v out.length (fl out) ho ⟨b, off, none⟩ m.length c (fl m) (length_fl m) (fl_at hcell) (fl_cell1 m) (by unfold maxLen; omega) (by omega) hB
    refine ⟨v', w', hr, ?_, h3⟩
    show World.ownsRow _ _ _ _ _ _ (fl (out ++ m))
    rw [fl_append, List.length_append]
    exact h2

/-- one number more, that lies in a new block -/
theorem push_any {w : World} {B : Nat} {v : Value} {out : List Int} (x : Int) (hB : B ≤ w.heap.size) (ho : Own w B v out) (hl : out.length ≤ 999999) :
    ∃ v' w', (Builtin.append_ #[60, 60] 60 #[v, .slice (some ⟨w.heap.size, 0, none⟩) 1 1]).run Try.prog (w.alloc (.cells #[.int .i64 x] 3)) = .ok v' w' ∧ Own w' B v' (out ++ [x]) ∧ Below B w w' := by
  have hm : Now (w.alloc (.cells #[.int .i64 x] 3)) (some ⟨w.heap.size, 0, none⟩) [x] := fun j hj => by
    have hj1 : j = 0 := by simp at hj; omega
    subst hj1
    exact ⟨w.heap.size, 0, rfl, by simp, by simp⟩
  have ho' : Own (w.alloc (.cells #[.int .i64 x] 3)) B v out := World.ownsRow.alloc ho _
  obtain ⟨v', w', hr, h1, h2⟩ := app_any (m := [x]) 1 (by simp; omega) ho' hm (by simp; omega)
  exact ⟨v', w', hr, h1, Below.grown ((Below.refl _ _).alloc hB _) h2 (by simp; omega) (fun k e => (World.ownsRow.lt ho' k e).1)⟩

def OutR (l : List Int) (w : World) (e : Ending) (w' : World) : Prop := ∃ v, e = .returned v ∧ Reads w' v l ∧ Below w.heap.size w w'

/-! ### bit k of a number, as the two texts ask for it -/
theorem and_one (m : Nat) : bits .and .i64 (m : Int) 1 = ((m % 2 : Nat) : Int) := by
  have h1 : (BitVec.ofInt IntKind.i64.bits (m : Int) &&& BitVec.ofInt IntKind.i64.bits 1).toNat = m % 2 := by
    rw [BitVec.toNat_and]
    have e1 : (BitVec.ofInt IntKind.i64.bits (m : Int)).toNat = m % 2 ^ 64 := by
      rw [BitVec.toNat_ofInt]
      show ((m : Int) % ((2 ^ 64 : Nat) : Int)).toNat = m % 2 ^ 64
      omega
    have e2 : (BitVec.ofInt IntKind.i64.bits 1).toNat = 1 := by decide
    rw [e1, e2, Nat.and_one_is_mod]
    omega
  show IntKind.i64.wrap _ = _
  rw [h1, IntKind.wrap_i64]
  omega
theorem bit_of (u k : Nat) : ((u : Int) / 2 ^ k) = ((u / 2 ^ k : Nat) : Int) := by simp
theorem bit_yes {u k : Nat} (h : u.testBit k = true) : (bits BinOp.and IntKind.i64 ((u : Int) / 2 ^ k) 1 == 1) = true := by
  rw [Nat.testBit_eq_decide_div_mod_eq] at h
  rw [bit_of, and_one, of_decide_eq_true h]
  rfl
theorem bit_no {u k : Nat} (h : u.testBit k = false) : (bits BinOp.and IntKind.i64 ((u : Int) / 2 ^ k) 1 == 1) = false := by
  rw [Nat.testBit_eq_decide_div_mod_eq] at h
  have := of_decide_eq_false h
  rw [bit_of, and_one, beq_eq_false_iff_ne]
  omega

end Go.Proofs.Ytikgnjcjbjafaaa
namespace Go.Proofs.Ytikgnjcjbjafaaa
set_option maxRecDepth 100000
set_option linter.unusedVariables false
set_option linter.unusedSimpArgs false
open Go.RowKit Go.Sort

/-- A store in a box. -/
structure StB (w : World) (b : Nat) (A : Option Addr) (l : List Nd) (c : Nat) (room : Int) : Prop where
  row : w.heap[b]? = some (.cells #[.slice A l.length c, .int .i64 room] 27 (0, 0))
  rd : NowN w A l
  cap : l.length ≤ c
section
variable {w w' : World} {b : Nat} {A : Option Addr} {l : List Nd} {c : Nat} {room : Int}
theorem StB.below (h : StB w b A l c room) (hb : Below w.heap.size w w') : StB w' b A l c room := ⟨(hb.block _ (lt_heap6 h.row)).trans h.row, h.rd.below hb, h.cap⟩
theorem StB.s0 (h : StB w b A l c room) : w.cell? ⟨b, 0, none⟩ = some (.slice A l.length c) := by rw [Lib.cell_of_heap h.row]; rfl
theorem StB.s1 (h : StB w b A l c room) : w.cell? ⟨b, 1, none⟩ = some (.int .i64 room) := by rw [Lib.cell_of_heap h.row]; rfl
theorem StB.f0 (h : StB w b A l c room) : w.frozen? ⟨b, 0, none⟩ = false := Lib.frozen_of_heap h.row 0
theorem StB.f1 (h : StB w b A l c room) : w.frozen? ⟨b, 1, none⟩ = false := Lib.frozen_of_heap h.row 1
theorem stB_new (hr : NowN w A l) (hc : l.length ≤ c) (room : Int) : StB (w.alloc (.cells #[.slice A l.length c, .int .i64 room] 27)) w.heap.size A l c room :=
  ⟨heap_alloc_new w _, hr.below ((Below.refl _ _).alloc (Nat.le_refl _) _), hc⟩
theorem StB.nd (h : StB w b A l c room) (hl : 0 < l.length) : ∃ q off, A = some ⟨q, off, none⟩ ∧ q < w.heap.size ∧ ∀ j, j < l.length → NdAt w q (off + j * 6) (l.getD j deadN) := h.rd.at_ hl
end
def awL : List Nd := new6 ++ [(1, (0, 1, 0, 0), 1)]
def awU : List Nd := awL ++ [(1, (0, 0, 0, 0), 0), (2, (3, 3, 3, 3), 0), (3, (4, 4, 4, 4), 0)]
theorem aw_1 : intern6 new6 9 (0, 1, 0, 0) = (awL, 2, 0) := by kernel_rfl
theorem aw_2 : intern6 awL 9 (0, 1, 0, 0) = (awL, 2, 0) := by kernel_rfl
theorem aw_3 : intern6 awL 9 (0, 1, 0, 2) = (awL, 0, 1) := by kernel_rfl
theorem aw_4 : empty6 awL 9 3 = (awU, 5, 0) := by kernel_rfl
theorem aw_5 : live6 awU 9 [2] = (awL, [2], 0) := by kernel_rfl
theorem aw_6 : empty6 new6 4 5 = (new6, 0, 40) := by kernel_rfl
theorem aw_7 : right6 awU 9 = true := by decide
theorem aw_8 : right6 [] 0 = false := by decide

theorem putR_box {p : List Nd × Int × Int} {room : Int} {w : World} {e : Ending} {w' : World} (h : PutR p room w e w') : ∃ A c, e = .returned (.tuple #[.agg #[.slice A p.1.length c, .int .i64 room], .int .i64 p.2.1, .int .i64 p.2.2]) ∧ p.1.length ≤ c ∧ NowN w' A p.1 ∧ Below w.heap.size w w' := by
  obtain ⟨v, rfl, ⟨A, c, rfl, hc, hN⟩, hb⟩ := h
  exact ⟨A, c, rfl, hc, hN, hb⟩
theorem liveR_box {p : List Nd × List Int × Int} {room : Int} {w : World} {e : Ending} {w' : World} (h : LiveR p room w e w') : ∃ A c B d, e = .returned (.tuple #[.agg #[.slice A p.1.length c, .int .i64 room], .slice B p.2.1.length d, .int .i64 p.2.2]) ∧ p.1.length ≤ c ∧ p.2.1.length ≤ d ∧ NowN w' A p.1 ∧ Now w' B p.2.1 ∧ Below w.heap.size w w' := by
  obtain ⟨v, u, rfl, ⟨A, c, rfl, hc, hN⟩, ⟨B, d, rfl, hd, hM⟩, hb⟩ := h
  exact ⟨A, c, B, d, rfl, hc, hd, hN, hM, hb⟩
theorem newO_box {room : Int} {w : World} {e : Ending} {w' : World} (h : NewO room w e w') : ∃ g, e = .returned (.agg #[.slice (some ⟨g, 0, none⟩) 2 2, .int .i64 room]) ∧ NowN w' (some ⟨g, 0, none⟩) new6 ∧ Below w.heap.size w w' := by
  obtain ⟨g, rfl, _, ho, hb⟩ := h
  obtain ⟨A, c, e, _, hN⟩ := OwnN.reads ho
  injection e with e1 e2 e3
  subst e1
  exact ⟨g, rfl, hN, hb⟩
theorem eqlN (x y : Nd) (w : World) : (binOp .eql 54 (.agg #[.int .i64 x.1, .int .i64 x.2.1.1, .int .i64 x.2.1.2.1, .int .i64 x.2.1.2.2.1, .int .i64 x.2.1.2.2.2, .int .i64 x.2.2]) (.agg #[.int .i64 y.1, .int .i64 y.2.1.1, .int .i64 y.2.1.2.1, .int .i64 y.2.1.2.2.1, .int .i64 y.2.1.2.2.2, .int .i64 y.2.2])).run Try.prog w = .ok (.bool (decide (x = y))) w := by
  rw [run_eql_struct, eqN_at]
  rfl
def awN : Nd := (1, (0, 1, 0, 0), 1)
end Go.Proofs.Ytikgnjcjbjafaaa
namespace Go.Proofs.Ytikgnjcjbjafaaa
set_option linter.unusedVariables false
set_option linter.unusedSimpArgs false
open Go.RowKit Go.Sort

/-- Two stores as they lie in boxes. -/
structure TwoAt (w wr : World) (A : Option Addr) (n c : Nat) (room : Int) (B : Option Addr) (m d : Nat) (ro : Int) : Prop where
  one : wr.heap[w.heap.size]? = some (.cells #[.slice A n c, .int .i64 room] 27 (0, 0))
  two : wr.heap[w.heap.size + 1]? = some (.cells #[.slice B m d, .int .i64 ro] 27 (0, 0))
  bel : Below w.heap.size w wr
section
variable {w wr w' : World} {A B : Option Addr} {n c m d : Nat} {room ro : Int}
theorem TwoAt.below (h : TwoAt w wr A n c room B m d ro) (hb : Below wr.heap.size wr w') : TwoAt w w' A n c room B m d ro :=
  ⟨(hb.block _ (lt_heap6 h.one)).trans h.one, (hb.block _ (lt_heap6 h.two)).trans h.two, Qt.more h.bel h.bel.size hb⟩
theorem TwoAt.a0 (h : TwoAt w wr A n c room B m d ro) : wr.cell? ⟨w.heap.size, 0, none⟩ = some (.slice A n c) := by rw [Lib.cell_of_heap h.one]; rfl
theorem TwoAt.a1 (h : TwoAt w wr A n c room B m d ro) : wr.cell? ⟨w.heap.size, 1, none⟩ = some (.int .i64 room) := by rw [Lib.cell_of_heap h.one]; rfl
theorem TwoAt.b0 (h : TwoAt w wr A n c room B m d ro) : wr.cell? ⟨w.heap.size + 1, 0, none⟩ = some (.slice B m d) := by rw [Lib.cell_of_heap h.two]; rfl
theorem TwoAt.b1 (h : TwoAt w wr A n c room B m d ro) : wr.cell? ⟨w.heap.size + 1, 1, none⟩ = some (.int .i64 ro) := by rw [Lib.cell_of_heap h.two]; rfl
end
theorem twoAt_0 (w : World) (A : Option Addr) (n c : Nat) (room : Int) (B : Option Addr) (m d : Nat) (ro : Int) : TwoAt w ((w.alloc (.cells #[.slice A n c, .int .i64 room] 27)).alloc (.cells #[.slice B m d, .int .i64 ro] 27)) A n c room B m d ro := by
  have h1 := storeAt_0 w A n c room
  have hs := lt_heap6 h1.store
  have hsz : (w.alloc (.cells #[.slice A n c, .int .i64 room] 27)).heap.size = w.heap.size + 1 := by simp
  refine ⟨(Lib.alloc_old _ _ _ (by omega)).trans h1.store, ?_, h1.bel.alloc (by omega) _⟩
  rw [← hsz]
  exact heap_alloc_new _ _
theorem ext_nd {l m : List Nd} (h : l.length = m.length) (hq : ∀ q, q < l.length → l.getD q deadN = m.getD q deadN) : l = m := by
  refine List.ext_getElem h fun i h1 h2 => ?_
  have := hq i h1
  simpa [List.getD, h1, h2] using this

set_option maxHeartbeats 4000000 in
set_option maxRecDepth 100000 in
theorem refSame6_any (A : Option Addr) (l : List Nd) (c : Nat) (room : Int) (B : Option Addr) (m : List Nd) (d : Nat) (ro : Int) (w : World) (hR : RdN w w.heap.size A l) (hS : RdN w w.heap.size B m) (hl : l.length ≤ 1000000) (hm : m.length ≤ 1000000) :
    Calls Try.prog 20 #[storeV A l.length c room, storeV B m.length d ro] w fun e w' => e = .returned (.bool (decide (room = ro ∧ l = m))) ∧ Below w.heap.size w w' := by
  have HH0 := Lib.hid (twoAt_0 w A l.length c room B m.length d ro)
  have a0 := HH0.out.a0
  have a1 := HH0.out.a1
  have b0 := HH0.out.b0
  have b1 := HH0.out.b1
  have hbel := HH0.out.bel
  unfold storeV
  by_cases h1 : room = ro
  · subst h1
    by_cases h2 : l.length = m.length
    · have h2z : (l.length : Int) = (m.length : Int) := by omega
      have hyes : (∀ q, q < l.length → l.getD q deadN = m.getD q deadN) → decide (room = room ∧ l = m) = true := fun h => decide_eq_true ⟨rfl, ext_nd h2 h⟩
      have hno : ∀ q, l.getD q deadN ≠ m.getD q deadN → decide (room = room ∧ l = m) = false := fun q h => decide_eq_false fun hh => h (by rw [hh.2])
      generalize decide (room = room ∧ l = m) = r at *
      have HY := Lib.hid hyes
      have HN := Lib.hid hno
      have H2 := Lib.hid h2
      rw [← h2] at b0 hm
      clear hyes hno h2z
      go_enter Try.func20, Try.ntmps20
      rw [← h2]
      clear h2
      go_wp2
      clear a0 a1 b0 b1 hbel
      go_loopw [5] (fun i wr => ∃ j : Nat, j ≤ l.length ∧ i = .int .i64 j ∧ Hid (TwoAt w wr A l.length c room B l.length d room ∧ ∀ q, q < j → l.getD q deadN = m.getD q deadN)) (fun i _ => l.length - (intOf i).toNat)
      case atStart => exact ⟨0, Nat.zero_le _, rfl, H2.out ▸ HH0.out, fun q h => absurd h (Nat.not_lt_zero q)⟩
      case round =>
        obtain ⟨j, hj, rfl, HH⟩ := hrel
        have H := HH.out.1
        have s0 := H.a0
        by_cases hlt : j < l.length
        · have hltz : (j : Int) < (l.length : Int) := by omega
          obtain ⟨c0, off, rfl, hbB, hcell⟩ := hR.at_ (by omega)
          obtain ⟨n0, n1, n2, n3, n4, n5⟩ := hcell j hlt
          obtain ⟨e0, off2, rfl, hbE, hcel2⟩ := hS.at_ (by have := H2.out; omega)
          obtain ⟨m0, m1, m2, m3, m4, m5⟩ := hcel2 j (by have := H2.out; omega)
          have hne := fun W => neqN (l.getD j deadN) (m.getD j deadN) W
          have hn := HN.out j
          have hstep : l.getD j deadN = m.getD j deadN → ∀ q, q < j + 1 → l.getD q deadN = m.getD q deadN := by
            intro he q hq
            rcases Nat.lt_or_ge q j with h | h
            · exact HH.out.2 q h
            · obtain rfl : q = j := by omega
              exact he
          have HS := Lib.hid hstep
          obtain ⟨x, hx⟩ : ∃ x, x = l.getD j deadN := ⟨_, rfl⟩
          obtain ⟨y, hy⟩ : ∃ y, y = m.getD j deadN := ⟨_, rfl⟩
          rw [← hx] at n0 n1 n2 n3 n4 n5
          rw [← hy] at m0 m1 m2 m3 m4 m5
          rw [← hx, ← hy] at hne hn
          have HX := Lib.hid (show (x = y → l.getD j deadN = m.getD j deadN) from fun h => by rw [← hx, ← hy, h])
          have q0 := Qt.cell_in (Qt.keep H.bel n0)
          have q1 := Qt.cell_in (Qt.keep H.bel n1)
          have q2 := Qt.cell_in (Qt.keep H.bel n2)
          have q3 := Qt.cell_in (Qt.keep H.bel n3)
          have q4 := Qt.cell_in (Qt.keep H.bel n4)
          have q5 := Qt.cell_in (Qt.keep H.bel n5)
          have p0 := Qt.cell_in (Qt.keep H.bel m0)
          have p1 := Qt.cell_in (Qt.keep H.bel m1)
          have p2 := Qt.cell_in (Qt.keep H.bel m2)
          have p3 := Qt.cell_in (Qt.keep H.bel m3)
          have p4 := Qt.cell_in (Qt.keep H.bel m4)
          have p5 := Qt.cell_in (Qt.keep H.bel m5)
          have t0 := Qt.cell_in H.a0
          have t1 := Qt.cell_in H.b0
          clear n0 n1 n2 n3 n4 n5 m0 m1 m2 m3 m4 m5 hstep hx hy hcell hcel2
          by_cases hxy : x = y
          · have HE := HX.out hxy
            rw [decide_eq_true hxy] at hne
            clear hn hxy
            go_wp2_with fail
            refine Qt.below_all (by kernel_rfl) (by kernel_rfl) ?_
            repeat (go_big_quiet_step (fail))
            refine wpQuiet_nil ?_
            intro w1 hb1
            have H1 := H.below hb1
            clear q0 q1 q2 q3 q4 q5 p0 p1 p2 p3 p4 p5 t0 t1 hne s0 H hb1
            have HN2 : Hid (TwoAt w w1 (some ⟨c0, off, none⟩) l.length c room (some ⟨e0, off2, none⟩) l.length d room ∧ ∀ q, q < j + 1 → l.getD q deadN = m.getD q deadN) := ⟨H1, HS.out HE⟩
            clear HE HX HS HH H1
            go_wp2
            go_roundw
            case measure => simp [intOf]; omega
            case rel => exact ⟨j + 1, by omega, by go_num, HN2.out⟩
          · have hr := hn hxy
            rw [decide_eq_false hxy] at hne
            subst hr
            clear hn HX HS HH hxy
            go_wp2_with fail
            refine Qt.below_all (by kernel_rfl) (by kernel_rfl) ?_
            repeat (go_big_quiet_step (fail))
            refine wpQuiet_nil ?_
            intro w1 hb1
            have H1 := H.below hb1
            clear q0 q1 q2 q3 q4 q5 p0 p1 p2 p3 p4 p5 t0 t1 hne s0 H hb1
            have hbel := H1.bel
            clear H1
            go_wp2
            go_ret
            exact ⟨rfl, hbel⟩
        · obtain rfl : j = l.length := by omega
          have hltz : ¬ (l.length : Int) < (l.length : Int) := by omega
          have hr := HY.out HH.out.2
          subst hr
          have hbel := H.bel
          clear HH H
          go_wp2
          go_ret
          exact ⟨rfl, hbel⟩
    · have hf : decide (room = room ∧ l = m) = false := decide_eq_false fun h => h2 (by rw [h.2])
      rw [hf]
      have h2z : ¬ (l.length : Int) = (m.length : Int) := by omega
      clear hf
      go_enter Try.func20, Try.ntmps20
      go_wp2
      go_ret
      exact ⟨rfl, hbel⟩
  · have hf : decide (room = ro ∧ l = m) = false := decide_eq_false fun h => h1 h.1
    rw [hf]
    clear hf
    go_enter Try.func20, Try.ntmps20
    go_wp2
    go_ret
    exact ⟨rfl, hbel⟩
end Go.Proofs.Ytikgnjcjbjafaaa
namespace Go.Proofs.Ytikgnjcjbjafaaa
set_option linter.unusedVariables false
set_option linter.unusedSimpArgs false
open Go.RowKit Go.Sort

theorem pow_bd {y : Nat} (h : y ≤ 61) : 1 ≤ 2 ^ y ∧ 2 ^ y ≤ 2305843009213693952 := by
  have h1 := Nat.pow_le_pow_right (n := 2) (by decide) h
  have h2 : (2 : Nat) ^ 61 = 2305843009213693952 := by decide
  have h3 : 0 < 2 ^ y := Nat.pow_pos (by decide)
  omega
theorem sum_away {l : List Int} {k : Nat} (h : k < l.length) (hb : l.getD k 0 < 0 ∨ 61 < l.getD k 0) : sumL l = (0, 1) := by
  unfold sumL
  rw [if_pos]
  unfold awayB
  rw [List.any_eq_true]
  refine ⟨l.getD k 0, ?_, by simpa using hb⟩
  rw [List.getD_eq_getElem?_getD, List.getElem?_eq_getElem h]
  exact List.getElem_mem _
theorem all_in {l : List Int} (h : ∀ j, j < l.length → 0 ≤ l.getD j 0 ∧ l.getD j 0 ≤ 61) : ∀ e ∈ l, 0 ≤ e ∧ e ≤ 61 := by
  intro e he
  obtain ⟨j, hj, rfl⟩ := List.getElem_of_mem he
  have := h j hj
  rwa [List.getD_eq_getElem?_getD, List.getElem?_eq_getElem hj] at this
theorem sum_big {l : List Int} (h : ∀ j, j < l.length → 0 ≤ l.getD j 0 ∧ l.getD j 0 ≤ 61) (ht : 4611686018427387903 < total l) : sumL l = (0, 21) := by
  unfold sumL
  rw [awayB_no (all_in h), if_neg (by decide), if_pos ht]
theorem sum_fits {l : List Int} (h : ∀ j, j < l.length → 0 ≤ l.getD j 0 ∧ l.getD j 0 ≤ 61) (ht : ¬ 4611686018427387903 < total l) : sumL l = ((total l : Int), 0) := by
  unfold sumL
  rw [awayB_no (all_in h), if_neg (by decide), if_neg ht]
theorem in_to {l : List Int} {k : Nat} (hk : ∀ j, j < k → 0 ≤ l.getD j 0 ∧ l.getD j 0 ≤ 61) (hd : 0 ≤ l.getD k 0 ∧ l.getD k 0 ≤ 61) : ∀ j, j < k + 1 → 0 ≤ l.getD j 0 ∧ l.getD j 0 ≤ 61 := by
  intro j hj
  by_cases e : j = k
  · subst e; exact hd
  · exact hk j (by omega)

theorem min_step (t p : Nat) : min (min t 4611686018427387904 + p) 4611686018427387904 = min (t + p) 4611686018427387904 := by omega

def PairR (p : Int × Int) (w : World) (e : Ending) (w' : World) : Prop := e = .returned (.tuple #[.int .i64 p.1, .int .i64 p.2]) ∧ Below w.heap.size w w'

end Go.Proofs.Ytikgnjcjbjafaaa
namespace Go.Proofs.Ytikgnjcjbjafaaa
set_option linter.unusedVariables false
set_option linter.unusedSimpArgs false
open Go.RowKit Go.Sort

theorem eq_of_all {l m : List Int} (hlen : l.length = m.length) (h : ∀ j, j < l.length → l.getD j 0 = m.getD j 0) : l = m := by
  refine List.ext_getElem hlen fun j h1 h2 => ?_
  have := h j h1
  rwa [List.getD_eq_getElem?_getD, List.getD_eq_getElem?_getD, List.getElem?_eq_getElem h1, List.getElem?_eq_getElem h2] at this

theorem total_bound {l : List Int} {k x : Nat} (h : k < l.length) (hx : (x : Int) = l.getD k 0) (hn : 4611686018427387903 < total (l.take k) + 2 ^ x) : 4611686018427387903 < total l := by
  have h1 := total_take_le l (k + 1)
  rw [total_take_succ h, ← hx] at h1
  simp only [Int.toNat_natCast] at h1
  omega

end Go.Proofs.Ytikgnjcjbjafaaa
