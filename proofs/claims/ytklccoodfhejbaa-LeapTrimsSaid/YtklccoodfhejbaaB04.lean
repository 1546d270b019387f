/-
  Texts that the claims of this seat share, part 4.
-/
import Derived.Test.YtklccoodfhejbaaB03
import Derived.Test.YtklccoodfhejbaaB01
import Derived.Lib.ItoaMem
import GoSem.Op.String
import Derived.Test.YtklccoodfhejbaaRows
import Derived.Test.YtklccoodfhejbaaSh
import Derived.Test.YtklccoodfhejbaaB00
import Derived.WalkKit
import Derived.WalkSpells
import Derived.WalkLawsBesides
import Derived.WalkArith
import Derived.IntWalk
import Derived.Lib.QuietBelow
import Derived.Lib.Hide
import Derived.Lib.AppendIntMem
import Derived.BigQuiet
import Derived.StillTailTactics
import Derived.LoopN
import Derived.Handy
import Derived.Deep.LoopGhost
import Derived.Lib.AppendZerosOnto
import Derived.KernelRfl
set_option linter.unusedVariables false
set_option linter.unusedSimpArgs false
namespace Go.Proofs.Ytklccoodfhejbaa
set_option maxRecDepth 100000
set_option linter.unusedVariables false
set_option linter.unusedSimpArgs false
open Go.RowKit Go.Sort
open Go.Maps (Keyed)

abbrev MapAt (w : World) (b n : Nat) (D : DataW Unit) : Prop := w.ownsMap Try.prog 33 (plainElem Try.prog 3) b n D
/-- An index in memory that holds a store's nodes. -/
structure IxAt (n0 : Nat) (w : World) (g b : Nat) (l : List Nd) (room : Int) (v : Value) (D : DataW Unit) : Prop where
  row : IxRow w g v room (.map (some b))
  own : OwnN w n0 v l
  map : MapAt w b l.length D
  says : Says D l
  gB : n0 ≤ g
  bB : n0 ≤ b
  hB : n0 ≤ w.heap.size
section
variable {n0 : Nat} {w w' : World} {g b : Nat} {l : List Nd} {room : Int} {v : Value} {D : DataW Unit}
theorem IxAt.below (h : IxAt n0 w g b l room v D) (hb : Below w.heap.size w w') : IxAt n0 w' g b l room v D :=
  ⟨h.row.below hb (lt_heap6 h.row), h.own.below hb, h.map.kept (row := none) ⟨hb.os, hb.tape, hb.output, hb.size, fun k hk _ => hb.block k hk⟩ (by simp), h.says, h.gB, h.bB, Nat.le_trans h.hB hb.size⟩
theorem IxAt.ne (h : IxAt n0 w g b l room v D) : v.ownBlock ≠ some g := by
  intro e
  obtain ⟨_, _, cs, fz, hc⟩ := ownN_kind h.own g e
  have := h.row
  unfold IxRow at this
  rw [this] at hc
  injection hc with hc
  injection hc with _ hc _
  exact absurd hc (by decide)
theorem map_kind (h : MapAt w b n0 D) : ∃ es c, w.heap[b]? = some (.map es c) := by
  obtain ⟨es, c, hb, _⟩ := h
  exact ⟨es, c, hb⟩
theorem IxAt.nb (h : IxAt n0 w g b l room v D) : v.ownBlock ≠ some b := by
  intro e
  obtain ⟨_, _, cs, fz, hc⟩ := ownN_kind h.own b e
  obtain ⟨es, c, hm⟩ := map_kind h.map
  rw [hm] at hc
  injection hc with hc
  cases hc
theorem IxAt.gb (h : IxAt n0 w g b l room v D) : g ≠ b := by
  intro e
  subst e
  obtain ⟨es, c, hm⟩ := map_kind h.map
  have := h.row
  unfold IxRow at this
  rw [this] at hm
  injection hm with hm
  cases hm
end
theorem IxAt.row_push {n0 : Nat} {w w' : World} {g b : Nat} {l : List Nd} {room : Int} {v : Value} {D : DataW Unit} {o : Obj} (h : IxAt n0 w g b l room v D) (hg : (w.drew.alloc o).grownBy w' v.ownBlock) : IxRow w' g v room (.map (some b)) := by
  have hlt := lt_heap6 h.row
  have h1 : (w.drew.alloc o).heap[g]? = w.heap[g]? := Lib.alloc_old w.drew _ _ hlt
  have hsz : (w.drew.alloc o).heap.size = w.heap.size + 1 := by
    show (w.heap.push _).size = _
    simp
  show w'.heap[g]? = _
  rw [hg.block g (by omega) (fun e => h.ne e.symm), h1]
  exact h.row
/-- a block that is no row of nodes (but for a box of one) and no index -/
def Off (cs : Array Value) (T : TypeId) : Prop := (T ≠ 35 ∨ cs.size ≤ 6) ∧ T ≠ 95
/-- Such blocks are left alone. -/
def Kp (w w' : World) : Prop := ∀ (i : Nat) (cs : Array Value) (T : TypeId) (fz : Nat × Nat), w.heap[i]? = some (.cells cs T fz) → Off cs T → w'.heap[i]? = some (.cells cs T fz)
theorem Kp.refl (w : World) : Kp w w := fun _ _ _ _ h _ => h
theorem Kp.trans {w w' w2 : World} (h : Kp w w') (h2 : Kp w' w2) : Kp w w2 := fun i cs T fz hi h0 => h2 i cs T fz (h i cs T fz hi h0) h0
theorem Kp.below {w w' : World} (hb : Below w.heap.size w w') : Kp w w' := fun i cs T fz hi _ => (hb.block _ (lt_heap6 hi)).trans hi
theorem Kp.grown {w w' : World} {row : Option Nat} (hg : w.grownBy w' row) (hr : ∀ r, row = some r → ∀ cs T fz, w.heap[r]? = some (.cells cs T fz) → ¬ Off cs T) : Kp w w' := fun i cs T fz hi h0 => by
  rw [hg.block i (lt_heap6 hi) (fun e => hr i e.symm cs T fz hi h0)]
  exact hi
theorem Kp.setCell {w : World} {g : Nat} {v : Value} {room : Int} {mv : Value} (hi : IxRow w g v room mv) (j : Nat) (u : Value) : Kp w (w.setCell ⟨g, j, none⟩ u) := fun i cs T fz h0 h1 => by
  rw [Below.heap_setCell _ _ _ _ (by
    show i ≠ g
    intro e
    subst e
    unfold IxRow at hi
    rw [hi] at h0
    injection h0 with h0
    injection h0 with _ h0 _
    exact h1.2 h0.symm)]
  exact h0
theorem own_off {w : World} {n0 : Nat} {v : Value} {l : List Nd} (h : OwnN w n0 v l) (h2 : 2 ≤ l.length) : ∀ r, v.ownBlock = some r → ∀ cs T fz, w.heap[r]? = some (.cells cs T fz) → ¬ Off cs T := fun r e cs T fz hc ho => by
  rcases h.2 with ⟨rfl, h0⟩ | ⟨g, cap, cur, rfl, hb, hh, hn, hcap, hsz, htake⟩
  · cases e
  · have e' : some g = some r := e
    injection e' with e'
    subst e'
    rw [hh] at hc
    injection hc with hc
    injection hc with hc1 hc2 _
    subst hc1 hc2
    rcases ho.1 with h1 | h1
    · exact h1 rfl
    · omega
/-- Below, and what is of other kinds is left alone. -/
structure BelK (n0 b : Nat) (w w' : World) : Prop where
  bel : Below n0 w w'
  kp : Kp w w'
  mp : ∀ (i : Nat) es c, i ≠ b → w.heap[i]? = some (.map es c) → w'.heap[i]? = some (.map es c)
theorem BelK.refl (n0 b : Nat) (w : World) : BelK n0 b w w := ⟨Below.refl _ _, Kp.refl _, fun _ _ _ _ h => h⟩
theorem BelK.trans {n0 b : Nat} {w w' w2 : World} (h : BelK n0 b w w') (h2 : BelK n0 b w' w2) : BelK n0 b w w2 := ⟨h.bel.trans h2.bel, h.kp.trans h2.kp, fun i es c hi hm => h2.mp i es c hi (h.mp i es c hi hm)⟩
theorem BelK.of {n0 b : Nat} {w w' : World} (hb : Below w.heap.size w w') (h : n0 ≤ w.heap.size) : BelK n0 b w w' := ⟨hb.mono h, Kp.below hb, fun i es c hi hm => (hb.block _ (lt_heap6 hm)).trans hm⟩
theorem BelK.more {n0 b : Nat} {w w' w2 : World} (h : BelK n0 b w w') (hb : Below w'.heap.size w' w2) (hn : n0 ≤ w.heap.size) : BelK n0 b w w2 := h.trans (.of hb (Nat.le_trans hn h.bel.size))
def Ix (n0 : Nat) (w : World) (g b : Nat) (l : List Nd) (room : Int) : Prop := ∃ v D, IxAt n0 w g b l room v D
/-- What Intern answers. -/
def IxK (p : List Nd × Int × Int) (n0 g b : Nat) (room : Int) (w : World) (e : Ending) (w' : World) : Prop :=
  e = .returned (.tuple #[.int .i64 p.2.1, .int .i64 p.2.2]) ∧ Ix n0 w' g b p.1 room ∧ BelK n0 b w w'
def IxR (p : List Nd × Int × Int) (n0 g b : Nat) (room : Int) (w : World) (e : Ending) (w' : World) : Prop :=
  e = .returned (.tuple #[.int .i64 p.2.1, .int .i64 p.2.2]) ∧ Ix n0 w' g b p.1 room ∧ Below n0 w w'
theorem IxK.ixR {p : List Nd × Int × Int} {n0 g b : Nat} {room : Int} {w : World} {e : Ending} {w' : World} (h : IxK p n0 g b room w e w') : IxR p n0 g b room w e w' := ⟨h.1, h.2.1, h.2.2.bel⟩
theorem ownN_val {w : World} {B : Nat} {v : Value} {l : List Nd} (h : OwnN w B v l) (hl : 0 < l.length) : ∃ q cap, v = .slice (some ⟨q, 0, none⟩) l.length cap ∧ l.length ≤ cap := by
  rcases h.2 with ⟨rfl, h0⟩ | ⟨q, cap, cur, rfl, _, _, hn, _⟩
  · omega
  · exact ⟨q, cap, rfl, hn⟩
/-- the kids' and the node's own boxes -/
structure InAt (w wr : World) (k : Kd) (y : Nd) (c : Nat) : Prop where
  kids : wr.heap[w.heap.size]? = some (.cells #[.int .i64 k.1, .int .i64 k.2.1, .int .i64 k.2.2.1, .int .i64 k.2.2.2] 33 (0, 0))
  node : wr.heap[c]? = some (.cells #[.int .i64 y.1, .int .i64 y.2.1.1, .int .i64 y.2.1.2.1, .int .i64 y.2.1.2.2.1, .int .i64 y.2.1.2.2.2, .int .i64 y.2.2] 35 (0, 0))
section
variable {w wr : World} {k : Kd} {y : Nd} {c : Nat}
theorem InAt.k0 (h : InAt w wr k y c) : wr.cell? ⟨w.heap.size, 0, none⟩ = some (.int .i64 k.1) := Lib.cell_of_heap h.kids 0
theorem InAt.k1 (h : InAt w wr k y c) : wr.cell? ⟨w.heap.size, 1, none⟩ = some (.int .i64 k.2.1) := Lib.cell_of_heap h.kids 1
theorem InAt.k2 (h : InAt w wr k y c) : wr.cell? ⟨w.heap.size, 2, none⟩ = some (.int .i64 k.2.2.1) := Lib.cell_of_heap h.kids 2
theorem InAt.k3 (h : InAt w wr k y c) : wr.cell? ⟨w.heap.size, 3, none⟩ = some (.int .i64 k.2.2.2) := Lib.cell_of_heap h.kids 3
theorem InAt.n0 (h : InAt w wr k y c) : wr.cell? ⟨c, 0, none⟩ = some (.int .i64 y.1) := Lib.cell_of_heap h.node 0
theorem InAt.n1 (h : InAt w wr k y c) : wr.cell? ⟨c, 1, none⟩ = some (.int .i64 y.2.1.1) := Lib.cell_of_heap h.node 1
theorem InAt.n2 (h : InAt w wr k y c) : wr.cell? ⟨c, 2, none⟩ = some (.int .i64 y.2.1.2.1) := Lib.cell_of_heap h.node 2
theorem InAt.n3 (h : InAt w wr k y c) : wr.cell? ⟨c, 3, none⟩ = some (.int .i64 y.2.1.2.2.1) := Lib.cell_of_heap h.node 3
theorem InAt.n4 (h : InAt w wr k y c) : wr.cell? ⟨c, 4, none⟩ = some (.int .i64 y.2.1.2.2.2) := Lib.cell_of_heap h.node 4
theorem InAt.n5 (h : InAt w wr k y c) : wr.cell? ⟨c, 5, none⟩ = some (.int .i64 y.2.2) := Lib.cell_of_heap h.node 5
end
theorem InAt.below {w wr w' : World} {k : Kd} {y : Nd} {c : Nat} (h : InAt w wr k y c) (hb : Below wr.heap.size wr w') : InAt w w' k y c :=
  ⟨(hb.block _ (lt_heap6 h.kids)).trans h.kids, (hb.block _ (lt_heap6 h.node)).trans h.node⟩

theorem grown_off {w w' : World} {r i : Nat} {o : Obj} (hg : w.grownBy w' (some r)) (h : w.heap[i]? = some o) (hne : i ≠ r) : w'.heap[i]? = some o := by
  rw [hg.block i (lt_heap6 h) (fun e => hne (by injection e))]
  exact h
/-- What is known when a node was pushed and told in the index's row, but not yet in its map. -/
structure PushAt (n0 : Nat) (w : World) (g b : Nat) (l m : List Nd) (room : Int) (v : Value) (D : DataW Unit) (kb : Nat) (k : Kd) : Prop where
  row : IxRow w g v room (.map (some b))
  own : OwnN w n0 v m
  map : MapAt w b l.length D
  kids : w.heap[kb]? = some (.cells #[.int .i64 k.1, .int .i64 k.2.1, .int .i64 k.2.2.1, .int .i64 k.2.2.2] 33 (0, 0))
  hB : n0 ≤ w.heap.size
theorem PushAt.below {n0 : Nat} {w w' : World} {g b : Nat} {l m : List Nd} {room : Int} {v : Value} {D : DataW Unit} {kb : Nat} {k : Kd} (h : PushAt n0 w g b l m room v D kb k) (hb : Below w.heap.size w w') : PushAt n0 w' g b l m room v D kb k :=
  ⟨h.row.below hb (lt_heap6 h.row), h.own.below hb, h.map.kept (row := none) ⟨hb.os, hb.tape, hb.output, hb.size, fun k hk _ => hb.block k hk⟩ (by simp), (hb.block _ (lt_heap6 h.kids)).trans h.kids, Nat.le_trans h.hB hb.size⟩
section
variable {n0 : Nat} {w : World} {g b : Nat} {l m : List Nd} {room : Int} {v : Value} {D : DataW Unit} {kb : Nat} {k : Kd}
theorem PushAt.k0 (h : PushAt n0 w g b l m room v D kb k) : w.cell? ⟨kb, 0, none⟩ = some (.int .i64 k.1) := Lib.cell_of_heap h.kids 0
theorem PushAt.k1 (h : PushAt n0 w g b l m room v D kb k) : w.cell? ⟨kb, 1, none⟩ = some (.int .i64 k.2.1) := Lib.cell_of_heap h.kids 1
theorem PushAt.k2 (h : PushAt n0 w g b l m room v D kb k) : w.cell? ⟨kb, 2, none⟩ = some (.int .i64 k.2.2.1) := Lib.cell_of_heap h.kids 2
theorem PushAt.k3 (h : PushAt n0 w g b l m room v D kb k) : w.cell? ⟨kb, 3, none⟩ = some (.int .i64 k.2.2.2) := Lib.cell_of_heap h.kids 3
end
theorem pushAt_made {n0 : Nat} {w w3 w4 : World} {g b : Nat} {l : List Nd} {room : Int} {v : Value} {D : DataW Unit} {k : Kd} {o : Obj} {q c n : Nat} {x : Nd} (h : IxAt n0 w3 g b l room v D) (hkids : w3.heap[w.heap.size]? = some (.cells #[.int .i64 k.1, .int .i64 k.2.1, .int .i64 k.2.2.1, .int .i64 k.2.2.2] 33 (0, 0)))
    (h2 : 2 ≤ l.length) (hgw : g ≠ w.heap.size) (hg : (w3.drew.alloc o).grownBy w4 v.ownBlock) (ho : OwnN w4 n0 (.slice (some ⟨q, 0, none⟩) n c) (l ++ [x])) (hbp : Below n0 w3.drew w4) :
    PushAt n0 (w4.setCell ⟨g, 0, none⟩ (.slice (some ⟨q, 0, none⟩) n c)) g b l (l ++ [x]) room (.slice (some ⟨q, 0, none⟩) n c) D w.heap.size k ∧ BelK n0 b w3 (w4.setCell ⟨g, 0, none⟩ (.slice (some ⟨q, 0, none⟩) n c)) := by
  have hrow4 := h.row_push hg
  have hsz : (w3.drew.alloc o).heap.size = w3.heap.size + 1 := by
    show (w3.heap.push _).size = _
    simp
  have hkv : v.ownBlock ≠ some w.heap.size := by
    intro e
    obtain ⟨_, _, cs, fz, hc⟩ := ownN_kind h.own _ e
    rw [hkids] at hc
    injection hc with hc
    injection hc with _ hc _
    exact absurd hc (by decide)
  have hne : (Value.slice (some ⟨q, 0, none⟩) n c).ownBlock ≠ some g := by
    intro e
    obtain ⟨_, _, cs, fz, hc⟩ := ownN_kind ho g e
    unfold IxRow at hrow4
    rw [hrow4] at hc
    injection hc with hc
    injection hc with _ hc _
    exact absurd hc (by decide)
  have hk4 : w4.heap[w.heap.size]? = some (.cells #[.int .i64 k.1, .int .i64 k.2.1, .int .i64 k.2.2.1, .int .i64 k.2.2.2] 33 (0, 0)) := by
    rw [hg.block _ (by have := lt_heap6 hkids; omega) (fun e => hkv e.symm)]
    exact (Lib.alloc_old w3.drew _ _ (lt_heap6 hkids)).trans hkids
  have hm4 : MapAt w4 b l.length D := World.ownsMap.kept (World.ownsMap.alloc (World.ownsMap.drew h.map) o) hg (fun e => h.nb e.symm)
  have hown4 : ∀ r, v.ownBlock = some r → ∀ cs T fz, (w3.drew.alloc o).heap[r]? = some (.cells cs T fz) → ¬ Off cs T := fun r e cs T fz hc => by
    obtain ⟨_, _, cs', fz', hc'⟩ := ownN_kind h.own r e
    rw [Lib.alloc_old w3.drew _ _ (lt_heap6 hc')] at hc
    exact own_off h.own h2 r e cs T fz hc
  have hb5 : Below n0 w3 w4 := ⟨hbp.os, hbp.tape, hbp.output, hbp.size, hbp.block⟩
  refine ⟨⟨?_, World.ownsRow.kept ho (but_set 0 _) (.inr hne), hm4.setCell (fun e => h.gb e.symm) _, ?_, ?_⟩, ⟨hb5.setCell h.gB _, ((Kp.below ((⟨rfl, rfl, rfl, Nat.le_refl _, fun k _ => rfl⟩ : Below w3.heap.size w3 w3.drew).alloc (Nat.le_refl _) o)).trans (Kp.grown hg hown4)).trans (Kp.setCell hrow4 0 _), fun i es c hi hm => by
    have hig : i ≠ g := fun e => by
      subst e
      have := h.row
      unfold IxRow at this
      rw [hm] at this
      injection this with this
      cases this
    rw [Below.heap_setCell _ _ _ _ (by show i ≠ g; exact hig), hg.block i (by have := lt_heap6 hm; rw [show (w3.drew.alloc o).heap.size = w3.heap.size + 1 by show (w3.heap.push _).size = _; simp]; omega) (fun e => by
      obtain ⟨_, _, cs', fz', hc'⟩ := ownN_kind h.own i e.symm
      rw [hm] at hc'
      injection hc' with hc'
      cases hc')]
    exact (Lib.alloc_old w3.drew _ _ (lt_heap6 hm)).trans hm⟩⟩
  · unfold IxRow at hrow4 ⊢
    simp [World.setCell, Array.getElem?_modify, hrow4]
  · simp [World.setCell, Array.getElem?_modify, hgw, hk4]
  · have := h.hB
    have h2 := hb5.size
    simp [World.setCell]
    omega
theorem PushAt.done {n0 : Nat} {w w' : World} {g b : Nat} {l : List Nd} {room : Int} {v : Value} {D : DataW Unit} {kb : Nat} {k : Kd} {lev pop : Int} (h : PushAt n0 w g b l (l ++ [(lev, k, pop)]) room v D kb k) (hs : Says D l) (hk : KeyK k) (h2 : 2 ≤ l.length) (hn : at6 l k = none)
    (hm : MapAt w' b (l.length + 1) (D.put (kl4 k) (.lit (.int .i64 (l.length : Int))))) (hg : w.grownBy w' (some b)) (hgB : n0 ≤ g) (hbB : n0 ≤ b) (hgb : g ≠ b) (hvb : v.ownBlock ≠ some b) :
    Ix n0 w' g b (l ++ [(lev, k, pop)]) room := by
  refine ⟨v, _, ⟨grown_off hg h.row hgb, World.ownsRow.kept h.own hg (.inr hvb), ?_, says_put hs hk h2 hn lev pop, hgB, hbB, Nat.le_trans h.hB hg.size⟩⟩
  rw [List.length_append]
  exact hm
def lookV (o : Option Nat) : Int := match o with | some n => (n : Int) | none => 0
theorem look_run {W : World} {b n : Nat} {D : DataW Unit} {l : List Nd} {k : Kd} (hm : MapAt W b n D) (hs : Says D l) (hk : KeyK k) :
    (Instr.lookup 93 (.map (some b)) (.agg #[.int .i64 k.1, .int .i64 k.2.1, .int .i64 k.2.2.1, .int .i64 k.2.2.2]) true).run Try.prog W = .ok (.tuple #[.int .i64 (lookV (at6 l k)), .bool (at6 l k).isSome]) W := by
  obtain ⟨v, ps, hrun, hv⟩ := hm.look_ok kdKeyed Try.underlying93 (Try.zeroValue3 W) (plainElem_int Try.underlying3 (by decide)) (keyOf_kd hk)
  obtain ⟨a, rfl, hz, _⟩ := plainElem_int_inv Try.underlying3 hv
  have he : D.atKey (kl4 k) zero4 = .lit (.int .i64 a) := congrArg Prod.fst hz
  rw [hrun]
  obtain ⟨s1, s2⟩ := hs.2 k hk
  cases hat : at6 l k with
  | some m =>
    obtain ⟨h1, h2⟩ := s2 m hat
    rw [h2] at he
    rw [h1]
    injection he with he
    injection he with _ he
    subst he
    rfl
  | none =>
    have h1 := s1 hat
    rw [Maps.atKey_of_not_has h1] at he
    rw [h1]
    injection he with he
    injection he with _ he
    subst he
    rfl
theorem over_key {l : List Nd} {k : Kd} (h : over6 l k = true) (hl : l.length ≤ 100000) : KeyK k := fun i hi => by
  have := (over_fit h).kid i hi
  omega

set_option maxHeartbeats 8000000 in
set_option maxRecDepth 100000 in
theorem intern_anyK (n0 g b : Nat) (l : List Nd) (room : Int) (k : Kd) (w : World) (hix : Ix n0 w g b l room) (hr : Right6 l room) :
    Calls Try.prog 81 #[.pointer (some ⟨g, 0, none⟩), kidsV k] w (IxK (put6 l room k) n0 g b room w) := by
  obtain ⟨v, D, hI⟩ := hix
  have h2 := hr.two
  have hlen : l.length ≤ 100000 := by have := hr.len; have := hr.room100; omega
  obtain ⟨q, cap, rfl, hcap⟩ := ownN_val hI.own (by omega)
  obtain ⟨A, c', e, _, hRd⟩ := hI.own.reads
  injection e with e1 e2 e3
  subst e1 e3
  have hb0 : Below w.heap.size w (w.alloc (.cells #[.int .i64 k.1, .int .i64 k.2.1, .int .i64 k.2.2.1, .int .i64 k.2.2.2] 33)) := (Below.refl _ _).alloc (Nat.le_refl _) _
  have hov := over_any g (some ⟨q, 0, none⟩) l cap room (.map (some b)) k (w.alloc (.cells #[.int .i64 k.1, .int .i64 k.2.1, .int .i64 k.2.2.1, .int .i64 k.2.2.2] 33)) (hI.row.below hb0 (lt_heap6 hI.row)) (hRd.below hb0) hlen (right_bd hr)
  have HI := Lib.hid (hI.below hb0)
  have hkids := heap_alloc_new w (.cells #[.int .i64 k.1, .int .i64 k.2.1, .int .i64 k.2.2.1, .int .i64 k.2.2.2] 33)
  have HK := Lib.hid hkids
  have HR := Lib.hid hr
  have HH := Lib.hid hI
  have hp := @put_over_no l room k
  have hy := fun h => @put_over_yes l k h room
  obtain ⟨z, hz⟩ : ∃ z, z = put6 l room k := ⟨_, rfl⟩
  rw [← hz] at hp hy ⊢
  unfold kidsV at hov ⊢
  have HB0 := Lib.hid hb0
  clear hI hr hRd hkids hz hb0
  cases hb : over6 l k with
  | false =>
    have hzz := hp hb
    subst hzz
    unfold OverR at hov
    rw [hb] at hov
    clear hp hy
    go_enter Try.func81, Try.ntmps81
    go_wp2_with (go_at_call 97; refine hov.mono ?_; rintro e w1 ⟨y, rfl, _, hb1⟩; obtain ⟨y0, ⟨y1, y2, y3, y4⟩, y5⟩ := y; unfold nodeV)
    go_ret2
    exact ⟨rfl, ⟨_, _, (HI.out.below hb1).below ((Below.refl _ _).alloc (Nat.le_refl _) _)⟩, ((BelK.of HB0.out HH.out.hB).trans (.of hb1 HI.out.hB)).trans (.of ((Below.refl _ _).alloc (Nat.le_refl _) _) (HI.out.below hb1).hB)⟩
  | true =>
    have hzz := hy hb
    have hkk := over_key hb hlen
    unfold OverR at hov
    rw [hb] at hov
    have HZ := Lib.hid hzz
    clear hp hy hzz
    generalize hlv : (ndAt l k.1).1 + 1 = lv at *
    generalize hpp : popTo l k 4 = pt at *
    have HE : Hid ((ndAt l k.1).1 + 1 = lv ∧ popTo l k 4 = pt) := ⟨hlv, hpp⟩
    clear hlv hpp
    go_enter Try.func81, Try.ntmps81
    go_wp2_with (go_at_call 97; refine hov.mono ?_; rintro e w1 ⟨y, rfl, hye, hb1⟩; obtain rfl := hye rfl; unfold nodeV; clear hov)
    have hba : Below w1.heap.size w1 (w1.alloc (.cells #[.int .i64 lv, .int .i64 k.1, .int .i64 k.2.1, .int .i64 k.2.2.1, .int .i64 k.2.2.2, .int .i64 pt] 35)) := (Below.refl _ _).alloc (Nat.le_refl _) _
    have hnode := heap_alloc_new w1 (.cells #[.int .i64 lv, .int .i64 k.1, .int .i64 k.2.1, .int .i64 k.2.2.1, .int .i64 k.2.2.2, .int .i64 pt] 35)
    have hkid1 := (hb1.block _ (lt_heap6 HK.out)).trans HK.out
    have HIN : Hid (InAt w (w1.alloc (.cells #[.int .i64 lv, .int .i64 k.1, .int .i64 k.2.1, .int .i64 k.2.2.1, .int .i64 k.2.2.2, .int .i64 pt] 35)) k (lv, k, pt) w1.heap.size) := ⟨(hba.block _ (lt_heap6 hkid1)).trans hkid1, hnode⟩
    have HI1 := Lib.hid ((HI.out.below hb1).below hba)
    have HB1 : Hid (BelK n0 b w (w1.alloc (.cells #[.int .i64 lv, .int .i64 k.1, .int .i64 k.2.1, .int .i64 k.2.2.1, .int .i64 k.2.2.2, .int .i64 pt] 35)) ∧ w.heap.size < w1.heap.size) := ⟨((BelK.of HB0.out HH.out.hB).trans (.of hb1 HI.out.hB)).trans (.of hba (HI.out.below hb1).hB), lt_heap6 hkid1⟩
    generalize hw2 : (w1.alloc (.cells #[.int .i64 lv, .int .i64 k.1, .int .i64 k.2.1, .int .i64 k.2.2.1, .int .i64 k.2.2.2, .int .i64 pt] 35)) = w2 at *
    generalize hnb : w1.heap.size = nb at *
    clear hw2 hnb hnode hkid1 hba hb1 HI HK HB0
    have q0 := Qt.cell_in HI1.out.row.c2
    have q1 := Qt.cell_in (HIN.out.k0)
    have q2 := Qt.cell_in (HIN.out.k1)
    have q3 := Qt.cell_in (HIN.out.k2)
    have q4 := Qt.cell_in (HIN.out.k3)
    have hlk : ∀ d os, (Instr.lookup 93 (.map (some b)) (.agg #[.int .i64 k.1, .int .i64 k.2.1, .int .i64 k.2.2.1, .int .i64 k.2.2.2]) true).run Try.prog (grow (redrawn w2 d) os) = .ok (.tuple #[.int .i64 (lookV (at6 l k)), .bool (at6 l k).isSome]) (grow (redrawn w2 d) os) := fun d os => look_run (HI1.out.below (below_regrown w2 d os)).map HI1.out.says hkk
    refine Qt.below_all (by kernel_rfl) (by kernel_rfl) ?_
    repeat (go_big_quiet_step (fail))
    refine wpQuiet_nil ?_
    intro w3 hb3
    clear q0 q1 q2 q3 q4 hlk
    have HI3 := Lib.hid (HI1.out.below hb3)
    have HIN3 := Lib.hid (HIN.out.below hb3)
    have HB3 : Hid (BelK n0 b w w3 ∧ w.heap.size < nb) := ⟨HB1.out.1.trans (.of hb3 HI1.out.hB), HB1.out.2⟩
    clear HI1 HIN HB1 hb3
    cases hao : at6 l k with
    | some n =>
      rw [hao] at HZ
      simp only at HZ
      have hzz := HZ.out
      subst hzz
      unfold lookV
      simp only [Option.isSome]
      go_wp2
      go_ret2
      exact ⟨rfl, ⟨_, _, HI3.out⟩, HB3.out.1⟩
    | none =>
      rw [hao] at HZ
      simp only at HZ
      have hzz := HZ.out
      unfold lookV
      simp only [Option.isSome]
      have s0 := HI3.out.row.c0
      have s1 := HI3.out.row.c1
      clear HZ
      by_cases hroom : room ≤ (l.length : Int)
      · rw [if_pos hroom] at hzz
        subst hzz
        go_wp2
        go_ret2
        exact ⟨rfl, ⟨_, _, HI3.out⟩, HB3.out.1⟩
      · rw [if_neg hroom] at hzz
        subst hzz
        obtain ⟨v2, w4, rp, op, gp, hbp⟩ := pushN_any (w := w3.drew) (B := n0) (out := l) ((lv, k, pt) : Nd) HI3.out.hB HI3.out.own (by omega)
        have n0' := HIN3.out.n0
        have n1' := HIN3.out.n1
        have n2' := HIN3.out.n2
        have n3' := HIN3.out.n3
        have n4' := HIN3.out.n4
        have n5' := HIN3.out.n5
        have HOP := Lib.hid op
        have HGP := Lib.hid gp
        have HBP := Lib.hid hbp
        have hrow4 := HI3.out.row_push gp
        have rp : (Builtin.append_ #[24, 24] 24 #[.slice (some ⟨q, 0, none⟩) l.length cap, .slice (some ⟨w3.heap.size, 0, none⟩) 1 1]).run Try.prog (w3.alloc (.cells #[.int .i64 lv, .int .i64 k.1, .int .i64 k.2.1, .int .i64 k.2.2.1, .int .i64 k.2.2.2, .int .i64 pt] 35)).drew = .ok v2 w4 := rp
        have s0o : ∀ o, (w3.alloc o).cell? ⟨g, 0, none⟩ = some (.slice (some ⟨q, 0, none⟩) l.length cap) := fun o => (World.cell?_alloc_lt _ _ _ (block_lt_of_cell s0)).trans s0
        have g0 := hrow4.c0
        have f0 := Lib.frozen_of_heap hrow4 0
        have HR4 := Lib.hid hrow4
        have hx1 : (l ++ [((lv, k, pt) : Nd)]).length = l.length + 1 := by simp
        have HX1 := Lib.hid hx1
        obtain ⟨q2, cap2, rfl, hcap2⟩ := ownN_val op (by rw [hx1]; omega)
        rw [hx1] at rp hcap2
        simp only at n0' n1' n2' n3' n4' n5' rp
        clear op gp hbp hx1 hrow4
        go_wp2_with fail
        refine region_tree_to (fun a0 a9 w9 => a9 = ((((((((((((a0.put (some 43) (.pointer (some ⟨g, 0, none⟩))).put (some 44) (.pointer (some ⟨g, 0, none⟩))).put (some 45) (.pointer (some ⟨g, 0, none⟩))).put (some 46) (.pointer (some ⟨g, 0, none⟩))).put (some 47) (.pointer (some ⟨g, 0, none⟩))).put (some 48) (.slice (some ⟨q, 0, none⟩) l.length cap)).put (some 49) (.agg #[.int .i64 lv, .int .i64 k.1, .int .i64 k.2.1, .int .i64 k.2.2.1, .int .i64 k.2.2.2, .int .i64 pt])).put (some 50) (.slice (some ⟨w3.heap.size, 0, none⟩) 1 1)).put (some 51) (.slice (some ⟨q2, 0, none⟩) (l.length + 1) cap2)).put (some 52) (.pointer (some ⟨g, 0, none⟩))).put (some 53) (.pointer (some ⟨g, 0, none⟩))).put (some 54) (.pointer (some ⟨g, 0, none⟩))) ∧ w9 = w4.setCell ⟨g, 0, none⟩ (.slice (some ⟨q2, 0, none⟩) (l.length + 1) cap2)) (.pure 0 (.pure 1 (.pure 2 (.pure 3 (.pure 4 (.two 5 6 (.only 6 (.only 7 (.only 8 (.pure 9 (.pure 10 (.pure 11 (.only 12 .done))))))) (.two 5 7 (.only 7 (.only 8 (.pure 9 (.pure 10 (.pure 11 (.only 12 .done)))))) (.only 5 (.only 8 (.pure 9 (.pure 10 (.pure 11 (.only 12 .done))))))))))))) (by kernel_rfl) (by kernel_rfl) (by kernel_rfl) (by rfl) ?_ ?_
        · skip
          refine ⟨_, some 43, .pointer (some ⟨g, 0, none⟩), rfl, rfl, ⟨rfl, fun _ => by first | rfl | (simp only [execOp]; go_simp)⟩, ?_⟩
          simp only [Act.put, List.setIfInBounds_toArray, List.set_cons_succ, List.set_cons_zero]
          refine ⟨_, some 44, .pointer (some ⟨g, 0, none⟩), rfl, rfl, ⟨rfl, fun _ => by first | rfl | (simp only [execOp]; go_simp)⟩, ?_⟩
          simp only [Act.put, List.setIfInBounds_toArray, List.set_cons_succ, List.set_cons_zero]
          refine ⟨_, some 45, .pointer (some ⟨g, 0, none⟩), rfl, rfl, ⟨rfl, fun _ => by first | rfl | (simp only [execOp]; go_simp)⟩, ?_⟩
          simp only [Act.put, List.setIfInBounds_toArray, List.set_cons_succ, List.set_cons_zero]
          refine ⟨_, some 46, .pointer (some ⟨g, 0, none⟩), rfl, rfl, ⟨rfl, fun _ => by first | rfl | (simp only [execOp]; go_simp)⟩, ?_⟩
          simp only [Act.put, List.setIfInBounds_toArray, List.set_cons_succ, List.set_cons_zero]
          refine ⟨_, some 47, .pointer (some ⟨g, 0, none⟩), rfl, rfl, ⟨rfl, fun _ => by first | rfl | (simp only [execOp]; go_simp)⟩, ?_⟩
          simp only [Act.put, List.setIfInBounds_toArray, List.set_cons_succ, List.set_cons_zero]
          constructor
          · refine ⟨_, rfl, ?_⟩
            go_wp2_with fail
            refine ⟨rfl, ?_⟩
            refine ⟨_, rfl, ?_⟩
            go_wp2_with fail
            refine ⟨rfl, ?_⟩
            refine ⟨_, rfl, ?_⟩
            go_wp2_with fail
            refine ⟨rfl, ?_⟩
            refine ⟨_, rfl, ?_⟩
            refine Lib.wpList_append_run _ rfl (.tmp 48) (.tmp 50) 24 24 rfl _ _ rfl rfl _ _ rp ?_
            refine ⟨rfl, ?_⟩
            refine ⟨_, some 52, .pointer (some ⟨g, 0, none⟩), rfl, rfl, ⟨rfl, fun _ => by first | rfl | (simp only [execOp]; go_simp)⟩, ?_⟩
            simp only [Act.put, List.setIfInBounds_toArray, List.set_cons_succ, List.set_cons_zero]
            refine ⟨_, some 53, .pointer (some ⟨g, 0, none⟩), rfl, rfl, ⟨rfl, fun _ => by first | rfl | (simp only [execOp]; go_simp)⟩, ?_⟩
            simp only [Act.put, List.setIfInBounds_toArray, List.set_cons_succ, List.set_cons_zero]
            refine ⟨_, some 54, .pointer (some ⟨g, 0, none⟩), rfl, rfl, ⟨rfl, fun _ => by first | rfl | (simp only [execOp]; go_simp)⟩, ?_⟩
            simp only [Act.put, List.setIfInBounds_toArray, List.set_cons_succ, List.set_cons_zero]
            refine ⟨_, rfl, ?_⟩
            go_wp2_with fail
            refine ⟨rfl, ?_⟩
            show (_ = _) ∧ (_ = _)
            exact ⟨by first | rfl | simp only [Act.put, List.setIfInBounds_toArray, List.set_cons_succ, List.set_cons_zero], rfl⟩
          · refine ⟨_, rfl, ?_⟩
            go_wp2_with fail
            refine ⟨rfl, ?_⟩
            constructor
            · refine ⟨_, rfl, ?_⟩
              go_wp2_with fail
              refine ⟨rfl, ?_⟩
              refine ⟨_, rfl, ?_⟩
              go_wp2_with fail
              refine ⟨rfl, ?_⟩
              refine ⟨_, rfl, ?_⟩
              refine Lib.wpList_append_run _ rfl (.tmp 48) (.tmp 50) 24 24 rfl _ _ rfl rfl _ _ rp ?_
              refine ⟨rfl, ?_⟩
              refine ⟨_, some 52, .pointer (some ⟨g, 0, none⟩), rfl, rfl, ⟨rfl, fun _ => by first | rfl | (simp only [execOp]; go_simp)⟩, ?_⟩
              simp only [Act.put, List.setIfInBounds_toArray, List.set_cons_succ, List.set_cons_zero]
              refine ⟨_, some 53, .pointer (some ⟨g, 0, none⟩), rfl, rfl, ⟨rfl, fun _ => by first | rfl | (simp only [execOp]; go_simp)⟩, ?_⟩
              simp only [Act.put, List.setIfInBounds_toArray, List.set_cons_succ, List.set_cons_zero]
              refine ⟨_, some 54, .pointer (some ⟨g, 0, none⟩), rfl, rfl, ⟨rfl, fun _ => by first | rfl | (simp only [execOp]; go_simp)⟩, ?_⟩
              simp only [Act.put, List.setIfInBounds_toArray, List.set_cons_succ, List.set_cons_zero]
              refine ⟨_, rfl, ?_⟩
              go_wp2_with fail
              refine ⟨rfl, ?_⟩
              show (_ = _) ∧ (_ = _)
              exact ⟨by first | rfl | simp only [Act.put, List.setIfInBounds_toArray, List.set_cons_succ, List.set_cons_zero], rfl⟩
            · refine ⟨_, rfl, ?_⟩
              go_wp2_with fail
              refine ⟨rfl, ?_⟩
              refine ⟨_, rfl, ?_⟩
              go_wp2_with fail
              refine ⟨rfl, ?_⟩
              refine ⟨_, rfl, ?_⟩
              refine Lib.wpList_append_run _ rfl (.tmp 48) (.tmp 50) 24 24 rfl _ _ rfl rfl _ _ rp ?_
              refine ⟨rfl, ?_⟩
              refine ⟨_, some 52, .pointer (some ⟨g, 0, none⟩), rfl, rfl, ⟨rfl, fun _ => by first | rfl | (simp only [execOp]; go_simp)⟩, ?_⟩
              simp only [Act.put, List.setIfInBounds_toArray, List.set_cons_succ, List.set_cons_zero]
              refine ⟨_, some 53, .pointer (some ⟨g, 0, none⟩), rfl, rfl, ⟨rfl, fun _ => by first | rfl | (simp only [execOp]; go_simp)⟩, ?_⟩
              simp only [Act.put, List.setIfInBounds_toArray, List.set_cons_succ, List.set_cons_zero]
              refine ⟨_, some 54, .pointer (some ⟨g, 0, none⟩), rfl, rfl, ⟨rfl, fun _ => by first | rfl | (simp only [execOp]; go_simp)⟩, ?_⟩
              simp only [Act.put, List.setIfInBounds_toArray, List.set_cons_succ, List.set_cons_zero]
              refine ⟨_, rfl, ?_⟩
              go_wp2_with fail
              refine ⟨rfl, ?_⟩
              show (_ = _) ∧ (_ = _)
              exact ⟨by first | rfl | simp only [Act.put, List.setIfInBounds_toArray, List.set_cons_succ, List.set_cons_zero], rfl⟩
        · rintro a9 w9 ⟨rfl, rfl⟩
          simp only [Act.put, List.setIfInBounds_toArray, List.set_cons_succ, List.set_cons_zero]
          clear rp s0o g0 f0 n0' n1' n2' n3' n4' n5' s0 s1
          have hop := HOP.out
          rw [HX1.out] at hop
          obtain ⟨hpush, hb5⟩ := pushAt_made (w := w) HI3.out HIN3.out.kids h2 (by have := lt_heap6 HH.out.row; omega) HGP.out hop HBP.out
          have HP := Lib.hid hpush
          have hvb : (Value.slice (some ⟨q2, 0, none⟩) (l.length + 1) cap2).ownBlock ≠ some b := by
            intro e
            obtain ⟨_, _, cs, fz, hc⟩ := ownN_kind hpush.own b e
            obtain ⟨es, c, hm⟩ := map_kind hpush.map
            rw [hm] at hc
            injection hc with hc
            cases hc
          have HVB := Lib.hid hvb
          have HB5 : Hid (BelK n0 b w (w4.setCell ⟨g, 0, none⟩ (.slice (some ⟨q2, 0, none⟩) (l.length + 1) cap2))) := HB3.out.1.trans hb5
          clear hop hb5 hpush hvb HGP HBP HOP
          generalize w4.setCell ⟨g, 0, none⟩ (.slice (some ⟨q2, 0, none⟩) (l.length + 1) cap2) = w5 at *
          have q0 := Qt.cell_in HP.out.row.c2
          have q1 := Qt.cell_in HP.out.k0
          have q2 := Qt.cell_in HP.out.k1
          have q3 := Qt.cell_in HP.out.k2
          have q4 := Qt.cell_in HP.out.k3
          go_wp2_with fail
          refine Qt.below_tail 6 (by kernel_rfl) (by kernel_rfl) ?_
          simp only [List.take_succ_cons, List.take_zero]
          repeat (go_big_quiet_step (fail))
          refine wpQuiet_nil ?_
          intro w6 hb6
          clear q0 q1 q2 q3 q4
          have HP6 := Lib.hid (HP.out.below hb6)
          have HB6 : Hid (BelK n0 b w w6) := HB5.out.trans (.of hb6 HP.out.hB)
          clear HP HB5 hb6
          simp only [List.drop_succ_cons, List.drop_zero]
          have hkey := keyOf_kd hkk
          have hmap := HP6.out.map
          go_wp2_with (at_mapUpdate; refine wpList_mapUpdate_own _ rfl _ _ _ 93 rfl 33 3 kdKeyed Try.underlying93 (plainElem Try.prog 3) b l.length D rfl hmap (by unfold maxLen; omega) _ _ _ rfl rfl hkey (.lit (.int .i64 (l.length : Int))) [] (plainElem_int Try.underlying3 (wf_small ⟨by omega, by omega⟩)) ?_; intro w7 hown7 hgrow7; have HO := Lib.hid hown7; have HG := Lib.hid hgrow7; clear hown7 hgrow7 hmap hkey)
          go_ret2
          exact ⟨rfl, HP6.out.done HI3.out.says hkk h2 hao HO.out HG.out HI3.out.gB HI3.out.bB HI3.out.gb HVB.out, HB6.out.trans ⟨(Below.refl n0 w6).grown HG.out (by have := HP6.out.hB; omega) (fun j e => by injection e with e; have := HI3.out.bB; omega), Kp.grown HG.out (fun r e cs T fz hc => by injection e with e; subst e; obtain ⟨es, c, hm⟩ := map_kind HP6.out.map; rw [hm] at hc; injection hc with hc; cases hc), fun i es c hi hm => (HG.out.block i (lt_heap6 hm) (fun e => hi (by injection e))).trans hm⟩⟩
theorem intern_any (n0 g b : Nat) (l : List Nd) (room : Int) (k : Kd) (w : World) (hix : Ix n0 w g b l room) (hr : Right6 l room) :
    Calls Try.prog 81 #[.pointer (some ⟨g, 0, none⟩), kidsV k] w (IxR (put6 l room k) n0 g b room w) := (intern_anyK n0 g b l room k w hix hr).mono fun _ _ h => h.ixR
end Go.Proofs.Ytklccoodfhejbaa
namespace Go.Proofs.Ytklccoodfhejbaa
set_option maxRecDepth 100000
set_option linter.unusedVariables false
set_option linter.unusedSimpArgs false
open Go.RowKit Go.Sort

theorem put_err {l : List Nd} {room : Int} {k : Kd} (h : ¬ (put6 l room k).2.2 = 0) : put6 l room k = (l, 0, (put6 l room k).2.2) := by
  cases ho : over6 l k with
  | false => rw [put_over_no ho]
  | true =>
    rw [put_over_yes ho] at h ⊢
    cases ha : at6 l k with
    | some n => rw [ha] at h; exact absurd rfl h
    | none =>
      rw [ha] at h
      simp only at h ⊢
      by_cases hr : room ≤ (l.length : Int)
      · rw [if_pos hr]
      · rw [if_neg hr] at h; exact absurd rfl h
/-- What Empty of an index answers. -/
def ixEmpty (l : List Nd) (room lev : Int) : List Nd × Int × Int := if 0 ≤ lev ∧ lev ≤ 42 then emptyTo l room lev.toNat else (l, 0, 1)

set_option maxHeartbeats 8000000 in
set_option maxRecDepth 100000 in
theorem ixEmpty_anyK (n0 g b : Nat) (l : List Nd) (room lev : Int) (w : World) (hix : Ix n0 w g b l room) (hr : Right6 l room) (hn0 : n0 ≤ w.heap.size) :
    Calls Try.prog 100 #[.pointer (some ⟨g, 0, none⟩), .int .i64 lev] w (IxK (ixEmpty l room lev) n0 g b room w) := by
  by_cases h1 : lev < 0
  · have hz : ixEmpty l room lev = (l, 0, 1) := by unfold ixEmpty; rw [if_neg (by omega)]
    rw [hz]
    have HI := Lib.hid hix
    clear hix hz
    go_enter Try.func100, Try.ntmps100
    go_wp2
    go_ret2
    exact ⟨rfl, HI.out, BelK.refl _ _ _⟩
  by_cases h2 : 42 < lev
  · have hz : ixEmpty l room lev = (l, 0, 1) := by unfold ixEmpty; rw [if_neg (by omega)]
    rw [hz]
    have HI := Lib.hid hix
    clear hix hz
    go_enter Try.func100, Try.ntmps100
    go_wp2
    go_ret2
    exact ⟨rfl, HI.out, BelK.refl _ _ _⟩
  obtain ⟨L, rfl⟩ : ∃ L : Nat, lev = (L : Int) := ⟨lev.toNat, by omega⟩
  have hz : ixEmpty l room (L : Int) = emptyTo l room L := by unfold ixEmpty; rw [if_pos (by omega), Int.toNat_natCast]
  rw [hz]
  obtain ⟨z, hzz⟩ : ∃ z, z = emptyTo l room L := ⟨_, rfl⟩
  rw [← hzz]
  have HZ := Lib.hid hzz
  have HI := Lib.hid hix
  have HR := Lib.hid hr
  clear hix hz hzz hr
  go_enter Try.func100, Try.ntmps100
  go_wp2
  go_loopw [6, 15] (fun a i wr => ∃ (j : Nat) (m : List Nd) (p : Int), j ≤ L ∧ a = .int .i64 p ∧ i = .int .i64 j ∧ Hid (emptyTo l room j = (m, p, 0) ∧ Ix n0 wr g b m room ∧ BelK n0 b w wr)) (fun _ i _ => L - (intOf i).toNat)
  case atStart => exact ⟨0, l, 0, Nat.zero_le _, rfl, rfl, rfl, HI.out, BelK.refl _ _ _⟩
  case round =>
    obtain ⟨j, m, p, hj, rfl, rfl, HH⟩ := hrel
    by_cases hlt : j < L
    · have hltz : (j : Int) < (L : Int) := by omega
      have hrm : Right6 m room := by have := emptyTo_right HR.out j; rw [HH.out.1] at this; exact this
      have hcall := intern_anyK n0 g b m room (p, p, p, p) wr HH.out.2.1 hrm
      have hnext : emptyTo l room (j + 1) = put6 m room (p, p, p, p) := by
        show (if (emptyTo l room j).2.2 = 0 then _ else _) = _
        rw [HH.out.1, if_pos rfl]
      have hstop : ¬ (put6 m room (p, p, p, p)).2.2 = 0 → z = put6 m room (p, p, p, p) := by
        intro hne
        rw [← hnext] at hne ⊢
        have := emptyTo_stop hne (L - (j + 1))
        rw [show j + 1 + (L - (j + 1)) = L by omega] at this
        rw [HZ.out, this]
      have herr := put_err (l := m) (room := room) (k := (p, p, p, p))
      generalize put6 m room (p, p, p, p) = y at *
      obtain ⟨m2, p2, e2⟩ := y
      unfold kidsV at hcall
      simp only at hcall hstop herr
      have HN := Lib.hid hnext
      by_cases he : e2 = 0
      · subst he
        clear hstop herr hnext
        go_wp2_with (go_at_call 81; refine hcall.mono ?_; rintro e w1 ⟨rfl, hi1, hb1⟩; have HI1 := Lib.hid hi1; have HB1 := Lib.hid hb1; clear hi1 hb1 hcall)
        go_roundw
        case measure => simp [intOf]; omega
        case rel => exact ⟨j + 1, m2, p2, by omega, rfl, by go_num, HN.out, HI1.out, HH.out.2.2.trans HB1.out⟩
      · have hs := hstop he
        have hp := herr he
        injection hp with hp1 hp2
        injection hp2 with hp2 _
        subst hp2 hs
        clear hstop herr hnext
        go_wp2_with (go_at_call 81; refine hcall.mono ?_; rintro e w1 ⟨rfl, hi1, hb1⟩; have HI1 := Lib.hid hi1; have HB1 := Lib.hid hb1; clear hi1 hb1 hcall)
        go_ret2
        exact ⟨rfl, HI1.out, HH.out.2.2.trans HB1.out⟩
    · obtain rfl : j = L := by omega
      have hltz : ¬ (j : Int) < (j : Int) := by omega
      have hzz := HZ.out
      rw [HH.out.1] at hzz
      subst hzz
      go_wp2
      go_ret2
      exact ⟨rfl, HH.out.2.1, HH.out.2.2⟩
end Go.Proofs.Ytklccoodfhejbaa
namespace Go.Proofs.Ytklccoodfhejbaa
open Go.Lib

/-! ### texts -/
/-! ### the order of texts -/
/-! ### exponents -/
def bitsTo (n k : Nat) : List Int := ((List.range k).filter fun i => n.testBit i).map fun i : Nat => (i : Int)
theorem bitsTo_succ (n k : Nat) : bitsTo n (k + 1) = bitsTo n k ++ if n.testBit k = true then [(k : Int)] else [] := by
  unfold bitsTo
  rw [List.range_succ, List.filter_append, List.map_append]
  congr 1
  by_cases h : n.testBit k = true <;> simp [h]
theorem bitsTo_len (n k : Nat) : (bitsTo n k).length ≤ k := by
  unfold bitsTo
  rw [List.length_map]
  exact Nat.le_trans (List.length_filter_le _ _) (by simp)
theorem bitsTo_bd (n k : Nat) : ∀ e ∈ bitsTo n k, 0 ≤ e ∧ e < k := by
  intro e he
  unfold bitsTo at he
  obtain ⟨i, hi, rfl⟩ := List.mem_map.1 he
  have := List.mem_range.1 (List.mem_filter.1 hi).1
  omega
def bitsL (n : Int) : List Int := if 0 ≤ n ∧ n ≤ 4611686018427387903 then bitsTo n.toNat 62 else []
theorem bitsL_nat {u : Nat} (h : u ≤ 4611686018427387903) : bitsL (u : Int) = bitsTo u 62 := by unfold bitsL; rw [if_pos (by omega)]; simp
theorem bitsL_len (n : Int) : (bitsL n).length ≤ 62 := by
  unfold bitsL
  split
  · exact bitsTo_len _ _
  · simp
theorem bitsL_bd (n : Int) : ∀ e ∈ bitsL n, 0 ≤ e ∧ e ≤ 61 := by
  intro e he
  unfold bitsL at he
  split at he
  · have := bitsTo_bd _ _ e he; omega
  · simp at he
end Go.Proofs.Ytklccoodfhejbaa
namespace Go.Proofs.Ytklccoodfhejbaa
open Go.RowKit Go.Sort

def I64 (n : Int) : Prop := -9223372036854775808 ≤ n ∧ n ≤ 9223372036854775807

/-- The table of powers of ten, that the library's Itoa looks into. -/
def tabName : String := Rows.leapTellsRow.named.getD 0 default
def Tab (w : World) : Prop := Lib.TabIs Try.prog w tabName .u64 Lib.pow10Tab
theorem Tab.below {w w' : World} (h : Tab w) (hb : Below w.heap.size w w') : Tab w' := Lib.tabBelow_of_tabIs h w' hb

def pickI (c n : Int) : Int := if c < 0 then (-(c + 1)) % n else c % n
theorem pickI_bd (c n : Int) (hn : 1 ≤ n) : 0 ≤ pickI c n ∧ pickI c n < n := by
  unfold pickI
  split
  · exact ⟨Int.emod_nonneg _ (by omega), Int.emod_lt_of_pos _ (by omega)⟩
  · exact ⟨Int.emod_nonneg _ (by omega), Int.emod_lt_of_pos _ (by omega)⟩

theorem counted_yes (n : Int) (w : World) (h0 : 0 ≤ n) (h1 : n ≤ 4611686018427387903) :
    Calls Try.prog 94 #[.int .i64 n] w fun e w' => e = .returned (.bool true) ∧ w = w' := by
  go_enter Try.func94, Try.ntmps94
  go_wp2
  all_goals go_ret
  all_goals exact ⟨by first | rfl | (simp [*]; done), rfl⟩
theorem counted_no (n : Int) (w : World) (h : n < 0 ∨ 4611686018427387903 < n) :
    Calls Try.prog 94 #[.int .i64 n] w fun e w' => e = .returned (.bool false) ∧ w = w' := by
  rcases h with h | h
  · have h' : ¬ 0 ≤ n := by omega
    go_enter Try.func94, Try.ntmps94
    go_wp2
    all_goals go_ret
    all_goals exact ⟨rfl, rfl⟩
  · have h' : 0 ≤ n := by omega
    have h2 : ¬ n ≤ 4611686018427387903 := by omega
    go_enter Try.func94, Try.ntmps94
    go_wp2
    all_goals go_ret
    all_goals exact ⟨by first | rfl | (simp [*]; done), rfl⟩

/-! ### slices of numbers -/

/-- The slice at A of l.length numbers reads as l, below block B. -/
def Rd (w : World) (B : Nat) (A : Option Addr) (l : List Int) : Prop :=
  ∀ j, j < l.length → ∃ b off, A = some ⟨b, off, none⟩ ∧ b < B ∧ w.cell? ⟨b, off + j, none⟩ = some (.int .i64 (l.getD j 0))

theorem Rd.below {w w' : World} {B B' : Nat} {A : Option Addr} {l : List Int} (h : Rd w B A l) (hb : Below B' w w') (hB : B ≤ B') : Rd w' B A l := fun j hj => by
  obtain ⟨b, off, e, hlt, h0⟩ := h j hj
  exact ⟨b, off, e, hlt, (hb.cell (p := ⟨b, off + j, none⟩) (Nat.lt_of_lt_of_le hlt hB)).trans h0⟩
theorem Rd.more {w : World} {B B' : Nat} {A : Option Addr} {l : List Int} (h : Rd w B A l) (hB : B ≤ B') : Rd w B' A l := fun j hj => by
  obtain ⟨b, off, e, hlt, h0⟩ := h j hj
  exact ⟨b, off, e, by omega, h0⟩
theorem Rd.nil (w : World) (B : Nat) (A : Option Addr) : Rd w B A [] := fun j hj => absurd hj (Nat.not_lt_zero j)
theorem Rd.at_ {w : World} {B : Nat} {A : Option Addr} {l : List Int} (h : Rd w B A l) (hn : 0 < l.length) :
    ∃ b off, A = some ⟨b, off, none⟩ ∧ b < B ∧ ∀ j, j < l.length → w.cell? ⟨b, off + j, none⟩ = some (.int .i64 (l.getD j 0)) := by
  obtain ⟨b, off, e, hlt, _⟩ := h 0 hn
  refine ⟨b, off, e, hlt, fun j hj => ?_⟩
  obtain ⟨b', off', e', _, h0⟩ := h j hj
  rw [e] at e'
  injection e' with e'
  injection e' with e1 e2
  subst e1 e2
  exact h0
/-- A slice whose cells read as a list, now. -/
def Now (w : World) (A : Option Addr) (l : List Int) : Prop := Rd w w.heap.size A l
theorem Now.below {w w' : World} {A : Option Addr} {l : List Int} (h : Now w A l) (hb : Below w.heap.size w w') : Now w' A l := (Rd.below h hb (Nat.le_refl _)).more hb.size
theorem now_nil (w : World) (A : Option Addr) : Now w A [] := Rd.nil _ _ _

/-- A slice that the call itself has made. -/
abbrev Own (w : World) (B : Nat) (v : Value) (l : List Int) : Prop := w.ownsRow B 3 1 v l.length (l.map (Value.int .i64))
/-- It reads as its list. -/
def Reads (w : World) (v : Value) (l : List Int) : Prop := ∃ A c, v = .slice A l.length c ∧ l.length ≤ c ∧ Now w A l
theorem Own.reads {w : World} {B : Nat} {v : Value} {l : List Int} (h : Own w B v l) : Reads w v l := by
  rcases h.2 with ⟨rfl, h0⟩ | ⟨g, cap, cur, rfl, hb, hh, hn, hcap, hsz, htake⟩
  · have : l = [] := by simpa using h0
    subst this
    exact ⟨none, 0, rfl, Nat.le_refl _, now_nil _ _⟩
  · refine ⟨some ⟨g, 0, none⟩, cap, rfl, hn, fun j hj => ⟨g, 0, rfl, (World.ownsRow.lt h g rfl).2, ?_⟩⟩
    have := World.ownsRow.cellAt h j (by simpa using hj)
    rw [Nat.zero_add]
    rw [this]
    simp [List.getD_eq_getElem?_getD, List.getElem?_eq_getElem hj]
theorem Reads.below {w w' : World} {v : Value} {l : List Int} (h : Reads w v l) (hb : Below w.heap.size w w') : Reads w' v l := by
  obtain ⟨A, c, e, hc, hR⟩ := h
  exact ⟨A, c, e, hc, hR.below hb⟩

end Go.Proofs.Ytklccoodfhejbaa
namespace Go.Proofs.Ytklccoodfhejbaa
set_option maxRecDepth 100000
open Go.RowKit Go.Sort

def fl (l : List Int) : List Value := l.map (Value.int .i64)
theorem length_fl (l : List Int) : (fl l).length = l.length * 1 := by simp [fl]
theorem fl_append (l m : List Int) : fl (l ++ m) = fl l ++ fl m := List.map_append
theorem fl_at {w : World} {m : List Int} {b off : Nat} (h : ∀ j, j < m.length → w.cell? ⟨b, off + j, none⟩ = some (.int .i64 (m.getD j 0))) : ∀ j u, (fl m)[j]? = some u → w.cell? ((⟨b, off, none⟩ : Addr).add j) = some u := by
  intro j u hj
  have hlt : j < m.length := by
    have := (List.getElem?_eq_some_iff.1 hj).1
    simpa [fl] using this
  have e : u = .int .i64 (m.getD j 0) := by
    simp only [fl, List.getElem?_map, List.getElem?_eq_getElem hlt, Option.map_some, Option.some.injEq] at hj
    rw [← hj, List.getD_eq_getElem?_getD, List.getElem?_eq_getElem hlt, Option.getD_some]
  rw [e]
  rw [Addr.add_lit]
  exact h j hlt
theorem fl_cell1 (m : List Int) : ∀ u ∈ fl m, u.oneCell' = true := by
  intro u hu
  obtain ⟨x, _, rfl⟩ := List.mem_map.1 hu
  rfl

theorem info_int : (Try.prog.info? 3).map (fun i => (i.zero, i.size, i.bytes)) = some (some (.int .i64 0), 1, 8) := by kernel_rfl

theorem append_none {w : World} {B : Nat} {v : Value} {out : List Int} (c : Nat) (ho : Own w B v out) :
    (Builtin.append_ #[32, 32] 32 #[v, .slice none 0 c]).run Try.prog w = .ok v w := by
  obtain ⟨i0, hi, hz0, hz1, hz2⟩ := info_parts info_int
  rcases ho.2 with ⟨rfl, _⟩ | ⟨g, cap, cur, rfl, _, _, hnc, _⟩
  · simp [Builtin.append_, run_underlying Try.underlying32, sizeOf, typeInfo, hi, Builtin.lenOf, Builtin.firstCells]
  · simp [Builtin.append_, run_underlying Try.underlying32, sizeOf, typeInfo, hi, Builtin.lenOf, Builtin.firstCells, storeCells, hnc]

theorem app_any {w : World} {B : Nat} {v : Value} {out m : List Int} {A : Option Addr} (c : Nat) (hB : B ≤ w.heap.size) (ho : Own w B v out) (hm : Now w A m) (hl : out.length + m.length ≤ 1000000) :
    ∃ v' w', (Builtin.append_ #[32, 32] 32 #[v, .slice A m.length c]).run Try.prog w = .ok v' w' ∧ Own w' B v' (out ++ m) ∧ w.grownBy w' v.ownBlock := by
  obtain ⟨i0, hi, hz0, hz1, hz2⟩ := info_parts info_int
  by_cases h0 : m.length = 0
  · have : m = [] := List.eq_nil_of_length_eq_zero h0
    subst this
    cases A with
    | none => exact ⟨v, w, append_none c ho, by rw [List.append_nil]; exact ho, ⟨rfl, rfl, rfl, Nat.le_refl _, fun _ _ _ => rfl⟩⟩
    | some a =>
      obtain ⟨v', w', hr, h2, h3, _⟩ := run_append_own (P := Try.prog) (w := w) B 32 32 3 i0 (.int .i64 0) 1 8 Try.underlying32 hi hz0 hz1 hz2 rfl (by decide) v out.length (fl out) ho a 0 c [] rfl (fun j u h => by simp at h) (fun u h => by cases h) (by unfold maxLen; omega) (by omega) hB
      exact ⟨v', w', hr, by rw [List.append_nil] at h2 ⊢; exact h2, h3⟩
  · obtain ⟨b, off, rfl, _, hcell⟩ := hm.at_ (by omega)
    obtain ⟨v', w', hr, h2, h3, _⟩ := run_append_own (P := Try.prog) (w := w) B 32 32 3 i0 (.int .i64 0) 1 8 Try.underlying32 hi hz0 hz1 hz2 rfl (by decide) v out.length (fl out) ho ⟨b, off, none⟩ m.length c (fl m) (length_fl m) (fl_at hcell) (fl_cell1 m) (by unfold maxLen; omega) (by omega) hB
    refine ⟨v', w', hr, ?_, h3⟩
    show World.ownsRow _ _ _ _ _ _ (fl (out ++ m))
    rw [fl_append, List.length_append]
    exact h2

/-- one number more, that lies in a new block -/
theorem push_any {w : World} {B : Nat} {v : Value} {out : List Int} (x : Int) (hB : B ≤ w.heap.size) (ho : Own w B v out) (hl : out.length ≤ 999999) :
    ∃ v' w', (Builtin.append_ #[32, 32] 32 #[v, .slice (some ⟨w.heap.size, 0, none⟩) 1 1]).run Try.prog (w.alloc (.cells #[.int .i64 x] 3)) = .ok v' w' ∧ Own w' B v' (out ++ [x]) ∧ Below B w w' := by
  have hm : Now (w.alloc (.cells #[.int .i64 x] 3)) (some ⟨w.heap.size, 0, none⟩) [x] := fun j hj => by
    have hj1 : j = 0 := by simp at hj; omega
    subst hj1
    exact ⟨w.heap.size, 0, rfl, by simp, by simp⟩
  have ho' : Own (w.alloc (.cells #[.int .i64 x] 3)) B v out := World.ownsRow.alloc ho _
  obtain ⟨v', w', hr, h1, h2⟩ := app_any (m := [x]) 1 (by simp; omega) ho' hm (by simp; omega)
  exact ⟨v', w', hr, h1, Below.grown ((Below.refl _ _).alloc hB _) h2 (by simp; omega) (fun k e => (World.ownsRow.lt ho' k e).1)⟩

def OutR (l : List Int) (w : World) (e : Ending) (w' : World) : Prop := ∃ v, e = .returned v ∧ Reads w' v l ∧ Below w.heap.size w w'

/-! ### bit k of a number, as the two texts ask for it -/
theorem and_one (m : Nat) : bits .and .i64 (m : Int) 1 = ((m % 2 : Nat) : Int) := by
  have h1 : (BitVec.ofInt IntKind.i64.bits (m : Int) &&& BitVec.ofInt IntKind.i64.bits 1).toNat = m % 2 := by
    rw [BitVec.toNat_and]
    have e1 : (BitVec.ofInt IntKind.i64.bits (m : Int)).toNat = m % 2 ^ 64 := by
      rw [BitVec.toNat_ofInt]
      show ((m : Int) % ((2 ^ 64 : Nat) : Int)).toNat = m % 2 ^ 64
      omega
    have e2 : (BitVec.ofInt IntKind.i64.bits 1).toNat = 1 := by decide
    rw [e1, e2, Nat.and_one_is_mod]
    omega
  show IntKind.i64.wrap _ = _
  rw [h1, IntKind.wrap_i64]
  omega
theorem bit_of (u k : Nat) : ((u : Int) / 2 ^ k) = ((u / 2 ^ k : Nat) : Int) := by simp
theorem bit_yes {u k : Nat} (h : u.testBit k = true) : (bits BinOp.and IntKind.i64 ((u : Int) / 2 ^ k) 1 == 1) = true := by
  rw [Nat.testBit_eq_decide_div_mod_eq] at h
  rw [bit_of, and_one, of_decide_eq_true h]
  rfl
theorem bit_no {u k : Nat} (h : u.testBit k = false) : (bits BinOp.and IntKind.i64 ((u : Int) / 2 ^ k) 1 == 1) = false := by
  rw [Nat.testBit_eq_decide_div_mod_eq] at h
  have := of_decide_eq_false h
  rw [bit_of, and_one, beq_eq_false_iff_ne]
  omega

set_option maxHeartbeats 1000000 in
theorem bits_any (n : Int) (w : World) (hi : I64 n) :
    Calls Try.prog 72 #[.int .i64 n] w (OutR (bitsL n) w) := by
  by_cases h : 0 ≤ n ∧ n ≤ 4611686018427387903
  · obtain ⟨h0, h1⟩ := h
    obtain ⟨u, rfl⟩ : ∃ u : Nat, n = u := ⟨n.toNat, by omega⟩
    have hu : u ≤ 4611686018427387903 := by omega
    rw [bitsL_nat hu]
    go_enter Try.func72, Try.ntmps72
    go_wp2_with fail
    refine (counted_yes _ _ h0 h1).mono ?_
    rintro e w' ⟨rfl, rfl⟩
    clear h0 h1 hi
    go_wp2
    go_loopw [3, 8] (fun v i wr => ∃ k : Nat, k ≤ 62 ∧ i = .int .i64 k ∧ Hid (Own wr w.heap.size v (bitsTo u k)) ∧ Below w.heap.size w wr) (fun _ i _ => 62 - (intOf i).toNat)
    case atStart => exact ⟨0, Nat.zero_le _, rfl, World.ownsRow_nil _ _ _ _, Below.refl _ _⟩
    case round =>
      obtain ⟨k, hk, rfl, HO, hb⟩ := hrel
      by_cases hlt : k < 62
      · by_cases hbit : u.testBit k = true
        · have hs : bitsTo u (k + 1) = bitsTo u k ++ [(k : Int)] := by rw [bitsTo_succ, if_pos hbit]
          have hy := bit_yes hbit
          have hlen := bitsTo_len u k
          obtain ⟨v', w', hrun, hown, hb2⟩ := push_any (k : Int) hb.size HO.out (by omega)
          have HS := Lib.hid hs
          have HO2 := Lib.hid hown
          have HRUN := Lib.hid hrun
          clear hbit hs hown hrun hlen
          go_wp2_with (at_builtin; refine Lib.wpList_append_run _ rfl (.tmp 16) (.tmp 18) 32 32 rfl _ _ rfl rfl _ _ HRUN.out ?_)
          go_roundw
          case measure => simp [intOf]; omega
          case rel => exact ⟨k + 1, by omega, by go_num, (by rw [HS.out]; exact HO2.out), hb.trans hb2⟩
        · have hn : u.testBit k = false := by simpa using hbit
          have hs : bitsTo u (k + 1) = bitsTo u k := by rw [bitsTo_succ, if_neg hbit, List.append_nil]
          have hy := bit_no hn
          have HS := Lib.hid hs
          clear hbit hn hs
          go_wp2
          go_roundw
          case measure => simp [intOf]; omega
          case rel => exact ⟨k + 1, by omega, by go_num, (by rw [HS.out]; exact HO.out), hb⟩
      · obtain rfl : k = 62 := by omega
        go_wp2
        go_ret
        exact ⟨_, rfl, HO.out.reads, hb⟩
  · have e : bitsL n = [] := by unfold bitsL; rw [if_neg h]
    rw [e]
    clear e
    go_enter Try.func72, Try.ntmps72
    go_wp2_with fail
    refine (counted_no n _ (by omega)).mono ?_
    rintro e w' ⟨rfl, rfl⟩
    go_wp2
    go_ret
    exact ⟨_, rfl, ⟨none, 0, rfl, Nat.le_refl _, now_nil _ _⟩, Below.refl _ _⟩

end Go.Proofs.Ytklccoodfhejbaa
namespace Go.Proofs.Ytklccoodfhejbaa
set_option maxRecDepth 100000
set_option linter.unusedVariables false
set_option linter.unusedSimpArgs false
open Go.RowKit Go.Sort

theorem pow_le7 {e f : Nat} (h : e ≤ f) : (2 : Int) ^ e ≤ 2 ^ f := by
  have h1 : (2 : Nat) ^ e ≤ 2 ^ f := Nat.pow_le_pow_right (by decide) h
  have e1 : ∀ k : Nat, ((2 ^ k : Nat) : Int) = 2 ^ k := fun k => by simp
  rw [← e1, ← e1]
  omega
theorem pow_bd7 {e : Nat} (he : e ≤ 60) : (1 : Int) ≤ 2 ^ e ∧ (2 : Int) ^ e ≤ 1152921504606846976 := ⟨pow_pos7 e, pow_le7 he⟩
abbrev cellV (c : Int × Int) : Value := .agg #[.int .i64 c.1, .int .i64 c.2]
/-- a cell in a box -/
structure ClB (w : World) (b : Nat) (c : Int × Int) : Prop where
  row : w.heap[b]? = some (.cells #[.int .i64 c.1, .int .i64 c.2] 48 (0, 0))
section
variable {w w' : World} {b : Nat} {c : Int × Int}
theorem ClB.below (h : ClB w b c) (hb : Below w.heap.size w w') : ClB w' b c := ⟨(hb.block _ (lt_heap6 h.row)).trans h.row⟩
theorem ClB.c0 (h : ClB w b c) : w.cell? ⟨b, 0, none⟩ = some (.int .i64 c.1) := by rw [Lib.cell_of_heap h.row]; rfl
theorem ClB.c1 (h : ClB w b c) : w.cell? ⟨b, 1, none⟩ = some (.int .i64 c.2) := by rw [Lib.cell_of_heap h.row]; rfl
theorem ClB.kp (h : ClB w b c) (hk : Kp w w') : ClB w' b c := ⟨hk _ _ _ _ h.row ⟨.inl (by decide), by decide⟩⟩
theorem clB_new (c : Int × Int) : ClB (w.alloc (.cells #[.int .i64 c.1, .int .i64 c.2] 48)) w.heap.size c := ⟨heap_alloc_new w _⟩
end
/-- a cell is in a square, told from its middle -/
def insideB (e : Nat) (c : Int × Int) : Bool := decide (-(2 ^ e) ≤ c.1 ∧ c.1 < 2 ^ e ∧ -(2 ^ e) ≤ c.2 ∧ c.2 < 2 ^ e)
/-- .. told from its corner -/
def inwardC (e : Nat) (c : Int × Int) : Int × Int := (c.1 + 2 ^ e, c.2 + 2 ^ e)
end Go.Proofs.Ytklccoodfhejbaa
namespace Go.Proofs.Ytklccoodfhejbaa
set_option maxRecDepth 100000
set_option linter.unusedVariables false
set_option linter.unusedSimpArgs false
open Go.RowKit Go.Sort

theorem Ix.below {n0 : Nat} {w w' : World} {g b : Nat} {l : List Nd} {room : Int} (h : Ix n0 w g b l room) (hb : Below w.heap.size w w') : Ix n0 w' g b l room := by
  obtain ⟨v, D, h⟩ := h
  exact ⟨v, D, h.below hb⟩
theorem Ix.hB {n0 : Nat} {w : World} {g b : Nat} {l : List Nd} {room : Int} (h : Ix n0 w g b l room) : n0 ≤ w.heap.size := by
  obtain ⟨v, D, h⟩ := h
  exact h.hB
/-- a cell of a block beside the index is set -/
theorem Ix.setOff {n0 : Nat} {w : World} {g b : Nat} {l : List Nd} {room : Int} (h : Ix n0 w g b l room) (h2 : 2 ≤ l.length) {kb : Nat} {cs : Array Value} {T : TypeId} {fz : Nat × Nat} (hk : w.heap[kb]? = some (.cells cs T fz)) (ho : Off cs T) (j : Nat) (u : Value) : Ix n0 (w.setCell ⟨kb, j, none⟩ u) g b l room := by
  obtain ⟨v, D, h⟩ := h
  have h1 : g ≠ kb := by
    intro e
    have := h.row
    unfold IxRow at this
    rw [e, hk] at this
    injection this with this
    injection this with _ this _
    exact ho.2 this
  have h3 : b ≠ kb := by
    intro e
    obtain ⟨es, c, hm⟩ := map_kind h.map
    rw [e, hk] at hm
    injection hm with hm
    cases hm
  refine ⟨v, D, ⟨?_, World.ownsRow.kept h.own (but_set j u) (.inr fun e => own_off h.own h2 kb e cs T fz hk ho), h.map.setCell h3 _, h.says, h.gB, h.bB, ?_⟩⟩
  · have := h.row
    unfold IxRow at this ⊢
    rw [Below.heap_setCell _ _ _ _ (by show g ≠ kb; exact h1)]
    exact this
  · simp [World.setCell]
    exact h.hB
theorem BelK.setNew {n0 b : Nat} {w wr : World} (h : BelK n0 b w wr) {kb : Nat} (hk : w.heap.size ≤ kb) (hn : n0 ≤ w.heap.size) (j : Nat) (u : Value) : BelK n0 b w (wr.setCell ⟨kb, j, none⟩ u) := by
  refine ⟨h.bel.setCell (by show n0 ≤ kb; omega) _, fun i cs T fz hi h0 => ?_, fun i es c hi hm => ?_⟩
  · rw [Below.heap_setCell _ _ _ _ (by show i ≠ kb; have := lt_heap6 hi; omega)]
    exact h.kp i cs T fz hi h0
  · rw [Below.heap_setCell _ _ _ _ (by show i ≠ kb; have := lt_heap6 hm; omega)]
    exact h.mp i es c hi hm
/-- four kids in a box -/
def KR (w : World) (b : Nat) (k : Kd) : Prop := w.heap[b]? = some (.cells #[.int .i64 k.1, .int .i64 k.2.1, .int .i64 k.2.2.1, .int .i64 k.2.2.2] 33 (0, 0))
theorem KR.set {w : World} {b : Nat} {k : Kd} (h : KR w b k) {j : Nat} (hj : j < 4) (v : Int) : KR (w.setCell ⟨b, j, none⟩ (.int .i64 v)) b (kset k j v) := by
  unfold KR at h ⊢
  rcases (by omega : j = 0 ∨ j = 1 ∨ j = 2 ∨ j = 3) with rfl | rfl | rfl | rfl <;> simp [World.setCell, Array.getElem?_modify, h, kset]
theorem KR.kp {w w' : World} {b : Nat} {k : Kd} (h : KR w b k) (hk : Kp w w') : KR w' b k := hk _ _ _ _ h ⟨.inl (by decide), by decide⟩
theorem KR.c {w : World} {b : Nat} {k : Kd} (h : KR w b k) {j : Nat} (hj : j < 4) : w.cell? ⟨b, j, none⟩ = some (.int .i64 (kd k j)) := by
  rcases (by omega : j = 0 ∨ j = 1 ∨ j = 2 ∨ j = 3) with rfl | rfl | rfl | rfl <;> (rw [Lib.cell_of_heap h]; rfl)
/-- a maker in a box -/
def MR (w : World) (b g : Nat) : Prop := w.heap[b]? = some (.cells #[.pointer (some ⟨g, 0, none⟩)] 123 (0, 0))
theorem MR.kp {w w' : World} {b g : Nat} (h : MR w b g) (hk : Kp w w') : MR w' b g := hk _ _ _ _ h ⟨.inl (by decide), by decide⟩
theorem MR.c {w : World} {b g : Nat} (h : MR w b g) : w.cell? ⟨b, 0, none⟩ = some (.pointer (some ⟨g, 0, none⟩)) := by rw [Lib.cell_of_heap h]; rfl
abbrev makerV (g : Nat) : Value := .agg #[.pointer (some ⟨g, 0, none⟩)]
/-- What is known in the loop over quarters. -/
structure OfAt (room : Int) (Fm : Nat → List Nd → List Nd × Int × Int) (l : List Nd) (n0 : Nat) (w wr : World) (g b j : Nat) (m : List Nd) (q : Kd) : Prop where
  told : fourTo Fm l j = (m, q, 0)
  ix : Ix n0 wr g b m room
  right : Right6 m room
  bel : BelK n0 b w wr
  mkr : MR wr w.heap.size g
  kids : KR wr (w.heap.size + 1) q
set_option maxHeartbeats 8000000 in
theorem of_any (F : Nat) (eg : ∀ args w, (callFunc F args).run Try.prog w = .ok (.enter F args) w) (c1 c2 c3 : Value) (Fm : Nat → List Nd → List Nd × Int × Int) (n0 g b : Nat) (l : List Nd) (room : Int) (w : World) (hix : Ix n0 w g b l room) (hr : Right6 l room)
    (hF : ∀ i l', i < 4 → Right6 l' room → Right6 (Fm i l').1 room)
    (hE : ∀ i, i < 4 → ∀ l' W, Right6 l' room → Ix n0 W g b l' room → BelK n0 b w W → Calls Try.prog F #[.int .i64 (i : Nat), c1, c2, c3] W (IxK (Fm i l') n0 g b room W)) :
    Calls Try.prog 101 #[makerV g, .func (.func F) #[] #[c1, c2, c3]] w (IxK (four room Fm l) n0 g b room w) := by
  have hn0 := hix.hB
  have hal1 := (Below.refl w.heap.size w).alloc (Nat.le_refl _) (.cells #[.pointer (some ⟨g, 0, none⟩)] 123)
  have hs1 : (w.alloc (.cells #[.pointer (some ⟨g, 0, none⟩)] 123)).heap.size = w.heap.size + 1 := by simp
  have hal2 := (Below.refl _ (w.alloc (.cells #[.pointer (some ⟨g, 0, none⟩)] 123))).alloc (Nat.le_refl _) (.cells #[.int .i64 0, .int .i64 0, .int .i64 0, .int .i64 0] 33)
  have hk0 := heap_alloc_new (w.alloc (.cells #[.pointer (some ⟨g, 0, none⟩)] 123)) (.cells #[.int .i64 0, .int .i64 0, .int .i64 0, .int .i64 0] 33)
  rw [hs1] at hk0
  have hall := Qt.more hal1 hal1.size hal2
  have HO0 : Hid (OfAt room Fm l n0 w ((w.alloc (.cells #[.pointer (some ⟨g, 0, none⟩)] 123)).alloc (.cells #[.int .i64 0, .int .i64 0, .int .i64 0, .int .i64 0] 33)) g b 0 l (0, 0, 0, 0)) :=
    ⟨rfl, hix.below hall, hr, .of hall hn0, (hal2.block _ (by rw [hs1]; omega)).trans (heap_alloc_new w _), hk0⟩
  obtain ⟨z, hz⟩ : ∃ z, z = four room Fm l := ⟨_, rfl⟩
  rw [← hz]
  have HZ := Lib.hid hz
  have HF := Lib.hid hF
  have HE := Lib.hid hE
  have HN := Lib.hid hn0
  clear hix hr hal1 hal2 hk0 hall hs1 hz hF hE hn0
  go_enter Try.func101, Try.ntmps101
  go_wp2_with fail
  generalize ((w.alloc (.cells #[.pointer (some ⟨g, 0, none⟩)] 123)).alloc (.cells #[.int .i64 0, .int .i64 0, .int .i64 0, .int .i64 0] 33)) = v0 at *
  go_loopw [9] (fun i wr => ∃ (j : Nat), j ≤ 4 ∧ i = .int .i64 j ∧ Hid (∃ m q, OfAt room Fm l n0 w wr g b j m q)) (fun i _ => 4 - (intOf i).toNat)
  case atStart => exact ⟨0, by omega, rfl, ⟨_, _, HO0.out⟩⟩
  case round =>
    obtain ⟨j, hj, rfl, HH⟩ := hrel
    obtain ⟨m, q, HO⟩ := HH.out
    by_cases hlt : j < 4
    · have hltz : (j : Int) < 4 := by omega
      have hcall := HE.out j hlt m wr HO.right HO.ix HO.bel
      have hFr := HF.out j m hlt HO.right
      have hnext : fourTo Fm l (j + 1) = ((Fm j m).1, kset q j (Fm j m).2.1, (Fm j m).2.2) := by
        show (if (fourTo Fm l j).2.2 = 0 then _ else _) = _
        rw [HO.told]
        rfl
      obtain ⟨⟨m2, p, ee⟩, hp⟩ : ∃ p, p = Fm j m := ⟨_, rfl⟩
      rw [← hp] at hcall hFr hnext
      dsimp only at hFr hnext
      have HNX := Lib.hid hnext
      have HFR := Lib.hid hFr
      have HOh := Lib.hid HO
      have heg := eg
      clear HO HH hp hnext hFr
      go_wp2_with fail
      refine hcall.mono ?_
      rintro e w1 ⟨rfl, hi1, hb1⟩
      dsimp only at hi1
      have hk1 := HOh.out.kids.kp hb1.kp
      have hm1 := HOh.out.mkr.kp hb1.kp
      have hB1 := HOh.out.bel.trans hb1
      have f0 : w1.frozen? ⟨w.heap.size + 1, j, none⟩ = false := Lib.frozen_of_heap hk1 j
      have c0 := hk1.c hlt
      have h2 := HFR.out.two
      have hks := hk1.set hlt p
      have HO1 : Hid (OfAt room Fm l n0 w (w1.setCell ⟨w.heap.size + 1, j, none⟩ (.int .i64 p)) g b (j + 1) m2 (kset q j p) ∨ ¬ ee = 0) := by
        by_cases he : ee = 0
        · refine .inl ⟨by rw [HNX.out, he], hi1.setOff h2 hk1 ⟨.inl (by decide), by decide⟩ j _, HFR.out, hB1.setNew (by omega) HN.out j _, ?_, hks⟩
          unfold MR at hm1 ⊢
          rw [Below.heap_setCell _ _ _ _ (by show w.heap.size ≠ w.heap.size + 1; omega)]
          exact hm1
        · exact .inr he
      have HIX := Lib.hid (hi1.setOff h2 hk1 ⟨.inl (by decide), by decide⟩ j (.int .i64 p))
      have HBX := Lib.hid (hB1.setNew (kb := w.heap.size + 1) (by omega) HN.out j (.int .i64 p))
      clear hcall hi1 hb1 hk1 hm1 hB1 hks h2
      by_cases he : ee = 0
      · subst he
        have hO2 := HO1.out.resolve_right (fun h => h rfl)
        have HO2 := Lib.hid hO2
        clear hO2
        go_wp2_with fail
        go_roundw
        case measure => simp [intOf]; omega
        case rel => exact ⟨j + 1, by omega, by go_num, ⟨_, _, HO2.out⟩⟩
      · have hzz : z = (m2, 0, ee) := by
          rw [HZ.out]
          unfold four
          have hs := fourTo_stop (F := Fm) (l := l) (i := j + 1) (by rw [HNX.out]; exact he) (4 - (j + 1))
          rw [show j + 1 + (4 - (j + 1)) = 4 by omega] at hs
          rw [hs, HNX.out, if_neg he]
        subst hzz
        go_wp2_with fail
        go_ret2
        exact ⟨rfl, HIX.out, HBX.out⟩
    · obtain rfl : j = 4 := by omega
      have hltz : ¬ ((4 : Nat) : Int) < 4 := by decide
      have hzz : z = put6 m room q := by
        rw [HZ.out]
        unfold four
        rw [HO.told]
        rfl
      have hcall := intern_anyK n0 g b m room q wr HO.ix HO.right
      rw [← hzz] at hcall
      unfold kidsV at hcall
      have m0 := HO.mkr.c
      have k0 := HO.kids.c (j := 0) (by decide)
      have k1 := HO.kids.c (j := 1) (by decide)
      have k2 := HO.kids.c (j := 2) (by decide)
      have k3 := HO.kids.c (j := 3) (by decide)
      have HBX := Lib.hid HO.bel
      simp only [kd] at k0 k1 k2 k3
      clear HO HH hzz
      go_wp2_with fail
      refine hcall.mono ?_
      rintro e w1 ⟨rfl, hi1, hb1⟩
      have HI := Lib.hid hi1
      have HB := Lib.hid (HBX.out.trans hb1)
      clear hcall hi1 hb1 m0 k0 k1 k2 k3
      go_wp2_with fail
      go_ret2
      exact ⟨rfl, HI.out, HB.out⟩
end Go.Proofs.Ytklccoodfhejbaa
namespace Go.Proofs.Ytklccoodfhejbaa.Cel

def cmpI (a b : Int) : Int := if a < b then -1 else if b < a then 1 else 0
def orI (a b : Int) : Int := if a = 0 then b else a
/-- how two places stand: by Y first -/
def cmpP (p q : Int × Int) : Int := orI (cmpI p.2 q.2) (cmpI p.1 q.1)
def inB (p : Int × Int) : Bool := decide (-1099511627776 ≤ p.1 ∧ p.1 ≤ 1099511627776 ∧ -1099511627776 ≤ p.2 ∧ p.2 ≤ 1099511627776)
def lessB (p q : Int × Int) : Bool := decide (p.2 < q.2 ∨ p.2 = q.2 ∧ p.1 < q.1)
def pickI (c n : Int) : Int := if c < 0 then (-(c + 1)) % n else c % n

theorem pickI_bd (c n : Int) (hn : 1 ≤ n) : 0 ≤ pickI c n ∧ pickI c n < n := by
  unfold pickI
  split
  · exact ⟨Int.emod_nonneg _ (by omega), Int.emod_lt_of_pos _ (by omega)⟩
  · exact ⟨Int.emod_nonneg _ (by omega), Int.emod_lt_of_pos _ (by omega)⟩

theorem lessB_iff (p q : Int × Int) : lessB p q = true ↔ (p.2 < q.2 ∨ p.2 = q.2 ∧ p.1 < q.1) := by simp [lessB]
theorem cmpP_neg (p q : Int × Int) : cmpP p q < 0 ↔ lessB p q = true := by
  rw [lessB_iff]
  unfold cmpP orI cmpI
  by_cases h1 : p.2 < q.2
  · simp [h1]
  · by_cases h2 : q.2 < p.2
    · simp [h1, h2]; omega
    · have h3 : p.2 = q.2 := by omega
      by_cases h4 : p.1 < q.1
      · simp [h1, h2, h4, h3]
      · by_cases h5 : q.1 < p.1 <;> simp [h1, h2, h4, h5, h3]
theorem lessB_irrefl (p : Int × Int) : lessB p p = false := by simp [lessB]
theorem lessB_trans {p q r : Int × Int} (h1 : lessB p q = true) (h2 : lessB q r = true) : lessB p r = true := by
  rw [lessB_iff] at *; omega
theorem lessB_asymm {p q : Int × Int} (h1 : lessB p q = true) : lessB q p = false := by
  rw [Bool.eq_false_iff]; intro h2; rw [lessB_iff] at *; omega
theorem lessB_total {p q : Int × Int} (h : p ≠ q) (h1 : lessB p q = false) : lessB q p = true := by
  rw [Bool.eq_false_iff, ne_eq, lessB_iff] at h1
  rw [lessB_iff]
  obtain ⟨a, b⟩ := p
  obtain ⟨c, d⟩ := q
  simp only [ne_eq, Prod.mk.injEq, not_and] at h h1 ⊢
  by_cases e : a = c
  · have := h e; omega
  · omega
/-- A list that rises. -/
def Rises (l : List (Int × Int)) : Prop := l.Pairwise fun p q => lessB p q = true

/-- The document's answer puts a cell into a list so. -/
def putL (c : Int × Int) : List (Int × Int) → List (Int × Int)
  | [] => [c]
  | x :: r => if x = c ∨ lessB c x = true then c :: (x :: r).filter (fun y => decide (y ≠ c)) else x :: putL c r

theorem mem_putL (c y : Int × Int) (l : List (Int × Int)) : y ∈ putL c l ↔ y = c ∨ y ∈ l := by
  induction l with
  | nil => simp [putL]
  | cons x r ih =>
    unfold putL
    split
    · simp only [List.mem_cons, List.mem_filter, decide_eq_true_eq]
      constructor
      · rintro (h | ⟨h, _⟩)
        · exact .inl h
        · exact .inr h
      · rintro (h | h)
        · exact .inl h
        · by_cases e : y = c
          · exact .inl e
          · exact .inr ⟨h, e⟩
    · simp only [List.mem_cons, ih]
      constructor
      · rintro (h | h | h)
        · exact .inr (.inl h)
        · exact .inl h
        · exact .inr (.inr h)
      · rintro (h | h | h)
        · exact .inr (.inl h)
        · exact .inl h
        · exact .inr (.inr h)

theorem rises_putL (c : Int × Int) {l : List (Int × Int)} (h : Rises l) : Rises (putL c l) := by
  induction l with
  | nil => exact List.pairwise_singleton _ _
  | cons x r ih =>
    have hx := List.pairwise_cons.1 h
    unfold putL
    split
    · rename_i hc
      refine List.pairwise_cons.2 ⟨fun y hy => ?_, h.filter _⟩
      simp only [List.mem_filter, decide_eq_true_eq] at hy
      rcases List.mem_cons.1 hy.1 with e | hyr
      · subst e
        rcases hc with e | hc
        · exact absurd e hy.2
        · exact hc
      · have h1 := hx.1 y hyr
        rcases hc with e | hc
        · subst e; exact h1
        · exact lessB_trans hc h1
    · rename_i hc
      refine List.pairwise_cons.2 ⟨fun y hy => ?_, ih hx.2⟩
      rw [mem_putL] at hy
      rcases hy with e | hy
      · subst e
        have h1 : x ≠ y := fun e => hc (.inl e)
        refine lessB_total (fun e => h1 e.symm) ?_
        rw [Bool.eq_false_iff]
        exact fun e => hc (.inr e)
      · exact hx.1 y hy

theorem length_putL_le (c : Int × Int) (l : List (Int × Int)) : (putL c l).length ≤ l.length + 1 := by
  induction l with
  | nil => simp [putL]
  | cons x r ih =>
    unfold putL
    split
    · simp only [List.length_cons]
      have := List.length_filter_le (fun y => decide (y ≠ c)) (x :: r)
      simp only [List.length_cons] at this
      omega
    · simp only [List.length_cons]; omega

/-- Two lists that rise and have the same cells are the same. -/
theorem rises_ext {l m : List (Int × Int)} (hl : Rises l) (hm : Rises m) (h : ∀ y, y ∈ l ↔ y ∈ m) : l = m := by
  induction l generalizing m with
  | nil =>
    cases m with
    | nil => rfl
    | cons b m => exact absurd ((h b).2 (List.mem_cons_self ..)) (by simp)
  | cons a l ih =>
    cases m with
    | nil => exact absurd ((h a).1 (List.mem_cons_self ..)) (by simp)
    | cons b m =>
      have ha := List.pairwise_cons.1 hl
      have hb := List.pairwise_cons.1 hm
      have e : a = b := by
        have h1 := (h a).1 (List.mem_cons_self ..)
        have h2 := (h b).2 (List.mem_cons_self ..)
        rcases List.mem_cons.1 h1 with e | h1
        · exact e
        · rcases List.mem_cons.1 h2 with e | h2
          · exact e.symm
          · have := lessB_asymm (hb.1 a h1)
            rw [ha.1 b h2] at this
            cases this
      subst e
      congr 1
      refine ih ha.2 hb.2 fun y => ?_
      have hy := h y
      simp only [List.mem_cons] at hy
      constructor
      · intro hyl
        rcases hy.1 (.inr hyl) with e | h'
        · exact absurd (ha.1 y hyl) (by rw [e, lessB_irrefl]; simp)
        · exact h'
      · intro hym
        rcases hy.2 (.inr hym) with e | h'
        · exact absurd (hb.1 y hym) (by rw [e, lessB_irrefl]; simp)
        · exact h'

/-- The set of a list's cells. -/
def setL (l : List (Int × Int)) : List (Int × Int) := l.foldl (fun s c => putL c s) []

theorem foldl_putL (l s : List (Int × Int)) (hs : Rises s) : Rises (l.foldl (fun s c => putL c s) s) ∧ ∀ y, y ∈ l.foldl (fun s c => putL c s) s ↔ y ∈ l ∨ y ∈ s := by
  induction l generalizing s with
  | nil => simp [hs]
  | cons c l ih =>
    obtain ⟨h1, h2⟩ := ih (putL c s) (rises_putL c hs)
    refine ⟨h1, fun y => ?_⟩
    rw [List.foldl_cons, h2 y, mem_putL, List.mem_cons]
    constructor
    · rintro (h | h | h)
      · exact .inl (.inr h)
      · exact .inl (.inl h)
      · exact .inr h
    · rintro ((h | h) | h)
      · exact .inr (.inl h)
      · exact .inl h
      · exact .inr (.inr h)
theorem rises_setL (l : List (Int × Int)) : Rises (setL l) := (foldl_putL l [] List.Pairwise.nil).1
theorem mem_setL (l : List (Int × Int)) (y : Int × Int) : y ∈ setL l ↔ y ∈ l := by rw [setL, (foldl_putL l [] List.Pairwise.nil).2 y]; simp
theorem length_foldl_putL (l s : List (Int × Int)) : (l.foldl (fun s c => putL c s) s).length ≤ l.length + s.length := by
  induction l generalizing s with
  | nil => simp
  | cons c l ih =>
    have h1 := ih (putL c s)
    have h2 := length_putL_le c s
    simp only [List.foldl_cons, List.length_cons]
    omega
theorem length_setL (l : List (Int × Int)) : (setL l).length ≤ l.length := by
  have := length_foldl_putL l []; simpa [setL] using this
theorem setL_snoc (l : List (Int × Int)) (c : Int × Int) : setL (l ++ [c]) = putL c (setL l) := by simp [setL, List.foldl_append]
/-- A list without a cell. -/
def outL (c : Int × Int) (l : List (Int × Int)) : List (Int × Int) := l.filter fun y => decide (y ≠ c)

/-- one element at a place -/
theorem getD_mem {l : List (Int × Int)} {k : Nat} (h : k < l.length) : l.getD k (0, 0) ∈ l := by
  rw [List.getD_eq_getElem?_getD, List.getElem?_eq_getElem h]; exact List.getElem_mem h
theorem take_snoc {l : List (Int × Int)} {k : Nat} (h : k < l.length) : l.take (k + 1) = l.take k ++ [l.getD k (0, 0)] := by
  rw [List.take_succ_eq_append_getElem h, List.getD_eq_getElem?_getD, List.getElem?_eq_getElem h]; rfl
theorem drop_cons {l : List (Int × Int)} {k : Nat} (h : k < l.length) : l.drop k = l.getD k (0, 0) :: l.drop (k + 1) := by
  rw [List.drop_eq_getElem_cons h, List.getD_eq_getElem?_getD, List.getElem?_eq_getElem h]; rfl

def okAt (l : List (Int × Int)) (k : Nat) : Bool := inB (l.getD k (0, 0)) && (decide (k = 0) || decide (cmpP (l.getD (k - 1) (0, 0)) (l.getD k (0, 0)) < 0))
def rightB (l : List (Int × Int)) : Bool := decide (l.length ≤ 2000) && (List.range l.length).all (okAt l)

theorem rightB_long {l : List (Int × Int)} (h : 2000 < l.length) : rightB l = false := by simp [rightB]; omega
theorem rightB_no {l : List (Int × Int)} {k : Nat} (hk : k < l.length) (h : okAt l k = false) : rightB l = false := by
  rw [Bool.eq_false_iff]
  intro hr
  simp only [rightB, Bool.and_eq_true, List.all_eq_true, List.mem_range] at hr
  rw [hr.2 k hk] at h
  cases h
theorem rightB_yes {l : List (Int × Int)} (h0 : l.length ≤ 2000) (h : ∀ k, k < l.length → okAt l k = true) : rightB l = true := by
  simp only [rightB, Bool.and_eq_true, List.all_eq_true, List.mem_range]
  exact ⟨by simpa using h0, h⟩

theorem rises_of_steps {l : List (Int × Int)} (h : ∀ k, k + 1 < l.length → lessB (l.getD k (0, 0)) (l.getD (k + 1) (0, 0)) = true) : Rises l := by
  induction l with
  | nil => exact List.Pairwise.nil
  | cons a l ih =>
    have hl : Rises l := ih fun k hk => by have := h (k + 1) (by simp only [List.length_cons]; omega); simpa using this
    refine List.pairwise_cons.2 ⟨fun y hy => ?_, hl⟩
    cases l with
    | nil => cases hy
    | cons b l =>
      have hab : lessB a b = true := by have := h 0 (by simp only [List.length_cons]; omega); simpa using this
      rcases List.mem_cons.1 hy with e | hy
      · subst e; exact hab
      · exact lessB_trans hab ((List.pairwise_cons.1 hl).1 y hy)
theorem steps_of_rises {l : List (Int × Int)} (h : Rises l) : ∀ k, k + 1 < l.length → lessB (l.getD k (0, 0)) (l.getD (k + 1) (0, 0)) = true := fun k hk => by
  have := List.pairwise_iff_getElem.1 h k (k + 1) (by omega) hk (by omega)
  rw [List.getD_eq_getElem?_getD, List.getD_eq_getElem?_getD, List.getElem?_eq_getElem (by omega), List.getElem?_eq_getElem hk]
  exact this

/-- A set, in plain words. -/
theorem rightB_iff (l : List (Int × Int)) : rightB l = true ↔ l.length ≤ 2000 ∧ (∀ c ∈ l, inB c = true) ∧ Rises l := by
  constructor
  · intro h
    simp only [rightB, Bool.and_eq_true, List.all_eq_true, List.mem_range, okAt, decide_eq_true_eq, Bool.or_eq_true] at h
    refine ⟨h.1, fun c hc => ?_, rises_of_steps fun k hk => ?_⟩
    · obtain ⟨k, hk, rfl⟩ := List.getElem_of_mem hc
      have := (h.2 k hk).1
      rwa [List.getD_eq_getElem?_getD, List.getElem?_eq_getElem hk] at this
    · rcases (h.2 (k + 1) hk).2 with e | e
      · omega
      · rw [← cmpP_neg]; simpa using e
  · rintro ⟨h0, h1, h2⟩
    refine rightB_yes h0 fun k hk => ?_
    simp only [okAt, Bool.and_eq_true, Bool.or_eq_true, decide_eq_true_eq]
    refine ⟨h1 _ (getD_mem hk), ?_⟩
    rcases Nat.eq_zero_or_pos k with e | e
    · exact .inl e
    · obtain ⟨j, rfl⟩ : ∃ j, k = j + 1 := ⟨k - 1, by omega⟩
      right
      rw [cmpP_neg]
      simpa using steps_of_rises h2 j hk

end Go.Proofs.Ytklccoodfhejbaa.Cel
