/-
  Texts that the claims of this seat share, part 4.
-/
import Derived.Test.YtikgnjcjbjafaaaB03
import Derived.Test.YtikgnjcjbjafaaaB01
set_option linter.unusedVariables false
set_option linter.unusedSimpArgs false
namespace Go.Proofs.Ytikgnjcjbjafaaa
set_option maxRecDepth 100000
set_option linter.unusedVariables false
set_option linter.unusedSimpArgs false
open Go.RowKit Go.Sort
open Go.Maps (Keyed)

abbrev MapAt (w : World) (b n : Nat) (D : DataW Unit) : Prop := w.ownsMap Try.prog 52 (plainElem Try.prog 3) b n D
/-- An index in memory that holds a store's nodes. -/
structure IxAt (n0 : Nat) (w : World) (g b : Nat) (l : List Nd) (room : Int) (v : Value) (D : DataW Unit) : Prop where
  row : IxRow w g v room (.map (some b))
  own : OwnN w n0 v l
  map : MapAt w b l.length D
  says : Says D l
  gB : n0 ≤ g
  bB : n0 ≤ b
  hB : n0 ≤ w.heap.size
section
variable {n0 : Nat} {w w' : World} {g b : Nat} {l : List Nd} {room : Int} {v : Value} {D : DataW Unit}
theorem IxAt.below (h : IxAt n0 w g b l room v D) (hb : Below w.heap.size w w') : IxAt n0 w' g b l room v D :=
  ⟨h.row.below hb (lt_heap6 h.row), h.own.below hb, h.map.kept (row := none) ⟨hb.os, hb.tape, hb.output, hb.size, fun k hk _ => hb.block k hk⟩ (by simp), h.says, h.gB, h.bB, Nat.le_trans h.hB hb.size⟩
theorem IxAt.ne (h : IxAt n0 w g b l room v D) : v.ownBlock ≠ some g := by
  intro e
  obtain ⟨_, _, cs, fz, hc⟩ := ownN_kind h.own g e
  have := h.row
  unfold IxRow at this
  rw [this] at hc
  injection hc with hc
  injection hc with _ hc _
  exact absurd hc (by decide)
theorem map_kind (h : MapAt w b n0 D) : ∃ es c, w.heap[b]? = some (.map es c) := by
  obtain ⟨es, c, hb, _⟩ := h
  exact ⟨es, c, hb⟩
theorem IxAt.nb (h : IxAt n0 w g b l room v D) : v.ownBlock ≠ some b := by
  intro e
  obtain ⟨_, _, cs, fz, hc⟩ := ownN_kind h.own b e
  obtain ⟨es, c, hm⟩ := map_kind h.map
  rw [hm] at hc
  injection hc with hc
  cases hc
theorem IxAt.gb (h : IxAt n0 w g b l room v D) : g ≠ b := by
  intro e
  subst e
  obtain ⟨es, c, hm⟩ := map_kind h.map
  have := h.row
  unfold IxRow at this
  rw [this] at hm
  injection hm with hm
  cases hm
end
theorem IxAt.row_push {n0 : Nat} {w w' : World} {g b : Nat} {l : List Nd} {room : Int} {v : Value} {D : DataW Unit} {o : Obj} (h : IxAt n0 w g b l room v D) (hg : (w.drew.alloc o).grownBy w' v.ownBlock) : IxRow w' g v room (.map (some b)) := by
  have hlt := lt_heap6 h.row
  have h1 : (w.drew.alloc o).heap[g]? = w.heap[g]? := Lib.alloc_old w.drew _ _ hlt
  have hsz : (w.drew.alloc o).heap.size = w.heap.size + 1 := by
    show (w.heap.push _).size = _
    simp
  show w'.heap[g]? = _
  rw [hg.block g (by omega) (fun e => h.ne e.symm), h1]
  exact h.row
/-- a block that is no row of nodes (but for a box of one) and no index -/
def Off (cs : Array Value) (T : TypeId) : Prop := (T ≠ 54 ∨ cs.size ≤ 6) ∧ T ≠ 115
/-- Such blocks are left alone. -/
def Kp (w w' : World) : Prop := ∀ (i : Nat) (cs : Array Value) (T : TypeId) (fz : Nat × Nat), w.heap[i]? = some (.cells cs T fz) → Off cs T → w'.heap[i]? = some (.cells cs T fz)
theorem Kp.refl (w : World) : Kp w w := fun _ _ _ _ h _ => h
theorem Kp.trans {w w' w2 : World} (h : Kp w w') (h2 : Kp w' w2) : Kp w w2 := fun i cs T fz hi h0 => h2 i cs T fz (h i cs T fz hi h0) h0
theorem Kp.below {w w' : World} (hb : Below w.heap.size w w') : Kp w w' := fun i cs T fz hi _ => (hb.block _ (lt_heap6 hi)).trans hi
theorem Kp.grown {w w' : World} {row : Option Nat} (hg : w.grownBy w' row) (hr : ∀ r, row = some r → ∀ cs T fz, w.heap[r]? = some (.cells cs T fz) → ¬ Off cs T) : Kp w w' := fun i cs T fz hi h0 => by
  rw [hg.block i (lt_heap6 hi) (fun e => hr i e.symm cs T fz hi h0)]
  exact hi
theorem Kp.setCell {w : World} {g : Nat} {v : Value} {room : Int} {mv : Value} (hi : IxRow w g v room mv) (j : Nat) (u : Value) : Kp w (w.setCell ⟨g, j, none⟩ u) := fun i cs T fz h0 h1 => by
  rw [Below.heap_setCell _ _ _ _ (by
    show i ≠ g
    intro e
    subst e
    unfold IxRow at hi
    rw [hi] at h0
    injection h0 with h0
    injection h0 with _ h0 _
    exact h1.2 h0.symm)]
  exact h0
theorem own_off {w : World} {n0 : Nat} {v : Value} {l : List Nd} (h : OwnN w n0 v l) (h2 : 2 ≤ l.length) : ∀ r, v.ownBlock = some r → ∀ cs T fz, w.heap[r]? = some (.cells cs T fz) → ¬ Off cs T := fun r e cs T fz hc ho => by
  rcases h.2 with ⟨rfl, h0⟩ | ⟨g, cap, cur, rfl, hb, hh, hn, hcap, hsz, htake⟩
  · cases e
  · have e' : some g = some r := e
    injection e' with e'
    subst e'
    rw [hh] at hc
    injection hc with hc
    injection hc with hc1 hc2 _
    subst hc1 hc2
    rcases ho.1 with h1 | h1
    · exact h1 rfl
    · omega
/-- Below, and what is of other kinds is left alone. -/
structure BelK (n0 : Nat) (w w' : World) : Prop where
  bel : Below n0 w w'
  kp : Kp w w'
theorem BelK.refl (n0 : Nat) (w : World) : BelK n0 w w := ⟨Below.refl _ _, Kp.refl _⟩
theorem BelK.trans {n0 : Nat} {w w' w2 : World} (h : BelK n0 w w') (h2 : BelK n0 w' w2) : BelK n0 w w2 := ⟨h.bel.trans h2.bel, h.kp.trans h2.kp⟩
theorem BelK.of {n0 : Nat} {w w' : World} (hb : Below w.heap.size w w') (h : n0 ≤ w.heap.size) : BelK n0 w w' := ⟨hb.mono h, Kp.below hb⟩
theorem BelK.more {n0 : Nat} {w w' w2 : World} (h : BelK n0 w w') (hb : Below w'.heap.size w' w2) (hn : n0 ≤ w.heap.size) : BelK n0 w w2 := h.trans (.of hb (Nat.le_trans hn h.bel.size))
def Ix (n0 : Nat) (w : World) (g b : Nat) (l : List Nd) (room : Int) : Prop := ∃ v D, IxAt n0 w g b l room v D
/-- What Intern answers. -/
def IxK (p : List Nd × Int × Int) (n0 g b : Nat) (room : Int) (w : World) (e : Ending) (w' : World) : Prop :=
  e = .returned (.tuple #[.int .i64 p.2.1, .int .i64 p.2.2]) ∧ Ix n0 w' g b p.1 room ∧ BelK n0 w w'
def IxR (p : List Nd × Int × Int) (n0 g b : Nat) (room : Int) (w : World) (e : Ending) (w' : World) : Prop :=
  e = .returned (.tuple #[.int .i64 p.2.1, .int .i64 p.2.2]) ∧ Ix n0 w' g b p.1 room ∧ Below n0 w w'
theorem IxK.ixR {p : List Nd × Int × Int} {n0 g b : Nat} {room : Int} {w : World} {e : Ending} {w' : World} (h : IxK p n0 g b room w e w') : IxR p n0 g b room w e w' := ⟨h.1, h.2.1, h.2.2.bel⟩
theorem ownN_val {w : World} {B : Nat} {v : Value} {l : List Nd} (h : OwnN w B v l) (hl : 0 < l.length) : ∃ q cap, v = .slice (some ⟨q, 0, none⟩) l.length cap ∧ l.length ≤ cap := by
  rcases h.2 with ⟨rfl, h0⟩ | ⟨q, cap, cur, rfl, _, _, hn, _⟩
  · omega
  · exact ⟨q, cap, rfl, hn⟩
/-- the kids' and the node's own boxes -/
structure InAt (w wr : World) (k : Kd) (y : Nd) (c : Nat) : Prop where
  kids : wr.heap[w.heap.size]? = some (.cells #[.int .i64 k.1, .int .i64 k.2.1, .int .i64 k.2.2.1, .int .i64 k.2.2.2] 52 (0, 0))
  node : wr.heap[c]? = some (.cells #[.int .i64 y.1, .int .i64 y.2.1.1, .int .i64 y.2.1.2.1, .int .i64 y.2.1.2.2.1, .int .i64 y.2.1.2.2.2, .int .i64 y.2.2] 54 (0, 0))
section
variable {w wr : World} {k : Kd} {y : Nd} {c : Nat}
theorem InAt.k0 (h : InAt w wr k y c) : wr.cell? ⟨w.heap.size, 0, none⟩ = some (.int .i64 k.1) := Lib.cell_of_heap h.kids 0
theorem InAt.k1 (h : InAt w wr k y c) : wr.cell? ⟨w.heap.size, 1, none⟩ = some (.int .i64 k.2.1) := Lib.cell_of_heap h.kids 1
theorem InAt.k2 (h : InAt w wr k y c) : wr.cell? ⟨w.heap.size, 2, none⟩ = some (.int .i64 k.2.2.1) := Lib.cell_of_heap h.kids 2
theorem InAt.k3 (h : InAt w wr k y c) : wr.cell? ⟨w.heap.size, 3, none⟩ = some (.int .i64 k.2.2.2) := Lib.cell_of_heap h.kids 3
theorem InAt.n0 (h : InAt w wr k y c) : wr.cell? ⟨c, 0, none⟩ = some (.int .i64 y.1) := Lib.cell_of_heap h.node 0
theorem InAt.n1 (h : InAt w wr k y c) : wr.cell? ⟨c, 1, none⟩ = some (.int .i64 y.2.1.1) := Lib.cell_of_heap h.node 1
theorem InAt.n2 (h : InAt w wr k y c) : wr.cell? ⟨c, 2, none⟩ = some (.int .i64 y.2.1.2.1) := Lib.cell_of_heap h.node 2
theorem InAt.n3 (h : InAt w wr k y c) : wr.cell? ⟨c, 3, none⟩ = some (.int .i64 y.2.1.2.2.1) := Lib.cell_of_heap h.node 3
theorem InAt.n4 (h : InAt w wr k y c) : wr.cell? ⟨c, 4, none⟩ = some (.int .i64 y.2.1.2.2.2) := Lib.cell_of_heap h.node 4
theorem InAt.n5 (h : InAt w wr k y c) : wr.cell? ⟨c, 5, none⟩ = some (.int .i64 y.2.2) := Lib.cell_of_heap h.node 5
end
theorem InAt.below {w wr w' : World} {k : Kd} {y : Nd} {c : Nat} (h : InAt w wr k y c) (hb : Below wr.heap.size wr w') : InAt w w' k y c :=
  ⟨(hb.block _ (lt_heap6 h.kids)).trans h.kids, (hb.block _ (lt_heap6 h.node)).trans h.node⟩

theorem grown_off {w w' : World} {r i : Nat} {o : Obj} (hg : w.grownBy w' (some r)) (h : w.heap[i]? = some o) (hne : i ≠ r) : w'.heap[i]? = some o := by
  rw [hg.block i (lt_heap6 h) (fun e => hne (by injection e))]
  exact h
/-- What is known when a node was pushed and told in the index's row, but not yet in its map. -/
structure PushAt (n0 : Nat) (w : World) (g b : Nat) (l m : List Nd) (room : Int) (v : Value) (D : DataW Unit) (kb : Nat) (k : Kd) : Prop where
  row : IxRow w g v room (.map (some b))
  own : OwnN w n0 v m
  map : MapAt w b l.length D
  kids : w.heap[kb]? = some (.cells #[.int .i64 k.1, .int .i64 k.2.1, .int .i64 k.2.2.1, .int .i64 k.2.2.2] 52 (0, 0))
  hB : n0 ≤ w.heap.size
theorem PushAt.below {n0 : Nat} {w w' : World} {g b : Nat} {l m : List Nd} {room : Int} {v : Value} {D : DataW Unit} {kb : Nat} {k : Kd} (h : PushAt n0 w g b l m room v D kb k) (hb : Below w.heap.size w w') : PushAt n0 w' g b l m room v D kb k :=
  ⟨h.row.below hb (lt_heap6 h.row), h.own.below hb, h.map.kept (row := none) ⟨hb.os, hb.tape, hb.output, hb.size, fun k hk _ => hb.block k hk⟩ (by simp), (hb.block _ (lt_heap6 h.kids)).trans h.kids, Nat.le_trans h.hB hb.size⟩
section
variable {n0 : Nat} {w : World} {g b : Nat} {l m : List Nd} {room : Int} {v : Value} {D : DataW Unit} {kb : Nat} {k : Kd}
theorem PushAt.k0 (h : PushAt n0 w g b l m room v D kb k) : w.cell? ⟨kb, 0, none⟩ = some (.int .i64 k.1) := Lib.cell_of_heap h.kids 0
theorem PushAt.k1 (h : PushAt n0 w g b l m room v D kb k) : w.cell? ⟨kb, 1, none⟩ = some (.int .i64 k.2.1) := Lib.cell_of_heap h.kids 1
theorem PushAt.k2 (h : PushAt n0 w g b l m room v D kb k) : w.cell? ⟨kb, 2, none⟩ = some (.int .i64 k.2.2.1) := Lib.cell_of_heap h.kids 2
theorem PushAt.k3 (h : PushAt n0 w g b l m room v D kb k) : w.cell? ⟨kb, 3, none⟩ = some (.int .i64 k.2.2.2) := Lib.cell_of_heap h.kids 3
end
theorem pushAt_made {n0 : Nat} {w w3 w4 : World} {g b : Nat} {l : List Nd} {room : Int} {v : Value} {D : DataW Unit} {k : Kd} {o : Obj} {q c n : Nat} {x : Nd} (h : IxAt n0 w3 g b l room v D) (hkids : w3.heap[w.heap.size]? = some (.cells #[.int .i64 k.1, .int .i64 k.2.1, .int .i64 k.2.2.1, .int .i64 k.2.2.2] 52 (0, 0)))
    (h2 : 2 ≤ l.length) (hgw : g ≠ w.heap.size) (hg : (w3.drew.alloc o).grownBy w4 v.ownBlock) (ho : OwnN w4 n0 (.slice (some ⟨q, 0, none⟩) n c) (l ++ [x])) (hbp : Below n0 w3.drew w4) :
    PushAt n0 (w4.setCell ⟨g, 0, none⟩ (.slice (some ⟨q, 0, none⟩) n c)) g b l (l ++ [x]) room (.slice (some ⟨q, 0, none⟩) n c) D w.heap.size k ∧ BelK n0 w3 (w4.setCell ⟨g, 0, none⟩ (.slice (some ⟨q, 0, none⟩) n c)) := by
  have hrow4 := h.row_push hg
  have hsz : (w3.drew.alloc o).heap.size = w3.heap.size + 1 := by
    show (w3.heap.push _).size = _
    simp
  have hkv : v.ownBlock ≠ some w.heap.size := by
    intro e
    obtain ⟨_, _, cs, fz, hc⟩ := ownN_kind h.own _ e
    rw [hkids] at hc
    injection hc with hc
    injection hc with _ hc _
    exact absurd hc (by decide)
  have hne : (Value.slice (some ⟨q, 0, none⟩) n c).ownBlock ≠ some g := by
    intro e
    obtain ⟨_, _, cs, fz, hc⟩ := ownN_kind ho g e
    unfold IxRow at hrow4
    rw [hrow4] at hc
    injection hc with hc
    injection hc with _ hc _
    exact absurd hc (by decide)
  have hk4 : w4.heap[w.heap.size]? = some (.cells #[.int .i64 k.1, .int .i64 k.2.1, .int .i64 k.2.2.1, .int .i64 k.2.2.2] 52 (0, 0)) := by
    rw [hg.block _ (by have := lt_heap6 hkids; omega) (fun e => hkv e.symm)]
    exact (Lib.alloc_old w3.drew _ _ (lt_heap6 hkids)).trans hkids
  have hm4 : MapAt w4 b l.length D := World.ownsMap.kept (World.ownsMap.alloc (World.ownsMap.drew h.map) o) hg (fun e => h.nb e.symm)
  have hown4 : ∀ r, v.ownBlock = some r → ∀ cs T fz, (w3.drew.alloc o).heap[r]? = some (.cells cs T fz) → ¬ Off cs T := fun r e cs T fz hc => by
    obtain ⟨_, _, cs', fz', hc'⟩ := ownN_kind h.own r e
    rw [Lib.alloc_old w3.drew _ _ (lt_heap6 hc')] at hc
    exact own_off h.own h2 r e cs T fz hc
  have hb5 : Below n0 w3 w4 := ⟨hbp.os, hbp.tape, hbp.output, hbp.size, hbp.block⟩
  refine ⟨⟨?_, World.ownsRow.kept ho (but_set 0 _) (.inr hne), hm4.setCell (fun e => h.gb e.symm) _, ?_, ?_⟩, ⟨hb5.setCell h.gB _, ((Kp.below ((⟨rfl, rfl, rfl, Nat.le_refl _, fun k _ => rfl⟩ : Below w3.heap.size w3 w3.drew).alloc (Nat.le_refl _) o)).trans (Kp.grown hg hown4)).trans (Kp.setCell hrow4 0 _)⟩⟩
  · unfold IxRow at hrow4 ⊢
    simp [World.setCell, Array.getElem?_modify, hrow4]
  · simp [World.setCell, Array.getElem?_modify, hgw, hk4]
  · have := h.hB
    have h2 := hb5.size
    simp [World.setCell]
    omega
theorem PushAt.done {n0 : Nat} {w w' : World} {g b : Nat} {l : List Nd} {room : Int} {v : Value} {D : DataW Unit} {kb : Nat} {k : Kd} {lev pop : Int} (h : PushAt n0 w g b l (l ++ [(lev, k, pop)]) room v D kb k) (hs : Says D l) (hk : KeyK k) (h2 : 2 ≤ l.length) (hn : at6 l k = none)
    (hm : MapAt w' b (l.length + 1) (D.put (kl4 k) (.lit (.int .i64 (l.length : Int))))) (hg : w.grownBy w' (some b)) (hgB : n0 ≤ g) (hbB : n0 ≤ b) (hgb : g ≠ b) (hvb : v.ownBlock ≠ some b) :
    Ix n0 w' g b (l ++ [(lev, k, pop)]) room := by
  refine ⟨v, _, ⟨grown_off hg h.row hgb, World.ownsRow.kept h.own hg (.inr hvb), ?_, says_put hs hk h2 hn lev pop, hgB, hbB, Nat.le_trans h.hB hg.size⟩⟩
  rw [List.length_append]
  exact hm
def lookV (o : Option Nat) : Int := match o with | some n => (n : Int) | none => 0
theorem look_run {W : World} {b n : Nat} {D : DataW Unit} {l : List Nd} {k : Kd} (hm : MapAt W b n D) (hs : Says D l) (hk : KeyK k) :
    (Instr.lookup 113 (.map (some b)) (.agg #[.int .i64 k.1, .int .i64 k.2.1, .int .i64 k.2.2.1, .int .i64 k.2.2.2]) true).run Try.prog W = .ok (.tuple #[.int .i64 (lookV (at6 l k)), .bool (at6 l k).isSome]) W := by
  obtain ⟨v, ps, hrun, hv⟩ := hm.look_ok kdKeyed Try.underlying113 (Try.zeroValue3 W) (plainElem_int Try.underlying3 (by decide)) (keyOf_kd hk)
  obtain ⟨a, rfl, hz, _⟩ := plainElem_int_inv Try.underlying3 hv
  have he : D.atKey (kl4 k) zero4 = .lit (.int .i64 a) := congrArg Prod.fst hz
  rw [hrun]
  obtain ⟨s1, s2⟩ := hs.2 k hk
  cases hat : at6 l k with
  | some m =>
    obtain ⟨h1, h2⟩ := s2 m hat
    rw [h2] at he
    rw [h1]
    injection he with he
    injection he with _ he
    subst he
    rfl
  | none =>
    have h1 := s1 hat
    rw [Maps.atKey_of_not_has h1] at he
    rw [h1]
    injection he with he
    injection he with _ he
    subst he
    rfl
theorem over_key {l : List Nd} {k : Kd} (h : over6 l k = true) (hl : l.length ≤ 100000) : KeyK k := fun i hi => by
  have := (over_fit h).kid i hi
  omega

set_option maxHeartbeats 8000000 in
set_option maxRecDepth 100000 in
theorem intern_anyK (n0 g b : Nat) (l : List Nd) (room : Int) (k : Kd) (w : World) (hix : Ix n0 w g b l room) (hr : Right6 l room) :
    Calls Try.prog 99 #[.pointer (some ⟨g, 0, none⟩), kidsV k] w (IxK (put6 l room k) n0 g b room w) := by
  obtain ⟨v, D, hI⟩ := hix
  have h2 := hr.two
  have hlen : l.length ≤ 100000 := by have := hr.len; have := hr.room100; omega
  obtain ⟨q, cap, rfl, hcap⟩ := ownN_val hI.own (by omega)
  obtain ⟨A, c', e, _, hRd⟩ := hI.own.reads
  injection e with e1 e2 e3
  subst e1 e3
  have hb0 : Below w.heap.size w (w.alloc (.cells #[.int .i64 k.1, .int .i64 k.2.1, .int .i64 k.2.2.1, .int .i64 k.2.2.2] 52)) := (Below.refl _ _).alloc (Nat.le_refl _) _
  have hov := over_any g (some ⟨q, 0, none⟩) l cap room (.map (some b)) k (w.alloc (.cells #[.int .i64 k.1, .int .i64 k.2.1, .int .i64 k.2.2.1, .int .i64 k.2.2.2] 52)) (hI.row.below hb0 (lt_heap6 hI.row)) (hRd.below hb0) hlen (right_bd hr)
  have HI := Lib.hid (hI.below hb0)
  have hkids := heap_alloc_new w (.cells #[.int .i64 k.1, .int .i64 k.2.1, .int .i64 k.2.2.1, .int .i64 k.2.2.2] 52)
  have HK := Lib.hid hkids
  have HR := Lib.hid hr
  have HH := Lib.hid hI
  have hp := @put_over_no l room k
  have hy := fun h => @put_over_yes l k h room
  obtain ⟨z, hz⟩ : ∃ z, z = put6 l room k := ⟨_, rfl⟩
  rw [← hz] at hp hy ⊢
  unfold kidsV at hov ⊢
  have HB0 := Lib.hid hb0
  clear hI hr hRd hkids hz hb0
  cases hb : over6 l k with
  | false =>
    have hzz := hp hb
    subst hzz
    unfold OverR at hov
    rw [hb] at hov
    clear hp hy
    go_enter Try.func99, Try.ntmps99
    go_wp2_with (go_at_call 119; refine hov.mono ?_; rintro e w1 ⟨y, rfl, _, hb1⟩; obtain ⟨y0, ⟨y1, y2, y3, y4⟩, y5⟩ := y; unfold nodeV)
    go_ret2
    exact ⟨rfl, ⟨_, _, (HI.out.below hb1).below ((Below.refl _ _).alloc (Nat.le_refl _) _)⟩, ((BelK.of HB0.out HH.out.hB).trans (.of hb1 HI.out.hB)).trans (.of ((Below.refl _ _).alloc (Nat.le_refl _) _) (HI.out.below hb1).hB)⟩
  | true =>
    have hzz := hy hb
    have hkk := over_key hb hlen
    unfold OverR at hov
    rw [hb] at hov
    have HZ := Lib.hid hzz
    clear hp hy hzz
    generalize hlv : (ndAt l k.1).1 + 1 = lv at *
    generalize hpp : popTo l k 4 = pt at *
    have HE : Hid ((ndAt l k.1).1 + 1 = lv ∧ popTo l k 4 = pt) := ⟨hlv, hpp⟩
    clear hlv hpp
    go_enter Try.func99, Try.ntmps99
    go_wp2_with (go_at_call 119; refine hov.mono ?_; rintro e w1 ⟨y, rfl, hye, hb1⟩; obtain rfl := hye rfl; unfold nodeV; clear hov)
    have hba : Below w1.heap.size w1 (w1.alloc (.cells #[.int .i64 lv, .int .i64 k.1, .int .i64 k.2.1, .int .i64 k.2.2.1, .int .i64 k.2.2.2, .int .i64 pt] 54)) := (Below.refl _ _).alloc (Nat.le_refl _) _
    have hnode := heap_alloc_new w1 (.cells #[.int .i64 lv, .int .i64 k.1, .int .i64 k.2.1, .int .i64 k.2.2.1, .int .i64 k.2.2.2, .int .i64 pt] 54)
    have hkid1 := (hb1.block _ (lt_heap6 HK.out)).trans HK.out
    have HIN : Hid (InAt w (w1.alloc (.cells #[.int .i64 lv, .int .i64 k.1, .int .i64 k.2.1, .int .i64 k.2.2.1, .int .i64 k.2.2.2, .int .i64 pt] 54)) k (lv, k, pt) w1.heap.size) := ⟨(hba.block _ (lt_heap6 hkid1)).trans hkid1, hnode⟩
    have HI1 := Lib.hid ((HI.out.below hb1).below hba)
    have HB1 : Hid (BelK n0 w (w1.alloc (.cells #[.int .i64 lv, .int .i64 k.1, .int .i64 k.2.1, .int .i64 k.2.2.1, .int .i64 k.2.2.2, .int .i64 pt] 54)) ∧ w.heap.size < w1.heap.size) := ⟨((BelK.of HB0.out HH.out.hB).trans (.of hb1 HI.out.hB)).trans (.of hba (HI.out.below hb1).hB), lt_heap6 hkid1⟩
    generalize hw2 : (w1.alloc (.cells #[.int .i64 lv, .int .i64 k.1, .int .i64 k.2.1, .int .i64 k.2.2.1, .int .i64 k.2.2.2, .int .i64 pt] 54)) = w2 at *
    generalize hnb : w1.heap.size = nb at *
    clear hw2 hnb hnode hkid1 hba hb1 HI HK HB0
    have q0 := Qt.cell_in HI1.out.row.c2
    have q1 := Qt.cell_in (HIN.out.k0)
    have q2 := Qt.cell_in (HIN.out.k1)
    have q3 := Qt.cell_in (HIN.out.k2)
    have q4 := Qt.cell_in (HIN.out.k3)
    have hlk : ∀ d os, (Instr.lookup 113 (.map (some b)) (.agg #[.int .i64 k.1, .int .i64 k.2.1, .int .i64 k.2.2.1, .int .i64 k.2.2.2]) true).run Try.prog (grow (redrawn w2 d) os) = .ok (.tuple #[.int .i64 (lookV (at6 l k)), .bool (at6 l k).isSome]) (grow (redrawn w2 d) os) := fun d os => look_run (HI1.out.below (below_regrown w2 d os)).map HI1.out.says hkk
    refine Qt.below_all (by kernel_rfl) (by kernel_rfl) ?_
    repeat (go_big_quiet_step (fail))
    refine wpQuiet_nil ?_
    intro w3 hb3
    clear q0 q1 q2 q3 q4 hlk
    have HI3 := Lib.hid (HI1.out.below hb3)
    have HIN3 := Lib.hid (HIN.out.below hb3)
    have HB3 : Hid (BelK n0 w w3 ∧ w.heap.size < nb) := ⟨HB1.out.1.trans (.of hb3 HI1.out.hB), HB1.out.2⟩
    clear HI1 HIN HB1 hb3
    cases hao : at6 l k with
    | some n =>
      rw [hao] at HZ
      simp only at HZ
      have hzz := HZ.out
      subst hzz
      unfold lookV
      simp only [Option.isSome]
      go_wp2
      go_ret2
      exact ⟨rfl, ⟨_, _, HI3.out⟩, HB3.out.1⟩
    | none =>
      rw [hao] at HZ
      simp only at HZ
      have hzz := HZ.out
      unfold lookV
      simp only [Option.isSome]
      have s0 := HI3.out.row.c0
      have s1 := HI3.out.row.c1
      clear HZ
      by_cases hroom : room ≤ (l.length : Int)
      · rw [if_pos hroom] at hzz
        subst hzz
        go_wp2
        go_ret2
        exact ⟨rfl, ⟨_, _, HI3.out⟩, HB3.out.1⟩
      · rw [if_neg hroom] at hzz
        subst hzz
        obtain ⟨v2, w4, rp, op, gp, hbp⟩ := pushN_any (w := w3.drew) (B := n0) (out := l) ((lv, k, pt) : Nd) HI3.out.hB HI3.out.own (by omega)
        have n0' := HIN3.out.n0
        have n1' := HIN3.out.n1
        have n2' := HIN3.out.n2
        have n3' := HIN3.out.n3
        have n4' := HIN3.out.n4
        have n5' := HIN3.out.n5
        have HOP := Lib.hid op
        have HGP := Lib.hid gp
        have HBP := Lib.hid hbp
        have hrow4 := HI3.out.row_push gp
        have rp : (Builtin.append_ #[25, 25] 25 #[.slice (some ⟨q, 0, none⟩) l.length cap, .slice (some ⟨w3.heap.size, 0, none⟩) 1 1]).run Try.prog (w3.alloc (.cells #[.int .i64 lv, .int .i64 k.1, .int .i64 k.2.1, .int .i64 k.2.2.1, .int .i64 k.2.2.2, .int .i64 pt] 54)).drew = .ok v2 w4 := rp
        have s0o : ∀ o, (w3.alloc o).cell? ⟨g, 0, none⟩ = some (.slice (some ⟨q, 0, none⟩) l.length cap) := fun o => (World.cell?_alloc_lt _ _ _ (block_lt_of_cell s0)).trans s0
        have g0 := hrow4.c0
        have f0 := Lib.frozen_of_heap hrow4 0
        have HR4 := Lib.hid hrow4
        have hx1 : (l ++ [((lv, k, pt) : Nd)]).length = l.length + 1 := by simp
        have HX1 := Lib.hid hx1
        obtain ⟨q2, cap2, rfl, hcap2⟩ := ownN_val op (by rw [hx1]; omega)
        rw [hx1] at rp hcap2
        simp only at n0' n1' n2' n3' n4' n5' rp
        clear op gp hbp hx1 hrow4
        go_wp2_with fail
        refine region_tree_to (fun a0 a9 w9 => a9 = ((((((((((((a0.put (some 43) (.pointer (some ⟨g, 0, none⟩))).put (some 44) (.pointer (some ⟨g, 0, none⟩))).put (some 45) (.pointer (some ⟨g, 0, none⟩))).put (some 46) (.pointer (some ⟨g, 0, none⟩))).put (some 47) (.pointer (some ⟨g, 0, none⟩))).put (some 48) (.slice (some ⟨q, 0, none⟩) l.length cap)).put (some 49) (.agg #[.int .i64 lv, .int .i64 k.1, .int .i64 k.2.1, .int .i64 k.2.2.1, .int .i64 k.2.2.2, .int .i64 pt])).put (some 50) (.slice (some ⟨w3.heap.size, 0, none⟩) 1 1)).put (some 51) (.slice (some ⟨q2, 0, none⟩) (l.length + 1) cap2)).put (some 52) (.pointer (some ⟨g, 0, none⟩))).put (some 53) (.pointer (some ⟨g, 0, none⟩))).put (some 54) (.pointer (some ⟨g, 0, none⟩))) ∧ w9 = w4.setCell ⟨g, 0, none⟩ (.slice (some ⟨q2, 0, none⟩) (l.length + 1) cap2)) (.pure 0 (.pure 1 (.pure 2 (.pure 3 (.pure 4 (.two 5 6 (.only 6 (.only 7 (.only 8 (.pure 9 (.pure 10 (.pure 11 (.only 12 .done))))))) (.two 5 7 (.only 7 (.only 8 (.pure 9 (.pure 10 (.pure 11 (.only 12 .done)))))) (.only 5 (.only 8 (.pure 9 (.pure 10 (.pure 11 (.only 12 .done))))))))))))) (by kernel_rfl) (by kernel_rfl) (by kernel_rfl) (by rfl) ?_ ?_
        · skip
          refine ⟨_, some 43, .pointer (some ⟨g, 0, none⟩), rfl, rfl, ⟨rfl, fun _ => by first | rfl | (simp only [execOp]; go_simp)⟩, ?_⟩
          simp only [Act.put, List.setIfInBounds_toArray, List.set_cons_succ, List.set_cons_zero]
          refine ⟨_, some 44, .pointer (some ⟨g, 0, none⟩), rfl, rfl, ⟨rfl, fun _ => by first | rfl | (simp only [execOp]; go_simp)⟩, ?_⟩
          simp only [Act.put, List.setIfInBounds_toArray, List.set_cons_succ, List.set_cons_zero]
          refine ⟨_, some 45, .pointer (some ⟨g, 0, none⟩), rfl, rfl, ⟨rfl, fun _ => by first | rfl | (simp only [execOp]; go_simp)⟩, ?_⟩
          simp only [Act.put, List.setIfInBounds_toArray, List.set_cons_succ, List.set_cons_zero]
          refine ⟨_, some 46, .pointer (some ⟨g, 0, none⟩), rfl, rfl, ⟨rfl, fun _ => by first | rfl | (simp only [execOp]; go_simp)⟩, ?_⟩
          simp only [Act.put, List.setIfInBounds_toArray, List.set_cons_succ, List.set_cons_zero]
          refine ⟨_, some 47, .pointer (some ⟨g, 0, none⟩), rfl, rfl, ⟨rfl, fun _ => by first | rfl | (simp only [execOp]; go_simp)⟩, ?_⟩
          simp only [Act.put, List.setIfInBounds_toArray, List.set_cons_succ, List.set_cons_zero]
          constructor
          · refine ⟨_, rfl, ?_⟩
            go_wp2_with fail
            refine ⟨rfl, ?_⟩
            refine ⟨_, rfl, ?_⟩
            go_wp2_with fail
            refine ⟨rfl, ?_⟩
            refine ⟨_, rfl, ?_⟩
            go_wp2_with fail
            refine ⟨rfl, ?_⟩
            refine ⟨_, rfl, ?_⟩
            refine Lib.wpList_append_run _ rfl (.tmp 48) (.tmp 50) 25 25 rfl _ _ rfl rfl _ _ rp ?_
            refine ⟨rfl, ?_⟩
            refine ⟨_, some 52, .pointer (some ⟨g, 0, none⟩), rfl, rfl, ⟨rfl, fun _ => by first | rfl | (simp only [execOp]; go_simp)⟩, ?_⟩
            simp only [Act.put, List.setIfInBounds_toArray, List.set_cons_succ, List.set_cons_zero]
            refine ⟨_, some 53, .pointer (some ⟨g, 0, none⟩), rfl, rfl, ⟨rfl, fun _ => by first | rfl | (simp only [execOp]; go_simp)⟩, ?_⟩
            simp only [Act.put, List.setIfInBounds_toArray, List.set_cons_succ, List.set_cons_zero]
            refine ⟨_, some 54, .pointer (some ⟨g, 0, none⟩), rfl, rfl, ⟨rfl, fun _ => by first | rfl | (simp only [execOp]; go_simp)⟩, ?_⟩
            simp only [Act.put, List.setIfInBounds_toArray, List.set_cons_succ, List.set_cons_zero]
            refine ⟨_, rfl, ?_⟩
            go_wp2_with fail
            refine ⟨rfl, ?_⟩
            show (_ = _) ∧ (_ = _)
            exact ⟨by first | rfl | simp only [Act.put, List.setIfInBounds_toArray, List.set_cons_succ, List.set_cons_zero], rfl⟩
          · refine ⟨_, rfl, ?_⟩
            go_wp2_with fail
            refine ⟨rfl, ?_⟩
            constructor
            · refine ⟨_, rfl, ?_⟩
              go_wp2_with fail
              refine ⟨rfl, ?_⟩
              refine ⟨_, rfl, ?_⟩
              go_wp2_with fail
              refine ⟨rfl, ?_⟩
              refine ⟨_, rfl, ?_⟩
              refine Lib.wpList_append_run _ rfl (.tmp 48) (.tmp 50) 25 25 rfl _ _ rfl rfl _ _ rp ?_
              refine ⟨rfl, ?_⟩
              refine ⟨_, some 52, .pointer (some ⟨g, 0, none⟩), rfl, rfl, ⟨rfl, fun _ => by first | rfl | (simp only [execOp]; go_simp)⟩, ?_⟩
              simp only [Act.put, List.setIfInBounds_toArray, List.set_cons_succ, List.set_cons_zero]
              refine ⟨_, some 53, .pointer (some ⟨g, 0, none⟩), rfl, rfl, ⟨rfl, fun _ => by first | rfl | (simp only [execOp]; go_simp)⟩, ?_⟩
              simp only [Act.put, List.setIfInBounds_toArray, List.set_cons_succ, List.set_cons_zero]
              refine ⟨_, some 54, .pointer (some ⟨g, 0, none⟩), rfl, rfl, ⟨rfl, fun _ => by first | rfl | (simp only [execOp]; go_simp)⟩, ?_⟩
              simp only [Act.put, List.setIfInBounds_toArray, List.set_cons_succ, List.set_cons_zero]
              refine ⟨_, rfl, ?_⟩
              go_wp2_with fail
              refine ⟨rfl, ?_⟩
              show (_ = _) ∧ (_ = _)
              exact ⟨by first | rfl | simp only [Act.put, List.setIfInBounds_toArray, List.set_cons_succ, List.set_cons_zero], rfl⟩
            · refine ⟨_, rfl, ?_⟩
              go_wp2_with fail
              refine ⟨rfl, ?_⟩
              refine ⟨_, rfl, ?_⟩
              go_wp2_with fail
              refine ⟨rfl, ?_⟩
              refine ⟨_, rfl, ?_⟩
              refine Lib.wpList_append_run _ rfl (.tmp 48) (.tmp 50) 25 25 rfl _ _ rfl rfl _ _ rp ?_
              refine ⟨rfl, ?_⟩
              refine ⟨_, some 52, .pointer (some ⟨g, 0, none⟩), rfl, rfl, ⟨rfl, fun _ => by first | rfl | (simp only [execOp]; go_simp)⟩, ?_⟩
              simp only [Act.put, List.setIfInBounds_toArray, List.set_cons_succ, List.set_cons_zero]
              refine ⟨_, some 53, .pointer (some ⟨g, 0, none⟩), rfl, rfl, ⟨rfl, fun _ => by first | rfl | (simp only [execOp]; go_simp)⟩, ?_⟩
              simp only [Act.put, List.setIfInBounds_toArray, List.set_cons_succ, List.set_cons_zero]
              refine ⟨_, some 54, .pointer (some ⟨g, 0, none⟩), rfl, rfl, ⟨rfl, fun _ => by first | rfl | (simp only [execOp]; go_simp)⟩, ?_⟩
              simp only [Act.put, List.setIfInBounds_toArray, List.set_cons_succ, List.set_cons_zero]
              refine ⟨_, rfl, ?_⟩
              go_wp2_with fail
              refine ⟨rfl, ?_⟩
              show (_ = _) ∧ (_ = _)
              exact ⟨by first | rfl | simp only [Act.put, List.setIfInBounds_toArray, List.set_cons_succ, List.set_cons_zero], rfl⟩
        · rintro a9 w9 ⟨rfl, rfl⟩
          simp only [Act.put, List.setIfInBounds_toArray, List.set_cons_succ, List.set_cons_zero]
          clear rp s0o g0 f0 n0' n1' n2' n3' n4' n5' s0 s1
          have hop := HOP.out
          rw [HX1.out] at hop
          obtain ⟨hpush, hb5⟩ := pushAt_made (w := w) HI3.out HIN3.out.kids h2 (by have := lt_heap6 HH.out.row; omega) HGP.out hop HBP.out
          have HP := Lib.hid hpush
          have hvb : (Value.slice (some ⟨q2, 0, none⟩) (l.length + 1) cap2).ownBlock ≠ some b := by
            intro e
            obtain ⟨_, _, cs, fz, hc⟩ := ownN_kind hpush.own b e
            obtain ⟨es, c, hm⟩ := map_kind hpush.map
            rw [hm] at hc
            injection hc with hc
            cases hc
          have HVB := Lib.hid hvb
          have HB5 : Hid (BelK n0 w (w4.setCell ⟨g, 0, none⟩ (.slice (some ⟨q2, 0, none⟩) (l.length + 1) cap2))) := HB3.out.1.trans hb5
          clear hop hb5 hpush hvb HGP HBP HOP
          generalize w4.setCell ⟨g, 0, none⟩ (.slice (some ⟨q2, 0, none⟩) (l.length + 1) cap2) = w5 at *
          have q0 := Qt.cell_in HP.out.row.c2
          have q1 := Qt.cell_in HP.out.k0
          have q2 := Qt.cell_in HP.out.k1
          have q3 := Qt.cell_in HP.out.k2
          have q4 := Qt.cell_in HP.out.k3
          go_wp2_with fail
          refine Qt.below_tail 6 (by kernel_rfl) (by kernel_rfl) ?_
          simp only [List.take_succ_cons, List.take_zero]
          repeat (go_big_quiet_step (fail))
          refine wpQuiet_nil ?_
          intro w6 hb6
          clear q0 q1 q2 q3 q4
          have HP6 := Lib.hid (HP.out.below hb6)
          have HB6 : Hid (BelK n0 w w6) := HB5.out.trans (.of hb6 HP.out.hB)
          clear HP HB5 hb6
          simp only [List.drop_succ_cons, List.drop_zero]
          have hkey := keyOf_kd hkk
          have hmap := HP6.out.map
          go_wp2_with (at_mapUpdate; refine wpList_mapUpdate_own _ rfl _ _ _ 113 rfl 52 3 kdKeyed Try.underlying113 (plainElem Try.prog 3) b l.length D rfl hmap (by unfold maxLen; omega) _ _ _ rfl rfl hkey (.lit (.int .i64 (l.length : Int))) [] (plainElem_int Try.underlying3 (wf_small ⟨by omega, by omega⟩)) ?_; intro w7 hown7 hgrow7; have HO := Lib.hid hown7; have HG := Lib.hid hgrow7; clear hown7 hgrow7 hmap hkey)
          go_ret2
          exact ⟨rfl, HP6.out.done HI3.out.says hkk h2 hao HO.out HG.out HI3.out.gB HI3.out.bB HI3.out.gb HVB.out, HB6.out.trans ⟨(Below.refl n0 w6).grown HG.out (by have := HP6.out.hB; omega) (fun j e => by injection e with e; have := HI3.out.bB; omega), Kp.grown HG.out (fun r e cs T fz hc => by injection e with e; subst e; obtain ⟨es, c, hm⟩ := map_kind HP6.out.map; rw [hm] at hc; injection hc with hc; cases hc)⟩⟩
theorem intern_any (n0 g b : Nat) (l : List Nd) (room : Int) (k : Kd) (w : World) (hix : Ix n0 w g b l room) (hr : Right6 l room) :
    Calls Try.prog 99 #[.pointer (some ⟨g, 0, none⟩), kidsV k] w (IxR (put6 l room k) n0 g b room w) := (intern_anyK n0 g b l room k w hix hr).mono fun _ _ h => h.ixR
end Go.Proofs.Ytikgnjcjbjafaaa
namespace Go.Proofs.Ytikgnjcjbjafaaa
set_option maxRecDepth 100000
set_option linter.unusedVariables false
set_option linter.unusedSimpArgs false
open Go.RowKit Go.Sort

theorem put_err {l : List Nd} {room : Int} {k : Kd} (h : ¬ (put6 l room k).2.2 = 0) : put6 l room k = (l, 0, (put6 l room k).2.2) := by
  cases ho : over6 l k with
  | false => rw [put_over_no ho]
  | true =>
    rw [put_over_yes ho] at h ⊢
    cases ha : at6 l k with
    | some n => rw [ha] at h; exact absurd rfl h
    | none =>
      rw [ha] at h
      simp only at h ⊢
      by_cases hr : room ≤ (l.length : Int)
      · rw [if_pos hr]
      · rw [if_neg hr] at h; exact absurd rfl h
end Go.Proofs.Ytikgnjcjbjafaaa
