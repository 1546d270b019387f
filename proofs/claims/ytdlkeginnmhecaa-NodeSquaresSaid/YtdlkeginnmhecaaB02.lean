/-
  Texts that the claims of this seat share, part 2.
-/
import Derived.Test.YtdlkeginnmhecaaB01
import Derived.Laws.Rows
set_option linter.unusedVariables false
set_option linter.unusedSimpArgs false
namespace Go.Proofs.Ytdlkeginnmhecaa.Qt
open Go Go.Sort Go.RowKit

inductive Scr where
  | done : Scr
  | pure : Nat → Scr → Scr
  | only : Nat → Scr → Scr
  | two : Nat → Nat → Scr → Scr → Scr
  | three : Nat → Nat → Nat → Scr → Scr → Scr → Scr

def Scr.len : Scr → Nat
  | .done => 0
  | .pure _ s => s.len + 1
  | .only _ s => s.len + 1
  | .two _ _ s _ => s.len + 1
  | .three _ _ _ s _ _ => s.len + 1

section
variable {P : Program} {ops : Array Oper} {md : Region.Mode}

def treeB (md : Region.Mode) (ops : Array Oper) : Scr → Array Bool → Bool
  | .done, listed => (Region.ready md ops listed).isEmpty
  | .pure k s, listed => (Region.ready md ops listed).contains k && Region.free md ops listed k && treeB md ops s (listed.setIfInBounds k true)
  | .only k s, listed => decide (Region.ready md ops listed = [k]) && treeB md ops s (listed.setIfInBounds k true)
  | .two j k s t, listed => decide (Region.ready md ops listed = [j, k]) && decide (s.len = t.len) && treeB md ops s (listed.setIfInBounds j true) && treeB md ops t (listed.setIfInBounds k true)
  | .three i j k r s t, listed => decide (Region.ready md ops listed = [i, j, k]) && decide (r.len = s.len) && decide (r.len = t.len) && treeB md ops r (listed.setIfInBounds i true) && treeB md ops s (listed.setIfInBounds j true) && treeB md ops t (listed.setIfInBounds k true)
def treeW (P : Program) (ops : Array Oper) (Kf : Act → World → Prop) : Scr → Act → World → Prop
  | .done, a, w => Kf a w
  | .pure k s, a, w => ∃ (o : Oper) (d : Option Tmp) (v : Value), ops[k]? = some o ∧ o.dst = d ∧ PureV P ops o v a ∧ treeW P ops Kf s (a.put d v) w
  | .only k s, a, w => ∃ o : Oper, ops[k]? = some o ∧ wpList P ops (Qn (treeW P ops Kf s)) [o] a w
  | .two j k s t, a, w => (∃ o : Oper, ops[j]? = some o ∧ wpList P ops (Qn (treeW P ops Kf s)) [o] a w) ∧ ∃ o : Oper, ops[k]? = some o ∧ wpList P ops (Qn (treeW P ops Kf t)) [o] a w
  | .three i j k r s t, a, w => (∃ o : Oper, ops[i]? = some o ∧ wpList P ops (Qn (treeW P ops Kf r)) [o] a w) ∧ (∃ o : Oper, ops[j]? = some o ∧ wpList P ops (Qn (treeW P ops Kf s)) [o] a w) ∧ ∃ o : Oper, ops[k]? = some o ∧ wpList P ops (Qn (treeW P ops Kf t)) [o] a w

theorem any_tree {Kf : Act → World → Prop} (hsel : Region.noSelect ops = true) (s : Scr) :
    ∀ (listed : Array Bool) (a : Act) (w : World), treeB md ops s listed = true → treeW P ops Kf s a w → wpAny P md ops (Qn Kf) s.len listed a w := by
  induction s with
  | done =>
    intro listed a w hB h
    exact ⟨by simpa [treeB] using hB, rfl, h⟩
  | pure k s ih =>
    intro listed a w hB h
    obtain ⟨o, d, v, ho, hd, hp, hrest⟩ := h
    subst hd
    simp only [treeB, Bool.and_eq_true] at hB
    exact any_first ho (Region.noSelect_spec hsel) _ listed a w (Region.free_spec ho hB.1.2) (by simpa using hB.1.1) hp (ih _ _ _ hB.2 hrest)
  | only k s ih =>
    intro listed a w hB h
    obtain ⟨o, ho, h⟩ := h
    simp only [treeB, Bool.and_eq_true, decide_eq_true_eq] at hB
    refine ⟨fun h1 => (by rw [hB.1] at h1; cases h1), fun i hi => ?_⟩
    rw [hB.1] at hi
    obtain rfl : i = k := by simpa using hi
    have hw : wpOp P ops (Qn (treeW P ops Kf s)) i (wpList P ops (Qn (treeW P ops Kf s)) []) a w := by unfold wpOp; simp only [ho]; exact h
    exact wpOp_qn (fun a' w' h' => ih _ a' w' hB.2 h'.2) hw
  | two j k s t ihs iht =>
    intro listed a w hB h
    obtain ⟨⟨o, ho, h1⟩, ⟨o', ho', h2⟩⟩ := h
    simp only [treeB, Bool.and_eq_true, decide_eq_true_eq] at hB
    obtain ⟨⟨⟨hr, hl⟩, hs⟩, ht⟩ := hB
    refine ⟨fun h1 => (by rw [hr] at h1; cases h1), fun i hi => ?_⟩
    rw [hr] at hi
    simp only [List.mem_cons, List.not_mem_nil, or_false] at hi
    rcases hi with rfl | rfl
    · have hw : wpOp P ops (Qn (treeW P ops Kf s)) i (wpList P ops (Qn (treeW P ops Kf s)) []) a w := by unfold wpOp; simp only [ho]; exact h1
      exact wpOp_qn (fun a' w' h' => ihs _ a' w' hs h'.2) hw
    · have hw : wpOp P ops (Qn (treeW P ops Kf t)) i (wpList P ops (Qn (treeW P ops Kf t)) []) a w := by unfold wpOp; simp only [ho']; exact h2
      refine wpOp_qn (fun a' w' h' => ?_) hw
      have := iht _ a' w' ht h'.2
      rwa [← hl] at this
  | three p j k r s t ihr ihs iht =>
    intro listed a w hB h
    obtain ⟨⟨o0, ho0, h0⟩, ⟨o, ho, h1⟩, ⟨o', ho', h2⟩⟩ := h
    simp only [treeB, Bool.and_eq_true, decide_eq_true_eq] at hB
    obtain ⟨⟨⟨⟨⟨hr, hl⟩, hl2⟩, h3⟩, hs⟩, ht⟩ := hB
    refine ⟨fun h1 => (by rw [hr] at h1; cases h1), fun i hi => ?_⟩
    rw [hr] at hi
    simp only [List.mem_cons, List.not_mem_nil, or_false] at hi
    rcases hi with rfl | rfl | rfl
    · have hw : wpOp P ops (Qn (treeW P ops Kf r)) i (wpList P ops (Qn (treeW P ops Kf r)) []) a w := by unfold wpOp; simp only [ho0]; exact h0
      exact wpOp_qn (fun a' w' h' => ihr _ a' w' h3 h'.2) hw
    · have hw : wpOp P ops (Qn (treeW P ops Kf s)) i (wpList P ops (Qn (treeW P ops Kf s)) []) a w := by unfold wpOp; simp only [ho]; exact h1
      refine wpOp_qn (fun a' w' h' => ?_) hw
      have := ihs _ a' w' hs h'.2
      rwa [← hl] at this
    · have hw : wpOp P ops (Qn (treeW P ops Kf t)) i (wpList P ops (Qn (treeW P ops Kf t)) []) a w := by unfold wpOp; simp only [ho']; exact h2
      refine wpOp_qn (fun a' w' h' => ?_) hw
      have := iht _ a' w' ht h'.2
      rwa [← hl2] at this

theorem region_tree {id : Nat} {Q : Exit → Act → World → Prop} {a : Act} {w : World} {l : List Oper} (s : Scr) (hm : P.follows .mixedOrders = true) (hsel : Region.noSelect l.toArray = true)
    (hB : treeB .any l.toArray s (Array.replicate l.toArray.size false) = true) (hlen : s.len = l.length)
    (h : treeW P l.toArray (fun a w => Q .normal a w) s a w.drew) : (Code.region id l.toArray true).wp P Q a w := by
  refine wp_region_any hm ?_
  have := any_tree (P := P) (md := .any) (Kf := fun a w => Q .normal a w) hsel s _ a w.drew hB h
  rw [hlen] at this
  have e := any_qn (fun a w h => h) _ _ _ _ this
  simpa using e
end
end Go.Proofs.Ytdlkeginnmhecaa.Qt
namespace Go.Proofs.Ytdlkeginnmhecaa
set_option linter.unusedVariables false
set_option linter.unusedSimpArgs false
open Go.RowKit Go.Sort

/-- three results, the first of which lies in a cell -/
theorem results_cell3 {P : Program} {fn : Func} {p u v : Tmp} {ty : TypeId} (h : fn.results = #[.cell p ty, .tmp u, .tmp v]) (tmps : Array Value) (w : World) (g : Nat) (t : TypeId) (cs : Array Value) (fr : Nat × Nat) (d : TypeDesc)
    (hp : tmps.getD p undef = .pointer (some ⟨g, 0, none⟩)) (hg : w.heap[g]? = some (.cells cs t fr))
    (hu : P.underlying ty = some d) (hd : (match d with | .struct _ | .array _ _ => true | _ => false) = true) (hi : (P.info? ty).map (·.size) = some cs.size) :
    (results fn tmps).run P w = .ok (.tuple #[.agg cs, tmps.getD u undef, tmps.getD v undef]) w := by
  have hp' : tmps[p]?.getD undef = .pointer (some ⟨g, 0, none⟩) := by simpa using hp
  simp [results, h, hp', asAddr, run_loadVar_row w g t ty cs fr d hg hu hd hi]
/-- What is known within Put: the store, the kids, what is to be told. -/
structure PutHead (w wr : World) (A : Option Addr) (n c : Nat) (room : Int) (k : Kd) : Prop where
  store : wr.heap[w.heap.size]? = some (.cells #[.slice A n c, .int .i64 room] 25 (0, 0))
  kids : wr.heap[w.heap.size + 1]? = some (.cells #[.int .i64 k.1, .int .i64 k.2.1, .int .i64 k.2.2.1, .int .i64 k.2.2.2] 26 (0, 0))
  res : wr.heap[w.heap.size + 2]? = some (.cells #[.slice none 0 0, .int .i64 0] 25 (0, 0))
  bel : Below w.heap.size w wr
section
variable {w wr w' : World} {A : Option Addr} {n c : Nat} {room : Int} {k : Kd}
theorem PutHead.below (h : PutHead w wr A n c room k) (hb : Below wr.heap.size wr w') : PutHead w w' A n c room k :=
  ⟨(hb.block _ (lt_heap6 h.store)).trans h.store, (hb.block _ (lt_heap6 h.kids)).trans h.kids, (hb.block _ (lt_heap6 h.res)).trans h.res, Qt.more h.bel h.bel.size hb⟩
theorem PutHead.s0 (h : PutHead w wr A n c room k) : wr.cell? ⟨w.heap.size, 0, none⟩ = some (.slice A n c) := by rw [Lib.cell_of_heap h.store]; rfl
theorem PutHead.s1 (h : PutHead w wr A n c room k) : wr.cell? ⟨w.heap.size, 1, none⟩ = some (.int .i64 room) := by rw [Lib.cell_of_heap h.store]; rfl
theorem PutHead.kid (h : PutHead w wr A n c room k) {i : Nat} (hi : i < 4) : wr.cell? ⟨w.heap.size + 1, i, none⟩ = some (.int .i64 (kd k i)) := by
  rw [Lib.cell_of_heap h.kids]
  match i, hi with
  | 0, _ => rfl
  | 1, _ => rfl
  | 2, _ => rfl
  | 3, _ => rfl
theorem PutHead.r0 (h : PutHead w wr A n c room k) : wr.cell? ⟨w.heap.size + 2, 0, none⟩ = some (.slice none 0 0) := by rw [Lib.cell_of_heap h.res]; rfl
theorem PutHead.r1 (h : PutHead w wr A n c room k) : wr.cell? ⟨w.heap.size + 2, 1, none⟩ = some (.int .i64 0) := by rw [Lib.cell_of_heap h.res]; rfl
theorem PutHead.free (h : PutHead w wr A n c room k) (j : Nat) : wr.frozen? ⟨w.heap.size + 2, j, none⟩ = false := Lib.frozen_of_heap h.res j
/-- what was told -/
theorem PutHead.told (h : PutHead w wr A n c room k) (u v : Value) : ((wr.setCell ⟨w.heap.size + 2, 0, none⟩ u).setCell ⟨w.heap.size + 2, 1, none⟩ v).heap[w.heap.size + 2]? = some (.cells #[u, v] 25 (0, 0)) ∧ Below w.heap.size w ((wr.setCell ⟨w.heap.size + 2, 0, none⟩ u).setCell ⟨w.heap.size + 2, 1, none⟩ v) := by
  have hr := h.res
  refine ⟨?_, (h.bel.setCell (by show _ ≤ _ + 2; omega) _).setCell (by show _ ≤ _ + 2; omega) _⟩
  simp [World.setCell, Array.getElem?_modify, hr]
end
theorem putHead_0 (w : World) (A : Option Addr) (n c : Nat) (room : Int) (k : Kd) : PutHead w (((w.alloc (.cells #[.slice A n c, .int .i64 room] 25)).alloc (.cells #[.int .i64 k.1, .int .i64 k.2.1, .int .i64 k.2.2.1, .int .i64 k.2.2.2] 26)).alloc (.cells #[.slice none 0 0, .int .i64 0] 25)) A n c room k := by
  have h1 := atHead_0 w A n c room k
  have hs := lt_heap6 h1.kids
  have hsz : ((w.alloc (.cells #[.slice A n c, .int .i64 room] 25)).alloc (.cells #[.int .i64 k.1, .int .i64 k.2.1, .int .i64 k.2.2.1, .int .i64 k.2.2.2] 26)).heap.size = w.heap.size + 2 := by simp
  refine ⟨(Lib.alloc_old _ _ _ (by omega)).trans h1.store, (Lib.alloc_old _ _ _ (by omega)).trans h1.kids, ?_, h1.bel.alloc (by omega) _⟩
  rw [← hsz]
  exact heap_alloc_new ((w.alloc (.cells #[.slice A n c, .int .i64 room] 25)).alloc (.cells #[.int .i64 k.1, .int .i64 k.2.1, .int .i64 k.2.2.1, .int .i64 k.2.2.2] 26)) _
theorem put_no {l : List Nd} {room : Int} {k : Kd} {i : Nat} (hi : i < 4) (h : kidB l l.length (ndAt l k.1).1 (kd k i) = false) : put6 l room k = (l, 0, 1) := by
  unfold put6
  rw [if_pos]
  rw [Bool.eq_false_iff]
  intro hk
  have := kidsB_iff.1 hk i hi
  rw [h] at this
  cases this
theorem put_yes {l : List Nd} {room : Int} {k : Kd} (h : ∀ i, i < 4 → kidB l l.length (ndAt l k.1).1 (kd k i) = true) :
    (42 < (ndAt l k.1).1 + 1 → put6 l room k = (l, 0, 1)) ∧ (¬ 42 < (ndAt l k.1).1 + 1 → (∀ n, at6 l k = some n → put6 l room k = (l, (n : Int), 0)) ∧ (at6 l k = none → (room ≤ l.length → put6 l room k = (l, 0, 40)) ∧ (¬ room ≤ l.length → put6 l room k = (l ++ [((ndAt l k.1).1 + 1, k, popTo l k 4)], (l.length : Int), 0)))) := by
  have hk := kidsB_iff.2 h
  unfold put6
  rw [if_neg (by rw [hk]; decide)]
  refine ⟨fun h1 => by rw [if_pos h1], fun h1 => ?_⟩
  rw [if_neg h1]
  refine ⟨fun n hn => by rw [hn], fun hn => ?_⟩
  rw [hn]
  exact ⟨fun h2 => by simp only; rw [if_pos h2], fun h2 => by simp only; rw [if_neg h2]⟩
/-- What Put answers. -/
def PutR (p : List Nd × Int × Int) (room : Int) (w : World) (e : Ending) (w' : World) : Prop :=
  ∃ v, e = .returned (.tuple #[.agg #[v, .int .i64 room], .int .i64 p.2.1, .int .i64 p.2.2]) ∧ ReadsN w' v p.1 ∧ Below w.heap.size w w'

end Go.Proofs.Ytdlkeginnmhecaa
namespace Go.Proofs.Ytdlkeginnmhecaa
set_option linter.unusedVariables false
set_option linter.unusedSimpArgs false
open Go.RowKit Go.Sort

theorem but_set {b : Nat} {w : World} (j : Nat) (u : Value) : w.grownBy (w.setCell ⟨b, j, none⟩ u) (some b) := by
  have h := (Below.refl b w).setCell (p := ⟨b, j, none⟩) (Nat.le_refl _) u
  refine ⟨h.os, h.tape, h.output, h.size, fun k hk hne => ?_⟩
  have hkb : k ≠ b := fun e => hne (by rw [e])
  simp [World.setCell, Array.getElem?_modify, Ne.symm hkb]

theorem below_drewN6 (w : World) : Below w.heap.size w w.drew := (Below.refl _ _).drew
theorem ownN_kind {w : World} {B T s : Nat} {v : Value} {n : Nat} {xs : List Value} (h : w.ownsRow B T s v n xs) : ∀ k, v.ownBlock = some k → B ≤ k ∧ k < w.heap.size ∧ ∃ c fz, w.heap[k]? = some (.cells c T fz) := by
  intro k hk
  have hl := World.ownsRow.lt h k hk
  rcases h.2 with ⟨rfl, h0⟩ | ⟨g, cap, cur, rfl, hB, hg, _⟩
  · simp [Value.ownBlock] at hk
  · simp [Value.ownBlock] at hk
    subst hk
    exact ⟨hl.1, hl.2, _, _, hg⟩
/-- What is known once the nodes are copied. -/
structure NewAt (w wr : World) (A : Option Addr) (n c : Nat) (room : Int) (k : Kd) (l : List Nd) (g B : Nat) (v : Value) : Prop where
  head : PutHead w wr A n c room k
  row : wr.heap[g]? = some (.cells #[v, .int .i64 room] 25 (0, 0))
  own : OwnN wr B v l
  lo : w.heap.size + 3 ≤ B
  gB : B ≤ g ∨ w.heap.size + 3 ≤ g
  hB : B ≤ wr.heap.size
theorem PutHead.size {w wr : World} {A : Option Addr} {n c : Nat} {room : Int} {k : Kd} (h : PutHead w wr A n c room k) : w.heap.size + 3 ≤ wr.heap.size := lt_heap6 h.res
theorem NewAt.ne {w wr : World} {A : Option Addr} {n c : Nat} {room : Int} {k : Kd} {l : List Nd} {g B : Nat} {v : Value} (h : NewAt w wr A n c room k l g B v) : v.ownBlock ≠ some g := by
  intro e
  obtain ⟨_, _, cs, fz, hc⟩ := ownN_kind h.own g e
  rw [h.row] at hc
  injection hc with hc
  injection hc with _ hc _
  exact absurd hc (by decide)
def res0 : Obj := .cells #[.slice none 0 0, .int .i64 0] 25
theorem set_row {w : World} {g T : Nat} {a b u v : Value} (h : w.heap[g]? = some (.cells #[a, b] T (0, 0))) : ((w.setCell ⟨g, 0, none⟩ u).setCell ⟨g, 1, none⟩ v).heap[g]? = some (.cells #[u, v] T (0, 0)) := by
  simp [World.setCell, Array.getElem?_modify, h]
/-- the copy is made first -/
theorem newAt_copy {w w1 wa : World} {A : Option Addr} {n c : Nat} {room : Int} {k : Kd} {l : List Nd} {v : Value} (H : PutHead w w1 A n c room k) (ho : OwnN wa w1.heap.size v l) (hg : w1.drew.grownBy wa none) :
    NewAt w (wa.alloc (.cells #[v, .int .i64 room] 25)) A n c room k l wa.heap.size w1.heap.size v := by
  have hb0 : Below w1.heap.size w1 wa := (below_drewN6 w1).grown hg (Nat.le_refl _) (fun k e => by cases e)
  have hb1 := hb0.alloc hb0.size (.cells #[v, .int .i64 room] 25)
  exact ⟨H.below hb1, heap_alloc_new wa _, World.ownsRow.alloc ho _, H.size, .inl hb0.size, hb1.size⟩
/-- the new store's row is made first -/
theorem newAt_row {w w1 wb : World} {A : Option Addr} {n c : Nat} {room : Int} {k : Kd} {l : List Nd} {v : Value} (H : PutHead w w1 A n c room k) (ho : OwnN wb (w1.heap.size + 1) v l) (hg : (w1.drew.alloc (.cells #[.slice none 0 0, .int .i64 0] 25)).grownBy wb none) :
    NewAt w ((wb.setCell ⟨w1.heap.size, 0, none⟩ v).setCell ⟨w1.heap.size, 1, none⟩ (.int .i64 room)) A n c room k l w1.heap.size (w1.heap.size + 1) v := by
  have hsz : (w1.drew.alloc (.cells #[.slice none 0 0, .int .i64 0] 25)).heap.size = w1.heap.size + 1 := by
    show (w1.heap.push _).size = _
    simp
  have hb0 : Below w1.heap.size w1 wb := ((below_drewN6 w1).alloc (Nat.le_refl _) _).grown hg (by omega) (fun k e => by cases e)
  have hrow : wb.heap[w1.heap.size]? = some (.cells #[.slice none 0 0, .int .i64 0] 25 (0, 0)) := by
    rw [hg.block w1.heap.size (by omega) (by simp)]
    exact heap_alloc_new w1.drew _
  have hb2 := (hb0.setCell (p := ⟨w1.heap.size, 0, none⟩) (Nat.le_refl _) v).setCell (p := ⟨w1.heap.size, 1, none⟩) (Nat.le_refl _) (.int .i64 room)
  have hne : v.ownBlock = none ∨ v.ownBlock ≠ some w1.heap.size := by
    cases hv : v.ownBlock with
    | none => exact .inl rfl
    | some q => exact .inr (fun e => by injection e with e; have := (ownN_kind ho q hv).1; omega)
  refine ⟨H.below hb2, set_row hrow, ?_, by have := H.size; omega, .inr H.size, ?_⟩
  · exact World.ownsRow.kept (World.ownsRow.kept ho (but_set 0 _) hne) (but_set 1 _) hne
  · have := lt_heap6 (set_row (u := v) (v := .int .i64 room) hrow)
    omega
/-- one node more, and the row told -/
theorem newAt_push {w wr w' : World} {A : Option Addr} {n c : Nat} {room : Int} {k : Kd} {l : List Nd} {g B : Nat} {v v' : Value} {o : Obj} {x : Nd} (h : NewAt w wr A n c room k l g B v) (ho : OwnN w' B v' (l ++ [x])) (hg : (wr.alloc o).grownBy w' v.ownBlock) :
    NewAt w (w'.setCell ⟨g, 0, none⟩ v') A n c room k (l ++ [x]) g B v' := by
  have hgl := lt_heap6 h.row
  have hsz : (wr.alloc o).heap.size = wr.heap.size + 1 := by simp
  have hbB : Below B wr w' := ((Below.refl B wr).alloc h.hB o).grown hg (by have := h.hB; omega) (fun q e => (ownN_kind h.own q e).1)
  have hrow : w'.heap[g]? = some (.cells #[v, .int .i64 room] 25 (0, 0)) := by
    rw [hg.block g (by omega) (fun e => h.ne e.symm), Lib.alloc_old _ _ _ hgl]
    exact h.row
  have hne : v'.ownBlock ≠ some g := by
    intro e
    obtain ⟨_, _, cs, fz, hc⟩ := ownN_kind ho g e
    rw [hrow] at hc
    injection hc with hc
    injection hc with _ hc _
    exact absurd hc (by decide)
  have hlo := h.lo
  have hg3 : w.heap.size + 3 ≤ g := by rcases h.gB with h1 | h1 <;> omega
  have hkeep : ∀ q, q < w.heap.size + 3 → (w'.setCell ⟨g, 0, none⟩ v').heap[q]? = wr.heap[q]? := by
    intro q hq
    rw [Below.heap_setCell _ _ _ _ (by simp; omega)]
    exact hbB.block q (by omega)
  have hbel : Below w.heap.size w (w'.setCell ⟨g, 0, none⟩ v') := (h.head.bel.trans (hbB.mono (by omega))).setCell (by show _ ≤ g; omega) _
  refine ⟨⟨(hkeep _ (by omega)).trans h.head.store, (hkeep _ (by omega)).trans h.head.kids, (hkeep _ (by omega)).trans h.head.res, hbel⟩, ?_, World.ownsRow.kept ho (but_set 0 _) (.inr hne), h.lo, h.gB, ?_⟩
  · simp [World.setCell, Array.getElem?_modify, hrow]
  · have h1 := hbB.size
    have h2 : (w'.setCell ⟨g, 0, none⟩ v').heap.size = w'.heap.size := by simp [World.setCell]
    have := h.hB
    omega
/-- the row, before the new node is told in it -/
theorem newAt_keep {w wr w' : World} {A : Option Addr} {n c : Nat} {room : Int} {k : Kd} {l : List Nd} {g B : Nat} {v : Value} {o : Obj} (h : NewAt w wr A n c room k l g B v) (hg : (wr.alloc o).grownBy w' v.ownBlock) :
    w'.heap[g]? = some (.cells #[v, .int .i64 room] 25 (0, 0)) := by
  have hgl := lt_heap6 h.row
  have hsz : (wr.alloc o).heap.size = wr.heap.size + 1 := by simp
  rw [hg.block g (by omega) (fun e => h.ne e.symm), Lib.alloc_old _ _ _ hgl]
  exact h.row
/-- A region that draws its order, by a script, to what is known at its end. -/
theorem region_tree_to {P : Program} {id : Nat} {Q : Exit → Act → World → Prop} {a : Act} {w : World} {l : List Oper} (R : Act → Act → World → Prop) (s : Qt.Scr) (hm : P.follows .mixedOrders = true) (hsel : Region.noSelect l.toArray = true)
    (hB : Qt.treeB .any l.toArray s (Array.replicate l.toArray.size false) = true) (hlen : s.len = l.length)
    (h : Qt.treeW P l.toArray (R a) s a w.drew) (hQ : ∀ a' w', R a a' w' → Q .normal a' w') : (Code.region id l.toArray true).wp P Q a w := by
  refine wp_region_any hm ?_
  have := Qt.any_tree (P := P) (md := .any) (Kf := R a) hsel s _ a w.drew hB h
  rw [hlen] at this
  have e := Qt.any_qn hQ _ _ _ _ this
  simpa using e
end Go.Proofs.Ytdlkeginnmhecaa
