/-
  A region that draws its order, by a script that may branch: operations that only move a value come where the script has them; one that stands alone comes when its turn is; of two that may come, either one.
-/
import Derived.Test.YtildobjgohddoaaDoorQr
namespace Go.Proofs.YtildobjgohddoaaDoor.Qt
open Go Go.Sort Go.RowKit

inductive Scr where
  | done : Scr
  | pure : Nat → Scr → Scr
  | only : Nat → Scr → Scr
  | two : Nat → Nat → Scr → Scr → Scr

def Scr.len : Scr → Nat
  | .done => 0
  | .pure _ s => s.len + 1
  | .only _ s => s.len + 1
  | .two _ _ s _ => s.len + 1

section
variable {P : Program} {ops : Array Oper} {md : Region.Mode}

def treeB (md : Region.Mode) (ops : Array Oper) : Scr → Array Bool → Bool
  | .done, listed => (Region.ready md ops listed).isEmpty
  | .pure k s, listed => (Region.ready md ops listed).contains k && Region.free md ops listed k && treeB md ops s (listed.setIfInBounds k true)
  | .only k s, listed => decide (Region.ready md ops listed = [k]) && treeB md ops s (listed.setIfInBounds k true)
  | .two j k s t, listed => decide (Region.ready md ops listed = [j, k]) && decide (s.len = t.len) && treeB md ops s (listed.setIfInBounds j true) && treeB md ops t (listed.setIfInBounds k true)
def treeW (P : Program) (ops : Array Oper) (Kf : Act → World → Prop) : Scr → Act → World → Prop
  | .done, a, w => Kf a w
  | .pure k s, a, w => ∃ (o : Oper) (d : Option Tmp) (v : Value), ops[k]? = some o ∧ o.dst = d ∧ PureV P ops o v a ∧ treeW P ops Kf s (a.put d v) w
  | .only k s, a, w => ∃ o : Oper, ops[k]? = some o ∧ wpList P ops (Qn (treeW P ops Kf s)) [o] a w
  | .two j k s t, a, w => (∃ o : Oper, ops[j]? = some o ∧ wpList P ops (Qn (treeW P ops Kf s)) [o] a w) ∧ ∃ o : Oper, ops[k]? = some o ∧ wpList P ops (Qn (treeW P ops Kf t)) [o] a w

theorem any_tree {Kf : Act → World → Prop} (hsel : Region.noSelect ops = true) (s : Scr) :
    ∀ (listed : Array Bool) (a : Act) (w : World), treeB md ops s listed = true → treeW P ops Kf s a w → wpAny P md ops (Qn Kf) s.len listed a w := by
  induction s with
  | done =>
    intro listed a w hB h
    exact ⟨by simpa [treeB] using hB, rfl, h⟩
  | pure k s ih =>
    intro listed a w hB h
    obtain ⟨o, d, v, ho, hd, hp, hrest⟩ := h
    subst hd
    simp only [treeB, Bool.and_eq_true] at hB
    exact any_first ho (Region.noSelect_spec hsel) _ listed a w (Region.free_spec ho hB.1.2) (by simpa using hB.1.1) hp (ih _ _ _ hB.2 hrest)
  | only k s ih =>
    intro listed a w hB h
    obtain ⟨o, ho, h⟩ := h
    simp only [treeB, Bool.and_eq_true, decide_eq_true_eq] at hB
    refine ⟨fun h1 => (by rw [hB.1] at h1; cases h1), fun i hi => ?_⟩
    rw [hB.1] at hi
    obtain rfl : i = k := by simpa using hi
    have hw : wpOp P ops (Qn (treeW P ops Kf s)) i (wpList P ops (Qn (treeW P ops Kf s)) []) a w := by unfold wpOp; simp only [ho]; exact h
    exact wpOp_qn (fun a' w' h' => ih _ a' w' hB.2 h'.2) hw
  | two j k s t ihs iht =>
    intro listed a w hB h
    obtain ⟨⟨o, ho, h1⟩, ⟨o', ho', h2⟩⟩ := h
    simp only [treeB, Bool.and_eq_true, decide_eq_true_eq] at hB
    obtain ⟨⟨⟨hr, hl⟩, hs⟩, ht⟩ := hB
    refine ⟨fun h1 => (by rw [hr] at h1; cases h1), fun i hi => ?_⟩
    rw [hr] at hi
    simp only [List.mem_cons, List.not_mem_nil, or_false] at hi
    rcases hi with rfl | rfl
    · have hw : wpOp P ops (Qn (treeW P ops Kf s)) i (wpList P ops (Qn (treeW P ops Kf s)) []) a w := by unfold wpOp; simp only [ho]; exact h1
      exact wpOp_qn (fun a' w' h' => ihs _ a' w' hs h'.2) hw
    · have hw : wpOp P ops (Qn (treeW P ops Kf t)) i (wpList P ops (Qn (treeW P ops Kf t)) []) a w := by unfold wpOp; simp only [ho']; exact h2
      refine wpOp_qn (fun a' w' h' => ?_) hw
      have := iht _ a' w' ht h'.2
      rwa [← hl] at this

theorem region_tree {id : Nat} {Q : Exit → Act → World → Prop} {a : Act} {w : World} {l : List Oper} (s : Scr) (hm : P.follows .mixedOrders = true) (hsel : Region.noSelect l.toArray = true)
    (hB : treeB .any l.toArray s (Array.replicate l.toArray.size false) = true) (hlen : s.len = l.length)
    (h : treeW P l.toArray (fun a w => Q .normal a w) s a w.drew) : (Code.region id l.toArray true).wp P Q a w := by
  refine wp_region_any hm ?_
  have := any_tree (P := P) (md := .any) (Kf := fun a w => Q .normal a w) hsel s _ a w.drew hB h
  rw [hlen] at this
  have e := any_qn (fun a w h => h) _ _ _ _ this
  simpa using e
end
end Go.Proofs.YtildobjgohddoaaDoor.Qt
