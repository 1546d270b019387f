/-
  A region that draws its order, by a script: operations that only move a value come up at any time, so they may as well come where the script has them; each other one stands alone when its turn is.
-/
import Derived.Test.YtildobjgohddoaaDoorQo
namespace Go.Proofs.YtildobjgohddoaaDoor.Qt
open Go Go.Sort Go.RowKit

section
variable {P : Program} {ops : Array Oper} {md : Region.Mode}

/-- (true, k): operation k only moves a value; (false, k): operation k is the only one that may come. -/
def scriptB (md : Region.Mode) (ops : Array Oper) : List (Bool × Nat) → Array Bool → Bool
  | [], listed => (Region.ready md ops listed).isEmpty
  | (true, k) :: s, listed => (Region.ready md ops listed).contains k && Region.free md ops listed k && scriptB md ops s (listed.setIfInBounds k true)
  | (false, k) :: s, listed => decide (Region.ready md ops listed = [k]) && scriptB md ops s (listed.setIfInBounds k true)
def scriptW (P : Program) (ops : Array Oper) (Kf : Act → World → Prop) : List (Bool × Nat) → Act → World → Prop
  | [], a, w => Kf a w
  | (true, k) :: s, a, w => ∃ (o : Oper) (d : Option Tmp) (v : Value), ops[k]? = some o ∧ o.dst = d ∧ PureV P ops o v a ∧ scriptW P ops Kf s (a.put d v) w
  | (false, k) :: s, a, w => ∃ o : Oper, ops[k]? = some o ∧ wpList P ops (Qn (scriptW P ops Kf s)) [o] a w

theorem any_script {Kf : Act → World → Prop} (hsel : Region.noSelect ops = true) (s : List (Bool × Nat)) :
    ∀ (listed : Array Bool) (a : Act) (w : World), scriptB md ops s listed = true → scriptW P ops Kf s a w → wpAny P md ops (Qn Kf) s.length listed a w := by
  induction s with
  | nil =>
    intro listed a w hB h
    exact ⟨by simpa [scriptB] using hB, rfl, h⟩
  | cons x s ih =>
    intro listed a w hB h
    obtain ⟨b, k⟩ := x
    cases b with
    | true =>
      obtain ⟨o, d, v, ho, hd, hp, hrest⟩ := h
      subst hd
      simp only [scriptB, Bool.and_eq_true] at hB
      exact any_first ho (Region.noSelect_spec hsel) _ listed a w (Region.free_spec ho hB.1.2) (by simpa using hB.1.1) hp (ih _ _ _ hB.2 hrest)
    | false =>
      obtain ⟨o, ho, h⟩ := h
      simp only [scriptB, Bool.and_eq_true, decide_eq_true_eq] at hB
      refine ⟨fun h1 => (by rw [hB.1] at h1; cases h1), fun i hi => ?_⟩
      rw [hB.1] at hi
      obtain rfl : i = k := by simpa using hi
      have hw : wpOp P ops (Qn (scriptW P ops Kf s)) i (wpList P ops (Qn (scriptW P ops Kf s)) []) a w := by unfold wpOp; simp only [ho]; exact h
      exact wpOp_qn (fun a' w' h' => ih _ a' w' hB.2 h'.2) hw

theorem region_script {id : Nat} {Q : Exit → Act → World → Prop} {a : Act} {w : World} {l : List Oper} (s : List (Bool × Nat)) (hm : P.follows .mixedOrders = true) (hsel : Region.noSelect l.toArray = true)
    (hB : scriptB .any l.toArray s (Array.replicate l.toArray.size false) = true) (hlen : s.length = l.length)
    (h : scriptW P l.toArray (fun a w => Q .normal a w) s a w.drew) : (Code.region id l.toArray true).wp P Q a w := by
  refine wp_region_any hm ?_
  have := any_script (P := P) (md := .any) (Kf := fun a w => Q .normal a w) hsel s _ a w.drew hB h
  rw [hlen] at this
  have e := any_qn (fun a w h => h) _ _ _ _ this
  simpa using e
end
end Go.Proofs.YtildobjgohddoaaDoor.Qt
