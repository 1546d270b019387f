/-
  A slice of items of the call's own: one field of one item is turned.
-/
import Derived.Test.YtildobjgohddoaaDoorUi
namespace Go.Proofs.YtildobjgohddoaaDoor
set_option linter.unusedVariables false
set_option linter.unusedSimpArgs false
open Go.RowKit Go.Sort

theorem flE_set1 (l : List Ite) (k : Nat) (h : k < l.length) (x : Int) : (flE l).set (k * 3 + 1) (.int .i64 x) = flE (l.set k ((l.getD k noE).1, x, (l.getD k noE).2.2)) := by
  induction l generalizing k with
  | nil => exact absurd h (Nat.not_lt_zero k)
  | cons y l ih =>
    have e2 : ∀ (z : Ite) (m : List Ite), flE (z :: m) = .int .u8 z.1.toNat :: .int .i64 z.2.1 :: .int .i64 z.2.2 :: flE m := fun _ _ => rfl
    cases k with
    | zero => simp [e2]
    | succ k =>
      have e1 : (k + 1) * 3 + 1 = k * 3 + 1 + 1 + 1 + 1 := by omega
      rw [e1, e2]
      simp only [List.set_cons_succ, List.getD_cons_succ]
      rw [ih k (by simpa using h), e2]
theorem flE_set2 (l : List Ite) (k : Nat) (h : k < l.length) (x : Int) : (flE l).set (k * 3 + 2) (.int .i64 x) = flE (l.set k ((l.getD k noE).1, (l.getD k noE).2.1, x)) := by
  induction l generalizing k with
  | nil => exact absurd h (Nat.not_lt_zero k)
  | cons y l ih =>
    have e2 : ∀ (z : Ite) (m : List Ite), flE (z :: m) = .int .u8 z.1.toNat :: .int .i64 z.2.1 :: .int .i64 z.2.2 :: flE m := fun _ _ => rfl
    cases k with
    | zero => simp [e2]
    | succ k =>
      have e1 : (k + 1) * 3 + 2 = k * 3 + 2 + 1 + 1 + 1 := by omega
      rw [e1, e2]
      simp only [List.set_cons_succ, List.getD_cons_succ]
      rw [ih k (by simpa using h), e2]

/-- Where an own slice that is not empty lies, and that its cells may be written. -/
theorem ownE_at {w : World} {B : Nat} {v : Value} {l : List Ite} (h : OwnE w B v l) (hn : 0 < l.length) :
    ∃ g c, v = .slice (some ⟨g, 0, none⟩) l.length c ∧ B ≤ g ∧ l.length ≤ c ∧ (∀ j, w.frozen? ⟨g, j, none⟩ = false) ∧
      (∀ j, j < l.length → w.cell? ⟨g, j * 3, none⟩ = some (.int .u8 (l.getD j noE).1.toNat) ∧ w.cell? ⟨g, j * 3 + 1, none⟩ = some (.int .i64 (l.getD j noE).2.1) ∧ w.cell? ⟨g, j * 3 + 2, none⟩ = some (.int .i64 (l.getD j noE).2.2)) ∧
      (∀ k, k < l.length → ∀ x, OwnE (w.setCell ⟨g, k * 3 + 1, none⟩ (.int .i64 x)) B v (l.set k ((l.getD k noE).1, x, (l.getD k noE).2.2))) ∧
      (∀ k, k < l.length → ∀ x, OwnE (w.setCell ⟨g, k * 3 + 2, none⟩ (.int .i64 x)) B v (l.set k ((l.getD k noE).1, (l.getD k noE).2.1, x))) := by
  have hcells := fun g (e : v.ownBlock = some g) => World.ownsRow.cells h e
  rcases h.2 with ⟨_, h0⟩ | ⟨g, cap, cur, hv, hb, hh, hnc, hcap, hsz, htake⟩
  · omega
  · subst hv
    have key : ∀ (i : Nat) (u : Value) (m : List Ite), i < l.length * 3 → m.length = l.length → (flE l).set i u = flE m → OwnE (w.setCell ⟨g, i, none⟩ u) B (.slice (some ⟨g, 0, none⟩) l.length cap) m := by
      intro i u m hi hm he
      refine ⟨length_flE m, .inr ⟨g, cap, cur.setIfInBounds i u, by rw [hm], hb, ?_, by rw [hm]; exact hnc, hcap, by simpa using hsz, ?_⟩⟩
      · simp [World.setCell, Array.getElem?_modify, hh]
      · rw [Array.toList_setIfInBounds, hm, List.take_set, htake, he]
    refine ⟨g, cap, rfl, hb, hnc, fun j => Lib.frozen_of_heap hh j, fun j hj => ?_, fun k hk x => key _ _ _ (by omega) (by simp) (flE_set1 l k hk x), fun k hk x => key _ _ _ (by omega) (by simp) (flE_set2 l k hk x)⟩
    obtain ⟨f0, f1, f2⟩ := flE_get l j hj
    have hc := hcells g rfl
    have e : ∀ i, (⟨g, 0, none⟩ : Addr).add i = ⟨g, i, none⟩ := fun i => by rw [Addr.add_lit, Nat.zero_add]
    exact ⟨by rw [← e]; exact hc _ _ f0, by rw [← e]; exact hc _ _ f1, by rw [← e]; exact hc _ _ f2⟩

theorem ownE_set1 {w : World} {B g n c : Nat} {l : List Ite} (h : OwnE w B (.slice (some ⟨g, 0, none⟩) n c) l) {k : Nat} (hk : k < l.length) (x : Int) :
    OwnE (w.setCell ⟨g, k * 3 + 1, none⟩ (.int .i64 x)) B (.slice (some ⟨g, 0, none⟩) n c) (l.set k ((l.getD k noE).1, x, (l.getD k noE).2.2)) := by
  obtain ⟨g', c', hv, _, _, _, _, h1, _⟩ := ownE_at h (by omega)
  injection hv with e1 e2 e3
  injection e1 with e1
  injection e1 with e1
  subst e1
  exact h1 k hk x
theorem ownE_set2 {w : World} {B g n c : Nat} {l : List Ite} (h : OwnE w B (.slice (some ⟨g, 0, none⟩) n c) l) {k : Nat} (hk : k < l.length) (x : Int) :
    OwnE (w.setCell ⟨g, k * 3 + 2, none⟩ (.int .i64 x)) B (.slice (some ⟨g, 0, none⟩) n c) (l.set k ((l.getD k noE).1, (l.getD k noE).2.1, x)) := by
  obtain ⟨g', c', hv, _, _, _, _, _, h2⟩ := ownE_at h (by omega)
  injection hv with e1 e2 e3
  injection e1 with e1
  injection e1 with e1
  subst e1
  exact h2 k hk x

theorem OwnE.below {w w' : World} {B : Nat} {v : Value} {l : List Ite} (h : OwnE w B v l) (hb : Below w.heap.size w w') : OwnE w' B v l :=
  World.ownsRow.kept h (row := none) ⟨hb.os, hb.tape, hb.output, hb.size, fun k hk _ => hb.block k hk⟩ (by cases v.ownBlock <;> simp)

end Go.Proofs.YtildobjgohddoaaDoor
