/-
  Texts that the claims of this seat share, part 6.
-/
import Derived.Test.YtkneecdpkdnjfaaB05
import Derived.Test.YtkneecdpkdnjfaaB02
import Derived.Test.YtkneecdpkdnjfaaB04
import Derived.Laws.Rows
import Derived.RangeFuncNested
import Derived.RangeFuncBound
import Derived.RangeFuncCalls
import Derived.RangeFuncLeaves
import Derived.Shelf.Abstract
import Derived.Shelf.RegionOpen
import Derived.WalkKit
import Derived.OwnWalkIn
import Derived.TacticsInMore
import Derived.LoopNIn
import Derived.LoopIn
import Derived.Test.YtkneecdpkdnjfaaB03
import Derived.Deep.DeepAppendRoom
import Derived.Laws.MakeOwn
import Derived.RangeFuncBox
import Derived.Test.YtkneecdpkdnjfaaB00
import Derived.Lib.OthersKept
set_option linter.unusedVariables false
set_option linter.unusedSimpArgs false
namespace Go.Proofs.Ytkneecdpkdnjfaa
set_option maxRecDepth 100000
set_option linter.unusedVariables false
set_option linter.unusedSimpArgs false
open Go.RowKit Go.Sort

/-- four numbers lie here -/
def A4At (w : World) (b o : Nat) (y : Ac) : Prop := w.cell? ⟨b, o, none⟩ = some (.int .i64 y.1) ∧ w.cell? ⟨b, o + 1, none⟩ = some (.int .i64 y.2.1) ∧ w.cell? ⟨b, o + 2, none⟩ = some (.int .i64 y.2.2.1) ∧ w.cell? ⟨b, o + 3, none⟩ = some (.int .i64 y.2.2.2)
theorem A4At.below {w w' : World} {b o B : Nat} {y : Ac} (h : A4At w b o y) (hb : Below B w w') (hx : b < B) : A4At w' b o y := by
  obtain ⟨h0, h1, h2, h3⟩ := h
  exact ⟨(hb.cell (p := ⟨b, o, none⟩) hx).trans h0, (hb.cell (p := ⟨b, o + 1, none⟩) hx).trans h1, (hb.cell (p := ⟨b, o + 2, none⟩) hx).trans h2, (hb.cell (p := ⟨b, o + 3, none⟩) hx).trans h3⟩
/-- The slice at A reads as four numbers each. -/
def RdA (w : World) (B : Nat) (A : Option Addr) (l : List Ac) : Prop :=
  ∀ j, j < l.length → ∃ b off, A = some ⟨b, off, none⟩ ∧ b < B ∧ A4At w b (off + j * 4) (l.getD j deadA)
theorem RdA.below {w w' : World} {B B' : Nat} {A : Option Addr} {l : List Ac} (h : RdA w B A l) (hb : Below B' w w') (hB : B ≤ B') : RdA w' B A l := fun j hj => by
  obtain ⟨b, off, e, hlt, h0⟩ := h j hj
  exact ⟨b, off, e, hlt, h0.below hb (Nat.lt_of_lt_of_le hlt hB)⟩
theorem RdA.more {w : World} {B B' : Nat} {A : Option Addr} {l : List Ac} (h : RdA w B A l) (hB : B ≤ B') : RdA w B' A l := fun j hj => by
  obtain ⟨b, off, e, hlt, h0⟩ := h j hj
  exact ⟨b, off, e, by omega, h0⟩
abbrev NowA (w : World) (A : Option Addr) (l : List Ac) : Prop := RdA w w.heap.size A l
theorem RdA.now {w w' : World} {A : Option Addr} {l : List Ac} (h : NowA w A l) (hb : Below w.heap.size w w') : NowA w' A l := (RdA.below h hb (Nat.le_refl _)).more hb.size
/-- what Play answers -/
abbrev PlT := List Int × List Int × Int
def PlAns (d : PlT) (w : World) (r : Ending) (w' : World) : Prop := ∃ A c A2 c2, r = .returned (.tuple #[.slice A d.1.length c, .slice A2 d.2.1.length c2, .int .i64 d.2.2]) ∧ d.1.length ≤ c ∧ Now w' A d.1 ∧ d.2.1.length ≤ c2 ∧ Now w' A2 d.2.1 ∧ Below w.heap.size w w'
theorem drop_get {l : List Ac} {k : Nat} (h : k < l.length) : l.drop k = l.getD k deadA :: l.drop (k + 1) := by
  rw [List.drop_eq_getElem_cons h, List.getD_eq_getElem?_getD, List.getElem?_eq_getElem h]; rfl
theorem playA_bad {m0 : List Int} {y : Ac} {r : List Ac} {m f : List Int} (h : (doA m y).2.2.2 ≠ 0) : playA m0 (y :: r) m f = (m0, [], (doA m y).2.2.2) := by rw [playA_cons, if_neg h]
theorem playA_ok {m0 : List Int} {y : Ac} {r : List Ac} {m f : List Int} (h : (doA m y).2.2.2 = 0) : playA m0 (y :: r) m f = playA m0 r (doA m y).1 (f ++ [(doA m y).2.1]) := by rw [playA_cons, if_pos h]

end Go.Proofs.Ytkneecdpkdnjfaa
namespace Go.Proofs.Ytkneecdpkdnjfaa
set_option maxRecDepth 100000
set_option linter.unusedVariables false
set_option linter.unusedSimpArgs false
open Go.RowKit Go.Sort

theorem makeW (n : Nat) (hn : n ≤ 17592186044416) (u : World) : ∃ u', (Instr.makeSlice 25 (.int .i64 (n : Int)) (.int .i64 (n : Int))).run Try.prog u = .ok (.slice (some ⟨u.heap.size, 0, none⟩) n n) u' ∧
    Own u' u.heap.size (.slice (some ⟨u.heap.size, 0, none⟩) n n) (List.replicate n 0) ∧ u.grownBy u' none := by
  obtain ⟨i0, hi, hz0, hz1, hz2⟩ := info_parts info_int
  obtain ⟨u', h1, h2, h3⟩ := run_make_full (P := Try.prog) u u.heap.size 25 3 i0 _ 1 Try.underlying25 hi hz0 hz1 .i64 .i64 n (by rw [hz2]; omega) (by unfold maxLen; omega) (Nat.le_refl _)
  refine ⟨u', h1, ?_, h3⟩
  have e : (madeCells (Value.int .i64 0).cells (n * 1)).toList = (List.replicate n (0 : Int)).map (Value.int .i64) := by
    rw [Nat.mul_one]
    show (madeCells #[Value.int .i64 0] n).toList = _
    rw [toList_madeCells_one, List.map_replicate]
  rw [e] at h2
  show World.ownsRow _ _ _ _ _ _ _
  rw [List.length_replicate]
  exact h2
theorem found_set {ff : List Int} {n k : Nat} (h : ff.length = k) (hk : k < n) (x : Int) : (ff ++ List.replicate (n - k) 0).set k x = (ff ++ [x]) ++ List.replicate (n - (k + 1)) 0 := by
  obtain ⟨j, rfl⟩ : ∃ j, n = k + 1 + j := ⟨n - k - 1, by omega⟩
  rw [show k + 1 + j - k = j + 1 by omega, show k + 1 + j - (k + 1) = j by omega, List.replicate_succ, List.set_append_right _ _ (by omega), h, Nat.sub_self, List.set_cons_zero, List.append_assoc]
  rfl
end Go.Proofs.Ytkneecdpkdnjfaa
namespace Go.Proofs.Ytkneecdpkdnjfaa.Qt
open Go Go.Sort Go.RowKit

inductive Scc where
  | done : Scc
  | calm : Nat → Scc → Scc
  | only : Nat → Scc → Scc
  | two : Nat → Nat → Scc → Scc → Scc
  | three : Nat → Nat → Nat → Scc → Scc → Scc → Scc
def Scc.len : Scc → Nat
  | .done => 0
  | .calm _ s => s.len + 1
  | .only _ s => s.len + 1
  | .two _ _ s _ => s.len + 1
  | .three _ _ _ s _ _ => s.len + 1

section
variable {P : Program} {ops : Array Oper} {md : Region.Mode} {C : World → Prop}

/-- In every world of the class it leaves the world as it is, and yields v. -/
def CalmV (P : Program) (ops : Array Oper) (C : World → Prop) (o : Oper) (v : Value) (a : Act) : Prop :=
  Region.wanted o (yielded ops a.tmps) = true ∧ ∀ W, C W → Oper.quietUpon P (fun w' => w' = W) W v ((execOp a.eval o).run P W)

theorem CalmV.op {i : Nat} {oi : Oper} {v : Value} {a : Act} (hi : ops[i]? = some oi) (hp : CalmV P ops C oi v a) {K : Act → World → Prop} {Q : Exit → Act → World → Prop} {w : World} (hw : C w) (h : K (a.put oi.dst v) w) : wpOp P ops Q i K a w := by
  unfold wpOp
  simp only [hi, hp.1, if_true]
  left
  refine Oper.wp_of_quiet (C := fun w' => w' = w) (K := fun a' => a' = a.put oi.dst v) rfl (fun a' w' hw' ha' => ?_) ⟨v, fun W hW => ?_, rfl⟩
  · subst hw' ha'
    exact h
  · subst hW
    exact hp.2 W hw

theorem wpOp_keep {j : Nat} {oi oj : Oper} {v : Value} (R : Act → Prop) (hj : ops[j]? = some oj) (hap : oi.apart ops oj = true) (hsi : ∀ cs b, oi.op ≠ .select cs b) (hsj : ∀ cs b, oj.op ≠ .select cs b) {K : Act → World → Prop} {Kf : Act → World → Prop} {a : Act} {w : World}
    (keep : ∀ (a : Act) u, R a → R (a.put oj.dst u)) (hd : ∀ (a : Act) ds, R a → R { a with defers := ds })
    (hp : R a) (h : wpOp P ops (Qn Kf) j K (a.put oi.dst v) w) : wpOp P ops (Qn Kf) j (fun a' w' => R a' ∧ K (a'.put oi.dst v) w') a w := by
  obtain ⟨h1, h2, h3⟩ := Oper.apart_spec hap
  unfold wpOp at *
  simp only [hj] at *
  rw [wanted_put oj a oi.dst v h1] at h
  split
  · rename_i hw
    simp only [hw, if_true] at h
    rcases h with h | h
    · left
      unfold Oper.wp at *
      rw [execOp_put oj hsj a oi.dst v h1] at h
      exact upon_put (R := R) (fun a u => Act.put_comm a v u h2) keep hd hp _ h
    · exact (no_letsOut h.2).elim
  · rename_i hw
    simp only [hw] at h
    exact ⟨keep _ _ hp, by rw [← Act.put_comm a v undef h2]; exact h⟩

/-- whatever order is picked; each world is one of the class -/
def wpAnyC (P : Program) (md : Region.Mode) (ops : Array Oper) (C : World → Prop) (Kf : Act → World → Prop) : Nat → Array Bool → Act → World → Prop
  | 0, listed, a, w => Region.ready md ops listed = [] ∧ Kf a w
  | f + 1, listed, a, w => Region.ready md ops listed ≠ [] ∧ ∀ i ∈ Region.ready md ops listed, wpOp P ops (Qn fun _ _ => False) i (fun a' w' => C w' ∧ wpAnyC P md ops C Kf f (listed.setIfInBounds i true) a' w') a w

theorem any_of_C {Kf : Act → World → Prop} (f : Nat) : ∀ listed a w, wpAnyC P md ops C Kf f listed a w → wpAny P md ops (Qn Kf) f listed a w := by
  induction f with
  | zero => intro listed a w h; exact ⟨h.1, rfl, h.2⟩
  | succ f ih => intro listed a w h; exact ⟨fun h0 => absurd h0 h.1, fun i hi => wpOp_qn (fun a' w' h' => ih _ a' w' h'.2) (h.2 i hi)⟩

theorem calm_first {Kf : Act → World → Prop} {i : Nat} {oi : Oper} {v : Value} (hi : ops[i]? = some oi) (hsel : ∀ (j : Nat) (o : Oper) cs b, ops[j]? = some o → o.op ≠ .select cs b) (f : Nat) :
    ∀ (listed : Array Bool) (a : Act) (w : World), C w →
      (∀ j oj, ops[j]? = some oj → j ≠ i → listed.getD j true = false → (∀ e ∈ oj.after, Region.binds md e = true → e.on ≠ i) → oi.apart ops oj = true) →
      i ∈ Region.ready md ops listed → CalmV P ops C oi v a →
      wpAnyC P md ops C Kf f (listed.setIfInBounds i true) (a.put oi.dst v) w → wpAnyC P md ops C Kf (f + 1) listed a w := by
  induction f with
  | zero =>
    intro listed a w hC _ hr hp H
    refine ⟨fun h => (by rw [h] at hr; cases hr), fun j hj => ?_⟩
    by_cases hji : j = i
    · subst hji; exact hp.op hi hC ⟨hC, H⟩
    · have := ready_mono hj hji
      rw [H.1] at this
      cases this
  | succ f ih =>
    intro listed a w hC hfree hr hp H
    refine ⟨fun h => (by rw [h] at hr; cases hr), fun j hj => ?_⟩
    by_cases hji : j = i
    · subst hji; exact hp.op hi hC ⟨hC, H⟩
    · obtain ⟨hjun, oj, hoj, hall⟩ := mem_ready.1 hj
      have hun := (mem_ready.1 hr).1
      have hnot : ∀ e ∈ oj.after, Region.binds md e = true → e.on ≠ i := fun e he hb heq => by
        have h1 := hall e he hb
        rw [heq, getD_both hun] at h1
        cases h1
      have hap := hfree j oj hoj hji hjun hnot
      obtain ⟨h1, h2, h3⟩ := Oper.apart_spec hap
      have keep : ∀ (a : Act) u, CalmV P ops C oi v a → CalmV P ops C oi v (a.put oj.dst u) := fun a u hp => by
        unfold CalmV at *
        rw [execOp_put oi (fun cs b => hsel i oi cs b hi) a oj.dst u h3, wanted_put oi a oj.dst u h3]
        exact hp
      refine wpOp_mono (fun a' w' h3 => ⟨h3.2.1, ih (listed.setIfInBounds j true) a' w' h3.2.1 (fun k ok hk hki hku hno => hfree k ok hk hki ?_ hno) (ready_mono hr (Ne.symm hji)) h3.1 ?_⟩)
        (wpOp_keep (CalmV P ops C oi v) hoj hap (fun cs b => hsel i oi cs b hi) (fun cs b => hsel j oj cs b hoj) keep (fun _ _ h => h) hp (H.2 j (ready_mono hj hji)))
      · by_cases hjk : j = k
        · subst hjk; exact hjun
        · rwa [getD_set_ne true hjk] at hku
      · rw [Array.setIfInBounds_comm _ _ hji]; exact h3.2.2

def treeCB (md : Region.Mode) (ops : Array Oper) : Scc → Array Bool → Bool
  | .done, listed => (Region.ready md ops listed).isEmpty
  | .calm k s, listed => (Region.ready md ops listed).contains k && Region.free md ops listed k && treeCB md ops s (listed.setIfInBounds k true)
  | .only k s, listed => decide (Region.ready md ops listed = [k]) && treeCB md ops s (listed.setIfInBounds k true)
  | .two j k s t, listed => decide (Region.ready md ops listed = [j, k]) && decide (s.len = t.len) && treeCB md ops s (listed.setIfInBounds j true) && treeCB md ops t (listed.setIfInBounds k true)
  | .three i j k r s t, listed => decide (Region.ready md ops listed = [i, j, k]) && decide (r.len = s.len) && decide (r.len = t.len) && treeCB md ops r (listed.setIfInBounds i true) && treeCB md ops s (listed.setIfInBounds j true) && treeCB md ops t (listed.setIfInBounds k true)
def treeCW (P : Program) (ops : Array Oper) (C : World → Prop) (Kf : Act → World → Prop) : Scc → Act → World → Prop
  | .done, a, w => Kf a w
  | .calm k s, a, w => ∃ (o : Oper) (d : Option Tmp) (v : Value), ops[k]? = some o ∧ o.dst = d ∧ CalmV P ops C o v a ∧ treeCW P ops C Kf s (a.put d v) w
  | .only k s, a, w => ∃ o : Oper, ops[k]? = some o ∧ wpList P ops (Qn fun a w => C w ∧ treeCW P ops C Kf s a w) [o] a w
  | .two j k s t, a, w => (∃ o : Oper, ops[j]? = some o ∧ wpList P ops (Qn fun a w => C w ∧ treeCW P ops C Kf s a w) [o] a w) ∧ ∃ o : Oper, ops[k]? = some o ∧ wpList P ops (Qn fun a w => C w ∧ treeCW P ops C Kf t a w) [o] a w
  | .three i j k r s t, a, w => (∃ o : Oper, ops[i]? = some o ∧ wpList P ops (Qn fun a w => C w ∧ treeCW P ops C Kf r a w) [o] a w) ∧ (∃ o : Oper, ops[j]? = some o ∧ wpList P ops (Qn fun a w => C w ∧ treeCW P ops C Kf s a w) [o] a w) ∧ ∃ o : Oper, ops[k]? = some o ∧ wpList P ops (Qn fun a w => C w ∧ treeCW P ops C Kf t a w) [o] a w

theorem op_of_list {Kf : Act → World → Prop} {k : Nat} {o : Oper} {s : Scc} {listed : Array Bool} {a : Act} {w : World} {n : Nat} (ho : ops[k]? = some o) (h : wpList P ops (Qn fun a w => C w ∧ treeCW P ops C Kf s a w) [o] a w)
    (ih : ∀ a' w', C w' → treeCW P ops C Kf s a' w' → wpAnyC P md ops C Kf n (listed.setIfInBounds k true) a' w') :
    wpOp P ops (Qn fun _ _ => False) k (fun a' w' => C w' ∧ wpAnyC P md ops C Kf n (listed.setIfInBounds k true) a' w') a w := by
  have hw : wpOp P ops (Qn fun a w => C w ∧ treeCW P ops C Kf s a w) k (wpList P ops (Qn fun a w => C w ∧ treeCW P ops C Kf s a w) []) a w := by unfold wpOp; simp only [ho]; exact h
  exact wpOp_qn (fun a' w' h' => ⟨h'.2.1, ih a' w' h'.2.1 h'.2.2⟩) hw

theorem any_treeC {Kf : Act → World → Prop} (hsel : Region.noSelect ops = true) (s : Scc) :
    ∀ (listed : Array Bool) (a : Act) (w : World), C w → treeCB md ops s listed = true → treeCW P ops C Kf s a w → wpAnyC P md ops C Kf s.len listed a w := by
  induction s with
  | done =>
    intro listed a w _ hB h
    exact ⟨by simpa [treeCB] using hB, h⟩
  | calm k s ih =>
    intro listed a w hC hB h
    obtain ⟨o, d, v, ho, hd, hp, hrest⟩ := h
    subst hd
    simp only [treeCB, Bool.and_eq_true] at hB
    exact calm_first ho (Region.noSelect_spec hsel) _ listed a w hC (Region.free_spec ho hB.1.2) (by simpa using hB.1.1) hp (ih _ _ _ hC hB.2 hrest)
  | only k s ih =>
    intro listed a w hC hB h
    obtain ⟨o, ho, h⟩ := h
    simp only [treeCB, Bool.and_eq_true, decide_eq_true_eq] at hB
    refine ⟨fun h1 => (by rw [hB.1] at h1; cases h1), fun i hi => ?_⟩
    rw [hB.1] at hi
    obtain rfl : i = k := by simpa using hi
    exact op_of_list ho h (fun a' w' hc ht => ih _ a' w' hc hB.2 ht)
  | two j k s t ihs iht =>
    intro listed a w hC hB h
    obtain ⟨⟨o, ho, h1⟩, ⟨o', ho', h2⟩⟩ := h
    simp only [treeCB, Bool.and_eq_true, decide_eq_true_eq] at hB
    obtain ⟨⟨⟨hr, hl⟩, hs⟩, ht⟩ := hB
    refine ⟨fun h1 => (by rw [hr] at h1; cases h1), fun i hi => ?_⟩
    rw [hr] at hi
    simp only [List.mem_cons, List.not_mem_nil, or_false] at hi
    rcases hi with rfl | rfl
    · exact op_of_list ho h1 (fun a' w' hc h' => ihs _ a' w' hc hs h')
    · exact op_of_list ho' h2 (fun a' w' hc h' => by have := iht _ a' w' hc ht h'; rwa [← hl] at this)
  | three p j k r s t ihr ihs iht =>
    intro listed a w hC hB h
    obtain ⟨⟨o0, ho0, h0⟩, ⟨o, ho, h1⟩, ⟨o', ho', h2⟩⟩ := h
    simp only [treeCB, Bool.and_eq_true, decide_eq_true_eq] at hB
    obtain ⟨⟨⟨⟨⟨hr, hl⟩, hl2⟩, h3⟩, hs⟩, ht⟩ := hB
    refine ⟨fun h1 => (by rw [hr] at h1; cases h1), fun i hi => ?_⟩
    rw [hr] at hi
    simp only [List.mem_cons, List.not_mem_nil, or_false] at hi
    rcases hi with rfl | rfl | rfl
    · exact op_of_list ho0 h0 (fun a' w' hc h' => ihr _ a' w' hc h3 h')
    · exact op_of_list ho h1 (fun a' w' hc h' => by have := ihs _ a' w' hc hs h'; rwa [← hl] at this)
    · exact op_of_list ho' h2 (fun a' w' hc h' => by have := iht _ a' w' hc ht h'; rwa [← hl2] at this)

/-- A region that draws its order, by a script with calm operations, to what is known at its end. -/
theorem region_calm {id : Nat} {Q : Exit → Act → World → Prop} {a : Act} {w : World} {l : List Oper} (C : World → Prop) (R : Act → World → Prop) (s : Scc) (hm : P.follows .mixedOrders = true) (hsel : Region.noSelect l.toArray = true)
    (hB : treeCB .any l.toArray s (Array.replicate l.toArray.size false) = true) (hlen : s.len = l.length) (hC : C w.drew)
    (h : treeCW P l.toArray C R s a w.drew) (hQ : ∀ a' w', R a' w' → Q .normal a' w') : (Code.region id l.toArray true).wp P Q a w := by
  refine wp_region_any hm ?_
  have := any_of_C _ _ _ _ (any_treeC (P := P) (md := .any) (Kf := R) hsel s _ a w.drew hC hB h)
  rw [hlen] at this
  have e := any_qn hQ _ _ _ _ this
  simpa using e
end
end Go.Proofs.Ytkneecdpkdnjfaa.Qt
namespace Go.Proofs.Ytkneecdpkdnjfaa
set_option linter.unusedVariables false
open Go.RowKit Go.Sort

theorem below_drew (w : World) : Below w.heap.size w w.drew := ⟨rfl, rfl, rfl, Nat.le_refl _, fun k _ => rfl⟩
/-- A region that draws its order, by a script with calm operations, to what is known at its end. -/
theorem region_calm_to {P : Program} {id : Nat} {Q : Exit → Act → World → Prop} {a : Act} {w : World} {l : List Oper} (C : World → Prop) (R : Act → Act → World → Prop) (s : Qt.Scc) (hm : P.follows .mixedOrders = true) (hsel : Region.noSelect l.toArray = true)
    (hB : Qt.treeCB .any l.toArray s (Array.replicate l.toArray.size false) = true) (hlen : s.len = l.length) (hC : C w.drew)
    (h : Qt.treeCW P l.toArray C (R a) s a w.drew) (hQ : ∀ a' w', R a a' w' → Q .normal a' w') : (Code.region id l.toArray true).wp P Q a w :=
  Qt.region_calm C (R a) s hm hsel hB hlen hC h hQ
end Go.Proofs.Ytkneecdpkdnjfaa
namespace Go.Proofs.Ytkneecdpkdnjfaa
set_option maxRecDepth 100000
set_option linter.unusedVariables false
set_option linter.unusedSimpArgs false
open Go.RowKit Go.Sort

/-- up to where a place of the tree tells, so many workers seen -/
def hiN (k m : Nat) : Nat := if m ≤ k then m else (List.range (k + 1)).foldl (fun a c => if 1 ≤ c ∧ c + lowN c = m then c else a) (m - lowN m)
theorem hi_fin : ∀ k : Fin 11, hiN k.1 (k.1 + 1) = k.1 ∧ (k.1 + 1 + lowN (k.1 + 1) < 12 → hiN k.1 (k.1 + 1 + lowN (k.1 + 1)) = k.1 + 1 - lowN (k.1 + 1) ∧ hiN (k.1 + 1) (k.1 + 1 + lowN (k.1 + 1)) = k.1 + 1) ∧ ∀ m : Fin 12, m.1 ≠ k.1 + 1 → m.1 ≠ k.1 + 1 + lowN (k.1 + 1) → hiN (k.1 + 1) m.1 = hiN k.1 m.1 := by decide +kernel
theorem hi_zero : ∀ m : Fin 12, hiN 0 m.1 = m.1 - lowN m.1 := by decide +kernel
theorem hi_all {k : Nat} (hk : k < 11) : hiN k (k + 1) = k ∧ (k + 1 + lowN (k + 1) < 12 → hiN k (k + 1 + lowN (k + 1)) = k + 1 - lowN (k + 1) ∧ hiN (k + 1) (k + 1 + lowN (k + 1)) = k + 1) ∧ ∀ m, m < 12 → m ≠ k + 1 → m ≠ k + 1 + lowN (k + 1) → hiN (k + 1) m = hiN k m := by
  obtain ⟨h1, h2, h3⟩ := hi_fin ⟨k, hk⟩
  exact ⟨h1, h2, fun m hm => h3 ⟨m, hm⟩⟩
/-- the tree, so many workers seen -/
def fenC (l : List Int) (k : Nat) : List Int := rowF (l.length + 1) fun m => (cntP l (hiN k m) : Int) - (cntP l (m - lowN m) : Int)
theorem fenC_len (l : List Int) (k : Nat) : (fenC l k).length = l.length + 1 := rowF_len _ _
theorem fenC_zero {l : List Int} (h : l.length ≤ 11) : fenC l 0 = List.replicate (l.length + 1) 0 := by
  refine List.ext_getElem? fun i => ?_
  unfold fenC rowF
  by_cases hi : i < l.length + 1
  · rw [List.getElem?_map, List.getElem?_range hi, List.getElem?_replicate, if_pos hi]
    have := hi_zero ⟨i, by omega⟩
    simp only at this
    simp [this]
  · rw [List.getElem?_eq_none (by simp; omega), List.getElem?_eq_none (by simp; omega)]
theorem fenC_all (l : List Int) : fenC l l.length = fenL l := by
  unfold fenC fenL
  refine rowF_congr fun m hm => ?_
  unfold fenA hiN
  rw [if_pos (by omega)]
theorem fenC_get (l : List Int) {k : Nat} (h : l.length ≤ 11) (hk : k < l.length) : (fenC l k).getD (k + 1) 0 = (cntP l k : Int) - (cntP l (k + 1 - lowN (k + 1)) : Int) := by
  unfold fenC
  rw [rowF_get _ (by omega), (hi_all (k := k) (by omega)).1]
/-- one worker seen: the tree at its own place -/
def fenD (l : List Int) (k : Nat) : List Int := (fenC l k).set (k + 1) (fenA l (k + 1))
theorem fenD_len (l : List Int) (k : Nat) : (fenD l k).length = l.length + 1 := by unfold fenD; rw [List.length_set, fenC_len]
theorem fenD_own (l : List Int) {k : Nat} (hk : k < l.length) : (fenD l k).getD (k + 1) 0 = fenA l (k + 1) := by
  have : k + 1 < (fenC l k).length := by rw [fenC_len]; omega
  unfold fenD
  simp [List.getD_eq_getElem?_getD, List.getElem?_set, this]
theorem fenD_yes (l : List Int) {k : Nat} (h : l.length ≤ 11) (hk : k < l.length) (hx : 0 < l.getD k 0) : (fenC l k).set (k + 1) ((fenC l k).getD (k + 1) 0 + 1) = fenD l k := by
  unfold fenD
  rw [fenC_get l h hk]
  congr 1
  have := live_cnt hx
  unfold fenA
  omega
theorem fenD_no (l : List Int) {k : Nat} (h : l.length ≤ 11) (hk : k < l.length) (hx : ¬ 0 < l.getD k 0) : fenC l k = fenD l k := by
  unfold fenD
  have e : fenA l (k + 1) = (fenC l k).getD (k + 1) 0 := by
    rw [fenC_get l h hk]
    have e1 := cntP_succ l k
    rw [livI_no hx] at e1
    unfold fenA
    omega
  rw [e]
  refine List.ext_getElem? fun i => ?_
  rw [List.getElem?_set]
  split
  · rename_i h1
    subst h1
    have hl : k + 1 < (fenC l k).length := by rw [fenC_len]; omega
    rw [if_pos hl, List.getD_eq_getElem?_getD, List.getElem?_eq_getElem hl]; rfl
  · rfl
theorem fenD_up (l : List Int) {k : Nat} (h : l.length ≤ 11) (hk : k < l.length) (hu : k + 1 + lowN (k + 1) ≤ l.length) : (fenD l k).getD (k + 1 + lowN (k + 1)) 0 = (cntP l (k + 1 - lowN (k + 1)) : Int) - (cntP l (k + 1 + lowN (k + 1) - lowN (k + 1 + lowN (k + 1))) : Int) := by
  have hlo := lowN_bd (n := k + 1) (by omega)
  have h2 := ((hi_all (k := k) (by omega)).2.1 (by omega)).1
  have hne : ¬ k + 1 = k + 1 + lowN (k + 1) := by omega
  have e : (fenD l k).getD (k + 1 + lowN (k + 1)) 0 = (fenC l k).getD (k + 1 + lowN (k + 1)) 0 := by
    unfold fenD
    rw [List.getD_eq_getElem?_getD, List.getD_eq_getElem?_getD, List.getElem?_set, if_neg hne]
  rw [e]
  unfold fenC
  rw [rowF_get _ (by omega), h2]
theorem fenD_set (l : List Int) {k : Nat} (h : l.length ≤ 11) (hk : k < l.length) (hu : k + 1 + lowN (k + 1) ≤ l.length) : (fenD l k).set (k + 1 + lowN (k + 1)) ((fenD l k).getD (k + 1 + lowN (k + 1)) 0 + fenA l (k + 1)) = fenC l (k + 1) := by
  rw [fenD_up l h hk hu]
  have hlo := lowN_bd (n := k + 1) (by omega)
  obtain ⟨_, h2, h3⟩ := hi_all (k := k) (by omega)
  have h4 := (h2 (by omega)).2
  unfold fenD fenC
  rw [rowF_set, rowF_set]
  refine rowF_congr fun m hm => ?_
  by_cases hm1 : m = k + 1 + lowN (k + 1)
  · rw [if_pos hm1, hm1, h4]
    unfold fenA
    omega
  · rw [if_neg hm1]
    by_cases hm2 : m = k + 1
    · rw [if_pos hm2, hm2]
      unfold hiN fenA
      rw [if_pos (Nat.le_refl _)]
    · rw [if_neg hm2, h3 m (by omega) hm2 hm1]
theorem fenD_end (l : List Int) {k : Nat} (h : l.length ≤ 11) (hk : k < l.length) (hu : ¬ k + 1 + lowN (k + 1) ≤ l.length) : fenD l k = fenC l (k + 1) := by
  obtain ⟨_, _, h3⟩ := hi_all (k := k) (by omega)
  unfold fenD fenC
  rw [rowF_set]
  refine rowF_congr fun m hm => ?_
  by_cases hm2 : m = k + 1
  · rw [if_pos hm2, hm2]
    unfold hiN fenA
    rw [if_pos (Nat.le_refl _)]
  · rw [if_neg hm2, h3 m (by omega) hm2 (by omega)]
theorem own_bounds {w : World} {B n c : Nat} {A : Option Addr} {l : List Int} (h : Own w B (.slice A n c) l) : ∀ a, A = some a → B ≤ a.block ∧ a.block < w.heap.size := fun a ha => World.ownsRow.lt h a.block (by rw [ha]; rfl)
theorem own_more {w : World} {B B' : Nat} {v : Value} {l : List Int} (h : Own w B v l) (hB : B' ≤ B) : Own w B' v l := by
  refine ⟨h.1, ?_⟩
  rcases h.2 with h0 | ⟨g, cap, cur, hv, hb, rest⟩
  · exact .inl h0
  · exact .inr ⟨g, cap, cur, hv, by omega, rest⟩
section
variable {w1 wr : World} {C D cS : Nat} {AS : Option Addr} {l cs : List Int} {m : Nat}
end
/-- what crewOf answers -/
def CrewR (l : List Int) (w : World) (r : Ending) (w' : World) : Prop := ∃ AS cS D, r = .returned (.agg #[.slice AS l.length cS, .slice (some ⟨D, 0, none⟩) (l.length + 1) (l.length + 1), .int .i64 (manyP l : Int)]) ∧ Own w' w.heap.size (.slice AS l.length cS) l ∧
  Own w' w.heap.size (.slice (some ⟨D, 0, none⟩) (l.length + 1) (l.length + 1)) (fenL l) ∧ (∀ a, AS = some a → a.block ≠ D) ∧ Below w.heap.size w w'
end Go.Proofs.Ytkneecdpkdnjfaa
namespace Go.Proofs.Ytkneecdpkdnjfaa
set_option maxRecDepth 100000
set_option linter.unusedVariables false
set_option linter.unusedSimpArgs false
open Go.RowKit Go.Sort Go.Shelf

theorem St11.put {q q2 : Nat} {A B : World} (h : St11 q q2 A B) {l : Nat} (o : Obj) (h1 : q ≤ l) (h2 : l < q2) : St11 q q2 A (B.putObj l o) :=
  h.trans ⟨rfl, rfl, rfl, by simp, fun k hk hc => World.putObj_heap_other (by omega)⟩
/-- what lies in blocks q to q2 lies as it lay -/
def Kept11 (q q2 : Nat) (X Y : World) : Prop := X.heap.size ≤ Y.heap.size ∧ ∀ k, q ≤ k → k < q2 → Y.heap[k]? = X.heap[k]?
theorem Kept11.trans {q q2 : Nat} {X Y Z : World} (h : Kept11 q q2 X Y) (k : Kept11 q q2 Y Z) : Kept11 q q2 X Z := ⟨Nat.le_trans h.1 k.1, fun j h1 h2 => (k.2 j h1 h2).trans (h.2 j h1 h2)⟩

theorem range_own {P : Program} {g : Operand} {ps : Array Tmp} {assign body : Code} {Q : Exit → Act → World → Prop} {a : Act} {w : World} {n : Nat} {gf : Nat} {lb : Array Value} (hg : a.eval g = .func (.func gf) #[] lb) (eg : ∀ args w, (callFunc gf args).run P w = .ok (.enter gf args) w)
    (t : Nat → Value) (N : Nat) (hps : ps.size = 1) (I : Nat → Nat → World → Prop)
    (hI : ∀ q q2 j X Y, I q2 j X → w.heap.size ≤ q → St11 q q2 X Y → I q2 j Y) (hI2 : ∀ q2 j X l o, I q2 j X → w.heap.size ≤ l → l < w.heap.size + 2 → I q2 j (X.putObj l o))
    (h0 : ∀ q2 X, Below w.heap.size w X → w.heap.size + 2 ≤ q2 → q2 ≤ X.heap.size → I q2 0 X)
    (hseq : ∀ (lp : Nat) (W : World) (J : Nat → Nat → World → Prop), Below w.heap.size w W → W.heap.size = w.heap.size + 2 →
      (∀ q2 j X Y, J q2 j X → St11 W.heap.size q2 X Y → J q2 j Y) → (∀ q2 X, Below W.heap.size W X → W.heap.size ≤ q2 → q2 ≤ X.heap.size → J q2 0 X) → (∀ q2 j X, J q2 j X → I q2 j X) →
      (∀ q2 j X, W.heap.size ≤ q2 → q2 ≤ X.heap.size → j < N → J q2 j X → YieldAt Fence.wide (n - 1 - 1) P lp #[t j] X fun e X' => e = .returned (.bool true) ∧ J q2 (j + 1) X' ∧ Kept11 W.heap.size q2 X X') →
      CallsIn Fence.wide (n - 1) P gf (#[.func (.yield lp) #[] #[]] ++ lb) W fun e W' => (∃ v, e = .returned v) ∧ ∃ q2, J q2 N W')
    (a₁ : Nat → Act)
    (hassign : ∀ (l j : Nat) (X : World) (K : Act → World → Prop), K (a₁ j) X →
      assign.wpIn (Fence.wide.inRound l) (n - 1 - 1) P (Exit.then K (fun _ _ _ => False)) { tmps := (ps.zip #[t j]).foldl (fun t (p, v) => t.setIfInBounds p v) a.tmps, defers := [] } X)
    (hbody : ∀ (l q2 j : Nat) (X : World), I q2 j X → w.heap.size + 2 ≤ q2 → q2 ≤ X.heap.size → j < N → body.wpIn (Fence.wide.inRound l) (n - 1 - 1) P (fun e _ X' => e = .normal ∧ I q2 (j + 1) X' ∧ Kept11 w.heap.size q2 X X') (a₁ j) X)
    (hdone : ∀ (q2 : Nat) (W : World), I q2 N W → W.heap[w.heap.size]? = some (.deferred (some [])) → Q .normal { a with defers := { target := .collected w.heap.size, args := #[] } :: a.defers } W) :
    (Code.rangeFunc g ps assign body).wpIn Fence.wide n P Q a w := by
  refine wpIn_rangeFunc ?_
  intro fn hfn
  obtain ⟨rec, hrec⟩ : ∃ rec : LoopState → Option Code → Loop, rec = fun st pe => { state := st, pending := pe, fn, tmps := a.tmps, params := ps, assign, body, defers := w.heap.size } := ⟨_, rfl⟩
  obtain ⟨W1, hW1⟩ : ∃ W1, (w.alloc (.deferred (some []))).alloc (.loop (rec .ready none)) = W1 := ⟨_, rfl⟩
  have hs1 : W1.heap.size = w.heap.size + 2 := by rw [← hW1]; simp
  have hL1 : W1.heap[w.heap.size + 1]? = some (.loop (rec .ready none)) := by
    rw [← hW1]
    have := World.alloc_heap_new (w.alloc (.deferred (some []))) (.loop (rec .ready none))
    rwa [World.size_alloc] at this
  have hK1 : W1.heap[w.heap.size]? = some (.deferred (some [])) := by
    rw [← hW1]
    exact (Below.heap_alloc _ _ _ (by simp)).trans (World.alloc_heap_new w _)
  have hb1 : Below w.heap.size w W1 := by
    rw [← hW1]
    exact ((Below.refl _ w).alloc (Nat.le_refl _) _).alloc (by simp) _
  refine ⟨w.heap.size + 1, [{ target := .collected w.heap.size, args := #[] }], W1, { target := .fn (.func gf) lb, args := #[.func (.yield (w.heap.size + 1)) #[] #[]] }, W1, gf,
    #[.func (.yield (w.heap.size + 1)) #[] #[]] ++ lb, W1, ?_, ?_, ?_, ?_, ?_, ?_⟩
  · rw [← hW1, hrec]; exact run_enterLoop_outer _ _ _ _ _
  · simp only [resolve, hg]
    simp [go_sem]
  · intro f' _; trivial
  · simp [invoke, go_sem, eg]
  · intro h; cases h
  refine (hseq (w.heap.size + 1) W1 (fun q2 j X => (I q2 j X ∧ w.heap.size + 2 ≤ q2) ∧ X.heap[w.heap.size + 1]? = some (.loop (rec .ready none)) ∧ X.heap[w.heap.size]? = some (.deferred (some []))) hb1 hs1 ?_ ?_ ?_ ?_).mono ?_
  · rintro q2 j X Y ⟨⟨hi, hq⟩, hl, hk⟩ hst
    have hX1 := lt_heap6' hl
    exact ⟨⟨hI _ _ _ _ _ hi (by omega) hst, hq⟩, (hst.same _ hX1 (.inl (by omega))).trans hl, (hst.same _ (by omega) (.inl (by omega))).trans hk⟩
  · intro q2 X hb hq hq2
    exact ⟨⟨h0 q2 X (hb1.trans (hb.mono hb1.size)) (by omega) hq2, by omega⟩, (hb.block _ (by omega)).trans hL1, (hb.block _ (by omega)).trans hK1⟩
  · intro q2 j X h; exact h.1.1
  · rintro q2 j X hq hq2 hj ⟨⟨hi, hqq⟩, hl, hk⟩
    have hlt : w.heap.size + 1 < X.heap.size := lt_heap6' hl
    have hy := run_yield (P := P) (args := #[t j]) hl (by rw [hrec]; exact hps.symm)
    rw [hrec] at hy
    refine ⟨fn, _, assign, body, hy, roundIn_of_wpIn hfn (hassign _ j X _ ?_)⟩
    refine ⟨_, run_beginRound hl (by rw [hrec]), ?_⟩
    have hl2 : (X.putObj (w.heap.size + 1) (.loop { rec .ready none with state := .busy })).heap[w.heap.size + 1]? = some (.loop { rec .ready none with state := .busy }) := World.putObj_heap_same hlt
    have hk2 : (X.putObj (w.heap.size + 1) (.loop { rec .ready none with state := .busy })).heap[w.heap.size]? = some (.deferred (some [])) := (World.putObj_heap_other (by omega)).trans hk
    have hsz2 : (X.putObj (w.heap.size + 1) (.loop { rec .ready none with state := .busy })).heap.size = X.heap.size := by simp
    refine wpIn_mono (hbody _ q2 j _ (hI2 _ _ _ _ _ hi (by omega) (by omega)) hqq (by simp; omega) hj) ?_
    rintro e a3 W3 ⟨rfl, hi3, hkp3⟩
    have hl3 := (hkp3.2 (w.heap.size + 1) (by omega) (by omega)).trans hl2
    have hk3 := (hkp3.2 w.heap.size (by omega) (by omega)).trans hk2
    have hend := run_endRound (P := P) none hl3
    rw [hrec] at hend
    refine ⟨_, _, hend, rfl, ⟨⟨hI2 _ _ _ _ _ hi3 (by omega) (by omega), hqq⟩, ?_, (World.putObj_heap_other (by omega)).trans hk3⟩, ?_, ?_⟩
    · rw [hrec]
      exact World.putObj_heap_same (lt_heap6' hl3)
    · have := hkp3.1
      simp at this ⊢
      omega
    · intro k h1 h2
      rw [World.putObj_heap_other (by omega), hkp3.2 k (by omega) h2, World.putObj_heap_other (by omega)]
  · rintro e W2 ⟨⟨v, rfl⟩, q2, ⟨hi, hq⟩, hl, hk⟩
    refine ⟨none, _, by have := run_endLoop (P := P) hl (by rw [hrec]; simp); rw [hrec] at this; exact this, hdone q2 _ (hI2 _ _ _ _ _ hi (by omega) (by omega)) ((World.putObj_heap_other (by omega)).trans hk)⟩
end Go.Proofs.Ytkneecdpkdnjfaa
namespace Go.Proofs.Ytkneecdpkdnjfaa
set_option maxRecDepth 100000
set_option linter.unusedVariables false
set_option linter.unusedSimpArgs false
open Go.RowKit Go.Sort Go.Shelf
attribute [local go_sem] Oper.semAt_some

theorem append_run_in {F : Fence} {n : Nat} {P : Program} {w : World} {ops : Array Oper} {rest : List Oper} {o : Oper} {a : Act} {Q : Exit → Act → World → Prop}
    (hg : o.guard = none) (s x : Operand) (t : TypeId) (hop : o.op = Op.call { callee := Callee.builtin Builtin.append, args := #[s, x], argTypes := #[t, t] })
    (v u : Value) (hs : a.eval s = v) (hx : a.eval x = u) (v' : Value) (w' : World) (hrun : (Builtin.append_ #[t, t] o.type #[v, u]).run P w = .ok v' w') (h : wpListIn F n P ops Q rest (a.put o.dst v') w') : wpListIn F n P ops Q (o :: rest) a w := by
  refine wpListIn_plain hg fun K hK => ?_
  unfold Oper.wpIn
  refine ⟨?_, ?_⟩
  · simp [Oper.about, hop, resolve, Target.leads, Sem.run_pure]
  · rw [Oper.semAt_plain F _ _ (by rw [hop]; intro c hc; cases hc)]
    simp [execOp, hop, resolve, invoke, builtin, hs, hx, hrun, Result.andThen]
    exact hK _ _ h
/-- what is known between two turns: w at the call, w2 where the range begins -/
structure TurnsI (w w2 : World) (A : Option Addr) (picks l : List Int) (c q2 j : Nat) (X : World) : Prop where
  box : ∃ v, Boxed X w.heap.size 25 v ∧ Own X q2 v (turnsTo picks l j)
  pb : Boxed X (w.heap.size + 1) 25 (.slice A picks.length c)
  q : w2.heap.size + 2 ≤ q2
  bel : Below w.heap.size w X
theorem TurnsI.st {w w2 : World} {A : Option Addr} {picks l : List Int} {c q q2 j : Nat} {X Y : World} (hw : w2.heap.size = w.heap.size + 3) (h : TurnsI w w2 A picks l c q2 j X) (hq : w2.heap.size ≤ q) (hs : St11 q q2 X Y) : TurnsI w w2 A picks l c q2 j Y := by
  obtain ⟨v, hb, ho⟩ := h.box
  have h1 := hb.lt
  have h2 := h.pb.lt
  refine ⟨⟨v, (hs.same _ h1 (.inl (by omega))).trans hb, own_keeps ho fun g hg => ?_⟩, (hs.same _ h2 (.inl (by omega))).trans h.pb, h.q, h.bel.trans ⟨hs.os, hs.tape, hs.output, hs.size, fun k hk => hs.same k (by have := h.bel.size; omega) (.inl (by omega))⟩⟩
  have := World.ownsRow.lt ho g hg
  exact hs.same g this.2 (.inr this.1)
theorem TurnsI.put {w w2 : World} {A : Option Addr} {picks l : List Int} {c q2 j : Nat} {X : World} (hw : w2.heap.size = w.heap.size + 3) (h : TurnsI w w2 A picks l c q2 j X) {lb : Nat} (o : Obj) (h1 : w2.heap.size ≤ lb) (h2 : lb < w2.heap.size + 2) : TurnsI w w2 A picks l c q2 j (X.putObj lb o) := by
  obtain ⟨v, hb, ho⟩ := h.box
  have hq := h.q
  have hk : ∀ k, k ≠ lb → (X.putObj lb o).heap[k]? = X.heap[k]? := fun k hk => World.putObj_heap_other (by omega)
  refine ⟨⟨v, (hk _ (by omega)).trans hb, own_keeps ho fun g hg => hk g ?_⟩, (hk _ (by omega)).trans h.pb, h.q, h.bel.trans ⟨rfl, rfl, rfl, by simp, fun k hk2 => hk k (by omega)⟩⟩
  have := World.ownsRow.lt ho g hg
  omega
def TurnsR (picks l : List Int) (w : World) (e : Ending) (w' : World) : Prop := ∃ v, e = .returned v ∧ Own w' w.heap.size v (turnsP picks l) ∧ Below w.heap.size w w'
end Go.Proofs.Ytkneecdpkdnjfaa
namespace Go.Proofs.Ytkneecdpkdnjfaa
set_option maxRecDepth 100000
set_option linter.unusedVariables false
set_option linter.unusedSimpArgs false
open Go.RowKit Go.Sort Go.Shelf
attribute [local go_sem] Oper.semAt_some

set_option maxHeartbeats 16000000 in
theorem iter13_in (lp Sb Hb h s : Nat) (W : World) (hh : h < 2147483648) (hs : 1 ≤ s ∧ s ≤ 4000)
    (J : Nat → Nat → World → Prop) (hJ0 : J W.heap.size 0 W)
    (hJr : ∀ q2 j X, J q2 j X → X.cell? ⟨Hb, 0, none⟩ = some (.int .i64 (h : Int)) ∧ X.cell? ⟨Sb, 0, none⟩ = some (.int .i64 (s : Int)))
    (hY : ∀ q2 j X, W.heap.size ≤ q2 → q2 ≤ X.heap.size → j < s → J q2 j X → YieldAt Fence.wide 4 Try.prog lp #[.int .i64 (slotH h j s)] X fun e X' => e = .returned (.bool true) ∧ J q2 (j + 1) X' ∧ Kept11 W.heap.size q2 X X') :
    CallsIn Fence.wide 5 Try.prog 20 #[.func (.yield lp) #[] #[], .pointer (some ⟨Sb, 0, none⟩), .pointer (some ⟨Hb, 0, none⟩)] W fun e W' => (∃ v, e = .returned v) ∧ ∃ q2, J q2 s W' := by
  have HY := Lib.hid hY
  have HJR := Lib.hid hJr
  have HJ0 : Hid (J W.heap.size 0 W ∧ W.heap.size ≤ W.heap.size) := ⟨hJ0, Nat.le_refl _⟩
  have hS0 := (hJr _ _ _ hJ0).2
  clear hY hJr hJ0
  refine callsIn_of_wp Try.func20 rfl trivial ?_ rfl
  simp only [Try.ntmps20, List.size_toArray, List.length_cons, List.length_nil, Nat.reduceAdd, Nat.reduceSub, Array.replicate_succ, Array.replicate_zero, List.push_toArray, List.append_toArray, List.nil_append, List.cons_append]
  gi_wp2
  gi_loopw [4, 6] (fun _ st wr => ∃ j : Nat, j ≤ s ∧ st = .int .i64 j ∧ Hid (J W.heap.size j wr ∧ W.heap.size ≤ wr.heap.size)) (fun _ st _ => s - (intOf st).toNat)
  case atStart => exact ⟨0, Nat.zero_le _, rfl, HJ0.out⟩
  case round =>
    obtain ⟨j, hj, rfl, HH⟩ := hrel
    by_cases hlt : j < s
    · have hsl := fun W' => slot13_any (h : Int) (j : Int) (s : Int) W' ⟨by omega, by omega⟩ ⟨by omega, by omega⟩ ⟨by omega, by omega⟩
      obtain ⟨c1, c2⟩ := HJR.out _ _ _ HH.out.1
      have hsf := slot_i64 h j s
      have HSL := Lib.hid hsl
      clear hsl
      have hjz : (j : Int) < (s : Int) := by omega
      obtain ⟨fn, tmps, assign, body, hy, hR⟩ := HY.out W.heap.size j wr (Nat.le_refl _) HH.out.2 hlt HH.out.1
      generalize slotH h j s = x at *
      gi_wp2_with fail
      refine ⟨trivial, (callsIn_wide.2 (HSL.out _)).mono ?_⟩
      rintro e w2 ⟨rfl, rfl⟩
      gi_wp2_with fail
      refine hR.mono ?_
      clear hR hy
      rintro e w4 ⟨rfl, hJ4, hk4⟩
      have HN : Hid (J W.heap.size (j + 1) w4 ∧ W.heap.size ≤ w4.heap.size) := ⟨hJ4, Nat.le_trans HH.out.2 hk4.1⟩
      clear hJ4 hk4
      gi_wp2_with fail
      go_roundw
      case measure => simp [intOf]; omega
      case rel => exact ⟨j + 1, by omega, by go_num, HN.out⟩
    · obtain rfl : j = s := by omega
      gi_wp2_with fail
      go_end0
      exact ⟨⟨_, rfl⟩, _, HH.out.1⟩
/-- what is known between two slots: w at the call, behind it the slice's box -/
structure SeqI (w : World) (B M Hb Sb h s q2 j : Nat) (X : World) : Prop where
  box : Boxed X w.heap.size 25 (.slice (some ⟨M, 0, none⟩) j s)
  own : Own X B (.slice (some ⟨M, 0, none⟩) j s) (pathH h s j)
  hh : X.cell? ⟨Hb, 0, none⟩ = some (.int .i64 (h : Int))
  hs : X.cell? ⟨Sb, 0, none⟩ = some (.int .i64 (s : Int))
  q : w.heap.size + 3 ≤ q2
  bel : Below B w X
theorem cell_lt {X : World} {a : Addr} {v : Value} (h : X.cell? a = some v) : a.block < X.heap.size := by
  unfold World.cell? at h
  by_cases hl : a.block < X.heap.size
  · exact hl
  · rw [Array.getElem?_eq_none (by omega)] at h
    simp at h
theorem SeqI.keep {w : World} {B M Hb Sb h s q2 j : Nat} {X Y : World} (hM : M < w.heap.size) (hHb : Hb < w.heap.size) (hSb : Sb < w.heap.size) (hB : B ≤ w.heap.size) (i : SeqI w B M Hb Sb h s q2 j X) (os : Y.os = X.os) (tp : Y.tape = X.tape) (out : Y.output = X.output) (sz : X.heap.size ≤ Y.heap.size) (hk : ∀ k, k < w.heap.size + 1 → Y.heap[k]? = X.heap[k]?) : SeqI w B M Hb Sb h s q2 j Y :=
  ⟨(hk _ (by omega)).trans i.box, own_keeps i.own fun g hg => by cases hg; exact hk M (by omega), (World.cell?_of_block (hk Hb (by omega))).trans i.hh, (World.cell?_of_block (hk Sb (by omega))).trans i.hs, i.q,
    i.bel.trans ⟨os, tp, out, sz, fun k h => hk k (by omega)⟩⟩
set_option maxHeartbeats 16000000 in
theorem appendSeq13_any (B M Hb Sb h s : Nat) (w : World) (hown : Own w B (.slice (some ⟨M, 0, none⟩) 0 s) []) (hB : B ≤ w.heap.size) (hM : M < w.heap.size) (hH : w.cell? ⟨Hb, 0, none⟩ = some (.int .i64 (h : Int))) (hS : w.cell? ⟨Sb, 0, none⟩ = some (.int .i64 (s : Int))) (h1 : Hb ≠ M) (h2 : Sb ≠ M)
    (hh : h < 2147483648) (hs : 1 ≤ s ∧ s ≤ 4000) :
    Calls Try.prog 18 #[.slice (some ⟨M, 0, none⟩) 0 s, .func (.func 20) #[] #[.pointer (some ⟨Sb, 0, none⟩), .pointer (some ⟨Hb, 0, none⟩)]] w fun e w' => ∃ v, e = .returned v ∧ Own w' B v (pathH h s s) ∧ Below B w w' := by
  have hHb : Hb < w.heap.size := cell_lt hH
  have hSb : Sb < w.heap.size := cell_lt hS
  refine (callsIn_wide (n := 6)).1 ?_
  refine callsIn_of_wp_marks Try.func18 rfl trivial ?_ rfl
  simp only [Try.ntmps18, List.size_toArray, List.length_cons, List.length_nil, Nat.reduceAdd, Nat.reduceSub, Array.replicate_succ, Array.replicate_zero, List.push_toArray, List.append_toArray, List.nil_append, List.cons_append]
  gi_wp2
  have hb1 := (Below.refl w.heap.size w).alloc (Nat.le_refl _) (.cells #[.slice (some ⟨M, 0, none⟩) 0 s] 25)
  have x1 := Boxed.new w 25 (.slice (some ⟨M, 0, none⟩) 0 s)
  have hsz : (w.alloc (.cells #[.slice (some ⟨M, 0, none⟩) 0 s] 25)).heap.size = w.heap.size + 1 := by simp
  obtain ⟨w2, hw2⟩ : ∃ w2, w.alloc (.cells #[.slice (some ⟨M, 0, none⟩) 0 s] 25) = w2 := ⟨_, rfl⟩
  rw [hw2] at hb1 x1 hsz ⊢
  clear hw2
  have hI0 : ∀ q2 X, Below w2.heap.size w2 X → w.heap.size + 3 ≤ q2 → SeqI w B M Hb Sb h s q2 0 X := fun q2 X hb hq =>
    ⟨(hb.block _ (by omega)).trans x1, own_keeps hown fun g hg => by cases hg; exact (hb.block M (by omega)).trans (hb1.block M hM),
      (World.cell?_of_block ((hb.block Hb (by omega)).trans (hb1.block Hb hHb))).trans hH, (World.cell?_of_block ((hb.block Sb (by omega)).trans (hb1.block Sb hSb))).trans hS, hq, (hb1.mono hB).trans (hb.mono (by omega))⟩
  have HI0 := Lib.hid hI0
  clear hI0 hown hH hS hb1 x1
  refine range_own (gf := 20) (lb := #[.pointer (some ⟨Sb, 0, none⟩), .pointer (some ⟨Hb, 0, none⟩)]) rfl (enters_of Try.func20 (by kernel_rfl) rfl)
    (fun j => .int .i64 (slotH h j s)) s rfl (SeqI w B M Hb Sb h s) ?st ?put
    ?start ?seq (fun j => { tmps := #[.slice (some ⟨M, 0, none⟩) 0 s, .func (.func 20) #[] #[.pointer (some ⟨Sb, 0, none⟩), .pointer (some ⟨Hb, 0, none⟩)], .pointer (some ⟨w.heap.size, 0, none⟩), undef, .slice none 0 0, .int .i64 (slotH h j s), .func (.func 20) #[] #[.pointer (some ⟨Sb, 0, none⟩), .pointer (some ⟨Hb, 0, none⟩)], .int .i64 (slotH h j s), undef, undef, undef, undef, undef], defers := [] }) ?assign ?body ?done
  case st =>
    intro q q2 j X Y i hq k
    have := lt_heap6 i.box
    exact i.keep hM hHb hSb hB k.os k.tape k.output k.size fun n hn => k.same n (by omega) (.inl (by omega))
  case put =>
    intro q2 j X lb o i g1 g2
    exact i.keep hM hHb hSb hB rfl rfl rfl (by simp) fun n hn => World.putObj_heap_other (by omega)
  case start =>
    intro q2 X hb hq hq2
    exact HI0.out q2 X hb (by omega)
  case seq =>
    intro lp W J hbW hszW hJ hJ0 hJI hY
    exact iter13_in lp Sb Hb h s W hh hs J (hJ0 _ _ (Below.refl _ _) (Nat.le_refl _) (Nat.le_refl _)) (fun q2 j X i => ⟨(hJI _ _ _ i).hh, (hJI _ _ _ i).hs⟩) hY
  case assign =>
    intro lp j X K hK
    gi_wp2
    exact hK
  case body =>
    rintro lp q2 j X i _ hq2 hj
    have hc := i.box.cell
    have hf := i.box.frozen
    have hlen := pathH_len h s j
    have hMX : M < X.heap.size := by have := lt_heap6 i.box; omega
    obtain ⟨i0, hi, hz0, hz1, hz2⟩ := info_parts info_int
    have ho2 : Own (X.alloc (.cells #[.int .i64 (slotH h j s)] 3)) B (.slice (some ⟨M, 0, none⟩) j s) (pathH h s j) := World.ownsRow.alloc i.own _
    have hcx : ∀ k, k < [slotH h j s].length → (X.alloc (.cells #[.int .i64 (slotH h j s)] 3)).cell? ⟨X.heap.size, 0 + k, none⟩ = some (.int .i64 ([slotH h j s].getD k 0)) := fun k hk => by
      obtain rfl : k = 0 := by simp at hk; omega
      simp
    have hap := run_append_own_spare (P := Try.prog) (w := X.alloc (.cells #[.int .i64 (slotH h j s)] 3)) B 25 25 3 i0 1 Try.underlying25 hi hz1 M j s (fl (pathH h s j)) (by have := ho2; unfold Own at this; rw [hlen] at this; exact this) ⟨X.heap.size, 0, none⟩ 1 1 (fl [slotH h j s]) (length_fl _) (fl_at hcx) (fl_cell1 _) (by omega)
    obtain ⟨X2, hrun, hown2, hg⟩ := hap
    have hk2 : ∀ k, k < X.heap.size → k ≠ M → X2.heap[k]? = X.heap[k]? := fun k hk hne => by
      rw [hg.block k (by simp; omega) (fun e => hne (by cases e; rfl))]
      exact Lib.alloc_old _ _ _ hk
    have hXX := hg.size
    rw [World.size_alloc] at hXX
    have e1 : X2.cell? ⟨w.heap.size, 0, none⟩ = some (.slice (some ⟨M, 0, none⟩) j s) := (World.cell?_of_block (hk2 w.heap.size (lt_heap6 i.box) (by omega))).trans hc
    have hbx2 : Boxed X2 w.heap.size 25 (.slice (some ⟨M, 0, none⟩) j s) := (hk2 w.heap.size (lt_heap6 i.box) (by omega)).trans i.box
    have e2 := hbx2.frozen
    have HRun := Lib.hid hrun
    have HFN : Hid (SeqI w B M Hb Sb h s q2 (j + 1) (X2.setCell ⟨w.heap.size, 0, none⟩ (.slice (some ⟨M, 0, none⟩) (j + 1) s)) ∧ Kept11 w2.heap.size q2 X (X2.setCell ⟨w.heap.size, 0, none⟩ (.slice (some ⟨M, 0, none⟩) (j + 1) s))) := by
      have hbw := lt_heap6 i.box
      have hw : ∀ k, k ≠ w.heap.size → (X2.setCell ⟨w.heap.size, 0, none⟩ (.slice (some ⟨M, 0, none⟩) (j + 1) s)).heap[k]? = X2.heap[k]? := fun k hk => heap_other (by omega)
      refine ⟨⟨hbx2.set _, ?_, (World.cell?_of_block ((hw Hb (by omega)).trans (hk2 Hb (by omega) h1))).trans i.hh, (World.cell?_of_block ((hw Sb (by omega)).trans (hk2 Sb (by omega) h2))).trans i.hs, i.q, ?_⟩, by simp; omega, fun k g1 g2 => (hw k (by omega)).trans (hk2 k (by omega) (by omega))⟩
      · refine own_keeps (w := X2) ?_ fun g hg => by cases hg; exact hw M (by omega)
        rw [pathH_succ]
        unfold Own
        rw [List.length_append, hlen, List.map_append]
        exact hown2
      · have hMB : B ≤ M := (World.ownsRow.lt i.own M rfl).1
        refine i.bel.trans ⟨?_, ?_, ?_, by simp; omega, fun k hk => (hw k (by omega)).trans (hk2 k (by omega) (by omega))⟩
        · exact hg.os
        · exact hg.tape
        · exact hg.output
    clear hown2 hg hk2 ho2 hbx2
    gi_wp2_with (gi_at_builtin; refine append_run_in rfl (.tmp 8) (.tmp 10) 25 rfl _ _ rfl rfl _ _ HRun.out ?_)
    exact ⟨HFN.out.1, by rw [← hsz]; exact HFN.out.2⟩
  case done =>
    intro q2 W3 i hK
    have hc := i.box.cell
    have hbw := lt_heap6 i.box
    have HFN : Hid (Own W3 B (.slice (some ⟨M, 0, none⟩) s s) (pathH h s s) ∧ Below B w W3) := ⟨i.own, i.bel⟩
    have HSZ : Hid (B ≤ w2.heap.size) := (by show B ≤ _; omega)
    clear i
    gi_wp2
    refine ⟨by simp, .inl ⟨_, _, rfl, run_takeDeferred hK, ?_⟩⟩
    have hbd := belowK_b (n₀ := B) (w := w2) HSZ.out W3 w2.heap.size (.deferred (some [])) (.deferred none) (Nat.le_refl _) hK rfl rfl
    exact ⟨_, results_tmp rfl _ _ _, ⟨_, rfl, ownsRow_putObj HFN.out.1 _ hK rfl, HFN.out.2.trans hbd⟩⟩
end Go.Proofs.Ytkneecdpkdnjfaa
namespace Go.Proofs.Ytkneecdpkdnjfaa
set_option maxRecDepth 100000
set_option linter.unusedVariables false
set_option linter.unusedSimpArgs false
open Go.RowKit Go.Sort

theorem makeC (n : Nat) (hn : n ≤ 17592186044416) (u : World) : ∃ u', (Instr.makeSlice 25 (.int .i64 0) (.int .i64 (n : Int))).run Try.prog u = .ok (.slice (some ⟨u.heap.size, 0, none⟩) 0 n) u' ∧
    Own u' u.heap.size (.slice (some ⟨u.heap.size, 0, none⟩) 0 n) [] ∧ u.grownBy u' none := by
  obtain ⟨i0, hi, hz0, hz1, hz2⟩ := info_parts info_int
  exact run_make_own (P := Try.prog) u u.heap.size 25 3 i0 _ 1 Try.underlying25 hi hz0 hz1 .i64 .i64 n (by rw [hz2]; omega) (by unfold maxLen; omega) (Nat.le_refl _)
theorem path13_at (h s : Nat) (w : World) :
    Calls Try.prog 19 #[.int .i64 (h : Int), .int .i64 (s : Int)] w fun e w' => ∃ Hb Sb : Nat, e = .returned (.func (.func 20) #[] #[.pointer (some ⟨Sb, 0, none⟩), .pointer (some ⟨Hb, 0, none⟩)]) ∧ w.heap.size ≤ Hb ∧ w.heap.size ≤ Sb ∧ w'.cell? ⟨Hb, 0, none⟩ = some (.int .i64 (h : Int)) ∧ w'.cell? ⟨Sb, 0, none⟩ = some (.int .i64 (s : Int)) ∧ Below w.heap.size w w' := by
  refine (path13_any _ _ w).mono ?_
  rintro e w' ⟨rfl, rfl⟩
  have h1 := heap_alloc_new w (.cells #[.int .i64 (h : Int)] 3)
  have h2 := heap_alloc_new (w.alloc (.cells #[.int .i64 (h : Int)] 3)) (.cells #[.int .i64 (s : Int)] 3)
  have h3 : ((w.alloc (.cells #[.int .i64 (h : Int)] 3)).alloc (.cells #[.int .i64 (s : Int)] 3)).heap[w.heap.size]? = some (.cells #[.int .i64 (h : Int)] 3 (0, 0)) := (Lib.alloc_old _ _ _ (by simp)).trans h1
  rw [World.size_alloc] at h2
  exact ⟨w.heap.size, w.heap.size + 1, rfl, Nat.le_refl _, by omega, by rw [Lib.cell_of_heap h3]; rfl, by rw [Lib.cell_of_heap h2]; rfl, ((Below.refl _ _).alloc (Nat.le_refl _) _).alloc (by simp) _⟩
theorem cell_next {w w' : World} {b : Nat} {v : Value} (h : w.cell? ⟨b, 0, none⟩ = some v) (hb : Below w.heap.size w w') : w'.cell? ⟨b, 0, none⟩ = some v := (hb.cell (p := ⟨b, 0, none⟩) (cell_lt h)).trans h
theorem load4_quiet (W : World) (pb : Nat) (k : Kd) (h : W.heap[pb]? = some (.cells #[.int .i64 k.1, .int .i64 k.2.1, .int .i64 k.2.2.1, .int .i64 k.2.2.2] 22 (0, 0))) (ev : Operand → Value) (o : Oper) (x : Operand) (ho : o.op = Op.load 22 x) (hx : ev x = .pointer (some ⟨pb, 0, none⟩)) : Oper.quietUpon Try.prog (fun w' => w' = W) W (.agg #[.int .i64 k.1, .int .i64 k.2.1, .int .i64 k.2.2.1, .int .i64 k.2.2.2]) ((execOp ev o).run Try.prog W) := by
  have q0 : W.cell? ⟨pb, 0, none⟩ = some (.int .i64 k.1) := by rw [Lib.cell_of_heap h]; rfl
  have q1 : W.cell? ⟨pb, 1, none⟩ = some (.int .i64 k.2.1) := by rw [Lib.cell_of_heap h]; rfl
  have q2 : W.cell? ⟨pb, 2, none⟩ = some (.int .i64 k.2.2.1) := by rw [Lib.cell_of_heap h]; rfl
  have q3 : W.cell? ⟨pb, 3, none⟩ = some (.int .i64 k.2.2.2) := by rw [Lib.cell_of_heap h]; rfl
  simp only [execOp, ho, hx]
  go_simp
set_option maxHeartbeats 8000000 in
theorem hpath_any (k : Kd) (s : Int) (w : World) (hk : Fine4 k) (hs : I64 s) :
    Calls Try.prog 13 #[kidsV k, .int .i64 s] w fun e w' => ∃ v, e = .returned v ∧ Own w' w.heap.size v (pathH (ofH k) s (manyH s)) ∧ Below w.heap.size w w' := by
  have HK := Lib.hid hk
  obtain ⟨s1, s2⟩ := hs
  have hbk := (Below.refl w.heap.size w).alloc (Nat.le_refl _) (.cells #[.int .i64 k.1, .int .i64 k.2.1, .int .i64 k.2.2.1, .int .i64 k.2.2.2] 22)
  have hrk := heap_alloc_new w (.cells #[.int .i64 k.1, .int .i64 k.2.1, .int .i64 k.2.2.1, .int .i64 k.2.2.2] 22)
  clear hk
  by_cases c0 : 1 ≤ s ∧ s ≤ 4000
  · obtain ⟨n, rfl⟩ : ∃ n : Nat, s = n := ⟨s.toNat, by omega⟩
    have hmn : manyH (n : Int) = n := by unfold manyH; rw [if_pos c0]; simp
    rw [hmn]
    clear hmn
    have hn1 : 1 ≤ n ∧ n ≤ 4000 := by omega
    have hh := ofH_lt k
    have hof := fun W => of13_any k W HK.out
    unfold kidsV
    unfold kidsV at hof
    generalize ofH k = h at *
    go_enter Try.func13, Try.ntmps13
    go_wp2_with fail
    have HBK := Lib.hid hbk
    clear hbk
    have hszk : w.heap.size ≤ (w.alloc (.cells #[.int .i64 k.1, .int .i64 k.2.1, .int .i64 k.2.2.1, .int .i64 k.2.2.2] 22)).heap.size := by simp
    generalize w.alloc (.cells #[.int .i64 k.1, .int .i64 k.2.1, .int .i64 k.2.2.1, .int .i64 k.2.2.2] 22) = w1 at *
    refine region_calm_to (fun W => Below w1.heap.size w1 W) (fun (a0 a9 : Act) (w9 : World) => ∃ (M Hb Sb : Nat) (v : Value), a9 = ((((((((a0.put (some 11) (.int .i64 (n : Int))).put (some 13) (.agg #[.int .i64 k.1, .int .i64 k.2.1, .int .i64 k.2.2.1, .int .i64 k.2.2.2])).put (some 15) (.int .i64 (n : Int))).put (some 12) (.slice (some ⟨M, 0, none⟩) 0 n)).put (some 14) (.int .i64 (h : Int))).put (some 16) (.func (.func 20) #[] #[.pointer (some ⟨Sb, 0, none⟩), .pointer (some ⟨Hb, 0, none⟩)])).put (some 17) v).put (some 4) v) ∧ Own w9 w1.heap.size v (pathH h (n : Int) n) ∧ Below w1.heap.size w1 w9) (.calm 0 (.calm 2 (.calm 4 (.two 1 3 (.only 3 (.only 5 (.only 6 (.only 7 .done)))) (.two 1 5 (.only 5 (.only 6 (.only 7 .done))) (.only 1 (.only 6 (.only 7 .done)))))))) (by kernel_rfl) (by kernel_rfl) (by kernel_rfl) (by rfl) (below_drew _) ?_ ?_
    · skip
      refine ⟨_, _, (.int .i64 (n : Int)), rfl, rfl, ⟨rfl, fun W hW => by first | exact ⟨rfl, rfl⟩ | (simp only [Act.eval, execOp]; go_simp; try exact ⟨rfl, rfl⟩)⟩, ?_⟩
      simp only [Act.put, List.getElem_toArray, List.getElem_cons_zero, List.getElem_cons_succ, List.setIfInBounds_toArray, List.set_cons_succ, List.set_cons_zero]
      refine ⟨_, _, (.agg #[.int .i64 k.1, .int .i64 k.2.1, .int .i64 k.2.2.1, .int .i64 k.2.2.2]), rfl, rfl, ⟨rfl, fun W hW => by exact load4_quiet W _ k ((hW.block _ (lt_heap6 hrk)).trans hrk) _ _ _ rfl rfl⟩, ?_⟩
      simp only [Act.put, List.getElem_toArray, List.getElem_cons_zero, List.getElem_cons_succ, List.setIfInBounds_toArray, List.set_cons_succ, List.set_cons_zero]
      refine ⟨_, _, (.int .i64 (n : Int)), rfl, rfl, ⟨rfl, fun W hW => by first | exact ⟨rfl, rfl⟩ | (simp only [Act.eval, execOp]; go_simp; try exact ⟨rfl, rfl⟩)⟩, ?_⟩
      simp only [Act.put, List.getElem_toArray, List.getElem_cons_zero, List.getElem_cons_succ, List.setIfInBounds_toArray, List.set_cons_succ, List.set_cons_zero]
      have hb0 := below_drew w1
      generalize w1.drew = x0 at *
      refine ⟨?_, ?_⟩
      · skip
        obtain ⟨x1, hmk, hof0, hg⟩ := makeC n (by omega) x0
        have hbx : Below x0.heap.size x0 x1 := ⟨hg.os, hg.tape, hg.output, hg.size, fun k hk => hg.block k hk (by simp)⟩
        obtain ⟨M, hMM⟩ : ∃ M, M = x0.heap.size := ⟨_, rfl⟩
        have hMx : x0.heap.size ≤ M := by omega
        have hMl : M < x1.heap.size := by rw [hMM]; exact (World.ownsRow.lt hof0 _ rfl).2
        rw [← hMM] at hmk hof0
        have hO := own_more hof0 (show w1.heap.size ≤ M by have := hb0.size; omega)
        clear hof0 hg hMM
        refine ⟨_, rfl, ?_⟩
        go_wp2_with fail
        clear hmk
        have hb1 := Qt.more hb0 hb0.size hbx
        have hss := hbx.size
        clear hbx hss
        refine ⟨rfl, hb1, ?_⟩
        refine ⟨_, rfl, ?_⟩
        go_wp2_with fail
        refine (hof x1).mono ?_
        rintro r x2 ⟨rfl, hbx⟩
        go_wp2_with fail
        have hb2 := Qt.more hb1 hb1.size hbx
        have hss := hbx.size
        replace hO := own_next hO hbx
        replace hMl : M < x2.heap.size := by omega
        clear hbx hss
        refine ⟨rfl, hb2, ?_⟩
        refine ⟨_, rfl, ?_⟩
        go_wp2_with fail
        refine (path13_at h n x2).mono ?_
        rintro r x3 ⟨Hb, Sb, rfl, g1, g2, g3, g4, hbx⟩
        go_wp2_with fail
        have hb3 := Qt.more hb2 hb2.size hbx
        have hne1 : Hb ≠ M := by omega
        have hne2 : Sb ≠ M := by omega
        have hss := hbx.size
        replace hO := own_next hO hbx
        replace hMl : M < x3.heap.size := by omega
        clear hbx hss
        refine ⟨rfl, hb3, ?_⟩
        refine ⟨_, rfl, ?_⟩
        go_wp2_with fail
        refine (appendSeq13_any w1.heap.size M Hb Sb h n x3 hO hb3.size hMl g3 g4 hne1 hne2 hh hn1).mono ?_
        rintro r x4 ⟨v9, rfl, ho9, hb9⟩
        go_wp2_with fail
        have hb4 : Below w1.heap.size w1 x4 := hb3.trans hb9
        refine ⟨rfl, hb4, ?_⟩
        refine ⟨_, rfl, ?_⟩
        go_wp2_with fail
        refine ⟨rfl, hb4, ?_⟩
        exact ⟨M, Hb, Sb, v9, rfl, ho9, hb4⟩
      · skip
        refine ⟨_, rfl, ?_⟩
        go_wp2_with fail
        refine (hof x0).mono ?_
        rintro r x1 ⟨rfl, hbx⟩
        go_wp2_with fail
        have hb1 := Qt.more hb0 hb0.size hbx
        have hss := hbx.size
        clear hbx hss
        refine ⟨rfl, hb1, ?_⟩
        refine ⟨?_, ?_⟩
        · skip
          obtain ⟨x2, hmk, hof0, hg⟩ := makeC n (by omega) x1
          have hbx : Below x1.heap.size x1 x2 := ⟨hg.os, hg.tape, hg.output, hg.size, fun k hk => hg.block k hk (by simp)⟩
          obtain ⟨M, hMM⟩ : ∃ M, M = x1.heap.size := ⟨_, rfl⟩
          have hMx : x1.heap.size ≤ M := by omega
          have hMl : M < x2.heap.size := by rw [hMM]; exact (World.ownsRow.lt hof0 _ rfl).2
          rw [← hMM] at hmk hof0
          have hO := own_more hof0 (show w1.heap.size ≤ M by have := hb1.size; omega)
          clear hof0 hg hMM
          refine ⟨_, rfl, ?_⟩
          go_wp2_with fail
          clear hmk
          have hb2 := Qt.more hb1 hb1.size hbx
          have hss := hbx.size
          clear hbx hss
          refine ⟨rfl, hb2, ?_⟩
          refine ⟨_, rfl, ?_⟩
          go_wp2_with fail
          refine (path13_at h n x2).mono ?_
          rintro r x3 ⟨Hb, Sb, rfl, g1, g2, g3, g4, hbx⟩
          go_wp2_with fail
          have hb3 := Qt.more hb2 hb2.size hbx
          have hne1 : Hb ≠ M := by omega
          have hne2 : Sb ≠ M := by omega
          have hss := hbx.size
          replace hO := own_next hO hbx
          replace hMl : M < x3.heap.size := by omega
          clear hbx hss
          refine ⟨rfl, hb3, ?_⟩
          refine ⟨_, rfl, ?_⟩
          go_wp2_with fail
          refine (appendSeq13_any w1.heap.size M Hb Sb h n x3 hO hb3.size hMl g3 g4 hne1 hne2 hh hn1).mono ?_
          rintro r x4 ⟨v9, rfl, ho9, hb9⟩
          go_wp2_with fail
          have hb4 : Below w1.heap.size w1 x4 := hb3.trans hb9
          refine ⟨rfl, hb4, ?_⟩
          refine ⟨_, rfl, ?_⟩
          go_wp2_with fail
          refine ⟨rfl, hb4, ?_⟩
          exact ⟨M, Hb, Sb, v9, rfl, ho9, hb4⟩
        · skip
          refine ⟨_, rfl, ?_⟩
          go_wp2_with fail
          refine (path13_at h n x1).mono ?_
          rintro r x2 ⟨Hb, Sb, rfl, g1, g2, g3, g4, hbx⟩
          go_wp2_with fail
          have hb2 := Qt.more hb1 hb1.size hbx
          have hss := hbx.size
          clear hbx hss
          refine ⟨rfl, hb2, ?_⟩
          obtain ⟨x3, hmk, hof0, hg⟩ := makeC n (by omega) x2
          have hbx : Below x2.heap.size x2 x3 := ⟨hg.os, hg.tape, hg.output, hg.size, fun k hk => hg.block k hk (by simp)⟩
          obtain ⟨M, hMM⟩ : ∃ M, M = x2.heap.size := ⟨_, rfl⟩
          have hMx : x2.heap.size ≤ M := by omega
          have hMl : M < x3.heap.size := by rw [hMM]; exact (World.ownsRow.lt hof0 _ rfl).2
          rw [← hMM] at hmk hof0
          have hO := own_more hof0 (show w1.heap.size ≤ M by have := hb2.size; omega)
          clear hof0 hg hMM
          refine ⟨_, rfl, ?_⟩
          go_wp2_with fail
          clear hmk
          have hb3 := Qt.more hb2 hb2.size hbx
          have hl1 := cell_lt g3
          have hl2 := cell_lt g4
          simp only at hl1 hl2
          have hne1 : Hb ≠ M := by omega
          have hne2 : Sb ≠ M := by omega
          have hss := hbx.size
          replace g3 := cell_next g3 hbx
          replace g4 := cell_next g4 hbx
          clear hbx hss
          refine ⟨rfl, hb3, ?_⟩
          refine ⟨_, rfl, ?_⟩
          go_wp2_with fail
          refine (appendSeq13_any w1.heap.size M Hb Sb h n x3 hO hb3.size hMl g3 g4 hne1 hne2 hh hn1).mono ?_
          rintro r x4 ⟨v9, rfl, ho9, hb9⟩
          go_wp2_with fail
          have hb4 : Below w1.heap.size w1 x4 := hb3.trans hb9
          refine ⟨rfl, hb4, ?_⟩
          refine ⟨_, rfl, ?_⟩
          go_wp2_with fail
          refine ⟨rfl, hb4, ?_⟩
          exact ⟨M, Hb, Sb, v9, rfl, ho9, hb4⟩
    · rintro a9 w9 ⟨M, Hb, Sb, v, rfl, ho, hb⟩
      have HF : Hid (Own w9 w.heap.size v (pathH h (n : Int) n) ∧ Below w.heap.size w w9) := ⟨own_more ho hszk, Qt.more HBK.out HBK.out.size hb⟩
      clear ho hb
      simp only [Act.put, List.getElem_toArray, List.getElem_cons_zero, List.getElem_cons_succ, List.setIfInBounds_toArray, List.set_cons_succ, List.set_cons_zero]
      go_wp2
      go_ret
      exact ⟨v, rfl, HF.out⟩
  · have hmn : manyH s = 0 := by unfold manyH; rw [if_neg c0]
    rw [hmn]
    have HB := Lib.hid hbk
    unfold kidsV
    by_cases c1 : s < 1
    · go_enter Try.func13, Try.ntmps13
      go_wp2_with fail
      all_goals go_ret
      all_goals exact ⟨_, rfl, World.ownsRow_nil _ _ _ _, HB.out⟩
    · have c2 : ¬ s ≤ 4000 := by omega
      go_enter Try.func13, Try.ntmps13
      go_wp2_with fail
      all_goals go_ret
      all_goals exact ⟨_, rfl, World.ownsRow_nil _ _ _ _, HB.out⟩
end Go.Proofs.Ytkneecdpkdnjfaa
namespace Go.Proofs.Ytkneecdpkdnjfaa
open Go.RowKit Go.Sort

theorem code_hi (s : ByteArray) (pos : Nat) (h : pos < s.size) (hb : 128 ≤ (s[pos]'h).toNat) : 128 ≤ (Utf8.decode s pos).1 := (decode_high s pos h hb).1

/-- byte k of a string, as a number -/
def byt (s : ByteArray) (k : Nat) : Nat := (s.data.toList.getD k 0).toNat
theorem byt_at (s : ByteArray) (k : Nat) (h : k < s.size) : (s[k]'h).toNat = byt s k := by
  unfold byt
  rw [List.getD_eq_getElem?_getD, List.getElem?_eq_getElem (by simpa using h)]
  rfl
theorem size_list (s : ByteArray) : s.size = s.data.toList.length := Array.length_toList.symm
theorem list_none {s : ByteArray} (h : s.size = 0) : s.toList = [] := by rw [ByteArray.toList_eq]; exact List.eq_nil_of_length_eq_zero (by rw [← size_list]; exact h)
theorem list_some {s : ByteArray} (h : 0 < s.size) : ¬ s.toList = [] := by rw [ByteArray.toList_eq]; intro e; have := size_list s; rw [e] at this; simp only [List.length_nil] at this; omega
theorem digs_to {s : ByteArray} {k : Nat} (h : k < s.size) (hk : ∀ j, j < k → 48 ≤ byt s j ∧ byt s j ≤ 57) (hd : 48 ≤ byt s k ∧ byt s k ≤ 57) : ∀ j, j < k + 1 → 48 ≤ byt s j ∧ byt s j ≤ 57 := by
  intro j hj
  by_cases e : j = k
  · subst e; exact hd
  · exact hk j (by omega)
theorem val_to {s : ByteArray} {k : Nat} (h : k < s.size) : val (s.data.toList.take (k + 1)) = 10 * val (s.data.toList.take k) + (byt s k - 48) := by
  rw [List.take_succ_eq_append_getElem (by simpa using h), val_snoc]
  unfold byt dv
  rw [List.getD_eq_getElem?_getD, List.getElem?_eq_getElem (by simpa using h)]
  rfl
theorem val_more {s : ByteArray} {k : Nat} (h : 4611686018427387903 < val (s.data.toList.take k)) : 4611686018427387903 < val s.data.toList := Nat.lt_of_lt_of_le h (val_mono k)

theorem parse_off {s : ByteArray} {k : Nat} (h : k < s.size) (hb : byt s k < 48 ∨ 57 < byt s k) : parseL s.data.toList = (0, 20) := by
  unfold parseL
  rw [if_pos]
  cases hbad : badL s.data.toList with
  | true => rfl
  | false =>
    have hm : s.data.toList.getD k 0 ∈ s.data.toList := by
      rw [List.getD_eq_getElem?_getD, List.getElem?_eq_getElem (by simpa using h)]
      exact List.getElem_mem _
    have := (digB_iff _).1 (((badL_iff _).1 hbad).2.2 _ hm)
    unfold byt at hb
    omega
theorem parse_none {s : ByteArray} (h : s.size = 0) : parseL s.data.toList = (0, 20) := by
  have : s.data.toList = [] := List.eq_nil_of_length_eq_zero (by rw [← size_list]; exact h)
  rw [this]
  rfl
theorem parse_zero {s : ByteArray} (h : 1 < s.size) (h0 : byt s 0 = 48) : parseL s.data.toList = (0, 20) := by
  unfold parseL
  rw [if_pos]
  unfold badL zeroB
  have e : s.data.toList.getD 0 0 = 48 := UInt8.toNat_inj.1 h0
  rw [e, decide_eq_true (by rw [← size_list]; exact h)]
  simp
theorem parse_all {s : ByteArray} (hp : 0 < s.size) (hz : ¬ (1 < s.size ∧ byt s 0 = 48)) (hk : ∀ j, j < s.size → 48 ≤ byt s j ∧ byt s j ≤ 57) : badL s.data.toList = false := by
  refine (badL_iff _).2 ⟨fun e => ?_, ?_, fun c hc => ?_⟩
  · have := size_list s; rw [e] at this; simp only [List.length_nil] at this; omega
  · unfold zeroB
    rw [Bool.and_eq_false_iff]
    rw [size_list] at hz
    by_cases h1 : 1 < s.data.toList.length
    · right
      rw [beq_eq_false_iff_ne]
      intro e
      exact hz ⟨h1, by unfold byt; rw [e]; rfl⟩
    · left; exact decide_eq_false h1
  · obtain ⟨j, hj, rfl⟩ := List.getElem_of_mem hc
    have := hk j (by rw [size_list]; exact hj)
    unfold byt at this
    rw [List.getD_eq_getElem?_getD, List.getElem?_eq_getElem hj] at this
    exact (digB_iff _).2 this
theorem parse_big {l : List UInt8} (hb : badL l = false) (hv : 4611686018427387903 < val l) : parseL l = (0, 21) := by
  unfold parseL; rw [hb, if_neg (by decide), if_pos hv]
theorem parse_ok {l : List UInt8} (hb : badL l = false) (hv : ¬ 4611686018427387903 < val l) : parseL l = ((val l : Int), 0) := by
  unfold parseL; rw [hb, if_neg (by decide), if_neg hv]

def ParseR (p : Int × Int) (w : World) (e : Ending) (w' : World) : Prop := e = .returned (.tuple #[.int .i64 p.1, .int .i64 p.2]) ∧ Below w.heap.size w w'

/-- What is known of the number at byte k: it is the value of the bytes ahead, or these are too great. -/
def At (s : ByteArray) (k n : Nat) (big : Bool) : Prop := (∀ j, j < k → 48 ≤ byt s j ∧ byt s j ≤ 57) ∧ (big = false → n = val (s.data.toList.take k)) ∧ (big = true → 4611686018427387903 < val (s.data.toList.take k))

end Go.Proofs.Ytkneecdpkdnjfaa
namespace Go.Proofs.Ytkneecdpkdnjfaa
open Go.RowKit Go.Sort

theorem now_one (w : World) (T : Nat) (x : Int) : Now (w.alloc (.cells #[.int .i64 x] T)) (some ⟨w.heap.size, 0, none⟩) [x] := fun j hj => by
  have hj1 : j = 0 := by simp at hj; omega
  subst hj1
  exact ⟨w.heap.size, 0, rfl, by simp, by simp⟩
theorem now_two (w : World) (T : Nat) (x y : Int) : Now (w.alloc (.cells #[.int .i64 x, .int .i64 y] T)) (some ⟨w.heap.size, 0, none⟩) [x, y] := fun j hj => by
  have hj2 : j < 2 := hj
  refine ⟨w.heap.size, 0, rfl, by simp, ?_⟩
  match j, hj2 with
  | 0, _ => simp
  | 1, _ => simp

theorem txt_120 : txt 120 = ⟨#[49, 50, 48]⟩ := by
  unfold txt txtL
  rw [if_pos (by omega), show (120 : Int).toNat = 120 from rfl, dec_big (by omega), dec_big (by omega), dec_small (by omega)]
  rfl
theorem txt_neg : txt (-1) = ⟨#[]⟩ := by unfold txt txtL; rw [if_neg (by omega)]
theorem i64_small {x : Int} (h : -1000 ≤ x ∧ x ≤ 1000) : I64 x := by unfold I64; omega

end Go.Proofs.Ytkneecdpkdnjfaa
namespace Go.Proofs.Ytkneecdpkdnjfaa
open Go.RowKit Go.Sort

theorem now_three (w : World) (T : Nat) (x y z : Int) : Now (w.alloc (.cells #[.int .i64 x, .int .i64 y, .int .i64 z] T)) (some ⟨w.heap.size, 0, none⟩) [x, y, z] := fun j hj => by
  have hj2 : j < 3 := hj
  refine ⟨w.heap.size, 0, rfl, by simp, ?_⟩
  match j, hj2 with
  | 0, _ => simp
  | 1, _ => simp
  | 2, _ => simp
theorem txt_data {u : Nat} (h : u ≤ 4611686018427387903) : (txt (u : Int)).data.toList = Lib.decDigits u := by
  unfold txt
  rw [txtL_nat h]
theorem txt_small_size (n : Int) : (txt n).size ≤ maxLen := by
  have := txtL_len n
  have h : (txt n).size ≤ 19 := by
    show (txtL n).toArray.size ≤ 19
    simpa using this
  unfold maxLen
  omega
theorem parse_txt {u : Nat} (h : u ≤ 4611686018427387903) : parseL (txt (u : Int)).data.toList = ((u : Int), 0) := by rw [txt_data h, parse_dec h]
theorem rises_at {l : List Int} (h : l.Pairwise (· < ·)) {j : Nat} (hj : j + 1 < l.length) : l.getD j 0 < l.getD (j + 1) 0 := by
  rw [List.getD_eq_getElem?_getD, List.getD_eq_getElem?_getD, List.getElem?_eq_getElem hj, List.getElem?_eq_getElem (show j < l.length by omega)]
  exact List.pairwise_iff_getElem.1 h j (j + 1) (by omega) hj (by omega)
theorem getD_mem {l : List Int} {j : Nat} (hj : j < l.length) : l.getD j 0 ∈ l := by
  rw [List.getD_eq_getElem?_getD, List.getElem?_eq_getElem hj]
  exact List.getElem_mem _

end Go.Proofs.Ytkneecdpkdnjfaa
namespace Go.Proofs.Ytkneecdpkdnjfaa
open Go.RowKit Go.Sort

/-- the raw numbers that the law makes a list of, at most b of them, each below d -/
def rawTo (d : Int) (raw : List Int) (k : Nat) : List Int := (raw.take k).map fun c => pickI c d
theorem length_rawTo (d : Int) (raw : List Int) (k : Nat) : (rawTo d raw k).length = min k raw.length := by simp [rawTo]
theorem rawTo_succ {d : Int} {raw : List Int} {k : Nat} (h : k < raw.length) : rawTo d raw (k + 1) = rawTo d raw k ++ [pickI (raw.getD k 0) d] := by
  unfold rawTo
  rw [List.take_succ_eq_append_getElem h, List.map_append, List.getD_eq_getElem?_getD, List.getElem?_eq_getElem h]
  rfl
theorem rawTo_bd {d : Int} (hd : 1 ≤ d) {raw : List Int} {k : Nat} : ∀ e ∈ rawTo d raw k, 0 ≤ e ∧ e < d := by
  intro e he
  obtain ⟨c, _, rfl⟩ := List.mem_map.1 he
  exact pickI_bd c d hd
theorem total_le {l : List Int} {m : Nat} (h : ∀ e ∈ l, 0 ≤ e ∧ e ≤ m) : total l ≤ l.length * 2 ^ m := by
  induction l with
  | nil => simp [total]
  | cons e l ih =>
    have h0 := h e List.mem_cons_self
    have h1 := ih fun d hd => h d (List.mem_cons_of_mem _ hd)
    have h2 := Nat.pow_le_pow_right (n := 2) (by decide) (show e.toNat ≤ m by omega)
    have h3 : total (e :: l) = 2 ^ e.toNat + total l := by simp [total]
    rw [h3, List.length_cons, Nat.add_mul]
    omega

/-! ### pieces of a slice that the call has made -/
def Shape (A : Option Addr) (n c : Nat) : Prop := (A = none ∧ c = 0 ∧ n = 0) ∨ ∃ g, A = some ⟨g, 0, none⟩
theorem own_parts {w : World} {B : Nat} {v : Value} {l : List Int} (h : Own w B v l) : ∃ A c, v = .slice A l.length c ∧ l.length ≤ c ∧ c ≤ maxLen ∧ Now w A l ∧ Shape A l.length c := by
  obtain ⟨A, c, rfl, hc, hN⟩ := Own.reads h
  rcases h.2 with ⟨he, h0⟩ | ⟨g, cap, cur, he, _, _, _, hcap, _, _⟩
  · simp only [Value.slice.injEq] at he
    exact ⟨A, c, rfl, hc, by rw [he.2.2]; unfold maxLen; omega, hN, .inl ⟨he.1, he.2.2, he.2.1⟩⟩
  · simp only [Value.slice.injEq] at he
    exact ⟨A, c, rfl, hc, by rw [he.2.2]; exact hcap, hN, .inr ⟨g, he.1⟩⟩
theorem now_drop {w : World} {b off : Nat} {l : List Int} (h : Now w (some ⟨b, off, none⟩) l) {t : Nat} (ht : t < l.length) : Now w (some ⟨b, off + t, none⟩) (l.drop t) := by
  intro j hj
  rw [List.length_drop] at hj
  obtain ⟨b', off', e, hlt, h0⟩ := h (t + j) (by omega)
  simp only [Option.some.injEq, Addr.mk.injEq, and_true] at e
  obtain ⟨rfl, rfl⟩ := e
  refine ⟨b, off + t, rfl, hlt, ?_⟩
  rw [Nat.add_assoc, h0]
  simp [List.getD_eq_getElem?_getD, List.getElem?_drop]
theorem now_take {w : World} {A : Option Addr} {l : List Int} (h : Now w A l) (t : Nat) : Now w A (l.take t) := by
  intro j hj
  rw [List.length_take] at hj
  obtain ⟨b, off, e, hlt, h0⟩ := h j (by omega)
  refine ⟨b, off, e, hlt, ?_⟩
  rw [h0]
  simp [List.getD_eq_getElem?_getD, List.getElem?_take, show j < t by omega]

theorem slice_from {w : World} {A : Option Addr} {l : List Int} {n c t : Nat} (hs : Shape A n c) (hN : Now w A l) (hn : n = l.length) (ht : t ≤ n) (hc : n ≤ c) (hm : c ≤ maxLen) :
    ∃ AT cT, Now w AT (l.drop t) ∧ n - t ≤ cT ∧ ∀ W, (Instr.slice 25 (.slice A n c) (some (.int .i64 (t : Int))) none none).run Try.prog W = .ok (.slice AT (n - t) cT) W := by
  subst hn
  unfold maxLen at hm
  rcases hs with ⟨rfl, rfl, h0⟩ | ⟨g, rfl⟩
  · obtain rfl : l = [] := List.eq_nil_of_length_eq_zero h0
    obtain rfl : t = 0 := by simpa using ht
    refine ⟨none, 0, Rd.nil _ _ _, by simp, fun W => ?_⟩
    go_simp
  · refine ⟨if c = t then (some ⟨g, 0, none⟩ : Option Addr) else some ⟨g, t, none⟩, c - t, ?_, by omega, fun W => ?_⟩
    · by_cases htl2 : t < l.length
      · rw [if_neg (by omega)]
        have := now_drop hN htl2
        rwa [Nat.zero_add] at this
      · rw [List.drop_eq_nil_of_le (by omega)]
        exact Rd.nil _ _ _
    · go_simp
theorem slice_to {A : Option Addr} {n c t : Nat} (hs : Shape A n c) (ht : t ≤ n) (hc : n ≤ c) (hm : c ≤ maxLen) :
    ∀ W, (Instr.slice 25 (.slice A n c) none (some (.int .i64 (t : Int))) none).run Try.prog W = .ok (.slice A t c) W := by
  unfold maxLen at hm
  intro W
  rcases hs with ⟨rfl, rfl, rfl⟩ | ⟨g, rfl⟩
  · obtain rfl : t = 0 := by omega
    go_simp
  · have htc : t ≤ c := by omega
    go_simp

theorem exec_from {o : Oper} {ev : Operand → Value} {x y : Operand} {v i r : Value} (ho : o.op = .slice 25 x (some y) none none) (hx : ev x = v) (hy : ev y = i) (h : ∀ W, (Instr.slice 25 v (some i) none none).run Try.prog W = .ok r W) (w : World) : (execOp ev o).run Try.prog w = .ok (.value r) w := by
  simp [execOp, ho, hx, hy, Result.andThen, run_sliceAt_slice (P := Try.prog) w 25 _ _ _ _ (by kernel_rfl), h]
theorem exec_to {o : Oper} {ev : Operand → Value} {x y : Operand} {v i r : Value} (ho : o.op = .slice 25 x none (some y) none) (hx : ev x = v) (hy : ev y = i) (h : ∀ W, (Instr.slice 25 v none (some i) none).run Try.prog W = .ok r W) (w : World) : (execOp ev o).run Try.prog w = .ok (.value r) w := by
  simp [execOp, ho, hx, hy, Result.andThen, run_sliceAt_slice (P := Try.prog) w 25 _ _ _ _ (by kernel_rfl), h]

/-- append of two pieces to nothing -/
theorem turn_any {w : World} {A A' : Option Addr} {l m : List Int} (c c' : Nat) (hl : Now w A l) (hm : Now w A' m) (hlen : l.length + m.length ≤ 1000) :
    ∃ v1 w1 v2 w2, (Builtin.append_ #[25, 25] 25 #[.slice none 0 0, .slice A l.length c]).run Try.prog w = .ok v1 w1 ∧
      (Builtin.append_ #[25, 25] 25 #[v1, .slice A' m.length c']).run Try.prog w1 = .ok v2 w2 ∧ Hid (Own w2 w.heap.size v2 (l ++ m)) ∧ Below w.heap.size w w2 := by
  have h0 : Own w w.heap.size (.slice none 0 0) [] := World.ownsRow_nil _ _ _ _
  obtain ⟨v1, w1, r1, o1, g1⟩ := app_any (w := w) (v := .slice none 0 0) (out := []) c (Nat.le_refl _) h0 hl (by simp; omega)
  have b1 : Below w.heap.size w w1 := (Below.refl _ _).grown g1 (Nat.le_refl _) (fun k e => by cases e)
  obtain ⟨v2, w2, r2, o2, g2⟩ := app_any c' b1.size o1 (hm.below b1) (by simp; omega)
  have b2 : Below w.heap.size w w2 := b1.grown g2 b1.size (fun k e => (World.ownsRow.lt o1 k e).1)
  exact ⟨v1, w1, v2, w2, r1, r2, o2, b2⟩

/-- the list of at most 40 numbers below 50, in two parts -/
structure Parts (l : List Int) (t ta tb : Nat) : Prop where
  one : sumL (l.take t) = ((ta : Int), 0)
  two : sumL (l.drop t) = ((tb : Int), 0)
  all : sumL l = ((ta : Int) + (tb : Int), 0)
  turned : sumL (l.drop t ++ l.take t) = ((ta : Int) + (tb : Int), 0)
  small : ta + tb ≤ 22517998136852480
theorem parts_of {l : List Int} (hl : l.length ≤ 40) (h : ∀ e ∈ l, 0 ≤ e ∧ e < 50) (t : Nat) : Parts l t (total (l.take t)) (total (l.drop t)) := by
  have h61 : ∀ e ∈ l, 0 ≤ e ∧ e ≤ 61 := fun e he => by have := h e he; omega
  have htot : total (l.take t) + total (l.drop t) = total l := by rw [← total_append, List.take_append_drop]
  have hb : total l ≤ 22517998136852480 := by
    have h1 := total_le (m := 49) (l := l) (fun e he => by have := h e he; omega)
    have h2 : (2 : Nat) ^ 49 = 562949953421312 := by decide
    rw [h2] at h1
    have h3 : l.length * 562949953421312 ≤ 40 * 562949953421312 := Nat.mul_le_mul_right _ hl
    omega
  refine ⟨sumL_ok (fun e he => h61 e (List.mem_of_mem_take he)) (by omega), sumL_ok (fun e he => h61 e (List.mem_of_mem_drop he)) (by omega), ?_, ?_, by omega⟩
  · rw [sumL_ok h61 (by omega), ← htot]
    simp
  · rw [sumL_ok (fun e he => by
      rcases List.mem_append.1 he with h1 | h1
      · exact h61 e (List.mem_of_mem_drop h1)
      · exact h61 e (List.mem_of_mem_take h1)) (by rw [total_append]; omega), total_append]
    simp
    omega
theorem small_i64 {l : List Int} (h : ∀ e ∈ l, 0 ≤ e ∧ e < 50) : ∀ e ∈ l, I64 e := fun e he => by have := h e he; exact i64_small (by omega)

end Go.Proofs.Ytkneecdpkdnjfaa
namespace Go.Proofs.Ytkneecdpkdnjfaa
set_option maxRecDepth 100000
set_option linter.unusedVariables false
set_option linter.unusedSimpArgs false
open Go.RowKit Go.Sort

set_option maxHeartbeats 8000000 in
theorem ref13Path_any (k : Kd) (s : Int) (w : World) (hk : Fine4 k) (hs : I64 s) :
    Calls Try.prog 14 #[kidsV k, .int .i64 s] w fun e w' => ∃ v, e = .returned v ∧ Own w' w.heap.size v (pathH (ofH k) s (manyH s)) ∧ Below w.heap.size w w' := by
  have HK := Lib.hid hk
  have HS := Lib.hid hs
  obtain ⟨s1, s2⟩ := hs
  have HB : Hid (Own (w.alloc (.cells #[.int .i64 k.1, .int .i64 k.2.1, .int .i64 k.2.2.1, .int .i64 k.2.2.2] 22)) (w.heap.size + 1) (.slice none 0 0) (pathH (ofH k) s 0) ∧ (w.alloc (.cells #[.int .i64 k.1, .int .i64 k.2.1, .int .i64 k.2.2.1, .int .i64 k.2.2.2] 22)).heap[w.heap.size]? = some (.cells #[.int .i64 k.1, .int .i64 k.2.1, .int .i64 k.2.2.1, .int .i64 k.2.2.2] 22 (0, 0)) ∧ Below w.heap.size w (w.alloc (.cells #[.int .i64 k.1, .int .i64 k.2.1, .int .i64 k.2.2.1, .int .i64 k.2.2.2] 22))) :=
    ⟨World.ownsRow_nil _ _ _ _, heap_alloc_new w _, (Below.refl _ _).alloc (Nat.le_refl _) _⟩
  have hof := fun W => ref13Of_any k W HK.out
  have HOF := Lib.hid hof
  have hh := ofH_lt k
  have hml := manyH_le s
  clear hk hof
  unfold kidsV at HOF ⊢
  go_enter Try.func14, Try.ntmps14
  go_wp2_with fail
  go_loopw [5, 6] (fun out i wr => ∃ j : Nat, j ≤ manyH s ∧ i = .int .i64 j ∧ Hid (Own wr (w.heap.size + 1) out (pathH (ofH k) s j) ∧ wr.heap[w.heap.size]? = some (.cells #[.int .i64 k.1, .int .i64 k.2.1, .int .i64 k.2.2.1, .int .i64 k.2.2.2] 22 (0, 0)) ∧ Below w.heap.size w wr)) (fun _ i _ => manyH s - (intOf i).toNat)
  case atStart => exact ⟨0, Nat.zero_le _, rfl, HB.out⟩
  case round =>
    obtain ⟨j, hj, rfl, HH⟩ := hrel
    by_cases hlt : j < manyH s
    · have hms : 1 ≤ s ∧ s ≤ 4000 ∧ (j : Int) < s := by
        unfold manyH at hlt
        split at hlt <;> omega
      obtain ⟨m1, m2, m3⟩ := hms
      obtain ⟨ho, hr, hb⟩ := HH.out
      have c0 : wr.cell? ⟨w.heap.size, 0, none⟩ = some (.int .i64 k.1) := by rw [Lib.cell_of_heap hr]; rfl
      have c1 : wr.cell? ⟨w.heap.size, 1, none⟩ = some (.int .i64 k.2.1) := by rw [Lib.cell_of_heap hr]; rfl
      have c2 : wr.cell? ⟨w.heap.size, 2, none⟩ = some (.int .i64 k.2.2.1) := by rw [Lib.cell_of_heap hr]; rfl
      have c3 : wr.cell? ⟨w.heap.size, 3, none⟩ = some (.int .i64 k.2.2.2) := by rw [Lib.cell_of_heap hr]; rfl
      have HL := Lib.hid hlt
      have HM := Lib.hid (And.intro hj hml)
      have hjz : (j : Int) < 4000 := by omega
      clear ho hr hb hj hml hlt
      go_wp2_with fail
      refine (HOF.out wr).mono ?_
      rintro e w2 ⟨rfl, hb2⟩
      have hsl := ref13Slot_any (ofH k : Int) (j : Int) s w2 ⟨by omega, by omega⟩ ⟨by omega, by omega⟩ HS.out
      have hf := slot_i64 (ofH k) j s
      obtain ⟨h1, h2, h3⟩ := HH.out
      have ho2 := own_next h1 hb2
      have hr2 := (hb2.block _ (lt_heap6 h2)).trans h2
      have hb3 := Qt.more h3 h3.size hb2
      obtain ⟨v', w3, hrun, hown, hb4⟩ := push_any (slotH (ofH k) j s) (show w.heap.size + 1 ≤ w2.heap.size from lt_heap6 hr2) ho2 (by rw [pathH_len]; have := HM.out; have := HL.out; omega)
      rw [← pathH_succ] at hown
      have hr3 := hr2
      have HRun := Lib.hid hrun
      have HSL := Lib.hid hsl
      have HR3 : Hid (Own w3 (w.heap.size + 1) v' (pathH (ofH k) s (j + 1)) ∧ w3.heap[w.heap.size]? = some (.cells #[.int .i64 k.1, .int .i64 k.2.1, .int .i64 k.2.2.1, .int .i64 k.2.2.2] 22 (0, 0)) ∧ Below w.heap.size w w3) := ⟨hown, (hb4.block _ (by omega)).trans hr2, hb3.trans (hb4.mono (by omega))⟩
      clear hrun hsl ho2 hr2 hr3 hown hb4 hb3 h1 h2 h3 hb2 c0 c1 c2 c3
      generalize slotH (ofH k) j s = x at *
      go_wp2_with fail
      refine HSL.out.mono ?_
      rintro e w2' ⟨rfl, rfl⟩
      go_wp2_with (at_builtin; refine Lib.wpList_append_run _ rfl (.tmp 16) (.tmp 22) 25 25 rfl _ _ rfl rfl _ _ HRun.out ?_)
      go_roundw
      case measure => have := HL.out; simp [intOf]; omega
      case rel =>
        exact ⟨j + 1, HL.out, by go_num, HR3.out⟩
    · obtain rfl : j = manyH s := by omega
      obtain ⟨ho, hr, hb⟩ := HH.out
      have HF := Lib.hid (And.intro (own_more ho (show w.heap.size ≤ w.heap.size + 1 by omega)) hb)
      have hcase : ¬ ((manyH s : Int) < s ∧ s ≤ 4000) := by
        unfold manyH
        split <;> omega
      by_cases c1 : (manyH s : Int) < s
      · have c2 : ¬ s ≤ 4000 := fun h => hcase ⟨c1, h⟩
        clear ho hr hb hcase
        go_wp2_with fail
        go_ret
        exact ⟨u5, rfl, HF.out⟩
      · clear ho hr hb hcase
        go_wp2_with fail
        go_ret
        exact ⟨u5, rfl, HF.out⟩
end Go.Proofs.Ytkneecdpkdnjfaa
