/-
  Texts that the claims of this seat share, part 3.
-/
import Derived.Test.YthfbcjbiemdedaaB02
import Derived.Lib.Hide
import Derived.Test.YthfbcjbiemdedaaRows
import Derived.Test.YthfbcjbiemdedaaB00
import Derived.WalkKit
import Derived.WalkSpells
import Derived.WalkLawsBesides
import Derived.WalkArith
import Derived.IntWalk
import Derived.Lib.AppendZerosOnto
import Derived.Lib.QuietBelow
set_option linter.unusedVariables false
set_option linter.unusedSimpArgs false
namespace Go.Proofs.Ythfbcjbiemdedaa.Qt
open Go Go.Sort Go.RowKit

inductive Scc where
  | done : Scc
  | calm : Nat → Scc → Scc
  | only : Nat → Scc → Scc
  | two : Nat → Nat → Scc → Scc → Scc
  | three : Nat → Nat → Nat → Scc → Scc → Scc → Scc
def Scc.len : Scc → Nat
  | .done => 0
  | .calm _ s => s.len + 1
  | .only _ s => s.len + 1
  | .two _ _ s _ => s.len + 1
  | .three _ _ _ s _ _ => s.len + 1

section
variable {P : Program} {ops : Array Oper} {md : Region.Mode} {C : World → Prop}

/-- In every world of the class it leaves the world as it is, and yields v. -/
def CalmV (P : Program) (ops : Array Oper) (C : World → Prop) (o : Oper) (v : Value) (a : Act) : Prop :=
  Region.wanted o (yielded ops a.tmps) = true ∧ ∀ W, C W → Oper.quietUpon P (fun w' => w' = W) W v ((execOp a.eval o).run P W)

theorem CalmV.op {i : Nat} {oi : Oper} {v : Value} {a : Act} (hi : ops[i]? = some oi) (hp : CalmV P ops C oi v a) {K : Act → World → Prop} {Q : Exit → Act → World → Prop} {w : World} (hw : C w) (h : K (a.put oi.dst v) w) : wpOp P ops Q i K a w := by
  unfold wpOp
  simp only [hi, hp.1, if_true]
  left
  refine Oper.wp_of_quiet (C := fun w' => w' = w) (K := fun a' => a' = a.put oi.dst v) rfl (fun a' w' hw' ha' => ?_) ⟨v, fun W hW => ?_, rfl⟩
  · subst hw' ha'
    exact h
  · subst hW
    exact hp.2 W hw

theorem wpOp_keep {j : Nat} {oi oj : Oper} {v : Value} (R : Act → Prop) (hj : ops[j]? = some oj) (hap : oi.apart ops oj = true) (hsi : ∀ cs b, oi.op ≠ .select cs b) (hsj : ∀ cs b, oj.op ≠ .select cs b) {K : Act → World → Prop} {Kf : Act → World → Prop} {a : Act} {w : World}
    (keep : ∀ (a : Act) u, R a → R (a.put oj.dst u)) (hd : ∀ (a : Act) ds, R a → R { a with defers := ds })
    (hp : R a) (h : wpOp P ops (Qn Kf) j K (a.put oi.dst v) w) : wpOp P ops (Qn Kf) j (fun a' w' => R a' ∧ K (a'.put oi.dst v) w') a w := by
  obtain ⟨h1, h2, h3⟩ := Oper.apart_spec hap
  unfold wpOp at *
  simp only [hj] at *
  rw [wanted_put oj a oi.dst v h1] at h
  split
  · rename_i hw
    simp only [hw, if_true] at h
    rcases h with h | h
    · left
      unfold Oper.wp at *
      rw [execOp_put oj hsj a oi.dst v h1] at h
      exact upon_put (R := R) (fun a u => Act.put_comm a v u h2) keep hd hp _ h
    · exact (no_letsOut h.2).elim
  · rename_i hw
    simp only [hw] at h
    exact ⟨keep _ _ hp, by rw [← Act.put_comm a v undef h2]; exact h⟩

/-- whatever order is picked; each world is one of the class -/
def wpAnyC (P : Program) (md : Region.Mode) (ops : Array Oper) (C : World → Prop) (Kf : Act → World → Prop) : Nat → Array Bool → Act → World → Prop
  | 0, listed, a, w => Region.ready md ops listed = [] ∧ Kf a w
  | f + 1, listed, a, w => Region.ready md ops listed ≠ [] ∧ ∀ i ∈ Region.ready md ops listed, wpOp P ops (Qn fun _ _ => False) i (fun a' w' => C w' ∧ wpAnyC P md ops C Kf f (listed.setIfInBounds i true) a' w') a w

theorem any_of_C {Kf : Act → World → Prop} (f : Nat) : ∀ listed a w, wpAnyC P md ops C Kf f listed a w → wpAny P md ops (Qn Kf) f listed a w := by
  induction f with
  | zero => intro listed a w h; exact ⟨h.1, rfl, h.2⟩
  | succ f ih => intro listed a w h; exact ⟨fun h0 => absurd h0 h.1, fun i hi => wpOp_qn (fun a' w' h' => ih _ a' w' h'.2) (h.2 i hi)⟩

theorem calm_first {Kf : Act → World → Prop} {i : Nat} {oi : Oper} {v : Value} (hi : ops[i]? = some oi) (hsel : ∀ (j : Nat) (o : Oper) cs b, ops[j]? = some o → o.op ≠ .select cs b) (f : Nat) :
    ∀ (listed : Array Bool) (a : Act) (w : World), C w →
      (∀ j oj, ops[j]? = some oj → j ≠ i → listed.getD j true = false → (∀ e ∈ oj.after, Region.binds md e = true → e.on ≠ i) → oi.apart ops oj = true) →
      i ∈ Region.ready md ops listed → CalmV P ops C oi v a →
      wpAnyC P md ops C Kf f (listed.setIfInBounds i true) (a.put oi.dst v) w → wpAnyC P md ops C Kf (f + 1) listed a w := by
  induction f with
  | zero =>
    intro listed a w hC _ hr hp H
    refine ⟨fun h => (by rw [h] at hr; cases hr), fun j hj => ?_⟩
    by_cases hji : j = i
    · subst hji; exact hp.op hi hC ⟨hC, H⟩
    · have := ready_mono hj hji
      rw [H.1] at this
      cases this
  | succ f ih =>
    intro listed a w hC hfree hr hp H
    refine ⟨fun h => (by rw [h] at hr; cases hr), fun j hj => ?_⟩
    by_cases hji : j = i
    · subst hji; exact hp.op hi hC ⟨hC, H⟩
    · obtain ⟨hjun, oj, hoj, hall⟩ := mem_ready.1 hj
      have hun := (mem_ready.1 hr).1
      have hnot : ∀ e ∈ oj.after, Region.binds md e = true → e.on ≠ i := fun e he hb heq => by
        have h1 := hall e he hb
        rw [heq, getD_both hun] at h1
        cases h1
      have hap := hfree j oj hoj hji hjun hnot
      obtain ⟨h1, h2, h3⟩ := Oper.apart_spec hap
      have keep : ∀ (a : Act) u, CalmV P ops C oi v a → CalmV P ops C oi v (a.put oj.dst u) := fun a u hp => by
        unfold CalmV at *
        rw [execOp_put oi (fun cs b => hsel i oi cs b hi) a oj.dst u h3, wanted_put oi a oj.dst u h3]
        exact hp
      refine wpOp_mono (fun a' w' h3 => ⟨h3.2.1, ih (listed.setIfInBounds j true) a' w' h3.2.1 (fun k ok hk hki hku hno => hfree k ok hk hki ?_ hno) (ready_mono hr (Ne.symm hji)) h3.1 ?_⟩)
        (wpOp_keep (CalmV P ops C oi v) hoj hap (fun cs b => hsel i oi cs b hi) (fun cs b => hsel j oj cs b hoj) keep (fun _ _ h => h) hp (H.2 j (ready_mono hj hji)))
      · by_cases hjk : j = k
        · subst hjk; exact hjun
        · rwa [getD_set_ne true hjk] at hku
      · rw [Array.setIfInBounds_comm _ _ hji]; exact h3.2.2

def treeCB (md : Region.Mode) (ops : Array Oper) : Scc → Array Bool → Bool
  | .done, listed => (Region.ready md ops listed).isEmpty
  | .calm k s, listed => (Region.ready md ops listed).contains k && Region.free md ops listed k && treeCB md ops s (listed.setIfInBounds k true)
  | .only k s, listed => decide (Region.ready md ops listed = [k]) && treeCB md ops s (listed.setIfInBounds k true)
  | .two j k s t, listed => decide (Region.ready md ops listed = [j, k]) && decide (s.len = t.len) && treeCB md ops s (listed.setIfInBounds j true) && treeCB md ops t (listed.setIfInBounds k true)
  | .three i j k r s t, listed => decide (Region.ready md ops listed = [i, j, k]) && decide (r.len = s.len) && decide (r.len = t.len) && treeCB md ops r (listed.setIfInBounds i true) && treeCB md ops s (listed.setIfInBounds j true) && treeCB md ops t (listed.setIfInBounds k true)
def treeCW (P : Program) (ops : Array Oper) (C : World → Prop) (Kf : Act → World → Prop) : Scc → Act → World → Prop
  | .done, a, w => Kf a w
  | .calm k s, a, w => ∃ (o : Oper) (d : Option Tmp) (v : Value), ops[k]? = some o ∧ o.dst = d ∧ CalmV P ops C o v a ∧ treeCW P ops C Kf s (a.put d v) w
  | .only k s, a, w => ∃ o : Oper, ops[k]? = some o ∧ wpList P ops (Qn fun a w => C w ∧ treeCW P ops C Kf s a w) [o] a w
  | .two j k s t, a, w => (∃ o : Oper, ops[j]? = some o ∧ wpList P ops (Qn fun a w => C w ∧ treeCW P ops C Kf s a w) [o] a w) ∧ ∃ o : Oper, ops[k]? = some o ∧ wpList P ops (Qn fun a w => C w ∧ treeCW P ops C Kf t a w) [o] a w
  | .three i j k r s t, a, w => (∃ o : Oper, ops[i]? = some o ∧ wpList P ops (Qn fun a w => C w ∧ treeCW P ops C Kf r a w) [o] a w) ∧ (∃ o : Oper, ops[j]? = some o ∧ wpList P ops (Qn fun a w => C w ∧ treeCW P ops C Kf s a w) [o] a w) ∧ ∃ o : Oper, ops[k]? = some o ∧ wpList P ops (Qn fun a w => C w ∧ treeCW P ops C Kf t a w) [o] a w

theorem op_of_list {Kf : Act → World → Prop} {k : Nat} {o : Oper} {s : Scc} {listed : Array Bool} {a : Act} {w : World} {n : Nat} (ho : ops[k]? = some o) (h : wpList P ops (Qn fun a w => C w ∧ treeCW P ops C Kf s a w) [o] a w)
    (ih : ∀ a' w', C w' → treeCW P ops C Kf s a' w' → wpAnyC P md ops C Kf n (listed.setIfInBounds k true) a' w') :
    wpOp P ops (Qn fun _ _ => False) k (fun a' w' => C w' ∧ wpAnyC P md ops C Kf n (listed.setIfInBounds k true) a' w') a w := by
  have hw : wpOp P ops (Qn fun a w => C w ∧ treeCW P ops C Kf s a w) k (wpList P ops (Qn fun a w => C w ∧ treeCW P ops C Kf s a w) []) a w := by unfold wpOp; simp only [ho]; exact h
  exact wpOp_qn (fun a' w' h' => ⟨h'.2.1, ih a' w' h'.2.1 h'.2.2⟩) hw

theorem any_treeC {Kf : Act → World → Prop} (hsel : Region.noSelect ops = true) (s : Scc) :
    ∀ (listed : Array Bool) (a : Act) (w : World), C w → treeCB md ops s listed = true → treeCW P ops C Kf s a w → wpAnyC P md ops C Kf s.len listed a w := by
  induction s with
  | done =>
    intro listed a w _ hB h
    exact ⟨by simpa [treeCB] using hB, h⟩
  | calm k s ih =>
    intro listed a w hC hB h
    obtain ⟨o, d, v, ho, hd, hp, hrest⟩ := h
    subst hd
    simp only [treeCB, Bool.and_eq_true] at hB
    exact calm_first ho (Region.noSelect_spec hsel) _ listed a w hC (Region.free_spec ho hB.1.2) (by simpa using hB.1.1) hp (ih _ _ _ hC hB.2 hrest)
  | only k s ih =>
    intro listed a w hC hB h
    obtain ⟨o, ho, h⟩ := h
    simp only [treeCB, Bool.and_eq_true, decide_eq_true_eq] at hB
    refine ⟨fun h1 => (by rw [hB.1] at h1; cases h1), fun i hi => ?_⟩
    rw [hB.1] at hi
    obtain rfl : i = k := by simpa using hi
    exact op_of_list ho h (fun a' w' hc ht => ih _ a' w' hc hB.2 ht)
  | two j k s t ihs iht =>
    intro listed a w hC hB h
    obtain ⟨⟨o, ho, h1⟩, ⟨o', ho', h2⟩⟩ := h
    simp only [treeCB, Bool.and_eq_true, decide_eq_true_eq] at hB
    obtain ⟨⟨⟨hr, hl⟩, hs⟩, ht⟩ := hB
    refine ⟨fun h1 => (by rw [hr] at h1; cases h1), fun i hi => ?_⟩
    rw [hr] at hi
    simp only [List.mem_cons, List.not_mem_nil, or_false] at hi
    rcases hi with rfl | rfl
    · exact op_of_list ho h1 (fun a' w' hc h' => ihs _ a' w' hc hs h')
    · exact op_of_list ho' h2 (fun a' w' hc h' => by have := iht _ a' w' hc ht h'; rwa [← hl] at this)
  | three p j k r s t ihr ihs iht =>
    intro listed a w hC hB h
    obtain ⟨⟨o0, ho0, h0⟩, ⟨o, ho, h1⟩, ⟨o', ho', h2⟩⟩ := h
    simp only [treeCB, Bool.and_eq_true, decide_eq_true_eq] at hB
    obtain ⟨⟨⟨⟨⟨hr, hl⟩, hl2⟩, h3⟩, hs⟩, ht⟩ := hB
    refine ⟨fun h1 => (by rw [hr] at h1; cases h1), fun i hi => ?_⟩
    rw [hr] at hi
    simp only [List.mem_cons, List.not_mem_nil, or_false] at hi
    rcases hi with rfl | rfl | rfl
    · exact op_of_list ho0 h0 (fun a' w' hc h' => ihr _ a' w' hc h3 h')
    · exact op_of_list ho h1 (fun a' w' hc h' => by have := ihs _ a' w' hc hs h'; rwa [← hl] at this)
    · exact op_of_list ho' h2 (fun a' w' hc h' => by have := iht _ a' w' hc ht h'; rwa [← hl2] at this)

/-- A region that draws its order, by a script with calm operations, to what is known at its end. -/
theorem region_calm {id : Nat} {Q : Exit → Act → World → Prop} {a : Act} {w : World} {l : List Oper} (C : World → Prop) (R : Act → World → Prop) (s : Scc) (hm : P.follows .mixedOrders = true) (hsel : Region.noSelect l.toArray = true)
    (hB : treeCB .any l.toArray s (Array.replicate l.toArray.size false) = true) (hlen : s.len = l.length) (hC : C w.drew)
    (h : treeCW P l.toArray C R s a w.drew) (hQ : ∀ a' w', R a' w' → Q .normal a' w') : (Code.region id l.toArray true).wp P Q a w := by
  refine wp_region_any hm ?_
  have := any_of_C _ _ _ _ (any_treeC (P := P) (md := .any) (Kf := R) hsel s _ a w.drew hC hB h)
  rw [hlen] at this
  have e := any_qn hQ _ _ _ _ this
  simpa using e
end
end Go.Proofs.Ythfbcjbiemdedaa.Qt
namespace Go.Proofs.Ythfbcjbiemdedaa
set_option linter.unusedVariables false
open Go.RowKit Go.Sort

theorem below_drew (w : World) : Below w.heap.size w w.drew := ⟨rfl, rfl, rfl, Nat.le_refl _, fun k _ => rfl⟩
/-- A region that draws its order, by a script with calm operations, to what is known at its end. -/
theorem region_calm_to {P : Program} {id : Nat} {Q : Exit → Act → World → Prop} {a : Act} {w : World} {l : List Oper} (C : World → Prop) (R : Act → Act → World → Prop) (s : Qt.Scc) (hm : P.follows .mixedOrders = true) (hsel : Region.noSelect l.toArray = true)
    (hB : Qt.treeCB .any l.toArray s (Array.replicate l.toArray.size false) = true) (hlen : s.len = l.length) (hC : C w.drew)
    (h : Qt.treeCW P l.toArray C (R a) s a w.drew) (hQ : ∀ a' w', R a a' w' → Q .normal a' w') : (Code.region id l.toArray true).wp P Q a w :=
  Qt.region_calm C (R a) s hm hsel hB hlen hC h hQ
end Go.Proofs.Ythfbcjbiemdedaa
namespace Go.Proofs.Ythfbcjbiemdedaa
set_option maxRecDepth 100000
set_option linter.unusedVariables false
set_option linter.unusedSimpArgs false
open Go.RowKit Go.Sort

theorem now_lit4 (w : World) (a b c d : Int) : Now (w.alloc (.cells #[.int .i64 a, .int .i64 b, .int .i64 c, .int .i64 d] 3)) (some ⟨w.heap.size, 0, none⟩) [a, b, c, d] := fun j hj => by
  have hj1 : j = 0 ∨ j = 1 ∨ j = 2 ∨ j = 3 := by simp at hj; omega
  rcases hj1 with rfl | rfl | rfl | rfl
  all_goals exact ⟨w.heap.size, 0, rfl, by simp, by simp⟩
theorem nowA_lit2 (w : World) (T : TypeId) (x y : Ac) : NowA (w.alloc (.cells #[.int .i64 x.1, .int .i64 x.2.1, .int .i64 x.2.2.1, .int .i64 x.2.2.2, .int .i64 y.1, .int .i64 y.2.1, .int .i64 y.2.2.1, .int .i64 y.2.2.2] T)) (some ⟨w.heap.size, 0, none⟩) [x, y] := fun j hj => by
  have hj1 : j = 0 ∨ j = 1 := by simp at hj; omega
  rcases hj1 with rfl | rfl
  all_goals exact ⟨w.heap.size, 0, rfl, by simp, by simp, by simp, by simp, by simp⟩
theorem accs_two (n : Int) (x y : Ac) : accs n [x, y] = [accOf n x, accOf n y] := rfl
set_option maxHeartbeats 8000000 in
theorem memApart_law (one two : Ac) (w : World) (f1 : Fine4A one) (f2 : Fine4A two) :
    Calls Try.prog 7 #[.agg #[.int .i64 one.1, .int .i64 one.2.1, .int .i64 one.2.2.1, .int .i64 one.2.2.2], .agg #[.int .i64 two.1, .int .i64 two.2.1, .int .i64 two.2.2.1, .int .i64 two.2.2.2]] w fun e w' => e = .returned (.bool true) ∧ Below w.heap.size w w' := by
  have hal1 := (Below.refl w.heap.size w).alloc (Nat.le_refl _) (.cells #[.int .i64 one.1, .int .i64 one.2.1, .int .i64 one.2.2.1, .int .i64 one.2.2.2] 42)
  have hal2 := hal1.alloc hal1.size (.cells #[.int .i64 two.1, .int .i64 two.2.1, .int .i64 two.2.2.1, .int .i64 two.2.2.2] 42)
  have r1 : ((w.alloc (.cells #[.int .i64 one.1, .int .i64 one.2.1, .int .i64 one.2.2.1, .int .i64 one.2.2.2] 42)).alloc (.cells #[.int .i64 two.1, .int .i64 two.2.1, .int .i64 two.2.2.1, .int .i64 two.2.2.2] 42)).heap[w.heap.size]? = some (.cells #[.int .i64 one.1, .int .i64 one.2.1, .int .i64 one.2.2.1, .int .i64 one.2.2.2] 42 (0, 0)) := by
    have h := heap_alloc_new w (.cells #[.int .i64 one.1, .int .i64 one.2.1, .int .i64 one.2.2.1, .int .i64 one.2.2.2] 42)
    exact (((Below.refl (w.alloc (.cells #[.int .i64 one.1, .int .i64 one.2.1, .int .i64 one.2.2.1, .int .i64 one.2.2.2] 42)).heap.size (w.alloc (.cells #[.int .i64 one.1, .int .i64 one.2.1, .int .i64 one.2.2.1, .int .i64 one.2.2.2] 42))).alloc (Nat.le_refl _) (.cells #[.int .i64 two.1, .int .i64 two.2.1, .int .i64 two.2.2.1, .int .i64 two.2.2.2] 42)).block _ (lt_heap6' h)).trans h
  have r2 : ((w.alloc (.cells #[.int .i64 one.1, .int .i64 one.2.1, .int .i64 one.2.2.1, .int .i64 one.2.2.2] 42)).alloc (.cells #[.int .i64 two.1, .int .i64 two.2.1, .int .i64 two.2.2.1, .int .i64 two.2.2.2] 42)).heap[w.heap.size + 1]? = some (.cells #[.int .i64 two.1, .int .i64 two.2.1, .int .i64 two.2.2.1, .int .i64 two.2.2.2] 42 (0, 0)) := by
    have := heap_alloc_new (w.alloc (.cells #[.int .i64 one.1, .int .i64 one.2.1, .int .i64 one.2.2.1, .int .i64 one.2.2.2] 42)) (.cells #[.int .i64 two.1, .int .i64 two.2.1, .int .i64 two.2.2.1, .int .i64 two.2.2.2] 42)
    simpa using this
  have HB0 := Lib.hid hal2
  have HR1 := Lib.hid r1
  have HR2 := Lib.hid r2
  clear hal1 hal2 r1 r2
  go_enter Try.func7, Try.ntmps7
  go_wp2_with fail
  generalize (w.alloc (.cells #[.int .i64 one.1, .int .i64 one.2.1, .int .i64 one.2.2.1, .int .i64 one.2.2.2] 42)).alloc (.cells #[.int .i64 two.1, .int .i64 two.2.1, .int .i64 two.2.2.1, .int .i64 two.2.2.2] 42) = w0 at *
  refine (awake10_any w0).mono ?_
  rintro r w1 ⟨rfl, hb1⟩
  have HB1 := Lib.hid (Qt.more HB0.out HB0.out.size hb1)
  have HR11 := Lib.hid ((hb1.block _ (lt_heap6' HR1.out)).trans HR1.out)
  have HR21 := Lib.hid ((hb1.block _ (lt_heap6' HR2.out)).trans HR2.out)
  clear hb1 HB0 HR1 HR2
  have HN0 := Lib.hid (now_lit4 w1 0 1 2 3)
  have hal3 := (Below.refl w1.heap.size w1).alloc (Nat.le_refl _) (.cells #[.int .i64 0, .int .i64 1, .int .i64 2, .int .i64 3] 3)
  have HB2 := Lib.hid (Qt.more HB1.out HB1.out.size hal3)
  have HR12 := Lib.hid ((hal3.block _ (lt_heap6' HR11.out)).trans HR11.out)
  have HR22 := Lib.hid ((hal3.block _ (lt_heap6' HR21.out)).trans HR21.out)
  clear hal3 HB1 HR11 HR21
  have qo0 : (w1.alloc (.cells #[.int .i64 0, .int .i64 1, .int .i64 2, .int .i64 3] 3)).cell? ⟨w.heap.size, 0, none⟩ = some (.int .i64 one.1) := by rw [Lib.cell_of_heap HR12.out]; rfl
  have qo1 : (w1.alloc (.cells #[.int .i64 0, .int .i64 1, .int .i64 2, .int .i64 3] 3)).cell? ⟨w.heap.size, 1, none⟩ = some (.int .i64 one.2.1) := by rw [Lib.cell_of_heap HR12.out]; rfl
  have qo2 : (w1.alloc (.cells #[.int .i64 0, .int .i64 1, .int .i64 2, .int .i64 3] 3)).cell? ⟨w.heap.size, 2, none⟩ = some (.int .i64 one.2.2.1) := by rw [Lib.cell_of_heap HR12.out]; rfl
  have qo3 : (w1.alloc (.cells #[.int .i64 0, .int .i64 1, .int .i64 2, .int .i64 3] 3)).cell? ⟨w.heap.size, 3, none⟩ = some (.int .i64 one.2.2.2) := by rw [Lib.cell_of_heap HR12.out]; rfl
  have qt0 : (w1.alloc (.cells #[.int .i64 0, .int .i64 1, .int .i64 2, .int .i64 3] 3)).cell? ⟨w.heap.size + 1, 0, none⟩ = some (.int .i64 two.1) := by rw [Lib.cell_of_heap HR22.out]; rfl
  have qt1 : (w1.alloc (.cells #[.int .i64 0, .int .i64 1, .int .i64 2, .int .i64 3] 3)).cell? ⟨w.heap.size + 1, 1, none⟩ = some (.int .i64 two.2.1) := by rw [Lib.cell_of_heap HR22.out]; rfl
  have qt2 : (w1.alloc (.cells #[.int .i64 0, .int .i64 1, .int .i64 2, .int .i64 3] 3)).cell? ⟨w.heap.size + 1, 2, none⟩ = some (.int .i64 two.2.2.1) := by rw [Lib.cell_of_heap HR22.out]; rfl
  have qt3 : (w1.alloc (.cells #[.int .i64 0, .int .i64 1, .int .i64 2, .int .i64 3] 3)).cell? ⟨w.heap.size + 1, 3, none⟩ = some (.int .i64 two.2.2.2) := by rw [Lib.cell_of_heap HR22.out]; rfl
  go_wp2_with fail
  have hal4 := (Below.refl (w1.alloc (.cells #[.int .i64 0, .int .i64 1, .int .i64 2, .int .i64 3] 3)).heap.size (w1.alloc (.cells #[.int .i64 0, .int .i64 1, .int .i64 2, .int .i64 3] 3))).alloc (Nat.le_refl _) (.cells #[.int .i64 one.1, .int .i64 one.2.1, .int .i64 one.2.2.1, .int .i64 one.2.2.2, .int .i64 two.1, .int .i64 two.2.1, .int .i64 two.2.2.1, .int .i64 two.2.2.2] 42)
  have hlit := nowA_lit2 (w1.alloc (.cells #[.int .i64 0, .int .i64 1, .int .i64 2, .int .i64 3] 3)) 42 one two
  have hq : (w1.alloc (.cells #[.int .i64 0, .int .i64 1, .int .i64 2, .int .i64 3] 3)).heap.size = w1.heap.size + 1 := by simp
  rw [hq] at hlit
  have HB4 := Lib.hid (Qt.more HB2.out HB2.out.size hal4)
  have HN4 := Lib.hid (HN0.out.below hal4)
  have HLit := Lib.hid hlit
  clear hal4 hlit hq HB2 HN0 HR12 HR22 qo0 qo1 qo2 qo3 qt0 qt1 qt2 qt3
  generalize (w1.alloc (.cells #[.int .i64 0, .int .i64 1, .int .i64 2, .int .i64 3] 3)).alloc (.cells #[.int .i64 one.1, .int .i64 one.2.1, .int .i64 one.2.2.1, .int .i64 one.2.2.2, .int .i64 two.1, .int .i64 two.2.1, .int .i64 two.2.2.1, .int .i64 two.2.2.2] 42) = w3 at *
  generalize w1.heap.size = q at *
  have hac := accs_any (some ⟨q + 1, 0, none⟩) [one, two] 2 2 w3 HLit.out (by simp) (fun j hj => by
    have hj1 : j = 0 ∨ j = 1 := by simp at hj; omega
    rcases hj1 with rfl | rfl
    · exact f1
    · exact f2) (by decide) (by decide)
  rw [accs_two] at hac
  refine hac.mono ?_
  rintro r w4 ⟨v, rfl, hv, hb4⟩
  have hok := accs_ok (n := 2) (by decide) [one, two]
  rw [accs_two] at hok
  have hy := hok (accOf 2 one) (by simp)
  have hz := hok (accOf 2 two) (by simp)
  obtain ⟨y, hyy⟩ : ∃ y, y = accOf 2 one := ⟨_, rfl⟩
  obtain ⟨z, hzz⟩ : ∃ z, z = accOf 2 two := ⟨_, rfl⟩
  rw [← hyy] at hv hy
  rw [← hzz] at hv hz
  obtain ⟨y1, y2, y3, y4⟩ := y
  obtain ⟨z1, z2, z3, z4⟩ := z
  obtain ⟨A1, c1, rfl, hc1, hm1, hN1, hsh⟩ := ownA_shape hv
  rcases hsh with ⟨_, _, h0⟩ | ⟨g, rfl⟩
  · simp at h0
  simp only at hy hz
  have HB5 := Lib.hid (Qt.more HB4.out HB4.out.size hb4)
  have hgB := (World.ownsRow.lt hv g rfl)
  have HN5 := Lib.hid (HN4.out.below hb4)
  have c5 : w4.cell? ⟨g, 5, none⟩ = some (.int .i64 z2) := (World.ownsRow.cellAt hv 5 (by simp)).trans rfl
  have cf : w4.frozen? ⟨g, 5, none⟩ = false := World.ownsRow.frozenAt hv 5
  obtain ⟨hs1, hs2⟩ := World.ownsRow.stored hv 5 (.int .i64 (z2 + 2))
  have hs3 : OwnA (w4.setCell ⟨g, 5, none⟩ (.int .i64 (z2 + 2))) w3.heap.size (.slice (some ⟨g, 0, none⟩) 2 c1) [(y1, y2, y3, y4), (z1, z2 + 2, z3, z4)] := hs1
  have HO := Lib.hid hs3
  have HG := Lib.hid hs2
  have hgw : g ≠ q := fun e => by
    obtain ⟨b, off, eb, hb, _⟩ := HN4.out 0 (by simp)
    injection eb with eb
    injection eb with eb
    omega
  have HB6 := Lib.hid (HB5.out.grown hs2 HB5.out.size (fun k e => by injection e with e; have := HB4.out.size; omega))
  have HN6 : Hid (Now (w4.setCell ⟨g, 5, none⟩ (.int .i64 (z2 + 2))) (some ⟨q, 0, none⟩) [0, 1, 2, 3]) := fun j hj => by
    obtain ⟨b, off, eb, hb, hc⟩ := HN5.out j hj
    have eb' := eb
    injection eb with eb
    injection eb with eb
    exact ⟨b, off, eb', Nat.lt_of_lt_of_le hb hs2.size, hs2.cell hc (by intro e; injection e with e; exact hgw (by rw [← e, ← eb]))⟩
  clear hac hv hb4 hok hyy hzz hN1 hs1 hs2 hs3 HB5 HN5 HB4 HN4 HLit hm1 hgB hgw
  go_wp2_with fail
  generalize w4.setCell ⟨g, 5, none⟩ (.int .i64 (z2 + 2)) = w5 at *
  have hrd := (OwnA.slice HO.out)
  obtain ⟨A2, c2, hA2, _, hN2⟩ := hrd
  injection hA2 with e1 e2 e3
  subst e1 e3
  obtain ⟨b, off, eb, hgl0, l0, l1, l2, l3⟩ := hN2 0 (by simp)
  injection eb with eb
  injection eb with eb1 eb2
  subst eb1 eb2
  obtain ⟨b, off, eb, _, l4, l5, l6, l7⟩ := hN2 1 (by simp)
  injection eb with eb
  injection eb with eb1 eb2
  subst eb1 eb2
  have c0 : w5.cell? ⟨g, 0, none⟩ = some (.int .i64 y1) := l0
  have c1x : w5.cell? ⟨g, 1, none⟩ = some (.int .i64 y2) := l1
  have c2 : w5.cell? ⟨g, 2, none⟩ = some (.int .i64 y3) := l2
  have c3 : w5.cell? ⟨g, 3, none⟩ = some (.int .i64 y4) := l3
  have c4 : w5.cell? ⟨g, 4, none⟩ = some (.int .i64 z1) := l4
  have c5x : w5.cell? ⟨g, 5, none⟩ = some (.int .i64 (z2 + 2)) := l5
  have c6 : w5.cell? ⟨g, 6, none⟩ = some (.int .i64 z3) := l6
  have c7 : w5.cell? ⟨g, 7, none⟩ = some (.int .i64 z4) := l7
  have h2 := two_apart (m := [0, 1, 2, 3]) (y := (y1, y2, y3, y4)) (z := (z1, z2 + 2, z3, z4)) (b := 3) ⟨by show 1 ≤ y1; omega, by show y1 ≤ 4; omega, by show 0 ≤ y2; omega, by show y2 < 4; omega, by show -1000 ≤ y4; omega, by show y4 ≤ 1000; omega⟩ ⟨by show 1 ≤ z1; omega, by show z1 ≤ 4; omega, by show 0 ≤ z2 + 2; omega, by show z2 + 2 < 4; omega, by show -1000 ≤ z4; omega, by show z4 ≤ 1000; omega⟩ (by show y2 ≠ z2 + 2; omega) (by intro x hx; simp at hx; omega) (by decide) (by decide) (by decide)
  obtain ⟨Wd, u, v, hp1, hp2, hwl⟩ := h2
  have HP := Lib.hid (And.intro hp1 hp2)
  have HWl : Hid (Wd.length = 4) := hwl
  have HI : Hid (∀ x ∈ [(0 : Int), 1, 2, 3], I64 x) := fun x hx => by simp at hx; unfold I64; omega
  have fy : Fine4A (y1, y2, y3, y4) := fine4 (by omega)
  have fz : Fine4A (z1, z2 + 2, z3, z4) := fine4 (by omega)
  have hfn : ∀ (s t : Ac), Fine4A s → Fine4A t → ∀ j, j < [s, t].length → Fine4A ([s, t].getD j deadA) := fun s t hs ht j hj => by
    have hj1 : j = 0 ∨ j = 1 := by simp at hj; omega
    rcases hj1 with rfl | rfl
    · exact hs
    · exact ht
  have HF := Lib.hid (And.intro (hfn _ _ fy fz) (hfn _ _ fz fy))
  clear hp1 hp2 hwl fy fz hfn hN2 l0 l1 l2 l3 l4 l5 l6 l7 HO HG cf c5

  refine region_calm_to (fun W => Below w5.heap.size w5 W) (fun (a0 a9 : Act) (w9 : World) => ∃ (A9 A8 : Option Addr) (c9 c8 : Nat), a9 = ((((((((((((((((a0.put (some 29) (.slice (some ⟨q, 0, none⟩) 4 4)).put (some 30) (.slice (some ⟨g, 0, none⟩) 2 c1)).put (some 31) (.pointer (some ⟨g, 0, none⟩))).put (some 32) (.agg #[.int .i64 y1, .int .i64 y2, .int .i64 y3, .int .i64 y4])).put (some 33) (.slice (some ⟨g, 0, none⟩) 2 c1)).put (some 34) (.pointer (some ⟨g, 4, none⟩))).put (some 35) (.agg #[.int .i64 z1, .int .i64 (z2 + 2), .int .i64 z3, .int .i64 z4])).put (some 36) (.slice (some ⟨w5.drew.heap.size, 0, none⟩) 2 2)).put (some 37) (.tuple #[.slice A9 4 c9, .slice A8 2 c8, .int .i64 0])).put (some 28) (.tuple #[.slice A9 4 c9, .slice A8 2 c8, .int .i64 0])).put (some 38) (.slice A9 4 c9)).put (some 39) (.slice A8 2 c8)).put (some 40) (.int .i64 0)).put (some 8) (.slice A9 4 c9)).put (some 9) (.slice A8 2 c8)).put (some 10) (.int .i64 0)) ∧ 4 ≤ c9 ∧ 2 ≤ c8 ∧ Now w9 A9 Wd ∧ Now w9 A8 [u, v] ∧ Below w5.heap.size w5 w9) (.calm 0 (.calm 1 (.calm 2 (.calm 3 (.calm 4 (.calm 5 (.calm 6 (.only 7 (.only 8 (.calm 9 (.calm 10 (.calm 11 (.calm 12 (.calm 13 (.calm 14 (.calm 15 .done)))))))))))))))) (by kernel_rfl) (by kernel_rfl) (by kernel_rfl) (by rfl) (below_drew _) ?_ ?_
  · skip
    refine ⟨_, _, (.slice (some ⟨q, 0, none⟩) 4 4), rfl, rfl, ⟨rfl, fun W hW => by first | exact ⟨rfl, rfl⟩ | (simp only [Act.eval, execOp]; go_simp; try exact ⟨rfl, rfl⟩)⟩, ?_⟩
    simp only [Act.put, List.getElem_toArray, List.getElem_cons_zero, List.getElem_cons_succ, List.setIfInBounds_toArray, List.set_cons_succ, List.set_cons_zero]
    refine ⟨_, _, (.slice (some ⟨g, 0, none⟩) 2 c1), rfl, rfl, ⟨rfl, fun W hW => by first | exact ⟨rfl, rfl⟩ | (simp only [Act.eval, execOp]; go_simp; try exact ⟨rfl, rfl⟩)⟩, ?_⟩
    simp only [Act.put, List.getElem_toArray, List.getElem_cons_zero, List.getElem_cons_succ, List.setIfInBounds_toArray, List.set_cons_succ, List.set_cons_zero]
    refine ⟨_, _, (.pointer (some ⟨g, 0, none⟩)), rfl, rfl, ⟨rfl, fun W hW => by first | exact ⟨rfl, rfl⟩ | (simp only [Act.eval, execOp]; go_simp; try exact ⟨rfl, rfl⟩)⟩, ?_⟩
    simp only [Act.put, List.getElem_toArray, List.getElem_cons_zero, List.getElem_cons_succ, List.setIfInBounds_toArray, List.set_cons_succ, List.set_cons_zero]
    refine ⟨_, _, (.agg #[.int .i64 y1, .int .i64 y2, .int .i64 y3, .int .i64 y4]), rfl, rfl, ⟨rfl, fun W hW => by have q0 := hW.cell (p := ⟨g, 0, none⟩) (by show g < _; exact hgl0); have q1 := hW.cell (p := ⟨g, 1, none⟩) (by show g < _; exact hgl0); have q2 := hW.cell (p := ⟨g, 2, none⟩) (by show g < _; exact hgl0); have q3 := hW.cell (p := ⟨g, 3, none⟩) (by show g < _; exact hgl0); rw [c0] at q0; rw [c1x] at q1; rw [c2] at q2; rw [c3] at q3; simp only [Act.eval, execOp]; go_simp; try exact ⟨rfl, rfl⟩⟩, ?_⟩
    simp only [Act.put, List.getElem_toArray, List.getElem_cons_zero, List.getElem_cons_succ, List.setIfInBounds_toArray, List.set_cons_succ, List.set_cons_zero]
    refine ⟨_, _, (.slice (some ⟨g, 0, none⟩) 2 c1), rfl, rfl, ⟨rfl, fun W hW => by first | exact ⟨rfl, rfl⟩ | (simp only [Act.eval, execOp]; go_simp; try exact ⟨rfl, rfl⟩)⟩, ?_⟩
    simp only [Act.put, List.getElem_toArray, List.getElem_cons_zero, List.getElem_cons_succ, List.setIfInBounds_toArray, List.set_cons_succ, List.set_cons_zero]
    refine ⟨_, _, (.pointer (some ⟨g, 4, none⟩)), rfl, rfl, ⟨rfl, fun W hW => by first | exact ⟨rfl, rfl⟩ | (simp only [Act.eval, execOp]; go_simp; try exact ⟨rfl, rfl⟩)⟩, ?_⟩
    simp only [Act.put, List.getElem_toArray, List.getElem_cons_zero, List.getElem_cons_succ, List.setIfInBounds_toArray, List.set_cons_succ, List.set_cons_zero]
    refine ⟨_, _, (.agg #[.int .i64 z1, .int .i64 (z2 + 2), .int .i64 z3, .int .i64 z4]), rfl, rfl, ⟨rfl, fun W hW => by have q0 := hW.cell (p := ⟨g, 4, none⟩) (by show g < _; exact hgl0); have q1 := hW.cell (p := ⟨g, 5, none⟩) (by show g < _; exact hgl0); have q2 := hW.cell (p := ⟨g, 6, none⟩) (by show g < _; exact hgl0); have q3 := hW.cell (p := ⟨g, 7, none⟩) (by show g < _; exact hgl0); rw [c4] at q0; rw [c5x] at q1; rw [c6] at q2; rw [c7] at q3; simp only [Act.eval, execOp]; go_simp; try exact ⟨rfl, rfl⟩⟩, ?_⟩
    simp only [Act.put, List.getElem_toArray, List.getElem_cons_zero, List.getElem_cons_succ, List.setIfInBounds_toArray, List.set_cons_succ, List.set_cons_zero]
    refine ⟨_, rfl, ?_⟩
    go_wp2_with fail
    have hal := (below_drew w5).alloc (Nat.le_refl _) (.cells #[.int .i64 y1, .int .i64 y2, .int .i64 y3, .int .i64 y4, .int .i64 z1, .int .i64 (z2 + 2), .int .i64 z3, .int .i64 z4] 25)
    refine ⟨rfl, hal, ?_⟩
    refine ⟨_, rfl, ?_⟩
    go_wp2_with fail
    have hpl := memPlay_any (some ⟨q, 0, none⟩) (some ⟨w5.heap.size, 0, none⟩) [0, 1, 2, 3] [(y1, y2, y3, y4), (z1, z2 + 2, z3, z4)] 4 2 (w5.drew.alloc (.cells #[.int .i64 y1, .int .i64 y2, .int .i64 y3, .int .i64 y4, .int .i64 z1, .int .i64 (z2 + 2), .int .i64 z3, .int .i64 z4] 25)) (HN6.out.below hal) (by simp) (by simp) HI.out (nowA_lit2 w5.drew 25 (y1, y2, y3, y4) (z1, z2 + 2, z3, z4)) (HF.out.1) (by simp)
    rw [HP.out.1] at hpl
    refine hpl.mono ?_
    rintro r w9 ⟨A9, c9, A8, c8, rfl, hc9, hN9, hc8, hN8, hb9⟩
    simp only [HWl.out] at hc9 ⊢
    have hb10 := Qt.more hal hal.size hb9
    clear hpl hb9 hal
    go_wp2_with fail
    refine ⟨rfl, hb10, ?_⟩
    refine ⟨_, _, (.tuple #[.slice A9 4 c9, .slice A8 2 c8, .int .i64 0]), rfl, rfl, ⟨rfl, fun W hW => by first | exact ⟨rfl, rfl⟩ | (simp only [Act.eval, execOp]; go_simp; try exact ⟨rfl, rfl⟩)⟩, ?_⟩
    simp only [Act.put, List.getElem_toArray, List.getElem_cons_zero, List.getElem_cons_succ, List.setIfInBounds_toArray, List.set_cons_succ, List.set_cons_zero]
    refine ⟨_, _, (.slice A9 4 c9), rfl, rfl, ⟨rfl, fun W hW => by first | exact ⟨rfl, rfl⟩ | (simp only [Act.eval, execOp]; go_simp; try exact ⟨rfl, rfl⟩)⟩, ?_⟩
    simp only [Act.put, List.getElem_toArray, List.getElem_cons_zero, List.getElem_cons_succ, List.setIfInBounds_toArray, List.set_cons_succ, List.set_cons_zero]
    refine ⟨_, _, (.slice A8 2 c8), rfl, rfl, ⟨rfl, fun W hW => by first | exact ⟨rfl, rfl⟩ | (simp only [Act.eval, execOp]; go_simp; try exact ⟨rfl, rfl⟩)⟩, ?_⟩
    simp only [Act.put, List.getElem_toArray, List.getElem_cons_zero, List.getElem_cons_succ, List.setIfInBounds_toArray, List.set_cons_succ, List.set_cons_zero]
    refine ⟨_, _, (.int .i64 0), rfl, rfl, ⟨rfl, fun W hW => by first | exact ⟨rfl, rfl⟩ | (simp only [Act.eval, execOp]; go_simp; try exact ⟨rfl, rfl⟩)⟩, ?_⟩
    simp only [Act.put, List.getElem_toArray, List.getElem_cons_zero, List.getElem_cons_succ, List.setIfInBounds_toArray, List.set_cons_succ, List.set_cons_zero]
    refine ⟨_, _, (.slice A9 4 c9), rfl, rfl, ⟨rfl, fun W hW => by first | exact ⟨rfl, rfl⟩ | (simp only [Act.eval, execOp]; go_simp; try exact ⟨rfl, rfl⟩)⟩, ?_⟩
    simp only [Act.put, List.getElem_toArray, List.getElem_cons_zero, List.getElem_cons_succ, List.setIfInBounds_toArray, List.set_cons_succ, List.set_cons_zero]
    refine ⟨_, _, (.slice A8 2 c8), rfl, rfl, ⟨rfl, fun W hW => by first | exact ⟨rfl, rfl⟩ | (simp only [Act.eval, execOp]; go_simp; try exact ⟨rfl, rfl⟩)⟩, ?_⟩
    simp only [Act.put, List.getElem_toArray, List.getElem_cons_zero, List.getElem_cons_succ, List.setIfInBounds_toArray, List.set_cons_succ, List.set_cons_zero]
    refine ⟨_, _, (.int .i64 0), rfl, rfl, ⟨rfl, fun W hW => by first | exact ⟨rfl, rfl⟩ | (simp only [Act.eval, execOp]; go_simp; try exact ⟨rfl, rfl⟩)⟩, ?_⟩
    simp only [Act.put, List.getElem_toArray, List.getElem_cons_zero, List.getElem_cons_succ, List.setIfInBounds_toArray, List.set_cons_succ, List.set_cons_zero]
    exact ⟨A9, A8, c9, c8, by first | rfl | simp only [Act.put, List.getElem_toArray, List.getElem_cons_zero, List.getElem_cons_succ, List.setIfInBounds_toArray, List.set_cons_succ, List.set_cons_zero], hc9, hc8, hN9, hN8, hb10⟩
  rintro a9 w6 ⟨A9, A8, c9, c8, rfl, hw6a, hw6b, hw6c, hw6d, hw6e⟩
  simp only [Act.put, List.getElem_toArray, List.getElem_cons_zero, List.getElem_cons_succ, List.setIfInBounds_toArray, List.set_cons_succ, List.set_cons_zero]
  have HB7 := Lib.hid (Qt.more HB6.out HB6.out.size hw6e)
  have HN7 := Lib.hid (HN6.out.below hw6e)
  have d0 := (hw6e.cell (p := ⟨g, 0, none⟩) hgl0).trans c0
  have d1 := (hw6e.cell (p := ⟨g, 1, none⟩) hgl0).trans c1x
  have d2 := (hw6e.cell (p := ⟨g, 2, none⟩) hgl0).trans c2
  have d3 := (hw6e.cell (p := ⟨g, 3, none⟩) hgl0).trans c3
  have d4 := (hw6e.cell (p := ⟨g, 4, none⟩) hgl0).trans c4
  have d5 := (hw6e.cell (p := ⟨g, 5, none⟩) hgl0).trans c5x
  have d6 := (hw6e.cell (p := ⟨g, 6, none⟩) hgl0).trans c6
  have d7 := (hw6e.cell (p := ⟨g, 7, none⟩) hgl0).trans c7
  have hgl1 : g < w6.heap.size := Nat.lt_of_lt_of_le hgl0 hw6e.size
  have HR6 := Lib.hid (And.intro hw6c hw6d)
  clear c0 c1x c2 c3 c4 c5x c6 c7 hw6e HB6 HN6 hgl0 hw6c hw6d
  go_wp2_with fail

  refine region_calm_to (fun W => Below w6.heap.size w6 W) (fun (a0 a9 : Act) (w9 : World) => ∃ (A9 A8 : Option Addr) (c9 c8 : Nat), a9 = ((((((((((((((((a0.put (some 42) (.slice (some ⟨q, 0, none⟩) 4 4)).put (some 43) (.slice (some ⟨g, 0, none⟩) 2 c1)).put (some 44) (.pointer (some ⟨g, 4, none⟩))).put (some 45) (.agg #[.int .i64 z1, .int .i64 (z2 + 2), .int .i64 z3, .int .i64 z4])).put (some 46) (.slice (some ⟨g, 0, none⟩) 2 c1)).put (some 47) (.pointer (some ⟨g, 0, none⟩))).put (some 48) (.agg #[.int .i64 y1, .int .i64 y2, .int .i64 y3, .int .i64 y4])).put (some 49) (.slice (some ⟨w6.drew.heap.size, 0, none⟩) 2 2)).put (some 50) (.tuple #[.slice A9 4 c9, .slice A8 2 c8, .int .i64 0])).put (some 41) (.tuple #[.slice A9 4 c9, .slice A8 2 c8, .int .i64 0])).put (some 51) (.slice A9 4 c9)).put (some 52) (.slice A8 2 c8)).put (some 53) (.int .i64 0)).put (some 11) (.slice A9 4 c9)).put (some 12) (.slice A8 2 c8)).put (some 13) (.int .i64 0)) ∧ 4 ≤ c9 ∧ 2 ≤ c8 ∧ Now w9 A9 Wd ∧ Now w9 A8 [v, u] ∧ Below w6.heap.size w6 w9) (.calm 0 (.calm 1 (.calm 2 (.calm 3 (.calm 4 (.calm 5 (.calm 6 (.only 7 (.only 8 (.calm 9 (.calm 10 (.calm 11 (.calm 12 (.calm 13 (.calm 14 (.calm 15 .done)))))))))))))))) (by kernel_rfl) (by kernel_rfl) (by kernel_rfl) (by rfl) (below_drew _) ?_ ?_
  · skip
    refine ⟨_, _, (.slice (some ⟨q, 0, none⟩) 4 4), rfl, rfl, ⟨rfl, fun W hW => by first | exact ⟨rfl, rfl⟩ | (simp only [Act.eval, execOp]; go_simp; try exact ⟨rfl, rfl⟩)⟩, ?_⟩
    simp only [Act.put, List.getElem_toArray, List.getElem_cons_zero, List.getElem_cons_succ, List.setIfInBounds_toArray, List.set_cons_succ, List.set_cons_zero]
    refine ⟨_, _, (.slice (some ⟨g, 0, none⟩) 2 c1), rfl, rfl, ⟨rfl, fun W hW => by first | exact ⟨rfl, rfl⟩ | (simp only [Act.eval, execOp]; go_simp; try exact ⟨rfl, rfl⟩)⟩, ?_⟩
    simp only [Act.put, List.getElem_toArray, List.getElem_cons_zero, List.getElem_cons_succ, List.setIfInBounds_toArray, List.set_cons_succ, List.set_cons_zero]
    refine ⟨_, _, (.pointer (some ⟨g, 4, none⟩)), rfl, rfl, ⟨rfl, fun W hW => by first | exact ⟨rfl, rfl⟩ | (simp only [Act.eval, execOp]; go_simp; try exact ⟨rfl, rfl⟩)⟩, ?_⟩
    simp only [Act.put, List.getElem_toArray, List.getElem_cons_zero, List.getElem_cons_succ, List.setIfInBounds_toArray, List.set_cons_succ, List.set_cons_zero]
    refine ⟨_, _, (.agg #[.int .i64 z1, .int .i64 (z2 + 2), .int .i64 z3, .int .i64 z4]), rfl, rfl, ⟨rfl, fun W hW => by have q0 := hW.cell (p := ⟨g, 4, none⟩) (by show g < _; exact hgl1); have q1 := hW.cell (p := ⟨g, 5, none⟩) (by show g < _; exact hgl1); have q2 := hW.cell (p := ⟨g, 6, none⟩) (by show g < _; exact hgl1); have q3 := hW.cell (p := ⟨g, 7, none⟩) (by show g < _; exact hgl1); rw [d4] at q0; rw [d5] at q1; rw [d6] at q2; rw [d7] at q3; simp only [Act.eval, execOp]; go_simp; try exact ⟨rfl, rfl⟩⟩, ?_⟩
    simp only [Act.put, List.getElem_toArray, List.getElem_cons_zero, List.getElem_cons_succ, List.setIfInBounds_toArray, List.set_cons_succ, List.set_cons_zero]
    refine ⟨_, _, (.slice (some ⟨g, 0, none⟩) 2 c1), rfl, rfl, ⟨rfl, fun W hW => by first | exact ⟨rfl, rfl⟩ | (simp only [Act.eval, execOp]; go_simp; try exact ⟨rfl, rfl⟩)⟩, ?_⟩
    simp only [Act.put, List.getElem_toArray, List.getElem_cons_zero, List.getElem_cons_succ, List.setIfInBounds_toArray, List.set_cons_succ, List.set_cons_zero]
    refine ⟨_, _, (.pointer (some ⟨g, 0, none⟩)), rfl, rfl, ⟨rfl, fun W hW => by first | exact ⟨rfl, rfl⟩ | (simp only [Act.eval, execOp]; go_simp; try exact ⟨rfl, rfl⟩)⟩, ?_⟩
    simp only [Act.put, List.getElem_toArray, List.getElem_cons_zero, List.getElem_cons_succ, List.setIfInBounds_toArray, List.set_cons_succ, List.set_cons_zero]
    refine ⟨_, _, (.agg #[.int .i64 y1, .int .i64 y2, .int .i64 y3, .int .i64 y4]), rfl, rfl, ⟨rfl, fun W hW => by have q0 := hW.cell (p := ⟨g, 0, none⟩) (by show g < _; exact hgl1); have q1 := hW.cell (p := ⟨g, 1, none⟩) (by show g < _; exact hgl1); have q2 := hW.cell (p := ⟨g, 2, none⟩) (by show g < _; exact hgl1); have q3 := hW.cell (p := ⟨g, 3, none⟩) (by show g < _; exact hgl1); rw [d0] at q0; rw [d1] at q1; rw [d2] at q2; rw [d3] at q3; simp only [Act.eval, execOp]; go_simp; try exact ⟨rfl, rfl⟩⟩, ?_⟩
    simp only [Act.put, List.getElem_toArray, List.getElem_cons_zero, List.getElem_cons_succ, List.setIfInBounds_toArray, List.set_cons_succ, List.set_cons_zero]
    refine ⟨_, rfl, ?_⟩
    go_wp2_with fail
    have hal := (below_drew w6).alloc (Nat.le_refl _) (.cells #[.int .i64 z1, .int .i64 (z2 + 2), .int .i64 z3, .int .i64 z4, .int .i64 y1, .int .i64 y2, .int .i64 y3, .int .i64 y4] 25)
    refine ⟨rfl, hal, ?_⟩
    refine ⟨_, rfl, ?_⟩
    go_wp2_with fail
    have hpl := memPlay_any (some ⟨q, 0, none⟩) (some ⟨w6.heap.size, 0, none⟩) [0, 1, 2, 3] [(z1, z2 + 2, z3, z4), (y1, y2, y3, y4)] 4 2 (w6.drew.alloc (.cells #[.int .i64 z1, .int .i64 (z2 + 2), .int .i64 z3, .int .i64 z4, .int .i64 y1, .int .i64 y2, .int .i64 y3, .int .i64 y4] 25)) (HN7.out.below hal) (by simp) (by simp) HI.out (nowA_lit2 w6.drew 25 (z1, z2 + 2, z3, z4) (y1, y2, y3, y4)) (HF.out.2) (by simp)
    rw [HP.out.2] at hpl
    refine hpl.mono ?_
    rintro r w9 ⟨A9, c9, A8, c8, rfl, hc9, hN9, hc8, hN8, hb9⟩
    simp only [HWl.out] at hc9 ⊢
    have hb10 := Qt.more hal hal.size hb9
    clear hpl hb9 hal
    go_wp2_with fail
    refine ⟨rfl, hb10, ?_⟩
    refine ⟨_, _, (.tuple #[.slice A9 4 c9, .slice A8 2 c8, .int .i64 0]), rfl, rfl, ⟨rfl, fun W hW => by first | exact ⟨rfl, rfl⟩ | (simp only [Act.eval, execOp]; go_simp; try exact ⟨rfl, rfl⟩)⟩, ?_⟩
    simp only [Act.put, List.getElem_toArray, List.getElem_cons_zero, List.getElem_cons_succ, List.setIfInBounds_toArray, List.set_cons_succ, List.set_cons_zero]
    refine ⟨_, _, (.slice A9 4 c9), rfl, rfl, ⟨rfl, fun W hW => by first | exact ⟨rfl, rfl⟩ | (simp only [Act.eval, execOp]; go_simp; try exact ⟨rfl, rfl⟩)⟩, ?_⟩
    simp only [Act.put, List.getElem_toArray, List.getElem_cons_zero, List.getElem_cons_succ, List.setIfInBounds_toArray, List.set_cons_succ, List.set_cons_zero]
    refine ⟨_, _, (.slice A8 2 c8), rfl, rfl, ⟨rfl, fun W hW => by first | exact ⟨rfl, rfl⟩ | (simp only [Act.eval, execOp]; go_simp; try exact ⟨rfl, rfl⟩)⟩, ?_⟩
    simp only [Act.put, List.getElem_toArray, List.getElem_cons_zero, List.getElem_cons_succ, List.setIfInBounds_toArray, List.set_cons_succ, List.set_cons_zero]
    refine ⟨_, _, (.int .i64 0), rfl, rfl, ⟨rfl, fun W hW => by first | exact ⟨rfl, rfl⟩ | (simp only [Act.eval, execOp]; go_simp; try exact ⟨rfl, rfl⟩)⟩, ?_⟩
    simp only [Act.put, List.getElem_toArray, List.getElem_cons_zero, List.getElem_cons_succ, List.setIfInBounds_toArray, List.set_cons_succ, List.set_cons_zero]
    refine ⟨_, _, (.slice A9 4 c9), rfl, rfl, ⟨rfl, fun W hW => by first | exact ⟨rfl, rfl⟩ | (simp only [Act.eval, execOp]; go_simp; try exact ⟨rfl, rfl⟩)⟩, ?_⟩
    simp only [Act.put, List.getElem_toArray, List.getElem_cons_zero, List.getElem_cons_succ, List.setIfInBounds_toArray, List.set_cons_succ, List.set_cons_zero]
    refine ⟨_, _, (.slice A8 2 c8), rfl, rfl, ⟨rfl, fun W hW => by first | exact ⟨rfl, rfl⟩ | (simp only [Act.eval, execOp]; go_simp; try exact ⟨rfl, rfl⟩)⟩, ?_⟩
    simp only [Act.put, List.getElem_toArray, List.getElem_cons_zero, List.getElem_cons_succ, List.setIfInBounds_toArray, List.set_cons_succ, List.set_cons_zero]
    refine ⟨_, _, (.int .i64 0), rfl, rfl, ⟨rfl, fun W hW => by first | exact ⟨rfl, rfl⟩ | (simp only [Act.eval, execOp]; go_simp; try exact ⟨rfl, rfl⟩)⟩, ?_⟩
    simp only [Act.put, List.getElem_toArray, List.getElem_cons_zero, List.getElem_cons_succ, List.setIfInBounds_toArray, List.set_cons_succ, List.set_cons_zero]
    exact ⟨A9, A8, c9, c8, by first | rfl | simp only [Act.put, List.getElem_toArray, List.getElem_cons_zero, List.getElem_cons_succ, List.setIfInBounds_toArray, List.set_cons_succ, List.set_cons_zero], hc9, hc8, hN9, hN8, hb10⟩
  rintro a9 w7 ⟨B9, B8, b9, b8, rfl, hw7a, hw7b, hw7c, hw7d, hw7e⟩
  simp only [Act.put, List.getElem_toArray, List.getElem_cons_zero, List.getElem_cons_succ, List.setIfInBounds_toArray, List.set_cons_succ, List.set_cons_zero]
  have HB8 := Lib.hid (Qt.more HB7.out HB7.out.size hw7e)
  have HR7 := Lib.hid (And.intro (HR6.out.1.below hw7e) (HR6.out.2.below hw7e))
  have HR8 := Lib.hid (And.intro hw7c hw7d)
  clear d0 d1 d2 d3 d4 d5 d6 d7 hw7e HB7 HN7 hgl1 hw7c hw7d HR6
  go_wp2_with fail
  obtain ⟨ga, oa, rfl, hga, hca⟩ := Rd.at_ HR7.out.2 (by simp)
  obtain ⟨gb, ob, rfl, hgb, hcb⟩ := Rd.at_ HR8.out.2 (by simp)
  have k0 := Qt.cell_in (show w7.cell? ⟨ga, oa, none⟩ = some (.int .i64 u) by have := hca 0 (by simp); simpa using this)
  have k1 := Qt.cell_in (show w7.cell? ⟨ga, oa + 1, none⟩ = some (.int .i64 v) by have := hca 1 (by simp); simpa using this)
  have k2 := Qt.cell_in (show w7.cell? ⟨gb, ob, none⟩ = some (.int .i64 v) by have := hcb 0 (by simp); simpa using this)
  have k3 := Qt.cell_in (show w7.cell? ⟨gb, ob + 1, none⟩ = some (.int .i64 u) by have := hcb 1 (by simp); simpa using this)
  have hin : ∀ W, Below w7.heap.size w7 W → Calls Try.prog 13 #[.slice A9 4 c9, .slice B9 4 b9] W fun e w' => e = .returned (.bool true) ∧ Below W.heap.size W w' := fun W hW => ints_yes (HR7.out.1.below hW) (HR8.out.1.below hW) HWl.out.symm HWl.out.symm (by decide) rfl
  clear hca hcb hga hgb
  refine Qt.below_all (by kernel_rfl) (by kernel_rfl) ?_
  repeat (go_big_quiet_step (first | (go_at_call 13; exact Qt.at_call' hin)))
  refine wpQuiet_nil ?_
  intro w8 hb8
  have HB9 := Lib.hid (Qt.more HB8.out HB8.out.size hb8)
  clear k0 k1 k2 k3 hin hb8
  go_wp2_with fail
  go_ret
  exact ⟨by first | rfl | simp, HB9.out⟩
end Go.Proofs.Ythfbcjbiemdedaa
namespace Go.Proofs.Ythfbcjbiemdedaa
set_option linter.unusedVariables false
set_option linter.unusedSimpArgs false

/-- four kids; a node: its level, its kids, its cells -/
abbrev Kd := Int × Int × Int × Int
abbrev Nd := Int × Kd × Int
def kd (k : Kd) : Nat → Int
  | 0 => k.1
  | 1 => k.2.1
  | 2 => k.2.2.1
  | _ => k.2.2.2
def deadN : Nd := (0, (0, 0, 0, 0), 0)
def liveN : Nd := (0, (0, 0, 0, 0), 1)
def ndAt (l : List Nd) (i : Int) : Nd := l.getD i.toNat deadN
/-- the cells of the first kids together -/
def popTo (l : List Nd) (k : Kd) : Nat → Int
  | 0 => 0
  | i + 1 => min (popTo l k i + (ndAt l (kd k i)).2.2) 4611686018427387903
def kidB (l : List Nd) (n lev k : Int) : Bool := decide (0 ≤ k) && decide (k < n) && decide ((ndAt l k).1 = lev)
/-- the place of the node with these kids, from place i on, so many places -/
def atFrom (l : List Nd) (k : Kd) : Nat → Nat → Option Nat
  | _, 0 => none
  | i, f + 1 => if (l.getD i deadN).2.1 = k then some i else atFrom l k (i + 1) f
def at6 (l : List Nd) (k : Kd) : Option Nat := atFrom l k 2 (l.length - 2)
def kidsB (l : List Nd) (n lev : Int) (k : Kd) : Bool := kidB l n lev k.1 && kidB l n lev k.2.1 && kidB l n lev k.2.2.1 && kidB l n lev k.2.2.2
def fits6 (l : List Nd) (n : Nat) : Bool :=
  kidsB l n ((l.getD n deadN).1 - 1) (l.getD n deadN).2.1 && decide (1 ≤ (l.getD n deadN).1) && decide ((l.getD n deadN).1 ≤ 42) && decide ((l.getD n deadN).2.2 = popTo l (l.getD n deadN).2.1 4) && decide (at6 l (l.getD n deadN).2.1 = some n)
theorem atFrom_some {l : List Nd} {k : Kd} : ∀ {f i n : Nat}, atFrom l k i f = some n → i ≤ n ∧ n < i + f ∧ (l.getD n deadN).2.1 = k ∧ ∀ j, i ≤ j → j < n → (l.getD j deadN).2.1 ≠ k := by
  intro f
  induction f with
  | zero => intro i n h; cases h
  | succ f ih =>
    intro i n h
    unfold atFrom at h
    by_cases he : (l.getD i deadN).2.1 = k
    · rw [if_pos he] at h
      injection h with h
      subst h
      exact ⟨Nat.le_refl _, by omega, he, fun j h1 h2 => by omega⟩
    · rw [if_neg he] at h
      obtain ⟨h1, h2, h3, h4⟩ := ih h
      refine ⟨by omega, by omega, h3, fun j hj1 hj2 => ?_⟩
      rcases Nat.eq_or_lt_of_le hj1 with rfl | h5
      · exact he
      · exact h4 j h5 hj2
theorem atFrom_none {l : List Nd} {k : Kd} : ∀ {f i : Nat}, atFrom l k i f = none ↔ ∀ j, i ≤ j → j < i + f → (l.getD j deadN).2.1 ≠ k := by
  intro f
  induction f with
  | zero => intro i; exact ⟨fun _ j h1 h2 => by omega, fun _ => rfl⟩
  | succ f ih =>
    intro i
    unfold atFrom
    by_cases he : (l.getD i deadN).2.1 = k
    · rw [if_pos he]
      exact ⟨fun h => (by cases h), fun h => absurd he (h i (Nat.le_refl _) (by omega))⟩
    · rw [if_neg he, ih]
      constructor
      · intro h j h1 h2
        rcases Nat.eq_or_lt_of_le h1 with rfl | h5
        · exact he
        · exact h j h5 (by omega)
      · intro h j h1 h2
        exact h j (by omega) (by omega)
theorem at_some {l : List Nd} {k : Kd} {n : Nat} (h : at6 l k = some n) : 2 ≤ n ∧ n < l.length ∧ (l.getD n deadN).2.1 = k ∧ ∀ j, 2 ≤ j → j < n → (l.getD j deadN).2.1 ≠ k := by
  obtain ⟨h1, h2, h3, h4⟩ := atFrom_some h
  exact ⟨h1, by omega, h3, h4⟩
theorem at_none {l : List Nd} {k : Kd} : at6 l k = none ↔ ∀ j, 2 ≤ j → j < l.length → (l.getD j deadN).2.1 ≠ k := by
  unfold at6
  rw [atFrom_none]
  exact ⟨fun h j h1 h2 => h j h1 (by omega), fun h j h1 h2 => h j h1 (by omega)⟩
theorem at_is {l : List Nd} {k : Kd} {n : Nat} (h2 : 2 ≤ n) (hn : n < l.length) (hk : (l.getD n deadN).2.1 = k) (hf : ∀ j, 2 ≤ j → j < n → (l.getD j deadN).2.1 ≠ k) : at6 l k = some n := by
  cases h : at6 l k with
  | none => exact absurd hk (at_none.1 h n h2 hn)
  | some m =>
    obtain ⟨m1, m2, m3, m4⟩ := at_some h
    rcases Nat.lt_trichotomy m n with h5 | h5 | h5
    · exact absurd m3 (hf m m1 h5)
    · rw [h5]
    · exact absurd hk (m4 n h2 h5)

/-- what a store that is right is -/
structure Right6 (l : List Nd) (room : Int) : Prop where
  room2 : 2 ≤ room
  room100 : room ≤ 100000
  two : 2 ≤ l.length
  len : (l.length : Int) ≤ room
  dead : l.getD 0 deadN = deadN
  live : l.getD 1 deadN = liveN
  fits : ∀ n, 2 ≤ n → n < l.length → fits6 l n = true
theorem kidB_iff {l : List Nd} {n lev k : Int} : kidB l n lev k = true ↔ 0 ≤ k ∧ k < n ∧ (ndAt l k).1 = lev := by unfold kidB; simp [and_assoc]
theorem kidsB_iff {l : List Nd} {n lev : Int} {k : Kd} : kidsB l n lev k = true ↔ ∀ i, i < 4 → kidB l n lev (kd k i) = true := by
  unfold kidsB
  simp only [Bool.and_eq_true]
  constructor
  · rintro ⟨⟨⟨h0, h1⟩, h2⟩, h3⟩ i hi
    match i, hi with
    | 0, _ => exact h0
    | 1, _ => exact h1
    | 2, _ => exact h2
    | 3, _ => exact h3
  · intro h
    exact ⟨⟨⟨h 0 (by decide), h 1 (by decide)⟩, h 2 (by decide)⟩, h 3 (by decide)⟩
/-- what a node that fits is -/
structure Fits6 (l : List Nd) (n : Nat) : Prop where
  kid : ∀ i, i < 4 → 0 ≤ kd (l.getD n deadN).2.1 i ∧ kd (l.getD n deadN).2.1 i < n ∧ (ndAt l (kd (l.getD n deadN).2.1 i)).1 = (l.getD n deadN).1 - 1
  lo : 1 ≤ (l.getD n deadN).1
  hi : (l.getD n deadN).1 ≤ 42
  pop : (l.getD n deadN).2.2 = popTo l (l.getD n deadN).2.1 4
  first : at6 l (l.getD n deadN).2.1 = some n
theorem fits_iff {l : List Nd} {n : Nat} : fits6 l n = true ↔ Fits6 l n := by
  unfold fits6
  simp only [Bool.and_eq_true, decide_eq_true_eq, kidsB_iff, kidB_iff]
  exact ⟨fun ⟨⟨⟨⟨h1, h2⟩, h3⟩, h4⟩, h5⟩ => ⟨h1, h2, h3, h4, h5⟩, fun h => ⟨⟨⟨⟨h.kid, h.lo⟩, h.hi⟩, h.pop⟩, h.first⟩⟩

/-! ### levels and cells are within bounds -/
/-! ### a node more -/
end Go.Proofs.Ythfbcjbiemdedaa
namespace Go.Proofs.Ythfbcjbiemdedaa
set_option linter.unusedVariables false
set_option linter.unusedSimpArgs false

/-! ### rows -/
def row (s : Nat) (a : List UInt8) (y : Nat) : List UInt8 := (a.drop (y * s)).take s
/-! ### how many are alive -/
/-! ### what a node stands for -/
end Go.Proofs.Ythfbcjbiemdedaa
namespace Go.Proofs.Ythfbcjbiemdedaa
set_option linter.unusedVariables false
set_option linter.unusedSimpArgs false

/-- kids that may be put -/
structure Fit4 (l : List Nd) (k : Kd) : Prop where
  kid : ∀ i, i < 4 → 0 ≤ kd k i ∧ kd k i < l.length ∧ (ndAt l (kd k i)).1 = (ndAt l k.1).1
  low : (ndAt l k.1).1 + 1 ≤ 42
theorem Fit4.b {l : List Nd} {k : Kd} (h : Fit4 l k) : kidsB l l.length (ndAt l k.1).1 k = true := kidsB_iff.2 fun i hi => kidB_iff.2 (h.kid i hi)
/-- a store that has another one's nodes, and maybe more -/
structure Grows (l m : List Nd) : Prop where
  len : l.length ≤ m.length
  same : ∀ i, i < l.length → m.getD i deadN = l.getD i deadN
theorem Grows.refl (l : List Nd) : Grows l l := ⟨Nat.le_refl _, fun _ _ => rfl⟩
theorem Grows.trans {a b c : List Nd} (h : Grows a b) (k : Grows b c) : Grows a c := ⟨Nat.le_trans h.len k.len, fun i hi => (k.same i (Nat.lt_of_lt_of_le hi h.len)).trans (h.same i hi)⟩
theorem Grows.nd {l m : List Nd} (h : Grows l m) {i : Int} (h0 : 0 ≤ i) (h1 : i < l.length) : ndAt m i = ndAt l i := h.same _ (by omega)
/-- a store where a node stands has it at its place -/
theorem Grows.at_ {l m : List Nd} (h : Grows l m) {k : Kd} {n : Nat} (ha : at6 l k = some n) : at6 m k = some n := by
  obtain ⟨a1, a2, a3, a4⟩ := at_some ha
  exact at_is a1 (Nat.lt_of_lt_of_le a2 h.len) (by rw [h.same n a2]; exact a3) (fun j hj1 hj2 => by rw [h.same j (by omega)]; exact a4 j hj1 hj2)
/-- what was put -/
structure Put6 (l m : List Nd) (room : Int) (k : Kd) (n : Nat) : Prop where
  grows : Grows l m
  right : Right6 m room
  at_ : at6 m k = some n
  more : m.length ≤ l.length + 1
/-! ### a node's level is below its place -/
/-! ### the laws' raw stores -/
abbrev Raw5 := Int × Int × Int × Int × Int
end Go.Proofs.Ythfbcjbiemdedaa
namespace Go.Proofs.Ythfbcjbiemdedaa
set_option linter.unusedVariables false
set_option linter.unusedSimpArgs false

/-- the node that was put -/
theorem Put6.node {l m : List Nd} {room : Int} {k : Kd} {n : Nat} (h : Put6 l m room k n) (hf : Fit4 l k) : 2 ≤ n ∧ n < m.length ∧ (m.getD n deadN).2.1 = k ∧ (m.getD n deadN).1 = (ndAt l k.1).1 + 1 ∧ (m.getD n deadN).2.2 = popTo l k 4 := by
  obtain ⟨a1, a2, a3, _⟩ := at_some h.at_
  have hfn := fits_iff.1 (h.right.fits n a1 a2)
  have hk0 := hfn.kid 0 (by decide)
  rw [a3] at hk0
  have e0 : ndAt m k.1 = ndAt l k.1 := h.grows.nd (hf.kid 0 (by decide)).1 (hf.kid 0 (by decide)).2.1
  have ep : ∀ i, i ≤ 4 → popTo m k i = popTo l k i := by
    intro i
    induction i with
    | zero => intro _; rfl
    | succ i ih =>
      intro hi
      unfold popTo
      rw [ih (by omega), h.grows.nd (hf.kid i (by omega)).1 (hf.kid i (by omega)).2.1]
  refine ⟨a1, a2, a3, ?_, ?_⟩
  · have : (ndAt m k.1).1 = (m.getD n deadN).1 - 1 := hk0.2.2
    rw [e0] at this
    omega
  · rw [hfn.pop, a3, ep 4 (Nat.le_refl _)]

/-! ### nodes in which all is dead -/
end Go.Proofs.Ythfbcjbiemdedaa
namespace Go.Proofs.Ythfbcjbiemdedaa
set_option linter.unusedVariables false
set_option linter.unusedSimpArgs false
open Go.RowKit Go.Sort

/-- a node lies here -/
def NdAt (w : World) (b o : Nat) (x : Nd) : Prop := w.cell? ⟨b, o, none⟩ = some (.int .i64 x.1) ∧ w.cell? ⟨b, o + 1, none⟩ = some (.int .i64 x.2.1.1) ∧ w.cell? ⟨b, o + 2, none⟩ = some (.int .i64 x.2.1.2.1) ∧ w.cell? ⟨b, o + 3, none⟩ = some (.int .i64 x.2.1.2.2.1) ∧ w.cell? ⟨b, o + 4, none⟩ = some (.int .i64 x.2.1.2.2.2) ∧ w.cell? ⟨b, o + 5, none⟩ = some (.int .i64 x.2.2)
/-- The slice at A of l.length nodes reads as l, below block B. -/
def RdN (w : World) (B : Nat) (A : Option Addr) (l : List Nd) : Prop :=
  ∀ j, j < l.length → ∃ b off, A = some ⟨b, off, none⟩ ∧ b < B ∧ NdAt w b (off + j * 6) (l.getD j deadN)
theorem NdAt.below {w w' : World} {b o B : Nat} {x : Nd} (h : NdAt w b o x) (hb : Below B w w') (hx : b < B) : NdAt w' b o x := by
  obtain ⟨h0, h1, h2, h3, h4, h5⟩ := h
  exact ⟨(hb.cell (p := ⟨b, o, none⟩) hx).trans h0, (hb.cell (p := ⟨b, o + 1, none⟩) hx).trans h1, (hb.cell (p := ⟨b, o + 2, none⟩) hx).trans h2, (hb.cell (p := ⟨b, o + 3, none⟩) hx).trans h3, (hb.cell (p := ⟨b, o + 4, none⟩) hx).trans h4, (hb.cell (p := ⟨b, o + 5, none⟩) hx).trans h5⟩
theorem RdN.below {w w' : World} {B B' : Nat} {A : Option Addr} {l : List Nd} (h : RdN w B A l) (hb : Below B' w w') (hB : B ≤ B') : RdN w' B A l := fun j hj => by
  obtain ⟨b, off, e, hlt, h0⟩ := h j hj
  exact ⟨b, off, e, hlt, h0.below hb (Nat.lt_of_lt_of_le hlt hB)⟩
theorem RdN.more {w : World} {B B' : Nat} {A : Option Addr} {l : List Nd} (h : RdN w B A l) (hB : B ≤ B') : RdN w B' A l := fun j hj => by
  obtain ⟨b, off, e, hlt, h0⟩ := h j hj
  exact ⟨b, off, e, by omega, h0⟩
theorem RdN.nil (w : World) (B : Nat) (A : Option Addr) : RdN w B A [] := fun j hj => absurd hj (Nat.not_lt_zero j)
theorem RdN.at_ {w : World} {B : Nat} {A : Option Addr} {l : List Nd} (h : RdN w B A l) (hn : 0 < l.length) :
    ∃ b off, A = some ⟨b, off, none⟩ ∧ b < B ∧ ∀ j, j < l.length → NdAt w b (off + j * 6) (l.getD j deadN) := by
  obtain ⟨b, off, e, hlt, _⟩ := h 0 hn
  refine ⟨b, off, e, hlt, fun j hj => ?_⟩
  obtain ⟨b', off', e', _, h0⟩ := h j hj
  rw [e] at e'
  injection e' with e'
  injection e' with e1 e2
  subst e1 e2
  exact h0
def NowN (w : World) (A : Option Addr) (l : List Nd) : Prop := RdN w w.heap.size A l
theorem NowN.below {w w' : World} {A : Option Addr} {l : List Nd} (h : NowN w A l) (hb : Below w.heap.size w w') : NowN w' A l := (RdN.below h hb (Nat.le_refl _)).more hb.size
/-- It reads as its list. -/
def ReadsN (w : World) (v : Value) (l : List Nd) : Prop := ∃ A c, v = .slice A l.length c ∧ l.length ≤ c ∧ NowN w A l
theorem ReadsN.below {w w' : World} {v : Value} {l : List Nd} (h : ReadsN w v l) (hb : Below w.heap.size w w') : ReadsN w' v l := by
  obtain ⟨A, c, e, hc, hR⟩ := h
  exact ⟨A, c, e, hc, hR.below hb⟩

end Go.Proofs.Ythfbcjbiemdedaa
namespace Go.Proofs.Ythfbcjbiemdedaa
set_option linter.unusedVariables false
set_option linter.unusedSimpArgs false
open Go.RowKit Go.Sort

def kidsV (k : Kd) : Value := .agg #[.int .i64 k.1, .int .i64 k.2.1, .int .i64 k.2.2.1, .int .i64 k.2.2.2]
end Go.Proofs.Ythfbcjbiemdedaa
