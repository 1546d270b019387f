/-
  Texts that the claims of this seat share, part 0.
-/
import Derived.Lib.QuietBelow
import Derived.StillTail
import Derived.BigQuiet
import Derived.KernelRfl
import Derived.Lib.ItoaMem
import GoSem.Op.String
import Derived.Test.YtocepdhjkhhpfaaRows
import Derived.Test.YtocepdhjkhhpfaaSh
import Derived.WalkKit
import Derived.WalkSpells
import Derived.WalkLawsBesides
import Derived.WalkArith
import Derived.IntWalk
import Derived.Lib.Hide
import Derived.Lib.AppendIntMem
import Derived.StillTailTactics
import Derived.LoopN
import Derived.Handy
import Derived.Deep.LoopGhost
import Derived.Lib.AppendZerosOnto
set_option linter.unusedVariables false
set_option linter.unusedSimpArgs false
namespace Go.Proofs.Ytocepdhjkhhpfaa.Qt
set_option linter.unusedVariables false
set_option linter.unusedSimpArgs false
open Go Go.Sort Go.RowKit

section
variable {P : Program} {ops : Array Oper} {md : Region.Mode} {C : World → Prop}

/-- f rounds of the head, whatever order, then L. -/
def headAny (P : Program) (md : Region.Mode) (ops : Array Oper) (C : World → Prop) (n : Nat) (L : Array Bool → Act → Prop) : Nat → Array Bool → Act → Prop
  | 0, listed, a => L listed a
  | f + 1, listed, a => Region.ready md ops listed ≠ [] ∧ ∀ i ∈ Region.ready md ops listed, i < n ∧ qOp P ops C i (headAny P md ops C n L f (listed.setIfInBounds i true)) a

theorem any_of_head {n g : Nat} {L : Array Bool → Act → Prop} {Q : Exit → Act → World → Prop} (hL : ∀ listed a w, C w → L listed a → wpAny P md ops Q g listed a w) (f : Nat) :
    ∀ listed a w, C w → headAny P md ops C n L f listed a → wpAny P md ops Q (f + g) listed a w := by
  induction f with
  | zero => intro listed a w hw h; rw [Nat.zero_add]; exact hL _ _ _ hw h
  | succ f ih =>
    intro listed a w hw h
    rw [Nat.succ_add]
    exact ⟨fun h0 => absurd h0 h.1, fun i hi => wpOp_of_qOp hw (fun a' w' hw' h' => ih _ a' w' hw' h') (h.2 i hi).2⟩

/-- What may be taken first is taken first. -/
theorem head_first {n i : Nat} {oi : Oper} {v : Value} {L : Array Bool → Act → Prop} (hi : ops[i]? = some oi) (hsel : ∀ (j : Nat) (o : Oper) cs b, ops[j]? = some o → o.op ≠ .select cs b)
    (hs : Region.sinkB md ops n = true) (hc : Region.chainB md ops n = true) (hn : n < ops.size) (hin : i < n) (hdone : ∀ listed a, L listed a → ∀ j ∈ Region.ready md ops listed, n ≤ j) (f : Nat) :
    ∀ (listed : Array Bool) (a : Act), HeadInv md ops n listed →
      (∀ j oj, ops[j]? = some oj → j ≠ i → listed.getD j true = false → (∀ e ∈ oj.after, Region.binds md e = true → e.on ≠ i) → oi.apart ops oj = true) →
      i ∈ Region.ready md ops listed → YieldsIn P ops C oi v a →
      headAny P md ops C n L f (listed.setIfInBounds i true) (a.put oi.dst v) → headAny P md ops C n L (f + 1) listed a := by
  induction f with
  | zero =>
    intro listed a inv _ hr hy H
    refine ⟨fun h => (by rw [h] at hr; cases hr), fun j hj => ?_⟩
    have hjn : j < n := Nat.lt_of_not_le fun h => tail_waits hs hc hn inv _ i rfl hin (mem_ready.1 hr).1 j h hj
    refine ⟨hjn, ?_⟩
    by_cases hji : j = i
    · subst hji; exact hy.qOp hi H
    · exact absurd (hdone _ _ H j (ready_mono hj hji)) (by omega)
  | succ f ih =>
    intro listed a inv hfree hr hy H
    have hun := (mem_ready.1 hr).1
    refine ⟨fun h => (by rw [h] at hr; cases hr), fun j hj => ?_⟩
    have hjn : j < n := Nat.lt_of_not_le fun h => tail_waits hs hc hn inv _ i rfl hin hun j h hj
    refine ⟨hjn, ?_⟩
    by_cases hji : j = i
    · subst hji; exact hy.qOp hi H
    · obtain ⟨hjun, oj, hoj, hall⟩ := mem_ready.1 hj
      have hnot : ∀ e ∈ oj.after, Region.binds md e = true → e.on ≠ i := fun e he hb heq => by
        have h1 := hall e he hb
        rw [heq, getD_both hun] at h1
        cases h1
      have hq := qOp_put hoj (hfree j oj hoj hji hjun hnot) (fun cs b => hsel i oi cs b hi) (fun cs b => hsel j oj cs b hoj) hy (H.2 j (ready_mono hj hji)).2
      refine qOp_mono (fun a' h3 => ih (listed.setIfInBounds j true) a' (inv.set hj hjn) (fun k ok hk hki hku hno => hfree k ok hk hki ?_ hno) (ready_mono hr (Ne.symm hji)) h3.1 ?_) hq
      · by_cases hjk : j = k
        · subst hjk; exact hjun
        · rwa [getD_set_ne true hjk] at hku
      · rw [Array.setIfInBounds_comm _ _ hji]; exact h3.2

theorem head_lex {n g : Nat} {Lq : Act → Prop} (hsel : Region.noSelect ops = true) (hs : Region.sinkB md ops n = true) (hc : Region.chainB md ops n = true) (hn : n < ops.size) (l : List Oper) :
    ∀ (k : Nat) (listed : Array Bool) (a : Act), (∀ j, j < l.length → l[j]? = ops[k + j]?) → k + l.length = n → HeadInv md ops n listed →
    Region.lexHead md ops g l.length k listed = true → wpQuiet P ops C Lq l a →
    headAny P md ops C n (fun listed' a' => Region.seqB md ops g n listed' = true ∧ Lq a') l.length listed a := by
  induction l with
  | nil =>
    intro k listed a _ hk _ hB h
    obtain rfl : k = n := by simpa using hk
    exact ⟨by simpa [Region.lexHead] using hB, h⟩
  | cons o l ih =>
    intro k listed a hl hk inv hB h
    have h0 : ops[k]? = some o := by simpa using (hl 0 (by simp)).symm
    simp only [List.length_cons, Region.lexHead, Bool.and_eq_true] at hB
    have hkn : k < n := by simp only [List.length_cons] at hk; omega
    have hr' : k ∈ Region.ready md ops listed := by simpa using hB.1.1
    have hst : qOp P ops C k (wpQuiet P ops C Lq l) a := by unfold qOp; simp only [h0]; exact h
    obtain ⟨v, hy, hK⟩ := yieldsIn_of_qOp h0 hst
    exact head_first h0 (Region.noSelect_spec hsel) hs hc hn hkn (fun listed' a' hL => seqB_ready hL.1) l.length listed a inv (Region.free_spec h0 hB.1.2) hr' hy
      (ih (k + 1) _ _ (fun j hj => by have := hl (j + 1) (by simp; omega); simpa [Nat.add_assoc, Nat.add_comm 1 j] using this) (by simp only [List.length_cons] at hk; omega) (inv.set hr' hkn) hB.2 hK)

theorem quiet_mono {Q Q' : Act → Prop} (hq : ∀ a, Q a → Q' a) (l : List Oper) : ∀ a, wpQuiet P ops C Q l a → wpQuiet P ops C Q' l a := by
  induction l with
  | nil => exact hq
  | cons o l ih =>
    intro a h
    unfold wpQuiet at h ⊢
    split
    · rename_i hw; rw [if_pos hw] at h; exact Oper.quiet_mono ih h
    · rename_i hw; rw [if_neg hw] at h; exact ih _ h

theorem region_tail {id : Nat} {Q : Exit → Act → World → Prop} {a : Act} {w : World} {l : List Oper} (n : Nat) (hm : P.follows .mixedOrders = true) (hB : Region.lexTailB .any l.toArray n = true) (hC : C w.drew)
    (h : wpQuiet P l.toArray C (fun a' => ∀ w', C w' → wpList P l.toArray Q (l.drop n) a' w') (l.take n) a) : (Code.region id l.toArray true).wp P Q a w := by
  simp only [Region.lexTailB, Bool.and_eq_true, decide_eq_true_eq] at hB
  obtain ⟨⟨⟨⟨hsel, hn⟩, hs⟩, hc⟩, hlex⟩ := hB
  have hn' : n < l.length := by simpa using hn
  have htl : (l.take n).length = n := by simp; omega
  have hdl : (l.drop n).length = l.toArray.size - n := by simp
  have inv0 : HeadInv .any l.toArray n (Array.replicate l.toArray.size false) :=
    ⟨by simp, fun j oj _ hl => (by rw [getD_replicate_false] at hl; cases hl), fun t _ ht => getD_in (by simpa using ht) (getD_replicate_false _ _)⟩
  have H := head_lex (P := P) (C := C) (md := .any) (g := l.toArray.size - n) hsel hs hc hn (l.take n) 0 _ a (fun j hj => by rw [htl] at hj; simp [hj]) (by simpa using htl) inv0 (by rw [htl]; exact hlex) h
  refine wp_region_any hm ?_
  have e := any_of_head (Q := Q) (g := l.toArray.size - n) (fun listed a' w' hw' hL => by
    have := wpAny_of_seq (md := .any) (Q' := Q) (l.drop n) n listed a' w' (fun j => by simp [List.getElem?_drop]) (by rw [hdl]; exact hL.1) (hL.2 w' hw')
    rwa [hdl] at this) _ _ _ w.drew hC H
  rw [htl, show n + (l.toArray.size - n) = l.toArray.size by omega] at e
  exact e

/-- .. at the class 'of what was there nothing has turned'; the tail in whatever such world. -/
theorem below_tail {id : Nat} {Q : Exit → Act → World → Prop} {a : Act} {w : World} {l : List Oper} (n : Nat) (hm : P.follows .mixedOrders = true) (hB : Region.lexTailB .any l.toArray n = true)
    (h : wpQuiet P l.toArray (fun w' => ∃ p : Regrown, w' = grow (redrawn w p.d) p.os) (fun a' => ∀ w', Below w.heap.size w w' → wpList P l.toArray Q (l.drop n) a' w') (l.take n) a) : (Code.region id l.toArray true).wp P Q a w :=
  region_tail n hm hB ⟨⟨w.drawn + 1, #[]⟩, by rw [grow_empty]; rfl⟩ (quiet_mono (fun a' h w' ⟨p, hp⟩ => h w' (hp ▸ below_regrown w p.d p.os)) _ _ h)

/-- The whole region quiet. -/
theorem below_all {id : Nat} {Q : Exit → Act → World → Prop} {a : Act} {w : World} {l : List Oper} (hm : P.follows .mixedOrders = true) (hB : Region.lexB .any l.toArray = true)
    (h : wpQuiet P l.toArray (fun w' => ∃ p : Regrown, w' = grow (redrawn w p.d) p.os) (fun a' => ∀ w', Below w.heap.size w w' → Q .normal a' w') l a) : (Code.region id l.toArray true).wp P Q a w :=
  wp_region_quiet_below hm hB (quiet_mono (fun a' h w' ⟨p, hp⟩ => h w' (hp ▸ below_regrown w p.d p.os)) _ _ h)

/-- .. one that asks for the world ahead. -/
theorem at_call' {f : FuncId} {args : Array Value} {w : World} {d : Nat} {os : Array Obj} {v : Value} (h : ∀ W, Below w.heap.size w W → Calls P f args W fun e w' => e = .returned v ∧ Below W.heap.size W w') :
    Calls P f args (grow (redrawn w d) os) fun e w'' => e = .returned v ∧ ∃ p : Regrown, w'' = grow (redrawn w p.d) p.os := Calls.regrown_of (h _ (below_regrown w d os))

/-- .. one that leaves the world alone. -/
theorem at_same {f : FuncId} {args : Array Value} {w : World} {d : Nat} {os : Array Obj} {v : Value} (h : ∀ W, Below w.heap.size w W → Calls P f args W fun e w' => e = .returned v ∧ W = w') :
    Calls P f args (grow (redrawn w d) os) fun e w'' => e = .returned v ∧ ∃ p : Regrown, w'' = grow (redrawn w p.d) p.os :=
  Calls.regrown_of ((h _ (below_regrown w d os)).mono fun _ _ ⟨he, hw⟩ => ⟨he, hw ▸ Below.refl _ _⟩)

/-- A cell that is there, in every world of the class. -/
theorem cell_in {w : World} {a : Addr} {v : Value} (h : w.cell? a = some v) : ∀ d os, (grow (redrawn w d) os).cell? a = some v := cell_regrown h
/-- a cell that is there stays, and Below adds up -/
theorem keep {w w' : World} {a : Addr} {v : Value} (hb : Below w.heap.size w w') (h : w.cell? a = some v) : w'.cell? a = some v := (hb.cell (block_lt_of_cell h)).trans h
theorem more {B : Nat} {w0 w w' : World} (h : Below B w0 w) (hB : B ≤ w.heap.size) (hb : Below w.heap.size w w') : Below B w0 w' := h.trans (hb.mono hB)

theorem ret_int {k : IntKind} {x y : Int} (h : x = y) : Ending.returned (.int k x) = .returned (.int k y) := by rw [h]
end
end Go.Proofs.Ytocepdhjkhhpfaa.Qt
namespace Go.Proofs.Ytocepdhjkhhpfaa.Qt
open Go Go.Sort Go.RowKit

section
variable {P : Program} {ops : Array Oper} {md : Region.Mode} {C : World → Prop}

/-- whatever stands behind n waits for something that stands at n or behind it -/
def depB (md : Region.Mode) (ops : Array Oper) (n : Nat) : Bool :=
  (List.range ops.size).all fun t => decide (t ≤ n) || (List.range t).any fun j => decide (n ≤ j) && Region.waitsFor md ops t j

theorem last_waits {n : Nat} {listed : Array Bool} (hs : Region.sinkB md ops n = true) (hn : n < ops.size) (inv : HeadInv md ops n listed) (d : Nat) :
    ∀ i, n - i ≤ d → i < n → listed.getD i true = false → n ∉ Region.ready md ops listed := by
  induction d with
  | zero => intro i hd hi; omega
  | succ d ih =>
    intro i hd hi hun hr
    obtain ⟨j, hj, hj2⟩ := List.any_eq_true.1 (List.all_eq_true.1 hs i (List.mem_range.2 hi))
    simp only [Bool.and_eq_true, decide_eq_true_eq] at hj2
    obtain ⟨oj, hoj, e, he, hb, hon⟩ := Region.waitsFor_spec hj2.2
    have hjn := List.mem_range.1 hj
    by_cases hl : listed.getD j false = true
    · have h2 := inv.closed j oj hoj hl e he hb
      rw [hon, getD_both hun] at h2
      cases h2
    · rcases Nat.lt_or_eq_of_le (Nat.le_of_lt_succ hjn) with hlt | heq
      · exact ih j (by omega) hlt (getD_in (by rw [inv.size]; omega) (by simpa using hl)) hr
      · subst heq
        obtain ⟨_, ot, hot, hall⟩ := mem_ready.1 hr
        obtain rfl : oj = ot := Option.some.inj (hoj.symm.trans hot)
        have h2 := hall e he hb
        rw [hon, getD_both hun] at h2
        cases h2

theorem rest_waits {n : Nat} {listed : Array Bool} (hs : Region.sinkB md ops n = true) (hd : depB md ops n = true) (hn : n < ops.size) (inv : HeadInv md ops n listed) {i : Nat} (hi : i < n) (hun : listed.getD i true = false) :
    ∀ t, n ≤ t → t ∉ Region.ready md ops listed := by
  intro t ht hr
  rcases Nat.lt_or_eq_of_le ht with hlt | heq
  · obtain ⟨_, ot, hot, hall⟩ := mem_ready.1 hr
    have hts : t < ops.size := (Array.getElem?_eq_some_iff.1 hot).1
    have h1 := List.all_eq_true.1 hd t (List.mem_range.2 hts)
    simp only [Bool.or_eq_true, decide_eq_true_eq] at h1
    rcases h1 with h1 | h1
    · omega
    · obtain ⟨j, hj, hj2⟩ := List.any_eq_true.1 h1
      simp only [Bool.and_eq_true, decide_eq_true_eq] at hj2
      obtain ⟨oj, hoj, e, he, hb, hon⟩ := Region.waitsFor_spec hj2.2
      obtain rfl : oj = ot := Option.some.inj (hoj.symm.trans hot)
      have h2 := hall e he hb
      have hjt := List.mem_range.1 hj
      rw [hon, getD_both (inv.tail j hj2.1 (by omega))] at h2
      cases h2
  · subst heq
    exact last_waits hs hn inv _ i (Nat.le_refl _) hi hun hr

theorem mid_first {n i : Nat} {oi : Oper} {v : Value} {L : Array Bool → Act → Prop} (hi : ops[i]? = some oi) (hsel : ∀ (j : Nat) (o : Oper) cs b, ops[j]? = some o → o.op ≠ .select cs b)
    (hs : Region.sinkB md ops n = true) (hc : depB md ops n = true) (hn : n < ops.size) (hin : i < n) (hdone : ∀ listed a, L listed a → ∀ j ∈ Region.ready md ops listed, n ≤ j) (f : Nat) :
    ∀ (listed : Array Bool) (a : Act), HeadInv md ops n listed →
      (∀ j oj, ops[j]? = some oj → j ≠ i → listed.getD j true = false → (∀ e ∈ oj.after, Region.binds md e = true → e.on ≠ i) → oi.apart ops oj = true) →
      i ∈ Region.ready md ops listed → YieldsIn P ops C oi v a →
      headAny P md ops C n L f (listed.setIfInBounds i true) (a.put oi.dst v) → headAny P md ops C n L (f + 1) listed a := by
  induction f with
  | zero =>
    intro listed a inv _ hr hy H
    refine ⟨fun h => (by rw [h] at hr; cases hr), fun j hj => ?_⟩
    have hjn : j < n := Nat.lt_of_not_le fun h => rest_waits hs hc hn inv hin (mem_ready.1 hr).1 j h hj
    refine ⟨hjn, ?_⟩
    by_cases hji : j = i
    · subst hji; exact hy.qOp hi H
    · exact absurd (hdone _ _ H j (ready_mono hj hji)) (by omega)
  | succ f ih =>
    intro listed a inv hfree hr hy H
    have hun := (mem_ready.1 hr).1
    refine ⟨fun h => (by rw [h] at hr; cases hr), fun j hj => ?_⟩
    have hjn : j < n := Nat.lt_of_not_le fun h => rest_waits hs hc hn inv hin hun j h hj
    refine ⟨hjn, ?_⟩
    by_cases hji : j = i
    · subst hji; exact hy.qOp hi H
    · obtain ⟨hjun, oj, hoj, hall⟩ := mem_ready.1 hj
      have hnot : ∀ e ∈ oj.after, Region.binds md e = true → e.on ≠ i := fun e he hb heq => by
        have h1 := hall e he hb
        rw [heq, getD_both hun] at h1
        cases h1
      have hq := qOp_put hoj (hfree j oj hoj hji hjun hnot) (fun cs b => hsel i oi cs b hi) (fun cs b => hsel j oj cs b hoj) hy (H.2 j (ready_mono hj hji)).2
      refine qOp_mono (fun a' h3 => ih (listed.setIfInBounds j true) a' (inv.set hj hjn) (fun k ok hk hki hku hno => hfree k ok hk hki ?_ hno) (ready_mono hr (Ne.symm hji)) h3.1 ?_) hq
      · by_cases hjk : j = k
        · subst hjk; exact hjun
        · rwa [getD_set_ne true hjk] at hku
      · rw [Array.setIfInBounds_comm _ _ hji]; exact h3.2

/-- behind the head: n alone may come, and behind it the rest ars it stands -/
def midEnd (md : Region.Mode) (ops : Array Oper) (n : Nat) (listed : Array Bool) : Bool :=
  decide (Region.ready md ops listed = [n]) && Region.lexFrom md ops (ops.size - (n + 1)) (n + 1) (listed.setIfInBounds n true)
def midHead (md : Region.Mode) (ops : Array Oper) (n : Nat) : Nat → Nat → Array Bool → Bool
  | 0, _, listed => midEnd md ops n listed
  | f + 1, k, listed => (Region.ready md ops listed).contains k && Region.free md ops listed k && midHead md ops n f (k + 1) (listed.setIfInBounds k true)
def midB (md : Region.Mode) (ops : Array Oper) (n : Nat) : Bool :=
  Region.noSelect ops && decide (n < ops.size) && Region.sinkB md ops n && depB md ops n && midHead md ops n n 0 (Array.replicate ops.size false)

theorem mid_lex {n : Nat} {Lq : Act → Prop} (hsel : Region.noSelect ops = true) (hs : Region.sinkB md ops n = true) (hc : depB md ops n = true) (hn : n < ops.size) (l : List Oper) :
    ∀ (k : Nat) (listed : Array Bool) (a : Act), (∀ j, j < l.length → l[j]? = ops[k + j]?) → k + l.length = n → HeadInv md ops n listed →
    midHead md ops n l.length k listed = true → wpQuiet P ops C Lq l a →
    headAny P md ops C n (fun listed' a' => midEnd md ops n listed' = true ∧ Lq a') l.length listed a := by
  induction l with
  | nil =>
    intro k listed a _ hk _ hB h
    exact ⟨by simpa [midHead] using hB, h⟩
  | cons o l ih =>
    intro k listed a hl hk inv hB h
    have h0 : ops[k]? = some o := by simpa using (hl 0 (by simp)).symm
    simp only [List.length_cons, midHead, Bool.and_eq_true] at hB
    have hkn : k < n := by simp only [List.length_cons] at hk; omega
    have hr' : k ∈ Region.ready md ops listed := by simpa using hB.1.1
    have hst : qOp P ops C k (wpQuiet P ops C Lq l) a := by unfold qOp; simp only [h0]; exact h
    obtain ⟨v, hy, hK⟩ := yieldsIn_of_qOp h0 hst
    refine mid_first h0 (Region.noSelect_spec hsel) hs hc hn hkn (fun listed' a' hL j hj => ?_) l.length listed a inv (Region.free_spec h0 hB.1.2) hr' hy
      (ih (k + 1) _ _ (fun j hj => by have := hl (j + 1) (by simp; omega); simpa [Nat.add_assoc, Nat.add_comm 1 j] using this) (by simp only [List.length_cons] at hk; omega) (inv.set hr' hkn) hB.2 hK)
    have h1 := hL.1
    simp only [midEnd, Bool.and_eq_true, decide_eq_true_eq] at h1
    rw [h1.1] at hj
    have : j = n := by simpa using hj
    omega

theorem wpOp_call {n : Nat} {o : Oper} {f : FuncId} {ars : Array Operand} {ts : Array TypeId} {Q : Exit → Act → World → Prop} {K : Act → World → Prop} {a : Act} {w : World} (ho : ops[n]? = some o) (hg : o.guard = none)
    {fn : Func} (hf : P.funcs[f]? = some fn) (hnm0 : (fn.name == "runtime.NumGoroutine") = false) (hbd0 : fn.body.isNone = false) (hop : o.op = .call { callee := .value (.func f), args := ars, argTypes := ts }) (h : Calls P f (ars.map a.eval) w fun e w' => ∃ v, e = .returned v ∧ K (a.put o.dst v) w') : wpOp P ops Q n K a w := by
  unfold wpOp
  simp only [ho]
  have hw : Region.wanted o (yielded ops a.tmps) = true := by simp [Region.wanted, hg]
  rw [if_pos hw]
  left
  unfold Oper.wp
  have hnm : ¬ fn.name = "runtime.NumGoroutine" := by simpa using hnm0
  have hbd : ¬ fn.body = none := fun e => by rw [e] at hbd0; cases hbd0
  have he : a.eval (.func f) = .func (.func f) #[] #[] := rfl
  simp [execOp, hop, resolve, invoke, Result.andThen, Oper.upon, he, Deferred.ofValue, callFunc, hf, hnm, hbd]
  refine h.mono ?_
  rintro e w' ⟨v, rfl, hk⟩
  exact hk

/-- One walk of the text: quiet, the call, quiet. -/
theorem region_call {id : Nat} {Q : Exit → Act → World → Prop} {a : Act} {w : World} {l : List Oper} (n : Nat) {o : Oper} {f : FuncId} {ars : Array Operand} {ts : Array TypeId} (hm : P.follows .mixedOrders = true) (hB : midB .any l.toArray n = true)
    (ho : l[n]? = some o) (hg : o.guard = none) {fn : Func} (hf : P.funcs[f]? = some fn) (hnm0 : (fn.name == "runtime.NumGoroutine") = false) (hbd0 : fn.body.isNone = false) (hop : o.op = .call { callee := .value (.func f), args := ars, argTypes := ts })
    (h : wpQuiet P l.toArray (fun w' => ∃ p : Regrown, w' = grow (redrawn w p.d) p.os) (fun a' => ∀ w', Below w.heap.size w w' → Calls P f (ars.map a'.eval) w' fun e w'' => ∃ v, e = .returned v ∧
      wpQuiet P l.toArray (fun w3 => ∃ p : Regrown, w3 = grow (redrawn w'' p.d) p.os) (fun a3 => ∀ w3, Below w''.heap.size w'' w3 → Q .normal a3 w3) (l.drop (n + 1)) (a'.put o.dst v)) (l.take n) a) : (Code.region id l.toArray true).wp P Q a w := by
  simp only [midB, Bool.and_eq_true, decide_eq_true_eq] at hB
  obtain ⟨⟨⟨⟨hsel, hn⟩, hs⟩, hc⟩, hlex⟩ := hB
  have hn' : n < l.length := by simpa using hn
  have htl : (l.take n).length = n := by simp; omega
  have hdl : (l.drop (n + 1)).length = l.toArray.size - (n + 1) := by simp
  have inv0 : HeadInv .any l.toArray n (Array.replicate l.toArray.size false) :=
    ⟨by simp, fun j oj _ hl => (by rw [getD_replicate_false] at hl; cases hl), fun t _ ht => getD_in (by simpa using ht) (getD_replicate_false _ _)⟩
  have ho' : l.toArray[n]? = some o := by simpa using ho
  have H := mid_lex (P := P) (C := fun w' => ∃ p : Regrown, w' = grow (redrawn w p.d) p.os) (md := .any) hsel hs hc hn (l.take n) 0 _ a (fun j hj => by rw [htl] at hj; simp [hj]) (by simpa using htl) inv0 (by rw [htl]; exact hlex) h
  refine wp_region_any hm ?_
  have e := any_of_head (Q := Q) (g := l.toArray.size - n) (fun listed a' w' hw' hL => by
    obtain ⟨h1, h2⟩ := hL
    simp only [midEnd, Bool.and_eq_true, decide_eq_true_eq] at h1
    obtain ⟨p, hp⟩ := hw'
    rw [show l.toArray.size - n = (l.toArray.size - (n + 1)) + 1 by omega]
    refine ⟨fun h0 => (by rw [h1.1] at h0; cases h0), fun i hi => ?_⟩
    rw [h1.1] at hi
    obtain rfl : i = n := by simpa using hi
    refine wpOp_call ho' hg hf hnm0 hbd0 hop ((h2 w' (hp ▸ below_regrown w p.d p.os)).mono fun e w'' ⟨v, he, hq⟩ => ⟨v, he, ?_⟩)
    refine wpAny_of_quiet (C := fun w3 => ∃ p : Regrown, w3 = grow (redrawn w'' p.d) p.os) (Q := fun a3 => ∀ w3, Below w''.heap.size w'' w3 → Q .normal a3 w3) (fun a3 w3 ⟨p3, hp3⟩ h3 => h3 w3 (hp3 ▸ below_regrown w'' p3.d p3.os)) _ _ _ _ ⟨⟨w''.drawn, #[]⟩, by rw [grow_empty]; rfl⟩ ?_
    have := wpAnyQ_lex (P := P) (C := fun w3 => ∃ p : Regrown, w3 = grow (redrawn w'' p.d) p.os) (md := .any) hsel (l.drop (i + 1)) (i + 1) (listed.setIfInBounds i true) (a'.put o.dst v) (fun j => by simp [List.getElem?_drop]) (by rw [hdl]; exact h1.2) hq
    rwa [hdl] at this) _ _ _ w.drew ⟨⟨w.drawn + 1, #[]⟩, by rw [grow_empty]; rfl⟩ H
  rw [htl, show n + (l.toArray.size - n) = l.toArray.size by omega] at e
  exact e
end
end Go.Proofs.Ytocepdhjkhhpfaa.Qt
namespace Go.Proofs.Ytocepdhjkhhpfaa.Qt
open Go Go.Sort Go.RowKit

/-- It ends as it should, nothing else. -/
def Qn (K : Act → World → Prop) : Exit → Act → World → Prop := fun x a w => x = .normal ∧ K a w

section
variable {P : Program} {ops : Array Oper} {md : Region.Mode} {C : World → Prop}

def PureV (P : Program) (ops : Array Oper) (o : Oper) (v : Value) (a : Act) : Prop :=
  Region.wanted o (yielded ops a.tmps) = true ∧ ∀ w, (execOp a.eval o).run P w = .ok (.value v) w

theorem no_letsOut {K : Act → World → Prop} (h : LetsOut (Qn K)) : False := by
  obtain ⟨a, w, h1, _⟩ := h
  cases h1

theorem upon_qn {o : Oper} {a : Act} {K K' : Act → World → Prop} {Kf : Act → World → Prop} {Q' : Exit → Act → World → Prop} (h : ∀ a w, K a w → K' a w) (r : Result Next) (hh : o.upon P a K (Qn Kf) r) : o.upon P a K' Q' r := by
  cases r with
  | ok n w' =>
    cases n <;> simp only [Oper.upon] at hh ⊢ <;>
      first
        | exact h _ _ hh
        | exact Calls.mono hh (fun e w'' he => by cases e <;> first | exact h _ _ he | exact absurd he.1 (by simp) | exact (no_letsOut he).elim)
        | exact Rows.mono hh (fun _ _ he => h _ _ he)
  | halt x w' => cases x <;> simp only [Oper.upon] at hh ⊢ <;> first | exact hh | exact absurd hh.1 (by simp)

theorem wpOp_qn {i : Nat} {a : Act} {w : World} {K K' : Act → World → Prop} {Kf : Act → World → Prop} {Q' : Exit → Act → World → Prop} (h : ∀ a w, K a w → K' a w) (hh : wpOp P ops (Qn Kf) i K a w) : wpOp P ops Q' i K' a w := by
  unfold wpOp at *
  split
  · exact h _ _ (by simpa [*] using hh)
  · rename_i o ho
    simp only [ho] at hh
    split
    · rename_i hw
      simp only [hw, if_true] at hh
      rcases hh with hh | hh
      · left; unfold Oper.wp at *; exact upon_qn h _ hh
      · exact (no_letsOut hh.2).elim
    · rename_i hw; simp only [hw] at hh; exact h _ _ hh

theorem any_qn {Kf : Act → World → Prop} {Q : Exit → Act → World → Prop} (hQ : ∀ a w, Kf a w → Q .normal a w) (f : Nat) : ∀ listed a w, wpAny P md ops (Qn Kf) f listed a w → wpAny P md ops Q f listed a w := by
  induction f with
  | zero => intro listed a w h; exact ⟨h.1, hQ _ _ h.2.2⟩
  | succ f ih => intro listed a w h; exact ⟨fun h0 => hQ _ _ (h.1 h0).2, fun i hi => wpOp_qn (fun a' w' h' => ih _ a' w' h') (h.2 i hi)⟩

theorem upon_put {o : Oper} {a : Act} {d : Option Nat} {v : Value} {K : Act → World → Prop} {Kf : Act → World → Prop} {R : Act → Prop} (hc : ∀ (a : Act) u, (a.put d v).put o.dst u = (a.put o.dst u).put d v)
    (hk : ∀ a u, R a → R (a.put o.dst u)) (hd : ∀ (a : Act) ds, R a → R { a with defers := ds }) (ha : R a) (r : Result Next) (hh : o.upon P (a.put d v) K (Qn Kf) r) :
    o.upon P a (fun a' w' => R a' ∧ K (a'.put d v) w') (Qn Kf) r := by
  cases r with
  | ok n w' =>
    cases n <;> simp only [Oper.upon] at hh ⊢ <;>
      first
        | (rw [hc] at hh; exact ⟨hk _ _ ha, hh⟩)
        | exact Calls.mono hh (fun e w'' he => by cases e <;> first | (simp only [hc] at he; exact ⟨hk _ _ ha, he⟩) | exact absurd he.1 (by simp) | exact (no_letsOut he).elim)
        | exact Rows.mono hh (fun _ _ he => by rw [hc] at he; exact ⟨hk _ _ ha, he⟩)
        | (rename_i dd
           have e : ({ a.put d v with defers := dd :: (a.put d v).defers } : Act) = ({ a with defers := dd :: a.defers } : Act).put d v := by cases d <;> rfl
           rw [e, hc] at hh
           exact ⟨hk _ _ (hd _ _ ha), hh⟩)
  | halt x w' => cases x <;> simp only [Oper.upon] at hh ⊢ <;> first | exact hh | exact absurd hh.1 (by simp)

theorem PureV.op {i : Nat} {oi : Oper} {v : Value} {a : Act} (hi : ops[i]? = some oi) (hp : PureV P ops oi v a) {K : Act → World → Prop} {Q : Exit → Act → World → Prop} {w : World} (h : K (a.put oi.dst v) w) : wpOp P ops Q i K a w := by
  unfold wpOp
  simp only [hi, hp.1, if_true]
  left
  unfold Oper.wp
  rw [hp.2 w]
  exact h

/-! ### operations that only move come first, then the rest in the one order that is left -/

/-! ### Operation 0 first, then quiet ones in whatever order, then the rest in one order -/
end
end Go.Proofs.Ytocepdhjkhhpfaa.Qt
namespace Go.Proofs.Ytocepdhjkhhpfaa.Qt
open Go Go.Sort Go.RowKit

inductive Scr where
  | done : Scr
  | pure : Nat → Scr → Scr
  | only : Nat → Scr → Scr
  | two : Nat → Nat → Scr → Scr → Scr
  | three : Nat → Nat → Nat → Scr → Scr → Scr → Scr

def Scr.len : Scr → Nat
  | .done => 0
  | .pure _ s => s.len + 1
  | .only _ s => s.len + 1
  | .two _ _ s _ => s.len + 1
  | .three _ _ _ s _ _ => s.len + 1

section
variable {P : Program} {ops : Array Oper} {md : Region.Mode}

end
end Go.Proofs.Ytocepdhjkhhpfaa.Qt
namespace Go.Proofs.Ytocepdhjkhhpfaa.Qt
open Go Go.Sort Go.RowKit

inductive Scc where
  | done : Scc
  | calm : Nat → Scc → Scc
  | only : Nat → Scc → Scc
  | two : Nat → Nat → Scc → Scc → Scc
  | three : Nat → Nat → Nat → Scc → Scc → Scc → Scc
def Scc.len : Scc → Nat
  | .done => 0
  | .calm _ s => s.len + 1
  | .only _ s => s.len + 1
  | .two _ _ s _ => s.len + 1
  | .three _ _ _ s _ _ => s.len + 1

section
variable {P : Program} {ops : Array Oper} {md : Region.Mode} {C : World → Prop}

/-- In every world of the class it leaves the world as it is, and yields v. -/
def CalmV (P : Program) (ops : Array Oper) (C : World → Prop) (o : Oper) (v : Value) (a : Act) : Prop :=
  Region.wanted o (yielded ops a.tmps) = true ∧ ∀ W, C W → Oper.quietUpon P (fun w' => w' = W) W v ((execOp a.eval o).run P W)

theorem CalmV.op {i : Nat} {oi : Oper} {v : Value} {a : Act} (hi : ops[i]? = some oi) (hp : CalmV P ops C oi v a) {K : Act → World → Prop} {Q : Exit → Act → World → Prop} {w : World} (hw : C w) (h : K (a.put oi.dst v) w) : wpOp P ops Q i K a w := by
  unfold wpOp
  simp only [hi, hp.1, if_true]
  left
  refine Oper.wp_of_quiet (C := fun w' => w' = w) (K := fun a' => a' = a.put oi.dst v) rfl (fun a' w' hw' ha' => ?_) ⟨v, fun W hW => ?_, rfl⟩
  · subst hw' ha'
    exact h
  · subst hW
    exact hp.2 W hw

theorem wpOp_keep {j : Nat} {oi oj : Oper} {v : Value} (R : Act → Prop) (hj : ops[j]? = some oj) (hap : oi.apart ops oj = true) (hsi : ∀ cs b, oi.op ≠ .select cs b) (hsj : ∀ cs b, oj.op ≠ .select cs b) {K : Act → World → Prop} {Kf : Act → World → Prop} {a : Act} {w : World}
    (keep : ∀ (a : Act) u, R a → R (a.put oj.dst u)) (hd : ∀ (a : Act) ds, R a → R { a with defers := ds })
    (hp : R a) (h : wpOp P ops (Qn Kf) j K (a.put oi.dst v) w) : wpOp P ops (Qn Kf) j (fun a' w' => R a' ∧ K (a'.put oi.dst v) w') a w := by
  obtain ⟨h1, h2, h3⟩ := Oper.apart_spec hap
  unfold wpOp at *
  simp only [hj] at *
  rw [wanted_put oj a oi.dst v h1] at h
  split
  · rename_i hw
    simp only [hw, if_true] at h
    rcases h with h | h
    · left
      unfold Oper.wp at *
      rw [execOp_put oj hsj a oi.dst v h1] at h
      exact upon_put (R := R) (fun a u => Act.put_comm a v u h2) keep hd hp _ h
    · exact (no_letsOut h.2).elim
  · rename_i hw
    simp only [hw] at h
    exact ⟨keep _ _ hp, by rw [← Act.put_comm a v undef h2]; exact h⟩

/-- whatever order is picked; each world is one of the class -/
def wpAnyC (P : Program) (md : Region.Mode) (ops : Array Oper) (C : World → Prop) (Kf : Act → World → Prop) : Nat → Array Bool → Act → World → Prop
  | 0, listed, a, w => Region.ready md ops listed = [] ∧ Kf a w
  | f + 1, listed, a, w => Region.ready md ops listed ≠ [] ∧ ∀ i ∈ Region.ready md ops listed, wpOp P ops (Qn fun _ _ => False) i (fun a' w' => C w' ∧ wpAnyC P md ops C Kf f (listed.setIfInBounds i true) a' w') a w

theorem any_of_C {Kf : Act → World → Prop} (f : Nat) : ∀ listed a w, wpAnyC P md ops C Kf f listed a w → wpAny P md ops (Qn Kf) f listed a w := by
  induction f with
  | zero => intro listed a w h; exact ⟨h.1, rfl, h.2⟩
  | succ f ih => intro listed a w h; exact ⟨fun h0 => absurd h0 h.1, fun i hi => wpOp_qn (fun a' w' h' => ih _ a' w' h'.2) (h.2 i hi)⟩

theorem calm_first {Kf : Act → World → Prop} {i : Nat} {oi : Oper} {v : Value} (hi : ops[i]? = some oi) (hsel : ∀ (j : Nat) (o : Oper) cs b, ops[j]? = some o → o.op ≠ .select cs b) (f : Nat) :
    ∀ (listed : Array Bool) (a : Act) (w : World), C w →
      (∀ j oj, ops[j]? = some oj → j ≠ i → listed.getD j true = false → (∀ e ∈ oj.after, Region.binds md e = true → e.on ≠ i) → oi.apart ops oj = true) →
      i ∈ Region.ready md ops listed → CalmV P ops C oi v a →
      wpAnyC P md ops C Kf f (listed.setIfInBounds i true) (a.put oi.dst v) w → wpAnyC P md ops C Kf (f + 1) listed a w := by
  induction f with
  | zero =>
    intro listed a w hC _ hr hp H
    refine ⟨fun h => (by rw [h] at hr; cases hr), fun j hj => ?_⟩
    by_cases hji : j = i
    · subst hji; exact hp.op hi hC ⟨hC, H⟩
    · have := ready_mono hj hji
      rw [H.1] at this
      cases this
  | succ f ih =>
    intro listed a w hC hfree hr hp H
    refine ⟨fun h => (by rw [h] at hr; cases hr), fun j hj => ?_⟩
    by_cases hji : j = i
    · subst hji; exact hp.op hi hC ⟨hC, H⟩
    · obtain ⟨hjun, oj, hoj, hall⟩ := mem_ready.1 hj
      have hun := (mem_ready.1 hr).1
      have hnot : ∀ e ∈ oj.after, Region.binds md e = true → e.on ≠ i := fun e he hb heq => by
        have h1 := hall e he hb
        rw [heq, getD_both hun] at h1
        cases h1
      have hap := hfree j oj hoj hji hjun hnot
      obtain ⟨h1, h2, h3⟩ := Oper.apart_spec hap
      have keep : ∀ (a : Act) u, CalmV P ops C oi v a → CalmV P ops C oi v (a.put oj.dst u) := fun a u hp => by
        unfold CalmV at *
        rw [execOp_put oi (fun cs b => hsel i oi cs b hi) a oj.dst u h3, wanted_put oi a oj.dst u h3]
        exact hp
      refine wpOp_mono (fun a' w' h3 => ⟨h3.2.1, ih (listed.setIfInBounds j true) a' w' h3.2.1 (fun k ok hk hki hku hno => hfree k ok hk hki ?_ hno) (ready_mono hr (Ne.symm hji)) h3.1 ?_⟩)
        (wpOp_keep (CalmV P ops C oi v) hoj hap (fun cs b => hsel i oi cs b hi) (fun cs b => hsel j oj cs b hoj) keep (fun _ _ h => h) hp (H.2 j (ready_mono hj hji)))
      · by_cases hjk : j = k
        · subst hjk; exact hjun
        · rwa [getD_set_ne true hjk] at hku
      · rw [Array.setIfInBounds_comm _ _ hji]; exact h3.2.2

def treeCB (md : Region.Mode) (ops : Array Oper) : Scc → Array Bool → Bool
  | .done, listed => (Region.ready md ops listed).isEmpty
  | .calm k s, listed => (Region.ready md ops listed).contains k && Region.free md ops listed k && treeCB md ops s (listed.setIfInBounds k true)
  | .only k s, listed => decide (Region.ready md ops listed = [k]) && treeCB md ops s (listed.setIfInBounds k true)
  | .two j k s t, listed => decide (Region.ready md ops listed = [j, k]) && decide (s.len = t.len) && treeCB md ops s (listed.setIfInBounds j true) && treeCB md ops t (listed.setIfInBounds k true)
  | .three i j k r s t, listed => decide (Region.ready md ops listed = [i, j, k]) && decide (r.len = s.len) && decide (r.len = t.len) && treeCB md ops r (listed.setIfInBounds i true) && treeCB md ops s (listed.setIfInBounds j true) && treeCB md ops t (listed.setIfInBounds k true)
def treeCW (P : Program) (ops : Array Oper) (C : World → Prop) (Kf : Act → World → Prop) : Scc → Act → World → Prop
  | .done, a, w => Kf a w
  | .calm k s, a, w => ∃ (o : Oper) (d : Option Tmp) (v : Value), ops[k]? = some o ∧ o.dst = d ∧ CalmV P ops C o v a ∧ treeCW P ops C Kf s (a.put d v) w
  | .only k s, a, w => ∃ o : Oper, ops[k]? = some o ∧ wpList P ops (Qn fun a w => C w ∧ treeCW P ops C Kf s a w) [o] a w
  | .two j k s t, a, w => (∃ o : Oper, ops[j]? = some o ∧ wpList P ops (Qn fun a w => C w ∧ treeCW P ops C Kf s a w) [o] a w) ∧ ∃ o : Oper, ops[k]? = some o ∧ wpList P ops (Qn fun a w => C w ∧ treeCW P ops C Kf t a w) [o] a w
  | .three i j k r s t, a, w => (∃ o : Oper, ops[i]? = some o ∧ wpList P ops (Qn fun a w => C w ∧ treeCW P ops C Kf r a w) [o] a w) ∧ (∃ o : Oper, ops[j]? = some o ∧ wpList P ops (Qn fun a w => C w ∧ treeCW P ops C Kf s a w) [o] a w) ∧ ∃ o : Oper, ops[k]? = some o ∧ wpList P ops (Qn fun a w => C w ∧ treeCW P ops C Kf t a w) [o] a w

theorem op_of_list {Kf : Act → World → Prop} {k : Nat} {o : Oper} {s : Scc} {listed : Array Bool} {a : Act} {w : World} {n : Nat} (ho : ops[k]? = some o) (h : wpList P ops (Qn fun a w => C w ∧ treeCW P ops C Kf s a w) [o] a w)
    (ih : ∀ a' w', C w' → treeCW P ops C Kf s a' w' → wpAnyC P md ops C Kf n (listed.setIfInBounds k true) a' w') :
    wpOp P ops (Qn fun _ _ => False) k (fun a' w' => C w' ∧ wpAnyC P md ops C Kf n (listed.setIfInBounds k true) a' w') a w := by
  have hw : wpOp P ops (Qn fun a w => C w ∧ treeCW P ops C Kf s a w) k (wpList P ops (Qn fun a w => C w ∧ treeCW P ops C Kf s a w) []) a w := by unfold wpOp; simp only [ho]; exact h
  exact wpOp_qn (fun a' w' h' => ⟨h'.2.1, ih a' w' h'.2.1 h'.2.2⟩) hw

theorem any_treeC {Kf : Act → World → Prop} (hsel : Region.noSelect ops = true) (s : Scc) :
    ∀ (listed : Array Bool) (a : Act) (w : World), C w → treeCB md ops s listed = true → treeCW P ops C Kf s a w → wpAnyC P md ops C Kf s.len listed a w := by
  induction s with
  | done =>
    intro listed a w _ hB h
    exact ⟨by simpa [treeCB] using hB, h⟩
  | calm k s ih =>
    intro listed a w hC hB h
    obtain ⟨o, d, v, ho, hd, hp, hrest⟩ := h
    subst hd
    simp only [treeCB, Bool.and_eq_true] at hB
    exact calm_first ho (Region.noSelect_spec hsel) _ listed a w hC (Region.free_spec ho hB.1.2) (by simpa using hB.1.1) hp (ih _ _ _ hC hB.2 hrest)
  | only k s ih =>
    intro listed a w hC hB h
    obtain ⟨o, ho, h⟩ := h
    simp only [treeCB, Bool.and_eq_true, decide_eq_true_eq] at hB
    refine ⟨fun h1 => (by rw [hB.1] at h1; cases h1), fun i hi => ?_⟩
    rw [hB.1] at hi
    obtain rfl : i = k := by simpa using hi
    exact op_of_list ho h (fun a' w' hc ht => ih _ a' w' hc hB.2 ht)
  | two j k s t ihs iht =>
    intro listed a w hC hB h
    obtain ⟨⟨o, ho, h1⟩, ⟨o', ho', h2⟩⟩ := h
    simp only [treeCB, Bool.and_eq_true, decide_eq_true_eq] at hB
    obtain ⟨⟨⟨hr, hl⟩, hs⟩, ht⟩ := hB
    refine ⟨fun h1 => (by rw [hr] at h1; cases h1), fun i hi => ?_⟩
    rw [hr] at hi
    simp only [List.mem_cons, List.not_mem_nil, or_false] at hi
    rcases hi with rfl | rfl
    · exact op_of_list ho h1 (fun a' w' hc h' => ihs _ a' w' hc hs h')
    · exact op_of_list ho' h2 (fun a' w' hc h' => by have := iht _ a' w' hc ht h'; rwa [← hl] at this)
  | three p j k r s t ihr ihs iht =>
    intro listed a w hC hB h
    obtain ⟨⟨o0, ho0, h0⟩, ⟨o, ho, h1⟩, ⟨o', ho', h2⟩⟩ := h
    simp only [treeCB, Bool.and_eq_true, decide_eq_true_eq] at hB
    obtain ⟨⟨⟨⟨⟨hr, hl⟩, hl2⟩, h3⟩, hs⟩, ht⟩ := hB
    refine ⟨fun h1 => (by rw [hr] at h1; cases h1), fun i hi => ?_⟩
    rw [hr] at hi
    simp only [List.mem_cons, List.not_mem_nil, or_false] at hi
    rcases hi with rfl | rfl | rfl
    · exact op_of_list ho0 h0 (fun a' w' hc h' => ihr _ a' w' hc h3 h')
    · exact op_of_list ho h1 (fun a' w' hc h' => by have := ihs _ a' w' hc hs h'; rwa [← hl] at this)
    · exact op_of_list ho' h2 (fun a' w' hc h' => by have := iht _ a' w' hc ht h'; rwa [← hl2] at this)

/-- A region that draws its order, by a script with calm operations, to what is known at its end. -/
theorem region_calm {id : Nat} {Q : Exit → Act → World → Prop} {a : Act} {w : World} {l : List Oper} (C : World → Prop) (R : Act → World → Prop) (s : Scc) (hm : P.follows .mixedOrders = true) (hsel : Region.noSelect l.toArray = true)
    (hB : treeCB .any l.toArray s (Array.replicate l.toArray.size false) = true) (hlen : s.len = l.length) (hC : C w.drew)
    (h : treeCW P l.toArray C R s a w.drew) (hQ : ∀ a' w', R a' w' → Q .normal a' w') : (Code.region id l.toArray true).wp P Q a w := by
  refine wp_region_any hm ?_
  have := any_of_C _ _ _ _ (any_treeC (P := P) (md := .any) (Kf := R) hsel s _ a w.drew hC hB h)
  rw [hlen] at this
  have e := any_qn hQ _ _ _ _ this
  simpa using e
end
end Go.Proofs.Ytocepdhjkhhpfaa.Qt
namespace Go.Proofs.Ytocepdhjkhhpfaa
open Go.Lib

/-! ### texts -/
def dv (c : UInt8) : Nat := c.toNat - 48
def val (l : List UInt8) : Nat := l.foldl (fun n c => 10 * n + dv c) 0
/-! ### the order of texts -/
/-! ### exponents -/
end Go.Proofs.Ytocepdhjkhhpfaa
namespace Go.Proofs.Ytocepdhjkhhpfaa
open Go.RowKit Go.Sort

def I64 (n : Int) : Prop := -9223372036854775808 ≤ n ∧ n ≤ 9223372036854775807

/-- The table of powers of ten, that the library's Itoa looks into. -/
def tabName : String := Rows.freeRunsRow.named.getD 0 default
def Tab (w : World) : Prop := Lib.TabIs Try.prog w tabName .u64 Lib.pow10Tab
theorem Tab.below {w w' : World} (h : Tab w) (hb : Below w.heap.size w w') : Tab w' := Lib.tabBelow_of_tabIs h w' hb

def pickI (c n : Int) : Int := if c < 0 then (-(c + 1)) % n else c % n
theorem pickI_bd (c n : Int) (hn : 1 ≤ n) : 0 ≤ pickI c n ∧ pickI c n < n := by
  unfold pickI
  split
  · exact ⟨Int.emod_nonneg _ (by omega), Int.emod_lt_of_pos _ (by omega)⟩
  · exact ⟨Int.emod_nonneg _ (by omega), Int.emod_lt_of_pos _ (by omega)⟩

theorem pick_any (c n : Int) (w : World) (h1 : -9223372036854775808 ≤ c) (h2 : c ≤ 9223372036854775807) (hn : 1 ≤ n) (hn2 : n ≤ 9223372036854775807) :
    Calls Try.prog 36 #[.int .i64 c, .int .i64 n] w fun e w' => e = .returned (.int .i64 (pickI c n)) ∧ w = w' := by
  generalize hr : pickI c n = r
  have HR := Lib.hid hr
  clear hr
  go_enter Try.func36, Try.ntmps36
  go_wp2
  all_goals go_ret
  all_goals refine ⟨?_, rfl⟩
  all_goals (refine Qt.ret_int ?_; rw [← HR.out]; unfold pickI)
  · rw [if_pos (by assumption), ← Int.neg_tmod, Int.tmod_eq_emod_of_nonneg (by omega)]
  · rw [if_neg (by omega)]
/-! ### slices of numbers -/

/-- The slice at A of l.length numbers reads as l, below block B. -/
def Rd (w : World) (B : Nat) (A : Option Addr) (l : List Int) : Prop :=
  ∀ j, j < l.length → ∃ b off, A = some ⟨b, off, none⟩ ∧ b < B ∧ w.cell? ⟨b, off + j, none⟩ = some (.int .i64 (l.getD j 0))

theorem Rd.below {w w' : World} {B B' : Nat} {A : Option Addr} {l : List Int} (h : Rd w B A l) (hb : Below B' w w') (hB : B ≤ B') : Rd w' B A l := fun j hj => by
  obtain ⟨b, off, e, hlt, h0⟩ := h j hj
  exact ⟨b, off, e, hlt, (hb.cell (p := ⟨b, off + j, none⟩) (Nat.lt_of_lt_of_le hlt hB)).trans h0⟩
theorem Rd.more {w : World} {B B' : Nat} {A : Option Addr} {l : List Int} (h : Rd w B A l) (hB : B ≤ B') : Rd w B' A l := fun j hj => by
  obtain ⟨b, off, e, hlt, h0⟩ := h j hj
  exact ⟨b, off, e, by omega, h0⟩
theorem Rd.nil (w : World) (B : Nat) (A : Option Addr) : Rd w B A [] := fun j hj => absurd hj (Nat.not_lt_zero j)
theorem Rd.at_ {w : World} {B : Nat} {A : Option Addr} {l : List Int} (h : Rd w B A l) (hn : 0 < l.length) :
    ∃ b off, A = some ⟨b, off, none⟩ ∧ b < B ∧ ∀ j, j < l.length → w.cell? ⟨b, off + j, none⟩ = some (.int .i64 (l.getD j 0)) := by
  obtain ⟨b, off, e, hlt, _⟩ := h 0 hn
  refine ⟨b, off, e, hlt, fun j hj => ?_⟩
  obtain ⟨b', off', e', _, h0⟩ := h j hj
  rw [e] at e'
  injection e' with e'
  injection e' with e1 e2
  subst e1 e2
  exact h0
/-- A slice whose cells read as a list, now. -/
def Now (w : World) (A : Option Addr) (l : List Int) : Prop := Rd w w.heap.size A l
theorem Now.below {w w' : World} {A : Option Addr} {l : List Int} (h : Now w A l) (hb : Below w.heap.size w w') : Now w' A l := (Rd.below h hb (Nat.le_refl _)).more hb.size
theorem now_nil (w : World) (A : Option Addr) : Now w A [] := Rd.nil _ _ _

/-- A slice that the call itself has made. -/
abbrev Own (w : World) (B : Nat) (v : Value) (l : List Int) : Prop := w.ownsRow B 3 1 v l.length (l.map (Value.int .i64))
/-- It reads as its list. -/
def Reads (w : World) (v : Value) (l : List Int) : Prop := ∃ A c, v = .slice A l.length c ∧ l.length ≤ c ∧ Now w A l
theorem Own.reads {w : World} {B : Nat} {v : Value} {l : List Int} (h : Own w B v l) : Reads w v l := by
  rcases h.2 with ⟨rfl, h0⟩ | ⟨g, cap, cur, rfl, hb, hh, hn, hcap, hsz, htake⟩
  · have : l = [] := by simpa using h0
    subst this
    exact ⟨none, 0, rfl, Nat.le_refl _, now_nil _ _⟩
  · refine ⟨some ⟨g, 0, none⟩, cap, rfl, hn, fun j hj => ⟨g, 0, rfl, (World.ownsRow.lt h g rfl).2, ?_⟩⟩
    have := World.ownsRow.cellAt h j (by simpa using hj)
    rw [Nat.zero_add]
    rw [this]
    simp [List.getD_eq_getElem?_getD, List.getElem?_eq_getElem hj]
theorem Reads.below {w w' : World} {v : Value} {l : List Int} (h : Reads w v l) (hb : Below w.heap.size w w') : Reads w' v l := by
  obtain ⟨A, c, e, hc, hR⟩ := h
  exact ⟨A, c, e, hc, hR.below hb⟩

end Go.Proofs.Ytocepdhjkhhpfaa
namespace Go.Proofs.Ytocepdhjkhhpfaa
set_option linter.unusedVariables false
set_option linter.unusedSimpArgs false

/-- an access: its kind, its place, what is to be there, what is to be written -/
abbrev Ac := Int × Int × Int × Int
def deadA : Ac := (0, 0, 0, 0)
/-- what an access answers: the words, what was there, whether it was done, the error -/
abbrev DoT := List Int × Int × Bool × Int
def mayW (n : Int) : Bool := decide (-1152921504606846975 ≤ n) && decide (n ≤ 1152921504606846975)
def knownA (k : Int) : Bool := decide (1 ≤ k) && decide (k ≤ 4)
/-- what is to be written -/
def toA (y : Ac) (x : Int) : Int := if y.1 = 4 then x + y.2.2.2 else y.2.2.2
def doA (m : List Int) (y : Ac) : DoT :=
  if knownA y.1 = false ∨ 100000 < m.length then (m, 0, false, 1)
  else if y.2.1 < 0 ∨ (m.length : Int) ≤ y.2.1 then (m, 0, false, 2)
  else if y.1 = 1 then (m, m.getD y.2.1.toNat 0, true, 0)
  else if mayW (toA y (m.getD y.2.1.toNat 0)) = false then (m, 0, false, 2)
  else if y.1 = 3 ∧ m.getD y.2.1.toNat 0 ≠ y.2.2.1 then (m, m.getD y.2.1.toNat 0, false, 0)
  else (m.set y.2.1.toNat (toA y (m.getD y.2.1.toNat 0)), m.getD y.2.1.toNat 0, true, 0)
theorem doA_len (m : List Int) (y : Ac) : (doA m y).1.length = m.length := by
  unfold doA
  repeat' split
  all_goals simp
theorem i64_getD0 {l : List Int} (h : ∀ x ∈ l, I64 x) (j : Nat) : I64 (l.getD j 0) := by
  rw [List.getD_eq_getElem?_getD]
  by_cases hj : j < l.length
  · rw [List.getElem?_eq_getElem hj]; exact h _ (List.getElem_mem hj)
  · rw [List.getElem?_eq_none (by omega)]; exact ⟨by decide, by decide⟩
end Go.Proofs.Ytocepdhjkhhpfaa
namespace Go.Proofs.Ytocepdhjkhhpfaa
set_option linter.unusedVariables false
set_option linter.unusedSimpArgs false

/-- a worker whose numbers from r3 on are 0 -/
structure Wk where
  pc : Int
  job : Int
  r0 : Int
  r1 : Int
  r2 : Int
  done : Bool
  out : Int
def hdH (n : Int) : Int := if n < 0 then 0 else n % 1048576
def hdC (n : Int) : Int := if n < 0 then 0 else n / 1048576
theorem hdH_bd (n : Int) : 0 ≤ hdH n ∧ hdH n ≤ 1048575 := by unfold hdH; split <;> omega
theorem hdC_bd {n : Int} (h : n ≤ 1152921504606846975) : 0 ≤ hdC n ∧ hdC n ≤ 1099511627775 := by unfold hdC; split <;> omega
/-- a word's number, as it may be -/
def WdI (n : Int) : Prop := -1152921504606846975 ≤ n ∧ n ≤ 1152921504606846975
theorem WdI.i64 {n : Int} (h : WdI n) : I64 n := by unfold WdI at h; unfold I64; omega
theorem wdI0 : WdI 0 := ⟨by decide, by decide⟩
theorem wdI_may {n : Int} : WdI n ↔ mayW n = true := by
  unfold WdI mayW
  simp
/-- a worker at work -/
structure FineW (w : Wk) : Prop where
  job : w.job = 1 ∨ w.job = 2
  pc : w.pc = 0 ∨ w.pc = 1 ∨ w.pc = 2
  done : w.done = false
  r0 : 0 ≤ w.r0 ∧ w.r0 ≤ 1000000
  r1 : WdI w.r1
  r2 : WdI w.r2
  out : WdI w.out
/-- a worker, at work or done -/
structure FitW (w : Wk) : Prop where
  job : w.job = 1 ∨ w.job = 2
  pc : w.pc = 0 ∨ w.pc = 1 ∨ w.pc = 2
  r0 : 0 ≤ w.r0 ∧ w.r0 ≤ 1000000
  r1 : WdI w.r1
  r2 : WdI w.r2
  out : WdI w.out
theorem FitW.fine {w : Wk} (h : FitW w) (hd : w.done = false) : FineW w := ⟨h.job, h.pc, hd, h.r0, h.r1, h.r2, h.out⟩
theorem doA_wd {m : List Int} (y : Ac) (h : ∀ x ∈ m, WdI x) : (∀ x ∈ (doA m y).1, WdI x) ∧ WdI (doA m y).2.1 := by
  have hg : WdI (m.getD y.2.1.toNat 0) := by
    rw [List.getD_eq_getElem?_getD]
    by_cases hj : y.2.1.toNat < m.length
    · rw [List.getElem?_eq_getElem hj]; exact h _ (List.getElem_mem hj)
    · rw [List.getElem?_eq_none (by omega)]; exact wdI0
  unfold doA
  split
  · exact ⟨h, wdI0⟩
  split
  · exact ⟨h, wdI0⟩
  split
  · exact ⟨h, hg⟩
  split
  · exact ⟨h, wdI0⟩
  rename_i hm
  split
  · exact ⟨h, hg⟩
  refine ⟨fun x hx => ?_, hg⟩
  rcases List.mem_or_eq_of_mem_set hx with hx | rfl
  · exact h x hx
  · exact wdI_may.2 (by simpa using hm)
/-! ### all steps -/
def deadW : Wk := ⟨0, 0, 0, 0, 0, false, 0⟩
end Go.Proofs.Ytocepdhjkhhpfaa
namespace Go.Proofs.Ytocepdhjkhhpfaa
set_option maxRecDepth 100000
open Go.RowKit Go.Sort

def fl (l : List Int) : List Value := l.map (Value.int .i64)
theorem length_fl (l : List Int) : (fl l).length = l.length * 1 := by simp [fl]
theorem fl_append (l m : List Int) : fl (l ++ m) = fl l ++ fl m := List.map_append
theorem fl_at {w : World} {m : List Int} {b off : Nat} (h : ∀ j, j < m.length → w.cell? ⟨b, off + j, none⟩ = some (.int .i64 (m.getD j 0))) : ∀ j u, (fl m)[j]? = some u → w.cell? ((⟨b, off, none⟩ : Addr).add j) = some u := by
  intro j u hj
  have hlt : j < m.length := by
    have := (List.getElem?_eq_some_iff.1 hj).1
    simpa [fl] using this
  have e : u = .int .i64 (m.getD j 0) := by
    simp only [fl, List.getElem?_map, List.getElem?_eq_getElem hlt, Option.map_some, Option.some.injEq] at hj
    rw [← hj, List.getD_eq_getElem?_getD, List.getElem?_eq_getElem hlt, Option.getD_some]
  rw [e]
  rw [Addr.add_lit]
  exact h j hlt
theorem fl_cell1 (m : List Int) : ∀ u ∈ fl m, u.oneCell' = true := by
  intro u hu
  obtain ⟨x, _, rfl⟩ := List.mem_map.1 hu
  rfl

theorem info_int : (Try.prog.info? 3).map (fun i => (i.zero, i.size, i.bytes)) = some (some (.int .i64 0), 1, 8) := by kernel_rfl

theorem append_none {w : World} {B : Nat} {v : Value} {out : List Int} (c : Nat) (ho : Own w B v out) :
    (Builtin.append_ #[23, 23] 23 #[v, .slice none 0 c]).run Try.prog w = .ok v w := by
  obtain ⟨i0, hi, hz0, hz1, hz2⟩ := info_parts info_int
  rcases ho.2 with ⟨rfl, _⟩ | ⟨g, cap, cur, rfl, _, _, hnc, _⟩
  · simp [Builtin.append_, run_underlying Try.underlying23, sizeOf, typeInfo, hi, Builtin.lenOf, Builtin.firstCells]
  · simp [Builtin.append_, run_underlying Try.underlying23, sizeOf, typeInfo, hi, Builtin.lenOf, Builtin.firstCells, storeCells, hnc]

/-! ### bit k of a number, as the two texts ask for it -/
end Go.Proofs.Ytocepdhjkhhpfaa
namespace Go.Proofs.Ytocepdhjkhhpfaa
set_option linter.unusedVariables false
set_option linter.unusedSimpArgs false
open Go.RowKit Go.Sort

theorem eq_of_all {l m : List Int} (hlen : l.length = m.length) (h : ∀ j, j < l.length → l.getD j 0 = m.getD j 0) : l = m := by
  refine List.ext_getElem hlen fun j h1 h2 => ?_
  have := h j h1
  rwa [List.getD_eq_getElem?_getD, List.getD_eq_getElem?_getD, List.getElem?_eq_getElem h1, List.getElem?_eq_getElem h2] at this

theorem ints_len (A A' : Option Addr) (n m c c' : Nat) (w : World) (hne : n ≠ m) :
    Calls Try.prog 18 #[.slice A n c, .slice A' m c'] w fun e w' => e = .returned (.bool false) ∧ Below w.heap.size w w' := by
  have hz : ((n : Int) == (m : Int)) = false := beq_eq_false_iff_ne.2 (by omega)
  have hz2 : ((n : Int) != (m : Int)) = true := by rw [bne, hz]; rfl
  go_enter Try.func18, Try.ntmps18
  go_wp2
  go_ret
  exact ⟨rfl, Below.refl _ _⟩

theorem ints_same (A A' : Option Addr) (l m : List Int) (c c' : Nat) (w : World) (hR : Now w A l) (hR' : Now w A' m) (hl : l.length ≤ 1000000) (hlm : l.length = m.length) :
    Calls Try.prog 18 #[.slice A l.length c, .slice A' l.length c'] w fun e w' => e = .returned (.bool (decide (l = m))) ∧ Below w.heap.size w w' := by
  generalize hr : decide (l = m) = r
  have HR := Lib.hid hr
  have HLM := Lib.hid hlm
  clear hr hlm
  go_enter Try.func18, Try.ntmps18
  go_wp2
  go_loopw [5] (fun i wr => ∃ k : Nat, k ≤ l.length ∧ i = .int .i64 k ∧ Hid (∀ j, j < k → l.getD j 0 = m.getD j 0) ∧ Below w.heap.size w wr) (fun i _ => l.length - (intOf i).toNat)
  case atStart => exact ⟨0, Nat.zero_le _, rfl, (show Hid _ from fun j hj => absurd hj (Nat.not_lt_zero j)), Below.refl _ _⟩
  case round =>
    obtain ⟨k, hk, rfl, HK, hb⟩ := hrel
    by_cases hlt : k < l.length
    · have hltz : (k : Int) < (l.length : Int) := by omega
      obtain ⟨b, off, rfl, hbB, hcell⟩ := hR.at_ (by omega)
      obtain ⟨b2, off2, rfl, hbB2, hcell2⟩ := hR'.at_ (by have := HLM.out; omega)
      obtain ⟨x, hx⟩ : ∃ p, p = l.getD k 0 := ⟨_, rfl⟩
      obtain ⟨y, hy⟩ : ∃ p, p = m.getD k 0 := ⟨_, rfl⟩
      have a0 := hcell k hlt
      have e0 := hcell2 k (by have := HLM.out; omega)
      rw [← hx] at a0
      rw [← hy] at e0
      have k0 := Qt.cell_in (Qt.keep hb a0)
      have k2 := Qt.cell_in (Qt.keep hb e0)
      have HX := Lib.hid hx
      have HY := Lib.hid hy
      clear hx hy hcell hcell2 a0 e0
      by_cases hxy : x = y
      · subst hxy
        go_wp2
        refine Qt.below_all (by kernel_rfl) (by kernel_rfl) ?_
        repeat (go_big_quiet_step (fail))
        refine wpQuiet_nil ?_
        intro w1 hb1
        clear k0 k2
        go_wp2
        go_roundw
        case measure => simp [intOf]; omega
        case rel =>
          refine ⟨k + 1, by omega, by go_num, (show Hid _ from fun j hj => ?_), Qt.more hb hb.size hb1⟩
          by_cases hjk : j = k
          · subst hjk; rw [← HX.out, ← HY.out]
          · exact HK.out j (by omega)
      · have hne : l ≠ m := by
          intro e
          subst e
          exact hxy (HX.out.trans HY.out.symm)
        have HNE := Lib.hid hne
        clear hne
        go_wp2
        refine Qt.below_all (by kernel_rfl) (by kernel_rfl) ?_
        repeat (go_big_quiet_step (fail))
        refine wpQuiet_nil ?_
        intro w1 hb1
        clear k0 k2
        go_wp2
        go_ret
        exact ⟨by rw [← HR.out, decide_eq_false HNE.out]; rfl, Qt.more hb hb.size hb1⟩
    · have hltz : ¬ (k : Int) < (l.length : Int) := by omega
      have he : l = m := eq_of_all HLM.out fun j hj => HK.out j (by omega)
      have HE := Lib.hid he
      clear he
      go_wp2
      go_ret
      exact ⟨by rw [← HR.out, decide_eq_true HE.out]; rfl, hb⟩

theorem ints_any {A A' : Option Addr} {l m : List Int} {n n' c c' : Nat} {w : World} (hR : Now w A l) (hR' : Now w A' m) (hn : n = l.length) (hn' : n' = m.length) (hl : n ≤ 1000000) :
    Calls Try.prog 18 #[.slice A n c, .slice A' n' c'] w fun e w' => e = .returned (.bool (decide (l = m))) ∧ Below w.heap.size w w' := by
  subst hn hn'
  by_cases h : l.length = m.length
  · have := ints_same A A' l m c c' w hR hR' hl h
    rwa [← h]
  · rw [decide_eq_false fun e => h (congrArg List.length e)]
    exact ints_len A A' _ _ c c' w h
end Go.Proofs.Ytocepdhjkhhpfaa
namespace Go.Proofs.Ytocepdhjkhhpfaa
set_option maxRecDepth 100000
set_option linter.unusedVariables false
set_option linter.unusedSimpArgs false
open Go.RowKit Go.Sort

theorem known_any (k : Int) (w : World) : Calls Try.prog 87 #[.int .i64 k] w fun r w' => r = .returned (.bool (knownA k)) ∧ w = w' := by
  by_cases h : 1 ≤ k ∧ k ≤ 4
  · have e : knownA k = true := by simp [knownA, h]
    rw [e]
    have : k = 1 ∨ k = 2 ∨ k = 3 ∨ k = 4 := by omega
    rcases this with rfl | rfl | rfl | rfl
    all_goals
      go_enter Try.func87, Try.ntmps87
      go_wp2
      go_ret
      exact ⟨rfl, rfl⟩
  · have e : knownA k = false := by
      simp only [knownA, Bool.and_eq_false_iff, decide_eq_false_iff_not]
      omega
    rw [e]
    have e1 : (k == 1) = false := beq_eq_false_iff_ne.2 (by omega)
    have e2 : (k == 2) = false := beq_eq_false_iff_ne.2 (by omega)
    have e3 : (k == 3) = false := beq_eq_false_iff_ne.2 (by omega)
    have e4 : (k == 4) = false := beq_eq_false_iff_ne.2 (by omega)
    go_enter Try.func87, Try.ntmps87
    go_wp2
    go_ret
    exact ⟨rfl, rfl⟩

theorem fits_any (n : Int) (w : World) : Calls Try.prog 119 #[.int .i64 n] w fun r w' => r = .returned (.bool (mayW n)) ∧ w = w' := by
  unfold mayW
  by_cases h1 : -1152921504606846975 ≤ n
  · by_cases h2 : n ≤ 1152921504606846975
    all_goals
      go_enter Try.func119, Try.ntmps119
      go_wp2
      go_ret
      exact ⟨by simp [h1, h2], rfl⟩
  · go_enter Try.func119, Try.ntmps119
    go_wp2
    go_ret
    exact ⟨by rw [decide_eq_false (by omega)]; rfl, rfl⟩

abbrev acV (y : Ac) : Value := .agg #[.int .i64 y.1, .int .i64 y.2.1, .int .i64 y.2.2.1, .int .i64 y.2.2.2]
def Fine4A (y : Ac) : Prop := I64 y.1 ∧ I64 y.2.1 ∧ I64 y.2.2.1 ∧ I64 y.2.2.2

/-- no word at the place -/
theorem word_no (k a o n : Int) (A : Option Addr) (L c : Nat) (w : World) (h : a < 0 ∨ (L : Int) ≤ a) :
    Calls Try.prog 88 #[.agg #[.int .i64 k, .int .i64 a, .int .i64 o, .int .i64 n, .slice A L c]] w fun r w' => r = .returned (.pointer none) ∧ Below w.heap.size w w' := by
  by_cases h0 : a < 0
  · go_enter Try.func88, Try.ntmps88
    go_wp2
    go_ret
    exact ⟨rfl, (Below.refl _ _).alloc (Nat.le_refl _) _⟩
  · have h1 : (L : Int) ≤ a := by omega
    go_enter Try.func88, Try.ntmps88
    go_wp2
    go_ret
    exact ⟨rfl, (Below.refl _ _).alloc (Nat.le_refl _) _⟩
theorem word_yes (k o n : Int) (a : Nat) (b off : Nat) (L c : Nat) (w : World) (h : a < L) :
    Calls Try.prog 88 #[.agg #[.int .i64 k, .int .i64 a, .int .i64 o, .int .i64 n, .slice (some ⟨b, off, none⟩) L c]] w fun r w' => r = .returned (.pointer (some ⟨b, off + a, none⟩)) ∧ Below w.heap.size w w' := by
  have h0 : ¬ (a : Int) < 0 := by omega
  have h1 : ¬ (L : Int) ≤ (a : Int) := by omega
  go_enter Try.func88, Try.ntmps88
  go_wp2
  go_ret
  exact ⟨rfl, (Below.refl _ _).alloc (Nat.le_refl _) _⟩

/-- a step's block -/
theorem step_row (y : Ac) (A : Option Addr) (L c : Nat) (w : World) : (w.alloc (.cells #[.int .i64 y.1, .int .i64 y.2.1, .int .i64 y.2.2.1, .int .i64 y.2.2.2, .slice A L c] 120)).heap[w.heap.size]? = some (.cells #[.int .i64 y.1, .int .i64 y.2.1, .int .i64 y.2.2.1, .int .i64 y.2.2.2, .slice A L c] 120 (0, 0)) := heap_alloc_new w _
theorem next_not (k a o n x : Int) (A : Option Addr) (L c : Nat) (w : World) (h : k ≠ 4) (hn : I64 n) (hx : I64 x) :
    Calls Try.prog 89 #[.agg #[.int .i64 k, .int .i64 a, .int .i64 o, .int .i64 n, .slice A L c], .int .i64 x] w fun r w' => r = .returned (.tuple #[.int .i64 n, .bool (mayW n)]) ∧ Below w.heap.size w w' := by
  have h0 : (k == 4) = false := beq_eq_false_iff_ne.2 h
  have h1 : (k != 4) = true := by rw [bne, h0]; rfl
  have hrow := step_row (k, a, o, n) A L c w
  have hal := (Below.refl w.heap.size w).alloc (Nat.le_refl _) (.cells #[.int .i64 k, .int .i64 a, .int .i64 o, .int .i64 n, .slice A L c] 120)
  simp only at hrow
  have HR := Lib.hid hrow
  have HA := Lib.hid hal
  clear hrow hal
  go_enter Try.func89, Try.ntmps89
  go_wp2_with fail
  obtain ⟨w0, hw0⟩ : ∃ w0, w.alloc (.cells #[.int .i64 k, .int .i64 a, .int .i64 o, .int .i64 n, .slice A L c] 120) = w0 := ⟨_, rfl⟩
  rw [hw0] at HR HA ⊢
  clear hw0
  have hf := fun W (_ : Below w0.heap.size w0 W) => fits_any n W
  have k3 := Qt.cell_in (show w0.cell? ⟨w.heap.size, 3, none⟩ = some (.int .i64 n) by rw [Lib.cell_of_heap HR.out]; rfl)
  refine Qt.below_all (by kernel_rfl) (by kernel_rfl) ?_
  repeat (go_big_quiet_step (first | (go_at_call 119; exact Qt.at_same hf)))
  refine wpQuiet_nil ?_
  intro w2 hb2
  clear hf k3
  go_wp2_with fail
  go_ret2
  exact ⟨rfl, Qt.more HA.out HA.out.size hb2⟩
theorem add_cases {x n : Int} (hn : I64 n) (hx : I64 x) :
    (mayW (wrap64 (x + n)) = false ∧ mayW (x + n) = false) ∨ (mayW (wrap64 (x + n)) = true ∧ mayW (x + n) = true ∧ wrap64 (x + n) = x + n ∧ decide (n < 0) = decide (wrap64 (x + n) < x)) ∨
      (mayW (wrap64 (x + n)) = true ∧ mayW (x + n) = false ∧ decide (n < 0) = !decide (wrap64 (x + n) < x)) := by
  unfold I64 at hn hx
  have hs : wrap64 (x + n) = x + n ∨ (0 < n ∧ wrap64 (x + n) = x + n - 18446744073709551616 ∧ 9223372036854775807 < x + n) ∨ (n < 0 ∧ wrap64 (x + n) = x + n + 18446744073709551616 ∧ x + n < -9223372036854775808) := by
    unfold wrap64; omega
  cases hm : mayW (wrap64 (x + n)) with
  | false =>
    left
    refine ⟨rfl, ?_⟩
    rcases hs with hs | ⟨_, _, h⟩ | ⟨_, _, h⟩
    · rw [← hs]; exact hm
    · unfold mayW; rw [decide_eq_false (p := x + n ≤ 1152921504606846975) (by omega), Bool.and_false]
    · unfold mayW; rw [decide_eq_false (p := -1152921504606846975 ≤ x + n) (by omega), Bool.false_and]
  | true =>
    right
    rcases hs with hs | ⟨h1, h2, h⟩ | ⟨h1, h2, h⟩
    · left
      rw [hs] at hm ⊢
      exact ⟨rfl, hm, rfl, decide_eq_decide.2 (by omega)⟩
    · right
      refine ⟨rfl, ?_, ?_⟩
      · unfold mayW; rw [decide_eq_false (p := x + n ≤ 1152921504606846975) (by omega), Bool.and_false]
      · rw [decide_eq_false (p := n < 0) (by omega), decide_eq_true (p := wrap64 (x + n) < x) (by omega)]; rfl
    · right
      refine ⟨rfl, ?_, ?_⟩
      · unfold mayW; rw [decide_eq_false (p := -1152921504606846975 ≤ x + n) (by omega), Bool.false_and]
      · rw [decide_eq_true (p := n < 0) (by omega), decide_eq_false (p := wrap64 (x + n) < x) (by omega)]; rfl
set_option maxHeartbeats 2000000 in
theorem next_add (a o n x : Int) (A : Option Addr) (L c : Nat) (w : World) (hn : I64 n) (hx : I64 x) :
    Calls Try.prog 89 #[.agg #[.int .i64 4, .int .i64 a, .int .i64 o, .int .i64 n, .slice A L c], .int .i64 x] w fun r w' => (∃ v, r = .returned (.tuple #[.int .i64 v, .bool (mayW (x + n))]) ∧ (mayW (x + n) = true → v = x + n)) ∧ Below w.heap.size w w' := by
  have hrow := step_row (4, a, o, n) A L c w
  have hal := (Below.refl w.heap.size w).alloc (Nat.le_refl _) (.cells #[.int .i64 4, .int .i64 a, .int .i64 o, .int .i64 n, .slice A L c] 120)
  simp only at hrow
  have HR := Lib.hid hrow
  have HA := Lib.hid hal
  have hcs := add_cases hn hx
  obtain ⟨s, hs⟩ : ∃ s, s = wrap64 (x + n) := ⟨_, rfl⟩
  rw [← hs] at hcs
  have HS := Lib.hid hs
  clear hrow hal hs
  obtain ⟨b1, hb1⟩ : ∃ b1, decide (n < 0) = b1 := ⟨_, rfl⟩
  obtain ⟨b2, hb2⟩ : ∃ b2, decide (s < x) = b2 := ⟨_, rfl⟩
  obtain ⟨b3, hb3⟩ : ∃ b3, mayW s = b3 := ⟨_, rfl⟩
  rw [hb1, hb2, hb3] at hcs
  have hfin : ((b3 && b1 == b2) = mayW (x + n)) ∧ (mayW (x + n) = true → s = x + n) := by
    rcases hcs with ⟨rfl, h2⟩ | ⟨rfl, h2, h3, rfl⟩ | ⟨rfl, h2, rfl⟩
    · rw [h2]; exact ⟨rfl, fun h => by cases h⟩
    · rw [h2]; exact ⟨by simp, fun _ => h3⟩
    · rw [h2]; exact ⟨by simp, fun h => by cases h⟩
  have HF := Lib.hid hfin
  clear hfin hcs
  go_enter Try.func89, Try.ntmps89
  go_wp2_with fail
  obtain ⟨w0, hw0⟩ : ∃ w0, w.alloc (.cells #[.int .i64 4, .int .i64 a, .int .i64 o, .int .i64 n, .slice A L c] 120) = w0 := ⟨_, rfl⟩
  rw [hw0] at HR HA ⊢
  rw [← HS.out]
  clear hw0
  have hf := fun W (_ : Below w0.heap.size w0 W) => fits_any s W
  rw [hb3] at hf
  have k3 := Qt.cell_in (show w0.cell? ⟨w.heap.size, 3, none⟩ = some (.int .i64 n) by rw [Lib.cell_of_heap HR.out]; rfl)
  refine Qt.below_all (by kernel_rfl) (by kernel_rfl) ?_
  cases b3 <;> cases b1 <;> cases b2
  all_goals
    repeat (go_big_quiet_step (first | (go_at_call 119; exact Qt.at_same hf)))
    refine wpQuiet_nil ?_
    intro w2 hb2
    clear hf k3
    go_wp2_with fail
    go_ret2
    exact ⟨⟨s, by rw [← HF.out.1]; rfl, HF.out.2⟩, Qt.more HA.out HA.out.size hb2⟩
theorem next_any (k a o n x : Int) (A : Option Addr) (L c : Nat) (w : World) (hn : I64 n) (hx : I64 x) :
    Calls Try.prog 89 #[.agg #[.int .i64 k, .int .i64 a, .int .i64 o, .int .i64 n, .slice A L c], .int .i64 x] w fun r w' => (∃ v, r = .returned (.tuple #[.int .i64 v, .bool (mayW (toA (k, a, o, n) x))]) ∧ (mayW (toA (k, a, o, n) x) = true → v = toA (k, a, o, n) x)) ∧ Below w.heap.size w w' := by
  by_cases h : k = 4
  · subst h
    exact next_add a o n x A L c w hn hx
  · have e : toA (k, a, o, n) x = n := by unfold toA; rw [if_neg h]
    rw [e]
    refine (next_not k a o n x A L c w h hn hx).mono ?_
    rintro r w' ⟨rfl, hb⟩
    exact ⟨⟨n, rfl, fun _ => rfl⟩, hb⟩
end Go.Proofs.Ytocepdhjkhhpfaa
namespace Go.Proofs.Ytocepdhjkhhpfaa
set_option maxRecDepth 100000
set_option linter.unusedVariables false
set_option linter.unusedSimpArgs false
open Go.RowKit Go.Sort

theorem grown_below {w w' : World} (h : Below w.heap.size w w') (row : Option Nat) : w.grownBy w' row := ⟨h.os, h.tape, h.output, h.size, fun k hk _ => h.block k hk⟩
theorem lt_heap6' {w : World} {g : Nat} {o : Obj} (h : w.heap[g]? = some o) : g < w.heap.size := (Array.getElem?_eq_some_iff.1 h).1
theorem own_next {w w' : World} {B : Nat} {v : Value} {l : List Int} (h : Own w B v l) (hb : Below w.heap.size w w') : Own w' B v l := h.kept (grown_below hb none) (by cases v.ownBlock <;> simp)
theorem own_row {w : World} {B : Nat} {A : Option Addr} {c : Nat} {l : List Int} (h : Own w B (.slice A l.length c) l) (hl : 0 < l.length) : ∃ g, A = some ⟨g, 0, none⟩ ∧ B ≤ g ∧ g < w.heap.size ∧ (∀ j, w.frozen? ⟨g, j, none⟩ = false) ∧
    ∀ j, j < l.length → w.cell? ⟨g, j, none⟩ = some (.int .i64 (l.getD j 0)) := by
  rcases h.2 with ⟨_, h0⟩ | ⟨g, cap, cur, hv, _⟩
  · omega
  · injection hv with e1 e2 e3
    subst e1 e3
    have hlt := h.lt g rfl
    refine ⟨g, rfl, hlt.1, hlt.2, fun j => h.frozenAt j, fun j hj => ?_⟩
    rw [h.cellAt j (by omega)]
    simp [List.getD_eq_getElem?_getD, List.getElem?_eq_getElem hj]
theorem own_set {w : World} {B g c : Nat} {l : List Int} (h : Own w B (.slice (some ⟨g, 0, none⟩) l.length c) l) (j : Nat) (x : Int) :
    Own (w.setCell ⟨g, j, none⟩ (.int .i64 x)) B (.slice (some ⟨g, 0, none⟩) l.length c) (l.set j x) ∧ w.grownBy (w.setCell ⟨g, j, none⟩ (.int .i64 x)) (some g) := by
  obtain ⟨h1, h2⟩ := h.stored j (.int .i64 x)
  refine ⟨?_, h2⟩
  show World.ownsRow _ _ _ _ _ _ _
  rw [List.length_set, List.map_set]
  exact h1
/-- what Do tells: what was there, whether it was done, the error; the words as they are then -/
def DoR (B : Nat) (v : Value) (d : DoT) (w : World) (r : Ending) (w' : World) : Prop := r = .returned (.tuple #[.int .i64 d.2.1, .bool d.2.2.1, .int .i64 d.2.2.2]) ∧ Own w' B v d.1 ∧ w.grownBy w' v.ownBlock

set_option maxHeartbeats 4000000 in
theorem wdo_any (y : Ac) (m : List Int) (A : Option Addr) (c : Nat) (w : World) {B : Nat} (fy : Fine4A y) (hm : ∀ x ∈ m, I64 x) (hB : B ≤ w.heap.size) (hO : Own w B (.slice A m.length c) m) (hl : m.length ≤ 9223372036854775807) :
    Calls Try.prog 61 #[.slice A m.length c, acV y] w (DoR B (.slice A m.length c) (doA m y) w) := by
  obtain ⟨k, a, o, n⟩ := y
  obtain ⟨-, fa, -, fn⟩ := fy
  simp only at fa fn
  have hkn := fun W => known_any k W
  have HB : Hid (Below w.heap.size w (w.alloc (.cells #[.int .i64 k, .int .i64 a, .int .i64 o, .int .i64 n] 102))) := (Below.refl _ _).alloc (Nat.le_refl _) _
  have HR : Hid ((w.alloc (.cells #[.int .i64 k, .int .i64 a, .int .i64 o, .int .i64 n] 102)).heap[w.heap.size]? = some (.cells #[.int .i64 k, .int .i64 a, .int .i64 o, .int .i64 n] 102 (0, 0))) := heap_alloc_new w _
  have HO := Lib.hid (own_next hO HB.out)
  have HM := Lib.hid hm
  clear hO hm
  have e1 : knownA k = false → doA m (k, a, o, n) = (m, 0, false, 1) := fun h => by unfold doA; rw [if_pos (.inl h)]
  have e2 : 100000 < m.length → doA m (k, a, o, n) = (m, 0, false, 1) := fun h => by unfold doA; rw [if_pos (.inr h)]
  have HE1 := Lib.hid e1
  have HE2 := Lib.hid e2
  clear e1 e2
  go_enter Try.func61, Try.ntmps61
  go_wp2_with fail
  generalize w.alloc (.cells #[.int .i64 k, .int .i64 a, .int .i64 o, .int .i64 n] 102) = w0 at *
  have hfin : ∀ wz, Below w0.heap.size w0 wz → ∀ x is e, doA m (k, a, o, n) = (m, x, is, e) → DoR B (.slice A m.length c) (doA m (k, a, o, n)) w (.returned (.tuple #[.int .i64 x, .bool is, .int .i64 e])) wz := fun wz hz x is e he => by
    rw [he]
    exact ⟨rfl, own_next HO.out hz, (grown_below HB.out _).trans (grown_below hz _)⟩
  have HF := Lib.hid hfin
  clear hfin
  have hb0 := HB.out.size
  have q0 : w0.cell? ⟨w.heap.size, 0, none⟩ = some (.int .i64 k) := by rw [Lib.cell_of_heap HR.out]; rfl
  have q1 : w0.cell? ⟨w.heap.size, 1, none⟩ = some (.int .i64 a) := by rw [Lib.cell_of_heap HR.out]; rfl
  have q2 : w0.cell? ⟨w.heap.size, 2, none⟩ = some (.int .i64 o) := by rw [Lib.cell_of_heap HR.out]; rfl
  have q3 : w0.cell? ⟨w.heap.size, 3, none⟩ = some (.int .i64 n) := by rw [Lib.cell_of_heap HR.out]; rfl
  refine (hkn _).mono ?_
  rintro e w' ⟨rfl, rfl⟩
  clear hkn
  cases hk : knownA k with
  | false =>
    have HK := Lib.hid hk
    clear hk
    go_wp2_with fail
    go_ret3
    exact HF.out _ (Below.refl _ _) _ _ _ (HE1.out HK.out)
  | true =>
  have HK := Lib.hid hk
  clear hk
  by_cases hL : 100000 < m.length
  · have hLz : (100000 : Int) < (m.length : Int) := by omega
    go_wp2_with fail
    go_ret3
    exact HF.out _ (Below.refl _ _) _ _ _ (HE2.out hL)
  have hLz : ¬ (100000 : Int) < (m.length : Int) := by omega
  have HS : Hid (Below w0.heap.size w0 (w0.alloc (.cells #[.int .i64 k, .int .i64 a, .int .i64 o, .int .i64 n, .slice A m.length c] 120))) := (Below.refl _ _).alloc (Nat.le_refl _) _
  have HSR := Lib.hid (step_row (k, a, o, n) A m.length c w0)
  simp only at HSR
  have HLt : Hid (w0.heap.size < (w0.alloc (.cells #[.int .i64 k, .int .i64 a, .int .i64 o, .int .i64 n, .slice A m.length c] 120)).heap.size) := by show _ < _; simp
  go_wp2_with fail
  generalize w0.alloc (.cells #[.int .i64 k, .int .i64 a, .int .i64 o, .int .i64 n, .slice A m.length c] 120) = w1 at *
  generalize hg1 : w0.heap.size = g1 at *
  have HSR1 := HSR.out
  by_cases hat : a < 0 ∨ (m.length : Int) ≤ a
  · have he : doA m (k, a, o, n) = (m, 0, false, 2) := by
      unfold doA
      rw [if_neg (by rintro (h | h); · exact absurd (HK.out.symm.trans h) (by simp)
                     · exact hL h), if_pos hat]
    have HE := Lib.hid he
    clear he
    refine (word_no k a o n A m.length c _ hat).mono ?_
    rintro e w2 ⟨rfl, hb2⟩
    have HB2 := Lib.hid (Qt.more HS.out (by have := HS.out.size; omega) hb2)
    clear hb2 hat
    go_wp2_with fail
    go_ret3
    exact HF.out _ HB2.out _ _ _ HE.out
  obtain ⟨u, rfl⟩ : ∃ u : Nat, a = u := ⟨a.toNat, by omega⟩
  have hu : u < m.length := by omega
  obtain ⟨g, rfl, hgB, hgl, hfz, hcell⟩ := own_row HO.out (by omega)
  refine (word_yes k o n u g 0 m.length c _ hu).mono ?_
  rintro e w2 ⟨rfl, hb2⟩
  have HB2 := Lib.hid (Qt.more HS.out (by have := HS.out.size; omega) hb2)
  have hk2 := Lib.hid (show Below w1.heap.size w1 w2 from hb2)
  have HSR2 := Lib.hid ((hb2.block _ HLt.out).trans HSR1)
  have c0 : w2.cell? ⟨g, u, none⟩ = some (.int .i64 (m.getD u 0)) := (HB2.out.cell (p := ⟨g, u, none⟩) (by show g < _; omega)).trans (hcell u hu)
  have cf : w2.frozen? ⟨g, u, none⟩ = false := (HB2.out.frozen (p := ⟨g, u, none⟩) (by show g < _; omega)).trans (hfz u)
  have s0 : w2.cell? ⟨g1, 0, none⟩ = some (.int .i64 k) := by rw [Lib.cell_of_heap HSR2.out]; rfl
  have s1 : w2.cell? ⟨g1, 1, none⟩ = some (.int .i64 (u : Int)) := by rw [Lib.cell_of_heap HSR2.out]; rfl
  have s2 : w2.cell? ⟨g1, 2, none⟩ = some (.int .i64 o) := by rw [Lib.cell_of_heap HSR2.out]; rfl
  have s3 : w2.cell? ⟨g1, 3, none⟩ = some (.int .i64 n) := by rw [Lib.cell_of_heap HSR2.out]; rfl
  have s4 : w2.cell? ⟨g1, 4, none⟩ = some (.slice (some ⟨g, 0, none⟩) m.length c) := by rw [Lib.cell_of_heap HSR2.out]; rfl
  have hx : I64 (m.getD u 0) := i64_getD0 HM.out u
  have HD : Hid (doA m (k, (u : Int), o, n) = if k = 1 then (m, m.getD u 0, true, 0) else if mayW (toA (k, (u : Int), o, n) (m.getD u 0)) = false then (m, 0, false, 2) else if k = 3 ∧ m.getD u 0 ≠ o then (m, m.getD u 0, false, 0) else (m.set u (toA (k, (u : Int), o, n) (m.getD u 0)), m.getD u 0, true, 0)) := by
    show _ = _
    unfold doA
    rw [if_neg (by rintro (h | h); · exact absurd (HK.out.symm.trans h) (by simp)
                   · exact hL h), if_neg (by simp only; omega)]
    simp only [Int.toNat_natCast]
  obtain ⟨x, hxx⟩ : ∃ x, x = m.getD u 0 := ⟨_, rfl⟩
  rw [← hxx] at c0 hx HD
  have HX := Lib.hid hxx
  clear hxx hcell hfz hb2 HSR1 hat q0 q1 q2 q3
  rw [Nat.zero_add]
  by_cases hk1 : k = 1
  · have he : doA m (k, (u : Int), o, n) = (m, x, true, 0) := by rw [HD.out, if_pos hk1]
    have HE := Lib.hid he
    clear he HD
    subst hk1
    go_wp2_with fail
    go_ret3
    exact HF.out _ HB2.out _ _ _ HE.out
  have hk1' : (k == 1) = false := beq_eq_false_iff_ne.2 hk1
  go_wp2_with fail
  obtain ⟨z, hz⟩ : ∃ z, z = toA (k, (u : Int), o, n) x := ⟨_, rfl⟩
  have hnx := next_any k u o n x (some ⟨g, 0, none⟩) m.length c w2 fn hx
  rw [← hz] at hnx HD
  clear hz
  refine hnx.mono ?_
  rintro e w3 ⟨⟨v, rfl, hv⟩, hb3⟩
  have HB3 := Lib.hid (Qt.more HB2.out (by have := HB2.out.size; omega) (hb3.mono (by have := hk2.out.size; have := HLt.out; omega)))
  clear hnx
  have hk3 : Below w2.heap.size w2 w3 := hb3
  have l2 : g1 < w2.heap.size := lt_heap6' HSR2.out
  have r0 : w3.cell? ⟨g1, 0, none⟩ = some (.int .i64 k) := (hk3.cell (p := ⟨g1, 0, none⟩) l2).trans s0
  have r2 : w3.cell? ⟨g1, 2, none⟩ = some (.int .i64 o) := (hk3.cell (p := ⟨g1, 2, none⟩) l2).trans s2
  have l3 : g < w2.heap.size := block_lt_of_cell c0
  have rf : w3.frozen? ⟨g, u, none⟩ = false := (hk3.frozen (p := ⟨g, u, none⟩) l3).trans cf
  have r3 : w3.cell? ⟨g, u, none⟩ = some (.int .i64 x) := (hk3.cell (p := ⟨g, u, none⟩) l3).trans c0
  clear s0 s1 s2 s3 s4 c0 cf hk3 hb3
  cases hmz : mayW z with
  | false =>
    have he : doA m (k, (u : Int), o, n) = (m, 0, false, 2) := by rw [HD.out, if_neg hk1, if_pos hmz]
    have HE := Lib.hid he
    clear he HD hmz hv
    go_wp2_with fail
    go_ret3
    exact HF.out _ HB3.out _ _ _ HE.out
  | true =>
  have hvz := hv hmz
  clear hv
  subst hvz
  by_cases hsw : k = 3 ∧ x ≠ o
  · have he : doA m (k, (u : Int), o, n) = (m, x, false, 0) := by rw [HD.out, if_neg hk1, if_neg (by rw [hmz]; simp), if_pos hsw]
    have HE := Lib.hid he
    obtain ⟨hk3, hxo⟩ := hsw
    have hxo1 : (x == o) = false := beq_eq_false_iff_ne.2 hxo
    have hxo2 : (x != o) = true := by rw [bne, hxo1]; rfl
    clear he HD hmz
    subst hk3
    go_wp2_with fail
    go_ret3
    exact HF.out _ HB3.out _ _ _ HE.out
  have he : doA m (k, (u : Int), o, n) = (m.set u v, x, true, 0) := by rw [HD.out, if_neg hk1, if_neg (by rw [hmz]; simp), if_neg hsw]
  have HE := Lib.hid he
  have hend : ∀ wz, wz = w3.setCell ⟨g, u, none⟩ (.int .i64 v) → DoR B (.slice (some ⟨g, 0, none⟩) m.length c) (doA m (k, (u : Int), o, n)) w (.returned (.tuple #[.int .i64 x, .bool true, .int .i64 0])) wz := by
    rintro wz rfl
    rw [HE.out]
    have h3 := own_next HO.out (show Below w0.heap.size w0 w3 by rw [hg1]; exact HB3.out)
    obtain ⟨h4, h5⟩ := own_set h3 u v
    exact ⟨rfl, by have := h4; simpa using this, ((grown_below HB.out _).trans (grown_below (show Below w0.heap.size w0 w3 by rw [hg1]; exact HB3.out) _)).trans h5⟩
  have HEnd := Lib.hid hend
  clear he HD hmz hend HF HE1 HE2 HO
  by_cases hk3 : k = 3
  · have hxo : x = o := by
      by_cases hxo : x = o
      · exact hxo
      · exact absurd ⟨hk3, hxo⟩ hsw
    subst hxo hk3
    clear hsw
    go_wp2_with fail
    go_ret3
    exact HEnd.out _ rfl
  · have hk3' : (k == 3) = false := beq_eq_false_iff_ne.2 hk3
    clear hsw
    go_wp2_with fail
    go_ret3
    exact HEnd.out _ rfl
end Go.Proofs.Ytocepdhjkhhpfaa
