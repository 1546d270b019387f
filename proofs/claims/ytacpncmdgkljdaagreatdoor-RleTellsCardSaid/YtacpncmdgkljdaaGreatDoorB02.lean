/-
  Texts that the claims of this seat share, part 2.
-/
import Derived.Test.YtacpncmdgkljdaaGreatDoorB01
import Derived.Lib.SlTrimSet
set_option linter.unusedVariables false
set_option linter.unusedSimpArgs false
namespace Go.Proofs.YtacpncmdgkljdaaGreatDoor.Qt
open Go Go.Sort Go.RowKit

section
variable {P : Program} {ops : Array Oper} {md : Region.Mode} {C : World → Prop}

/-- whatever stands behind n waits for something that stands at n or behind it -/
def depB (md : Region.Mode) (ops : Array Oper) (n : Nat) : Bool :=
  (List.range ops.size).all fun t => decide (t ≤ n) || (List.range t).any fun j => decide (n ≤ j) && Region.waitsFor md ops t j

theorem last_waits {n : Nat} {listed : Array Bool} (hs : Region.sinkB md ops n = true) (hn : n < ops.size) (inv : HeadInv md ops n listed) (d : Nat) :
    ∀ i, n - i ≤ d → i < n → listed.getD i true = false → n ∉ Region.ready md ops listed := by
  induction d with
  | zero => intro i hd hi; omega
  | succ d ih =>
    intro i hd hi hun hr
    obtain ⟨j, hj, hj2⟩ := List.any_eq_true.1 (List.all_eq_true.1 hs i (List.mem_range.2 hi))
    simp only [Bool.and_eq_true, decide_eq_true_eq] at hj2
    obtain ⟨oj, hoj, e, he, hb, hon⟩ := Region.waitsFor_spec hj2.2
    have hjn := List.mem_range.1 hj
    by_cases hl : listed.getD j false = true
    · have h2 := inv.closed j oj hoj hl e he hb
      rw [hon, getD_both hun] at h2
      cases h2
    · rcases Nat.lt_or_eq_of_le (Nat.le_of_lt_succ hjn) with hlt | heq
      · exact ih j (by omega) hlt (getD_in (by rw [inv.size]; omega) (by simpa using hl)) hr
      · subst heq
        obtain ⟨_, ot, hot, hall⟩ := mem_ready.1 hr
        obtain rfl : oj = ot := Option.some.inj (hoj.symm.trans hot)
        have h2 := hall e he hb
        rw [hon, getD_both hun] at h2
        cases h2

theorem rest_waits {n : Nat} {listed : Array Bool} (hs : Region.sinkB md ops n = true) (hd : depB md ops n = true) (hn : n < ops.size) (inv : HeadInv md ops n listed) {i : Nat} (hi : i < n) (hun : listed.getD i true = false) :
    ∀ t, n ≤ t → t ∉ Region.ready md ops listed := by
  intro t ht hr
  rcases Nat.lt_or_eq_of_le ht with hlt | heq
  · obtain ⟨_, ot, hot, hall⟩ := mem_ready.1 hr
    have hts : t < ops.size := (Array.getElem?_eq_some_iff.1 hot).1
    have h1 := List.all_eq_true.1 hd t (List.mem_range.2 hts)
    simp only [Bool.or_eq_true, decide_eq_true_eq] at h1
    rcases h1 with h1 | h1
    · omega
    · obtain ⟨j, hj, hj2⟩ := List.any_eq_true.1 h1
      simp only [Bool.and_eq_true, decide_eq_true_eq] at hj2
      obtain ⟨oj, hoj, e, he, hb, hon⟩ := Region.waitsFor_spec hj2.2
      obtain rfl : oj = ot := Option.some.inj (hoj.symm.trans hot)
      have h2 := hall e he hb
      have hjt := List.mem_range.1 hj
      rw [hon, getD_both (inv.tail j hj2.1 (by omega))] at h2
      cases h2
  · subst heq
    exact last_waits hs hn inv _ i (Nat.le_refl _) hi hun hr

theorem mid_first {n i : Nat} {oi : Oper} {v : Value} {L : Array Bool → Act → Prop} (hi : ops[i]? = some oi) (hsel : ∀ (j : Nat) (o : Oper) cs b, ops[j]? = some o → o.op ≠ .select cs b)
    (hs : Region.sinkB md ops n = true) (hc : depB md ops n = true) (hn : n < ops.size) (hin : i < n) (hdone : ∀ listed a, L listed a → ∀ j ∈ Region.ready md ops listed, n ≤ j) (f : Nat) :
    ∀ (listed : Array Bool) (a : Act), HeadInv md ops n listed →
      (∀ j oj, ops[j]? = some oj → j ≠ i → listed.getD j true = false → (∀ e ∈ oj.after, Region.binds md e = true → e.on ≠ i) → oi.apart ops oj = true) →
      i ∈ Region.ready md ops listed → YieldsIn P ops C oi v a →
      headAny P md ops C n L f (listed.setIfInBounds i true) (a.put oi.dst v) → headAny P md ops C n L (f + 1) listed a := by
  induction f with
  | zero =>
    intro listed a inv _ hr hy H
    refine ⟨fun h => (by rw [h] at hr; cases hr), fun j hj => ?_⟩
    have hjn : j < n := Nat.lt_of_not_le fun h => rest_waits hs hc hn inv hin (mem_ready.1 hr).1 j h hj
    refine ⟨hjn, ?_⟩
    by_cases hji : j = i
    · subst hji; exact hy.qOp hi H
    · exact absurd (hdone _ _ H j (ready_mono hj hji)) (by omega)
  | succ f ih =>
    intro listed a inv hfree hr hy H
    have hun := (mem_ready.1 hr).1
    refine ⟨fun h => (by rw [h] at hr; cases hr), fun j hj => ?_⟩
    have hjn : j < n := Nat.lt_of_not_le fun h => rest_waits hs hc hn inv hin hun j h hj
    refine ⟨hjn, ?_⟩
    by_cases hji : j = i
    · subst hji; exact hy.qOp hi H
    · obtain ⟨hjun, oj, hoj, hall⟩ := mem_ready.1 hj
      have hnot : ∀ e ∈ oj.after, Region.binds md e = true → e.on ≠ i := fun e he hb heq => by
        have h1 := hall e he hb
        rw [heq, getD_both hun] at h1
        cases h1
      have hq := qOp_put hoj (hfree j oj hoj hji hjun hnot) (fun cs b => hsel i oi cs b hi) (fun cs b => hsel j oj cs b hoj) hy (H.2 j (ready_mono hj hji)).2
      refine qOp_mono (fun a' h3 => ih (listed.setIfInBounds j true) a' (inv.set hj hjn) (fun k ok hk hki hku hno => hfree k ok hk hki ?_ hno) (ready_mono hr (Ne.symm hji)) h3.1 ?_) hq
      · by_cases hjk : j = k
        · subst hjk; exact hjun
        · rwa [getD_set_ne true hjk] at hku
      · rw [Array.setIfInBounds_comm _ _ hji]; exact h3.2

/-- behind the head: n alone may come, and behind it the rest ars it stands -/
def midEnd (md : Region.Mode) (ops : Array Oper) (n : Nat) (listed : Array Bool) : Bool :=
  decide (Region.ready md ops listed = [n]) && Region.lexFrom md ops (ops.size - (n + 1)) (n + 1) (listed.setIfInBounds n true)
def midHead (md : Region.Mode) (ops : Array Oper) (n : Nat) : Nat → Nat → Array Bool → Bool
  | 0, _, listed => midEnd md ops n listed
  | f + 1, k, listed => (Region.ready md ops listed).contains k && Region.free md ops listed k && midHead md ops n f (k + 1) (listed.setIfInBounds k true)
def midB (md : Region.Mode) (ops : Array Oper) (n : Nat) : Bool :=
  Region.noSelect ops && decide (n < ops.size) && Region.sinkB md ops n && depB md ops n && midHead md ops n n 0 (Array.replicate ops.size false)

theorem mid_lex {n : Nat} {Lq : Act → Prop} (hsel : Region.noSelect ops = true) (hs : Region.sinkB md ops n = true) (hc : depB md ops n = true) (hn : n < ops.size) (l : List Oper) :
    ∀ (k : Nat) (listed : Array Bool) (a : Act), (∀ j, j < l.length → l[j]? = ops[k + j]?) → k + l.length = n → HeadInv md ops n listed →
    midHead md ops n l.length k listed = true → wpQuiet P ops C Lq l a →
    headAny P md ops C n (fun listed' a' => midEnd md ops n listed' = true ∧ Lq a') l.length listed a := by
  induction l with
  | nil =>
    intro k listed a _ hk _ hB h
    exact ⟨by simpa [midHead] using hB, h⟩
  | cons o l ih =>
    intro k listed a hl hk inv hB h
    have h0 : ops[k]? = some o := by simpa using (hl 0 (by simp)).symm
    simp only [List.length_cons, midHead, Bool.and_eq_true] at hB
    have hkn : k < n := by simp only [List.length_cons] at hk; omega
    have hr' : k ∈ Region.ready md ops listed := by simpa using hB.1.1
    have hst : qOp P ops C k (wpQuiet P ops C Lq l) a := by unfold qOp; simp only [h0]; exact h
    obtain ⟨v, hy, hK⟩ := yieldsIn_of_qOp h0 hst
    refine mid_first h0 (Region.noSelect_spec hsel) hs hc hn hkn (fun listed' a' hL j hj => ?_) l.length listed a inv (Region.free_spec h0 hB.1.2) hr' hy
      (ih (k + 1) _ _ (fun j hj => by have := hl (j + 1) (by simp; omega); simpa [Nat.add_assoc, Nat.add_comm 1 j] using this) (by simp only [List.length_cons] at hk; omega) (inv.set hr' hkn) hB.2 hK)
    have h1 := hL.1
    simp only [midEnd, Bool.and_eq_true, decide_eq_true_eq] at h1
    rw [h1.1] at hj
    have : j = n := by simpa using hj
    omega

theorem wpOp_call {n : Nat} {o : Oper} {f : FuncId} {ars : Array Operand} {ts : Array TypeId} {Q : Exit → Act → World → Prop} {K : Act → World → Prop} {a : Act} {w : World} (ho : ops[n]? = some o) (hg : o.guard = none)
    {fn : Func} (hf : P.funcs[f]? = some fn) (hnm0 : (fn.name == "runtime.NumGoroutine") = false) (hbd0 : fn.body.isNone = false) (hop : o.op = .call { callee := .value (.func f), args := ars, argTypes := ts }) (h : Calls P f (ars.map a.eval) w fun e w' => ∃ v, e = .returned v ∧ K (a.put o.dst v) w') : wpOp P ops Q n K a w := by
  unfold wpOp
  simp only [ho]
  have hw : Region.wanted o (yielded ops a.tmps) = true := by simp [Region.wanted, hg]
  rw [if_pos hw]
  left
  unfold Oper.wp
  have hnm : ¬ fn.name = "runtime.NumGoroutine" := by simpa using hnm0
  have hbd : ¬ fn.body = none := fun e => by rw [e] at hbd0; cases hbd0
  have he : a.eval (.func f) = .func (.func f) #[] #[] := rfl
  simp [execOp, hop, resolve, invoke, Result.andThen, Oper.upon, he, Deferred.ofValue, callFunc, hf, hnm, hbd]
  refine h.mono ?_
  rintro e w' ⟨v, rfl, hk⟩
  exact hk

/-- One walk of the text: quiet, the call, quiet. -/
theorem region_call {id : Nat} {Q : Exit → Act → World → Prop} {a : Act} {w : World} {l : List Oper} (n : Nat) {o : Oper} {f : FuncId} {ars : Array Operand} {ts : Array TypeId} (hm : P.follows .mixedOrders = true) (hB : midB .any l.toArray n = true)
    (ho : l[n]? = some o) (hg : o.guard = none) {fn : Func} (hf : P.funcs[f]? = some fn) (hnm0 : (fn.name == "runtime.NumGoroutine") = false) (hbd0 : fn.body.isNone = false) (hop : o.op = .call { callee := .value (.func f), args := ars, argTypes := ts })
    (h : wpQuiet P l.toArray (fun w' => ∃ p : Regrown, w' = grow (redrawn w p.d) p.os) (fun a' => ∀ w', Below w.heap.size w w' → Calls P f (ars.map a'.eval) w' fun e w'' => ∃ v, e = .returned v ∧
      wpQuiet P l.toArray (fun w3 => ∃ p : Regrown, w3 = grow (redrawn w'' p.d) p.os) (fun a3 => ∀ w3, Below w''.heap.size w'' w3 → Q .normal a3 w3) (l.drop (n + 1)) (a'.put o.dst v)) (l.take n) a) : (Code.region id l.toArray true).wp P Q a w := by
  simp only [midB, Bool.and_eq_true, decide_eq_true_eq] at hB
  obtain ⟨⟨⟨⟨hsel, hn⟩, hs⟩, hc⟩, hlex⟩ := hB
  have hn' : n < l.length := by simpa using hn
  have htl : (l.take n).length = n := by simp; omega
  have hdl : (l.drop (n + 1)).length = l.toArray.size - (n + 1) := by simp
  have inv0 : HeadInv .any l.toArray n (Array.replicate l.toArray.size false) :=
    ⟨by simp, fun j oj _ hl => (by rw [getD_replicate_false] at hl; cases hl), fun t _ ht => getD_in (by simpa using ht) (getD_replicate_false _ _)⟩
  have ho' : l.toArray[n]? = some o := by simpa using ho
  have H := mid_lex (P := P) (C := fun w' => ∃ p : Regrown, w' = grow (redrawn w p.d) p.os) (md := .any) hsel hs hc hn (l.take n) 0 _ a (fun j hj => by rw [htl] at hj; simp [hj]) (by simpa using htl) inv0 (by rw [htl]; exact hlex) h
  refine wp_region_any hm ?_
  have e := any_of_head (Q := Q) (g := l.toArray.size - n) (fun listed a' w' hw' hL => by
    obtain ⟨h1, h2⟩ := hL
    simp only [midEnd, Bool.and_eq_true, decide_eq_true_eq] at h1
    obtain ⟨p, hp⟩ := hw'
    rw [show l.toArray.size - n = (l.toArray.size - (n + 1)) + 1 by omega]
    refine ⟨fun h0 => (by rw [h1.1] at h0; cases h0), fun i hi => ?_⟩
    rw [h1.1] at hi
    obtain rfl : i = n := by simpa using hi
    refine wpOp_call ho' hg hf hnm0 hbd0 hop ((h2 w' (hp ▸ below_regrown w p.d p.os)).mono fun e w'' ⟨v, he, hq⟩ => ⟨v, he, ?_⟩)
    refine wpAny_of_quiet (C := fun w3 => ∃ p : Regrown, w3 = grow (redrawn w'' p.d) p.os) (Q := fun a3 => ∀ w3, Below w''.heap.size w'' w3 → Q .normal a3 w3) (fun a3 w3 ⟨p3, hp3⟩ h3 => h3 w3 (hp3 ▸ below_regrown w'' p3.d p3.os)) _ _ _ _ ⟨⟨w''.drawn, #[]⟩, by rw [grow_empty]; rfl⟩ ?_
    have := wpAnyQ_lex (P := P) (C := fun w3 => ∃ p : Regrown, w3 = grow (redrawn w'' p.d) p.os) (md := .any) hsel (l.drop (i + 1)) (i + 1) (listed.setIfInBounds i true) (a'.put o.dst v) (fun j => by simp [List.getElem?_drop]) (by rw [hdl]; exact h1.2) hq
    rwa [hdl] at this) _ _ _ w.drew ⟨⟨w.drawn + 1, #[]⟩, by rw [grow_empty]; rfl⟩ H
  rw [htl, show n + (l.toArray.size - n) = l.toArray.size by omega] at e
  exact e
end
end Go.Proofs.YtacpncmdgkljdaaGreatDoor.Qt
namespace Go.Proofs.YtacpncmdgkljdaaGreatDoor.Qt
open Go Go.Sort Go.RowKit

/-- It ends as it should, nothing else. -/
def Qn (K : Act → World → Prop) : Exit → Act → World → Prop := fun x a w => x = .normal ∧ K a w

section
variable {P : Program} {ops : Array Oper} {md : Region.Mode} {C : World → Prop}

def PureV (P : Program) (ops : Array Oper) (o : Oper) (v : Value) (a : Act) : Prop :=
  Region.wanted o (yielded ops a.tmps) = true ∧ ∀ w, (execOp a.eval o).run P w = .ok (.value v) w

theorem no_letsOut {K : Act → World → Prop} (h : LetsOut (Qn K)) : False := by
  obtain ⟨a, w, h1, _⟩ := h
  cases h1

theorem upon_qn {o : Oper} {a : Act} {K K' : Act → World → Prop} {Kf : Act → World → Prop} {Q' : Exit → Act → World → Prop} (h : ∀ a w, K a w → K' a w) (r : Result Next) (hh : o.upon P a K (Qn Kf) r) : o.upon P a K' Q' r := by
  cases r with
  | ok n w' =>
    cases n <;> simp only [Oper.upon] at hh ⊢ <;>
      first
        | exact h _ _ hh
        | exact Calls.mono hh (fun e w'' he => by cases e <;> first | exact h _ _ he | exact absurd he.1 (by simp) | exact (no_letsOut he).elim)
        | exact Rows.mono hh (fun _ _ he => h _ _ he)
  | halt x w' => cases x <;> simp only [Oper.upon] at hh ⊢ <;> first | exact hh | exact absurd hh.1 (by simp)

theorem wpOp_qn {i : Nat} {a : Act} {w : World} {K K' : Act → World → Prop} {Kf : Act → World → Prop} {Q' : Exit → Act → World → Prop} (h : ∀ a w, K a w → K' a w) (hh : wpOp P ops (Qn Kf) i K a w) : wpOp P ops Q' i K' a w := by
  unfold wpOp at *
  split
  · exact h _ _ (by simpa [*] using hh)
  · rename_i o ho
    simp only [ho] at hh
    split
    · rename_i hw
      simp only [hw, if_true] at hh
      rcases hh with hh | hh
      · left; unfold Oper.wp at *; exact upon_qn h _ hh
      · exact (no_letsOut hh.2).elim
    · rename_i hw; simp only [hw] at hh; exact h _ _ hh

theorem any_qn {Kf : Act → World → Prop} {Q : Exit → Act → World → Prop} (hQ : ∀ a w, Kf a w → Q .normal a w) (f : Nat) : ∀ listed a w, wpAny P md ops (Qn Kf) f listed a w → wpAny P md ops Q f listed a w := by
  induction f with
  | zero => intro listed a w h; exact ⟨h.1, hQ _ _ h.2.2⟩
  | succ f ih => intro listed a w h; exact ⟨fun h0 => hQ _ _ (h.1 h0).2, fun i hi => wpOp_qn (fun a' w' h' => ih _ a' w' h') (h.2 i hi)⟩

theorem upon_put {o : Oper} {a : Act} {d : Option Nat} {v : Value} {K : Act → World → Prop} {Kf : Act → World → Prop} {R : Act → Prop} (hc : ∀ (a : Act) u, (a.put d v).put o.dst u = (a.put o.dst u).put d v)
    (hk : ∀ a u, R a → R (a.put o.dst u)) (hd : ∀ (a : Act) ds, R a → R { a with defers := ds }) (ha : R a) (r : Result Next) (hh : o.upon P (a.put d v) K (Qn Kf) r) :
    o.upon P a (fun a' w' => R a' ∧ K (a'.put d v) w') (Qn Kf) r := by
  cases r with
  | ok n w' =>
    cases n <;> simp only [Oper.upon] at hh ⊢ <;>
      first
        | (rw [hc] at hh; exact ⟨hk _ _ ha, hh⟩)
        | exact Calls.mono hh (fun e w'' he => by cases e <;> first | (simp only [hc] at he; exact ⟨hk _ _ ha, he⟩) | exact absurd he.1 (by simp) | exact (no_letsOut he).elim)
        | exact Rows.mono hh (fun _ _ he => by rw [hc] at he; exact ⟨hk _ _ ha, he⟩)
        | (rename_i dd
           have e : ({ a.put d v with defers := dd :: (a.put d v).defers } : Act) = ({ a with defers := dd :: a.defers } : Act).put d v := by cases d <;> rfl
           rw [e, hc] at hh
           exact ⟨hk _ _ (hd _ _ ha), hh⟩)
  | halt x w' => cases x <;> simp only [Oper.upon] at hh ⊢ <;> first | exact hh | exact absurd hh.1 (by simp)

theorem wpOp_put {j : Nat} {oi oj : Oper} {v : Value} (hj : ops[j]? = some oj) (hap : oi.apart ops oj = true) (hsi : ∀ cs b, oi.op ≠ .select cs b) (hsj : ∀ cs b, oj.op ≠ .select cs b) {K : Act → World → Prop} {Kf : Act → World → Prop} {a : Act} {w : World}
    (hp : PureV P ops oi v a) (h : wpOp P ops (Qn Kf) j K (a.put oi.dst v) w) : wpOp P ops (Qn Kf) j (fun a' w' => PureV P ops oi v a' ∧ K (a'.put oi.dst v) w') a w := by
  obtain ⟨h1, h2, h3⟩ := Oper.apart_spec hap
  have keep : ∀ (a : Act) u, PureV P ops oi v a → PureV P ops oi v (a.put oj.dst u) := fun a u hp => by
    unfold PureV at *
    rw [execOp_put oi hsi a oj.dst u h3, wanted_put oi a oj.dst u h3]
    exact hp
  unfold wpOp at *
  simp only [hj] at *
  rw [wanted_put oj a oi.dst v h1] at h
  split
  · rename_i hw
    simp only [hw, if_true] at h
    rcases h with h | h
    · left
      unfold Oper.wp at *
      rw [execOp_put oj hsj a oi.dst v h1] at h
      exact upon_put (R := PureV P ops oi v) (fun a u => Act.put_comm a v u h2) keep (fun _ _ h => h) hp _ h
    · exact (no_letsOut h.2).elim
  · rename_i hw
    simp only [hw] at h
    exact ⟨keep _ _ hp, by rw [← Act.put_comm a v undef h2]; exact h⟩

theorem PureV.op {i : Nat} {oi : Oper} {v : Value} {a : Act} (hi : ops[i]? = some oi) (hp : PureV P ops oi v a) {K : Act → World → Prop} {Q : Exit → Act → World → Prop} {w : World} (h : K (a.put oi.dst v) w) : wpOp P ops Q i K a w := by
  unfold wpOp
  simp only [hi, hp.1, if_true]
  left
  unfold Oper.wp
  rw [hp.2 w]
  exact h

/-- It may come first. -/
theorem any_first {Kf : Act → World → Prop} {i : Nat} {oi : Oper} {v : Value} (hi : ops[i]? = some oi) (hsel : ∀ (j : Nat) (o : Oper) cs b, ops[j]? = some o → o.op ≠ .select cs b) (f : Nat) :
    ∀ (listed : Array Bool) (a : Act) (w : World),
      (∀ j oj, ops[j]? = some oj → j ≠ i → listed.getD j true = false → (∀ e ∈ oj.after, Region.binds md e = true → e.on ≠ i) → oi.apart ops oj = true) →
      i ∈ Region.ready md ops listed → PureV P ops oi v a →
      wpAny P md ops (Qn Kf) f (listed.setIfInBounds i true) (a.put oi.dst v) w → wpAny P md ops (Qn Kf) (f + 1) listed a w := by
  induction f with
  | zero =>
    intro listed a w _ hr hp H
    refine ⟨fun h => (by rw [h] at hr; cases hr), fun j hj => ?_⟩
    by_cases hji : j = i
    · subst hji; exact hp.op hi H
    · have := ready_mono hj hji
      rw [H.1] at this
      cases this
  | succ f ih =>
    intro listed a w hfree hr hp H
    refine ⟨fun h => (by rw [h] at hr; cases hr), fun j hj => ?_⟩
    by_cases hji : j = i
    · subst hji; exact hp.op hi H
    · obtain ⟨hjun, oj, hoj, hall⟩ := mem_ready.1 hj
      have hun := (mem_ready.1 hr).1
      have hnot : ∀ e ∈ oj.after, Region.binds md e = true → e.on ≠ i := fun e he hb heq => by
        have h1 := hall e he hb
        rw [heq, getD_both hun] at h1
        cases h1
      refine wpOp_mono (fun a' w' h3 => ih (listed.setIfInBounds j true) a' w' (fun k ok hk hki hku hno => hfree k ok hk hki ?_ hno) (ready_mono hr (Ne.symm hji)) h3.1 ?_)
        (wpOp_put hoj (hfree j oj hoj hji hjun hnot) (fun cs b => hsel i oi cs b hi) (fun cs b => hsel j oj cs b hoj) hp (H.2 j (ready_mono hj hji)))
      · by_cases hjk : j = k
        · subst hjk; exact hjun
        · rwa [getD_set_ne true hjk] at hku
      · rw [Array.setIfInBounds_comm _ _ hji]; exact h3.2

/-! ### operations that only move come first, then the rest in the one order that is left -/

/-- The rest of the region in one order alone, by the numbers of its operations. -/
def oneOrder (md : Region.Mode) (ops : Array Oper) : List Nat → Array Bool → Bool
  | [], listed => (Region.ready md ops listed).isEmpty
  | k :: ks, listed => decide (Region.ready md ops listed = [k]) && oneOrder md ops ks (listed.setIfInBounds k true)
def firstB (md : Region.Mode) (ops : Array Oper) (rs : List Nat) : List Nat → Array Bool → Bool
  | [], listed => oneOrder md ops rs listed
  | k :: ks, listed => (Region.ready md ops listed).contains k && Region.free md ops listed k && firstB md ops rs ks (listed.setIfInBounds k true)

def pureSteps (P : Program) (ops : Array Oper) (L : Act → Prop) : List Nat → Act → Prop
  | [], a => L a
  | k :: ks, a => ∃ (o : Oper) (d : Option Tmp) (v : Value), ops[k]? = some o ∧ o.dst = d ∧ PureV P ops o v a ∧ pureSteps P ops L ks (a.put d v)

theorem any_oneOrder {Kf : Act → World → Prop} (rs : List Nat) : ∀ (l : List Oper) (listed : Array Bool) (a : Act) (w : World), rs.map (fun k => ops[k]?) = l.map some → oneOrder md ops rs listed = true → wpList P ops (Qn Kf) l a w → wpAny P md ops (Qn Kf) rs.length listed a w := by
  induction rs with
  | nil =>
    intro l listed a w hl hB h
    obtain rfl : l = [] := by simpa using hl.symm
    exact ⟨by simpa [oneOrder] using hB, h⟩
  | cons k rs ih =>
    intro l listed a w hl hB h
    cases l with
    | nil => simp at hl
    | cons o l =>
      simp only [List.map_cons, List.cons.injEq] at hl
      simp only [oneOrder, Bool.and_eq_true, decide_eq_true_eq] at hB
      refine ⟨fun h1 => (by rw [hB.1] at h1; cases h1), fun i hi => ?_⟩
      rw [hB.1] at hi
      obtain rfl : i = k := by simpa using hi
      have hw : wpOp P ops (Qn Kf) i (wpList P ops (Qn Kf) l) a w := by unfold wpOp; simp only [hl.1]; exact h
      exact wpOp_mono (fun a' w' h' => ih l _ a' w' hl.2 hB.2 h') hw

theorem any_pure {Kf : Act → World → Prop} (hsel : Region.noSelect ops = true) (rs : List Nat) (l : List Oper) (hl : rs.map (fun k => ops[k]?) = l.map some) (w : World) (ks : List Nat) :
    ∀ (listed : Array Bool) (a : Act), firstB md ops rs ks listed = true → pureSteps P ops (fun a' => wpList P ops (Qn Kf) l a' w) ks a → wpAny P md ops (Qn Kf) (ks.length + rs.length) listed a w := by
  induction ks with
  | nil =>
    intro listed a hB h
    rw [List.length_nil, Nat.zero_add]
    exact any_oneOrder rs l listed a w hl hB h
  | cons k ks ih =>
    intro listed a hB h
    obtain ⟨o, d, v, ho, hd, hp, hrest⟩ := h
    subst hd
    simp only [firstB, Bool.and_eq_true] at hB
    rw [List.length_cons, show ks.length + 1 + rs.length = (ks.length + rs.length) + 1 by omega]
    exact any_first ho (Region.noSelect_spec hsel) _ listed a w (Region.free_spec ho hB.1.2) (by simpa using hB.1.1) hp (ih _ _ hB.2 hrest)

theorem region_pure {id : Nat} {Q : Exit → Act → World → Prop} {a : Act} {w : World} {l : List Oper} (ks rs : List Nat) (lr : List Oper) (hm : P.follows .mixedOrders = true) (hsel : Region.noSelect l.toArray = true)
    (hB : firstB .any l.toArray rs ks (Array.replicate l.toArray.size false) = true) (hlen : ks.length + rs.length = l.length) (hl : rs.map (fun k => l[k]?) = lr.map some)
    (h : pureSteps P l.toArray (fun a' => wpList P l.toArray (Qn fun a w => Q .normal a w) lr a' w.drew) ks a) : (Code.region id l.toArray true).wp P Q a w := by
  refine wp_region_any hm ?_
  have := any_pure (P := P) (md := .any) (Kf := fun a w => Q .normal a w) hsel rs lr (by simpa using hl) w.drew ks _ a hB h
  rw [hlen] at this
  have e := any_qn (fun a w h => h) _ _ _ _ this
  simpa using e

theorem map_filterMap {α : Type} (f : Nat → Option α) (rs : List Nat) (h : rs.all (fun k => (f k).isSome) = true) : rs.map f = (rs.filterMap f).map some := by
  induction rs with
  | nil => rfl
  | cons k rs ih =>
    simp only [List.all_cons, Bool.and_eq_true] at h
    obtain ⟨v, hv⟩ := Option.isSome_iff_exists.1 h.1
    simp [hv, ih h.2]

theorem region_pure_at {id : Nat} {Q : Exit → Act → World → Prop} {a : Act} {w : World} {l : List Oper} (ks rs : List Nat) (hm : P.follows .mixedOrders = true) (hsel : Region.noSelect l.toArray = true)
    (hB : firstB .any l.toArray rs ks (Array.replicate l.toArray.size false) = true) (hlen : ks.length + rs.length = l.length) (hl : rs.all (fun k => (l[k]?).isSome) = true)
    (h : pureSteps P l.toArray (fun a' => wpList P l.toArray (Qn fun a w => Q .normal a w) (rs.filterMap fun k => l[k]?) a' w.drew) ks a) : (Code.region id l.toArray true).wp P Q a w :=
  region_pure ks rs _ hm hsel hB hlen (map_filterMap _ rs hl) h

theorem region_pure4 {P : Program} {id : Nat} {Q : Exit → Act → World → Prop} {a : Act} {w : World} {l : List Oper} (ks : List Nat) (r0 r1 r2 r3 : Nat) {o0 o1 o2 o3 : Oper} (hm : P.follows .mixedOrders = true) (hsel : Region.noSelect l.toArray = true)
    (hB : firstB .any l.toArray [r0, r1, r2, r3] ks (Array.replicate l.toArray.size false) = true) (hlen : ks.length + 4 = l.length) (h0 : l[r0]? = some o0) (h1 : l[r1]? = some o1) (h2 : l[r2]? = some o2) (h3 : l[r3]? = some o3)
    (h : pureSteps P l.toArray (fun a' => wpList P l.toArray (Qn fun a w => Q .normal a w) [o0, o1, o2, o3] a' w.drew) ks a) : (Code.region id l.toArray true).wp P Q a w :=
  region_pure ks [r0, r1, r2, r3] [o0, o1, o2, o3] hm hsel hB hlen (by simp [h0, h1, h2, h3]) h

/-! ### Operation 0 first, then quiet ones in whatever order, then the rest in one order -/
def sinkFrom (md : Region.Mode) (ops : Array Oper) (s n : Nat) : Bool :=
  (List.range n).all fun i => decide (i < s) || (List.range (n + 1)).any fun j => decide (i < j) && Region.waitsFor md ops j i

theorem last_waits' {s n : Nat} {listed : Array Bool} (hs : sinkFrom md ops s n = true) (hn : n < ops.size) (inv : HeadInv md ops n listed) (d : Nat) :
    ∀ i, n - i ≤ d → s ≤ i → i < n → listed.getD i true = false → n ∉ Region.ready md ops listed := by
  induction d with
  | zero => intro i hd _ hi; omega
  | succ d ih =>
    intro i hd hsi hi hun hr
    have h0 := List.all_eq_true.1 hs i (List.mem_range.2 hi)
    simp only [Bool.or_eq_true, decide_eq_true_eq] at h0
    rcases h0 with h0 | h0
    · omega
    obtain ⟨j, hj, hj2⟩ := List.any_eq_true.1 h0
    simp only [Bool.and_eq_true, decide_eq_true_eq] at hj2
    obtain ⟨oj, hoj, e, he, hb, hon⟩ := Region.waitsFor_spec hj2.2
    have hjn := List.mem_range.1 hj
    by_cases hl : listed.getD j false = true
    · have h2 := inv.closed j oj hoj hl e he hb
      rw [hon, getD_both hun] at h2
      cases h2
    · rcases Nat.lt_or_eq_of_le (Nat.le_of_lt_succ hjn) with hlt | heq
      · exact ih j (by omega) (by omega) hlt (getD_in (by rw [inv.size]; omega) (by simpa using hl)) hr
      · subst heq
        obtain ⟨_, ot, hot, hall⟩ := mem_ready.1 hr
        obtain rfl : oj = ot := Option.some.inj (hoj.symm.trans hot)
        have h2 := hall e he hb
        rw [hon, getD_both hun] at h2
        cases h2

theorem rest_waits' {s n : Nat} {listed : Array Bool} (hs : sinkFrom md ops s n = true) (hd : depB md ops n = true) (hn : n < ops.size) (inv : HeadInv md ops n listed) {i : Nat} (hsi : s ≤ i) (hi : i < n) (hun : listed.getD i true = false) :
    ∀ t, n ≤ t → t ∉ Region.ready md ops listed := by
  intro t ht hr
  rcases Nat.lt_or_eq_of_le ht with hlt | heq
  · obtain ⟨_, ot, hot, hall⟩ := mem_ready.1 hr
    have hts : t < ops.size := (Array.getElem?_eq_some_iff.1 hot).1
    have h1 := List.all_eq_true.1 hd t (List.mem_range.2 hts)
    simp only [Bool.or_eq_true, decide_eq_true_eq] at h1
    rcases h1 with h1 | h1
    · omega
    · obtain ⟨j, hj, hj2⟩ := List.any_eq_true.1 h1
      simp only [Bool.and_eq_true, decide_eq_true_eq] at hj2
      obtain ⟨oj, hoj, e, he, hb, hon⟩ := Region.waitsFor_spec hj2.2
      obtain rfl : oj = ot := Option.some.inj (hoj.symm.trans hot)
      have h2 := hall e he hb
      have hjt := List.mem_range.1 hj
      rw [hon, getD_both (inv.tail j hj2.1 (by omega))] at h2
      cases h2
  · subst heq
    exact last_waits' hs hn inv _ i (Nat.le_refl _) hsi hi hun hr

theorem late_first {s n i : Nat} {oi : Oper} {v : Value} {L : Array Bool → Act → Prop} (hi : ops[i]? = some oi) (hsel : ∀ (j : Nat) (o : Oper) cs b, ops[j]? = some o → o.op ≠ .select cs b)
    (hs : sinkFrom md ops s n = true) (hc : depB md ops n = true) (hn : n < ops.size) (hsi : s ≤ i) (hin : i < n) (hdone : ∀ listed a, L listed a → ∀ j ∈ Region.ready md ops listed, n ≤ j) (f : Nat) :
    ∀ (listed : Array Bool) (a : Act), HeadInv md ops n listed →
      (∀ j oj, ops[j]? = some oj → j ≠ i → listed.getD j true = false → (∀ e ∈ oj.after, Region.binds md e = true → e.on ≠ i) → oi.apart ops oj = true) →
      i ∈ Region.ready md ops listed → YieldsIn P ops C oi v a →
      headAny P md ops C n L f (listed.setIfInBounds i true) (a.put oi.dst v) → headAny P md ops C n L (f + 1) listed a := by
  induction f with
  | zero =>
    intro listed a inv _ hr hy H
    refine ⟨fun h => (by rw [h] at hr; cases hr), fun j hj => ?_⟩
    have hjn : j < n := Nat.lt_of_not_le fun h => rest_waits' hs hc hn inv hsi hin (mem_ready.1 hr).1 j h hj
    refine ⟨hjn, ?_⟩
    by_cases hji : j = i
    · subst hji; exact hy.qOp hi H
    · exact absurd (hdone _ _ H j (ready_mono hj hji)) (by omega)
  | succ f ih =>
    intro listed a inv hfree hr hy H
    have hun := (mem_ready.1 hr).1
    refine ⟨fun h => (by rw [h] at hr; cases hr), fun j hj => ?_⟩
    have hjn : j < n := Nat.lt_of_not_le fun h => rest_waits' hs hc hn inv hsi hin hun j h hj
    refine ⟨hjn, ?_⟩
    by_cases hji : j = i
    · subst hji; exact hy.qOp hi H
    · obtain ⟨hjun, oj, hoj, hall⟩ := mem_ready.1 hj
      have hnot : ∀ e ∈ oj.after, Region.binds md e = true → e.on ≠ i := fun e he hb heq => by
        have h1 := hall e he hb
        rw [heq, getD_both hun] at h1
        cases h1
      have hq := qOp_put hoj (hfree j oj hoj hji hjun hnot) (fun cs b => hsel i oi cs b hi) (fun cs b => hsel j oj cs b hoj) hy (H.2 j (ready_mono hj hji)).2
      refine qOp_mono (fun a' h3 => ih (listed.setIfInBounds j true) a' (inv.set hj hjn) (fun k ok hk hki hku hno => hfree k ok hk hki ?_ hno) (ready_mono hr (Ne.symm hji)) h3.1 ?_) hq
      · by_cases hjk : j = k
        · subst hjk; exact hjun
        · rwa [getD_set_ne true hjk] at hku
      · rw [Array.setIfInBounds_comm _ _ hji]; exact h3.2

theorem late_lex {s n g : Nat} {Lq : Act → Prop} (hsel : Region.noSelect ops = true) (hs : sinkFrom md ops s n = true) (hc : depB md ops n = true) (hn : n < ops.size) (l : List Oper) :
    ∀ (k : Nat) (listed : Array Bool) (a : Act), s ≤ k → (∀ j, j < l.length → l[j]? = ops[k + j]?) → k + l.length = n → HeadInv md ops n listed →
    Region.lexHead md ops g l.length k listed = true → wpQuiet P ops C Lq l a →
    headAny P md ops C n (fun listed' a' => Region.seqB md ops g n listed' = true ∧ Lq a') l.length listed a := by
  induction l with
  | nil =>
    intro k listed a _ _ hk _ hB h
    obtain rfl : k = n := by simpa using hk
    exact ⟨by simpa [Region.lexHead] using hB, h⟩
  | cons o l ih =>
    intro k listed a hsk hl hk inv hB h
    have h0 : ops[k]? = some o := by simpa using (hl 0 (by simp)).symm
    simp only [List.length_cons, Region.lexHead, Bool.and_eq_true] at hB
    have hkn : k < n := by simp only [List.length_cons] at hk; omega
    have hr' : k ∈ Region.ready md ops listed := by simpa using hB.1.1
    have hst : qOp P ops C k (wpQuiet P ops C Lq l) a := by unfold qOp; simp only [h0]; exact h
    obtain ⟨v, hy, hK⟩ := yieldsIn_of_qOp h0 hst
    exact late_first h0 (Region.noSelect_spec hsel) hs hc hn hsk hkn (fun listed' a' hL => seqB_ready hL.1) l.length listed a inv (Region.free_spec h0 hB.1.2) hr' hy
      (ih (k + 1) _ _ (by omega) (fun j hj => by have := hl (j + 1) (by simp; omega); simpa [Nat.add_assoc, Nat.add_comm 1 j] using this) (by simp only [List.length_cons] at hk; omega) (inv.set hr' hkn) hB.2 hK)

def lateB (md : Region.Mode) (ops : Array Oper) (n : Nat) : Bool :=
  Region.noSelect ops && decide (n < ops.size) && sinkFrom md ops 1 n && depB md ops n && (Region.ready md ops (Array.replicate ops.size false)).contains 0 && Region.free md ops (Array.replicate ops.size false) 0 &&
    Region.lexHead md ops (ops.size - n) (n - 1) 1 ((Array.replicate ops.size false).setIfInBounds 0 true)

theorem region_late {id : Nat} {Q : Exit → Act → World → Prop} {a : Act} {w : World} {l : List Oper} {o : Oper} {v : Value} (n : Nat) (hn0 : 0 < n) (hm : P.follows .mixedOrders = true) (hB : lateB .any l.toArray n = true) (ho : l[0]? = some o) (hp : PureV P l.toArray o v a)
    (h : wpQuiet P l.toArray (fun w' => ∃ p : Regrown, w' = grow (redrawn w p.d) p.os) (fun a' => ∀ w', Below w.heap.size w w' → wpList P l.toArray (Qn fun a w => Q .normal a w) (l.drop n) a' w') ((l.take n).drop 1) (a.put o.dst v)) : (Code.region id l.toArray true).wp P Q a w := by
  simp only [lateB, Bool.and_eq_true, decide_eq_true_eq] at hB
  obtain ⟨⟨⟨⟨⟨⟨hsel, hn⟩, hs⟩, hc⟩, hr0⟩, hf0⟩, hlex⟩ := hB
  have hn' : n < l.length := by simpa using hn
  have htl : ((l.take n).drop 1).length = n - 1 := by simp; omega
  have hdl : (l.drop n).length = l.toArray.size - n := by simp
  have ho' : l.toArray[0]? = some o := by simpa using ho
  have hr0' : 0 ∈ Region.ready .any l.toArray (Array.replicate l.toArray.size false) := by simpa using hr0
  have inv0 : HeadInv .any l.toArray n (Array.replicate l.toArray.size false) :=
    ⟨by simp, fun j oj _ hl => (by rw [getD_replicate_false] at hl; cases hl), fun t _ ht => getD_in (by simpa using ht) (getD_replicate_false _ _)⟩
  have inv1 := inv0.set hr0' hn0
  have H := late_lex (P := P) (C := fun w' => ∃ p : Regrown, w' = grow (redrawn w p.d) p.os) (md := .any) (g := l.toArray.size - n) hsel hs hc hn ((l.take n).drop 1) 1 _ (a.put o.dst v) (Nat.le_refl _)
    (fun j hj => by rw [htl] at hj; rw [List.getElem?_drop, List.getElem?_take, if_pos (by omega)]; simp) (by rw [htl]; omega) inv1 (by rw [htl]; exact hlex) h
  refine wp_region_any hm ?_
  have e := any_of_head (Q := Qn fun a w => Q .normal a w) (g := l.toArray.size - n) (fun listed a' w' hw' hL => by
    obtain ⟨p, hp'⟩ := hw'
    have := wpAny_of_seq (md := .any) (Q' := Qn fun a w => Q .normal a w) (l.drop n) n listed a' w' (fun j => by simp [List.getElem?_drop]) (by rw [hdl]; exact hL.1) (hL.2 w' (hp' ▸ below_regrown w p.d p.os))
    rwa [hdl] at this) _ _ _ w.drew ⟨⟨w.drawn + 1, #[]⟩, by rw [grow_empty]; rfl⟩ H
  have e2 := any_first (P := P) (md := .any) (Kf := fun a w => Q .normal a w) ho' (Region.noSelect_spec hsel) _ _ a w.drew (Region.free_spec ho' hf0) hr0' hp e
  rw [htl, show n - 1 + (l.toArray.size - n) + 1 = l.toArray.size by omega] at e2
  exact any_qn (fun a w h => h) _ _ _ _ e2
end
end Go.Proofs.YtacpncmdgkljdaaGreatDoor.Qt
namespace Go.Proofs.YtacpncmdgkljdaaGreatDoor.Qt
open Go Go.Sort Go.RowKit

section
variable {P : Program} {ops : Array Oper} {md : Region.Mode}

/-- (true, k): operation k only moves a value; (false, k): operation k is the only one that may come. -/
def scriptB (md : Region.Mode) (ops : Array Oper) : List (Bool × Nat) → Array Bool → Bool
  | [], listed => (Region.ready md ops listed).isEmpty
  | (true, k) :: s, listed => (Region.ready md ops listed).contains k && Region.free md ops listed k && scriptB md ops s (listed.setIfInBounds k true)
  | (false, k) :: s, listed => decide (Region.ready md ops listed = [k]) && scriptB md ops s (listed.setIfInBounds k true)
def scriptW (P : Program) (ops : Array Oper) (Kf : Act → World → Prop) : List (Bool × Nat) → Act → World → Prop
  | [], a, w => Kf a w
  | (true, k) :: s, a, w => ∃ (o : Oper) (d : Option Tmp) (v : Value), ops[k]? = some o ∧ o.dst = d ∧ PureV P ops o v a ∧ scriptW P ops Kf s (a.put d v) w
  | (false, k) :: s, a, w => ∃ o : Oper, ops[k]? = some o ∧ wpList P ops (Qn (scriptW P ops Kf s)) [o] a w

theorem any_script {Kf : Act → World → Prop} (hsel : Region.noSelect ops = true) (s : List (Bool × Nat)) :
    ∀ (listed : Array Bool) (a : Act) (w : World), scriptB md ops s listed = true → scriptW P ops Kf s a w → wpAny P md ops (Qn Kf) s.length listed a w := by
  induction s with
  | nil =>
    intro listed a w hB h
    exact ⟨by simpa [scriptB] using hB, rfl, h⟩
  | cons x s ih =>
    intro listed a w hB h
    obtain ⟨b, k⟩ := x
    cases b with
    | true =>
      obtain ⟨o, d, v, ho, hd, hp, hrest⟩ := h
      subst hd
      simp only [scriptB, Bool.and_eq_true] at hB
      exact any_first ho (Region.noSelect_spec hsel) _ listed a w (Region.free_spec ho hB.1.2) (by simpa using hB.1.1) hp (ih _ _ _ hB.2 hrest)
    | false =>
      obtain ⟨o, ho, h⟩ := h
      simp only [scriptB, Bool.and_eq_true, decide_eq_true_eq] at hB
      refine ⟨fun h1 => (by rw [hB.1] at h1; cases h1), fun i hi => ?_⟩
      rw [hB.1] at hi
      obtain rfl : i = k := by simpa using hi
      have hw : wpOp P ops (Qn (scriptW P ops Kf s)) i (wpList P ops (Qn (scriptW P ops Kf s)) []) a w := by unfold wpOp; simp only [ho]; exact h
      exact wpOp_qn (fun a' w' h' => ih _ a' w' hB.2 h'.2) hw

theorem region_script {id : Nat} {Q : Exit → Act → World → Prop} {a : Act} {w : World} {l : List Oper} (s : List (Bool × Nat)) (hm : P.follows .mixedOrders = true) (hsel : Region.noSelect l.toArray = true)
    (hB : scriptB .any l.toArray s (Array.replicate l.toArray.size false) = true) (hlen : s.length = l.length)
    (h : scriptW P l.toArray (fun a w => Q .normal a w) s a w.drew) : (Code.region id l.toArray true).wp P Q a w := by
  refine wp_region_any hm ?_
  have := any_script (P := P) (md := .any) (Kf := fun a w => Q .normal a w) hsel s _ a w.drew hB h
  rw [hlen] at this
  have e := any_qn (fun a w h => h) _ _ _ _ this
  simpa using e
end
end Go.Proofs.YtacpncmdgkljdaaGreatDoor.Qt
namespace Go.Proofs.YtacpncmdgkljdaaGreatDoor.Qt
open Go Go.Sort Go.RowKit

inductive Scr where
  | done : Scr
  | pure : Nat → Scr → Scr
  | only : Nat → Scr → Scr
  | two : Nat → Nat → Scr → Scr → Scr
  | three : Nat → Nat → Nat → Scr → Scr → Scr → Scr

def Scr.len : Scr → Nat
  | .done => 0
  | .pure _ s => s.len + 1
  | .only _ s => s.len + 1
  | .two _ _ s _ => s.len + 1
  | .three _ _ _ s _ _ => s.len + 1

section
variable {P : Program} {ops : Array Oper} {md : Region.Mode}

def treeB (md : Region.Mode) (ops : Array Oper) : Scr → Array Bool → Bool
  | .done, listed => (Region.ready md ops listed).isEmpty
  | .pure k s, listed => (Region.ready md ops listed).contains k && Region.free md ops listed k && treeB md ops s (listed.setIfInBounds k true)
  | .only k s, listed => decide (Region.ready md ops listed = [k]) && treeB md ops s (listed.setIfInBounds k true)
  | .two j k s t, listed => decide (Region.ready md ops listed = [j, k]) && decide (s.len = t.len) && treeB md ops s (listed.setIfInBounds j true) && treeB md ops t (listed.setIfInBounds k true)
  | .three i j k r s t, listed => decide (Region.ready md ops listed = [i, j, k]) && decide (r.len = s.len) && decide (r.len = t.len) && treeB md ops r (listed.setIfInBounds i true) && treeB md ops s (listed.setIfInBounds j true) && treeB md ops t (listed.setIfInBounds k true)
def treeW (P : Program) (ops : Array Oper) (Kf : Act → World → Prop) : Scr → Act → World → Prop
  | .done, a, w => Kf a w
  | .pure k s, a, w => ∃ (o : Oper) (d : Option Tmp) (v : Value), ops[k]? = some o ∧ o.dst = d ∧ PureV P ops o v a ∧ treeW P ops Kf s (a.put d v) w
  | .only k s, a, w => ∃ o : Oper, ops[k]? = some o ∧ wpList P ops (Qn (treeW P ops Kf s)) [o] a w
  | .two j k s t, a, w => (∃ o : Oper, ops[j]? = some o ∧ wpList P ops (Qn (treeW P ops Kf s)) [o] a w) ∧ ∃ o : Oper, ops[k]? = some o ∧ wpList P ops (Qn (treeW P ops Kf t)) [o] a w
  | .three i j k r s t, a, w => (∃ o : Oper, ops[i]? = some o ∧ wpList P ops (Qn (treeW P ops Kf r)) [o] a w) ∧ (∃ o : Oper, ops[j]? = some o ∧ wpList P ops (Qn (treeW P ops Kf s)) [o] a w) ∧ ∃ o : Oper, ops[k]? = some o ∧ wpList P ops (Qn (treeW P ops Kf t)) [o] a w

theorem any_tree {Kf : Act → World → Prop} (hsel : Region.noSelect ops = true) (s : Scr) :
    ∀ (listed : Array Bool) (a : Act) (w : World), treeB md ops s listed = true → treeW P ops Kf s a w → wpAny P md ops (Qn Kf) s.len listed a w := by
  induction s with
  | done =>
    intro listed a w hB h
    exact ⟨by simpa [treeB] using hB, rfl, h⟩
  | pure k s ih =>
    intro listed a w hB h
    obtain ⟨o, d, v, ho, hd, hp, hrest⟩ := h
    subst hd
    simp only [treeB, Bool.and_eq_true] at hB
    exact any_first ho (Region.noSelect_spec hsel) _ listed a w (Region.free_spec ho hB.1.2) (by simpa using hB.1.1) hp (ih _ _ _ hB.2 hrest)
  | only k s ih =>
    intro listed a w hB h
    obtain ⟨o, ho, h⟩ := h
    simp only [treeB, Bool.and_eq_true, decide_eq_true_eq] at hB
    refine ⟨fun h1 => (by rw [hB.1] at h1; cases h1), fun i hi => ?_⟩
    rw [hB.1] at hi
    obtain rfl : i = k := by simpa using hi
    have hw : wpOp P ops (Qn (treeW P ops Kf s)) i (wpList P ops (Qn (treeW P ops Kf s)) []) a w := by unfold wpOp; simp only [ho]; exact h
    exact wpOp_qn (fun a' w' h' => ih _ a' w' hB.2 h'.2) hw
  | two j k s t ihs iht =>
    intro listed a w hB h
    obtain ⟨⟨o, ho, h1⟩, ⟨o', ho', h2⟩⟩ := h
    simp only [treeB, Bool.and_eq_true, decide_eq_true_eq] at hB
    obtain ⟨⟨⟨hr, hl⟩, hs⟩, ht⟩ := hB
    refine ⟨fun h1 => (by rw [hr] at h1; cases h1), fun i hi => ?_⟩
    rw [hr] at hi
    simp only [List.mem_cons, List.not_mem_nil, or_false] at hi
    rcases hi with rfl | rfl
    · have hw : wpOp P ops (Qn (treeW P ops Kf s)) i (wpList P ops (Qn (treeW P ops Kf s)) []) a w := by unfold wpOp; simp only [ho]; exact h1
      exact wpOp_qn (fun a' w' h' => ihs _ a' w' hs h'.2) hw
    · have hw : wpOp P ops (Qn (treeW P ops Kf t)) i (wpList P ops (Qn (treeW P ops Kf t)) []) a w := by unfold wpOp; simp only [ho']; exact h2
      refine wpOp_qn (fun a' w' h' => ?_) hw
      have := iht _ a' w' ht h'.2
      rwa [← hl] at this
  | three p j k r s t ihr ihs iht =>
    intro listed a w hB h
    obtain ⟨⟨o0, ho0, h0⟩, ⟨o, ho, h1⟩, ⟨o', ho', h2⟩⟩ := h
    simp only [treeB, Bool.and_eq_true, decide_eq_true_eq] at hB
    obtain ⟨⟨⟨⟨⟨hr, hl⟩, hl2⟩, h3⟩, hs⟩, ht⟩ := hB
    refine ⟨fun h1 => (by rw [hr] at h1; cases h1), fun i hi => ?_⟩
    rw [hr] at hi
    simp only [List.mem_cons, List.not_mem_nil, or_false] at hi
    rcases hi with rfl | rfl | rfl
    · have hw : wpOp P ops (Qn (treeW P ops Kf r)) i (wpList P ops (Qn (treeW P ops Kf r)) []) a w := by unfold wpOp; simp only [ho0]; exact h0
      exact wpOp_qn (fun a' w' h' => ihr _ a' w' h3 h'.2) hw
    · have hw : wpOp P ops (Qn (treeW P ops Kf s)) i (wpList P ops (Qn (treeW P ops Kf s)) []) a w := by unfold wpOp; simp only [ho]; exact h1
      refine wpOp_qn (fun a' w' h' => ?_) hw
      have := ihs _ a' w' hs h'.2
      rwa [← hl] at this
    · have hw : wpOp P ops (Qn (treeW P ops Kf t)) i (wpList P ops (Qn (treeW P ops Kf t)) []) a w := by unfold wpOp; simp only [ho']; exact h2
      refine wpOp_qn (fun a' w' h' => ?_) hw
      have := iht _ a' w' ht h'.2
      rwa [← hl2] at this

theorem region_tree {id : Nat} {Q : Exit → Act → World → Prop} {a : Act} {w : World} {l : List Oper} (s : Scr) (hm : P.follows .mixedOrders = true) (hsel : Region.noSelect l.toArray = true)
    (hB : treeB .any l.toArray s (Array.replicate l.toArray.size false) = true) (hlen : s.len = l.length)
    (h : treeW P l.toArray (fun a w => Q .normal a w) s a w.drew) : (Code.region id l.toArray true).wp P Q a w := by
  refine wp_region_any hm ?_
  have := any_tree (P := P) (md := .any) (Kf := fun a w => Q .normal a w) hsel s _ a w.drew hB h
  rw [hlen] at this
  have e := any_qn (fun a w h => h) _ _ _ _ this
  simpa using e
end
end Go.Proofs.YtacpncmdgkljdaaGreatDoor.Qt
namespace Go.Proofs.YtacpncmdgkljdaaGreatDoor
open Go.RowKit Go.Sort

section
variable {o : Oper} {ev : Operand → Value} {x y : Operand} {s t : ByteArray} {k m : Nat}
theorem exec_str_to (ho : o.op = .slice 9 x none (some y) none) (hx : ev x = .string s) (hy : ev y = .int .i64 (k : Int)) (hk : k ≤ s.size) (hs : s.size ≤ 9223372036854775807) (w : World) :
    (execOp ev o).run Tryz.prog w = .ok (.value (.string (s.extract 0 k))) w := by
  have hkz : (k : Int) ≤ (s.size : Int) := by omega
  simp only [execOp, ho, hx, hy]
  go_simp
theorem exec_str_from (ho : o.op = .slice 9 x (some y) none none) (hx : ev x = .string s) (hy : ev y = .int .i64 (k : Int)) (hk : k ≤ s.size) (hs : s.size ≤ 9223372036854775807) (w : World) :
    (execOp ev o).run Tryz.prog w = .ok (.value (.string (s.extract k s.size))) w := by
  have hkz : (k : Int) ≤ (s.size : Int) := by omega
  simp only [execOp, ho, hx, hy]
  go_simp
theorem exec_add (ho : o.op = .binOp .add 9 x y 9) (hx : ev x = .string s) (hy : ev y = .string t) (hs : s.size + t.size ≤ 9223372036854775807) (w : World) :
    (execOp ev o).run Tryz.prog w = .ok (.value (.string (s ++ t))) w := by
  simp only [execOp, ho, hx, hy]
  go_simp
theorem exec_addi (ho : o.op = .binOp .add 3 x y 3) (hx : ev x = .int .i64 (k : Int)) (hy : ev y = .int .i64 (m : Int)) (hs : k + m ≤ 9223372036854775807) (w : World) :
    (execOp ev o).run Tryz.prog w = .ok (.value (.int .i64 ((k + m : Nat) : Int))) w := by
  simp only [execOp, ho, hx, hy]
  go_simp
  rw [IntKind.wrap_i64]
  omega
theorem exec_len (ho : o.op = .call { callee := .builtin .len, args := #[x], argTypes := #[9] }) (hty : o.type = 3) (hx : ev x = .string s) (w : World) :
    (execOp ev o).run Tryz.prog w = .ok (.value (.int .i64 (s.size : Int))) w := by
  simp only [execOp, ho, hty]
  simp [hx, resolve, invoke, builtin, Result.andThen]
  go_simp
theorem exec_len_sl {A : Option Addr} {c : Nat} (ho : o.op = .call { callee := .builtin .len, args := #[x], argTypes := #[31] }) (hty : o.type = 3) (hx : ev x = .slice A k c) (w : World) :
    (execOp ev o).run Tryz.prog w = .ok (.value (.int .i64 (k : Int))) w := by
  simp only [execOp, ho, hty]
  simp [hx, resolve, invoke, builtin, Result.andThen]
  go_simp
theorem exec_min (ho : o.op = .call { callee := .builtin .min, args := #[x, y], argTypes := #[3, 3] }) (hty : o.type = 3) (hx : ev x = .int .i64 (k : Int)) (hy : ev y = .int .i64 (m : Int)) (w : World) :
    (execOp ev o).run Tryz.prog w = .ok (.value (.int .i64 ((min k m : Nat) : Int))) w := by
  simp only [execOp, ho, hty]
  simp [hx, hy, resolve, invoke, builtin, Result.andThen]
  go_simp
  omega
end

end Go.Proofs.YtacpncmdgkljdaaGreatDoor
namespace Go.Proofs.YtacpncmdgkljdaaGreatDoor
set_option linter.unusedVariables false
set_option linter.unusedSimpArgs false
open Go.RowKit Go.Sort

/-- The reader at block b: what is left, from which place on, the items. -/
def Rdr (w : World) (b : Nat) (l : List UInt8) (p : Nat) (V : Value) : Prop := w.heap[b]? = some (.cells #[.string (str l), .int .i64 p, V] 86 (0, 0))
theorem Rdr.lt {w : World} {b : Nat} {l : List UInt8} {p : Nat} {V : Value} (h : Rdr w b l p V) : b < w.heap.size := by
  rcases Nat.lt_or_ge b w.heap.size with h' | h'
  · exact h'
  · unfold Rdr at h; simp [Array.getElem?_eq_none h'] at h
theorem Rdr.left {w : World} {b : Nat} {l : List UInt8} {p : Nat} {V : Value} (h : Rdr w b l p V) : w.cell? ⟨b, 0, none⟩ = some (.string (str l)) := by rw [Lib.cell_of_heap h]; rfl
theorem Rdr.place {w : World} {b : Nat} {l : List UInt8} {p : Nat} {V : Value} (h : Rdr w b l p V) : w.cell? ⟨b, 1, none⟩ = some (.int .i64 p) := by rw [Lib.cell_of_heap h]; rfl
theorem Rdr.items {w : World} {b : Nat} {l : List UInt8} {p : Nat} {V : Value} (h : Rdr w b l p V) : w.cell? ⟨b, 2, none⟩ = some V := by rw [Lib.cell_of_heap h]; rfl
theorem Rdr.free {w : World} {b : Nat} {l : List UInt8} {p : Nat} {V : Value} (h : Rdr w b l p V) (j : Nat) : w.frozen? ⟨b, j, none⟩ = false := Lib.frozen_of_heap h j
theorem Rdr.below {w w' : World} {b : Nat} {l : List UInt8} {p : Nat} {V : Value} (h : Rdr w b l p V) (hb : Below w.heap.size w w') : Rdr w' b l p V := (hb.block b h.lt).trans h
theorem Rdr.set0 {w : World} {b : Nat} {l m : List UInt8} {p : Nat} {V : Value} (h : Rdr w b l p V) : Rdr (w.setCell ⟨b, 0, none⟩ (.string (str m))) b m p V := by
  unfold Rdr at *
  simp [World.setCell, Array.getElem?_modify, h]
theorem Rdr.set1 {w : World} {b : Nat} {l : List UInt8} {p q : Nat} {V : Value} (h : Rdr w b l p V) : Rdr (w.setCell ⟨b, 1, none⟩ (.int .i64 q)) b l q V := by
  unfold Rdr at *
  simp [World.setCell, Array.getElem?_modify, h]
theorem Rdr.set2 {w : World} {b : Nat} {l : List UInt8} {p : Nat} {V U : Value} (h : Rdr w b l p V) : Rdr (w.setCell ⟨b, 2, none⟩ U) b l p U := by
  unfold Rdr at *
  simp [World.setCell, Array.getElem?_modify, h]
/-- Everything but block b stands. -/
abbrev But (b : Nat) (w w' : World) : Prop := w.grownBy w' (some b)
theorem But.of {b : Nat} {w w' : World} (h : Below w.heap.size w w') : But b w w' := ⟨h.os, h.tape, h.output, h.size, fun k hk _ => h.block k hk⟩
theorem But.trans {b : Nat} {w w1 w2 : World} (h : But b w w1) (k : But b w1 w2) : But b w w2 :=
  ⟨k.os.trans h.os, k.tape.trans h.tape, k.output.trans h.output, Nat.le_trans h.size k.size, fun i hi hne => (k.block i (Nat.lt_of_lt_of_le hi h.size) hne).trans (h.block i hi hne)⟩
theorem But.setCell {b : Nat} {w : World} (j : Nat) (u : Value) : But b w (w.setCell ⟨b, j, none⟩ u) := by
  have h := (Below.refl b w).setCell (p := ⟨b, j, none⟩) (Nat.le_refl _) u
  refine ⟨h.os, h.tape, h.output, h.size, fun k hk hne => ?_⟩
  have hkb : k ≠ b := fun e => hne (by rw [e])
  simp [World.setCell, Array.getElem?_modify, Ne.symm hkb]

theorem But.drew {b : Nat} {w w' : World} (h : But b w w') : But b w w'.drew := ⟨h.os, h.tape, h.output, h.size, h.block⟩
theorem passed {w : World} {b : Nat} {l m : List UInt8} {p n : Nat} {V : Value} (h : Rdr w b l p V) :
    Rdr ((w.setCell ⟨b, 0, none⟩ (.string (str m))).setCell ⟨b, 1, none⟩ (.int .i64 ((p : Int) + (n : Int)))).drew b m (p + n) V ∧ But b w ((w.setCell ⟨b, 0, none⟩ (.string (str m))).setCell ⟨b, 1, none⟩ (.int .i64 ((p : Int) + (n : Int)))).drew := by
  have h1 := (h.set0 (m := m)).set1 (q := p + n)
  have e : ((p + n : Nat) : Int) = (p : Int) + (n : Int) := by omega
  rw [e] at h1
  exact ⟨h1, ((But.setCell 0 _).trans (But.setCell 1 _)).drew⟩

theorem ix_of (c : UInt8) (s : List UInt8) : decide (0 ≤ Lib.indexByte s c) = s.contains c := (Lib.contains_iff_indexByte s c).symm
/-- whether a text begins with one of some bytes -/
def inS (s l : List UInt8) : Bool := match l with | [] => false | c :: _ => s.contains c

theorem begins_any (b : Nat) (l s : List UInt8) (p : Nat) (V : Value) (w : World) (h : Rdr w b l p V) :
    Calls Tryz.prog 51 #[.pointer (some ⟨b, 0, none⟩), .string (str s)] w fun e w' => e = .returned (.bool (inS s l)) ∧ w = w' := by
  have c0 := h.left
  cases l with
  | nil =>
    have hs0 : (str []).toList = [] := by rw [ByteArray.toList_eq]; rfl
    have hs1 : (str []).toList.isEmpty = true := by rw [hs0]; rfl
    go_enter Tryz.func51, Tryz.ntmps51
    go_wp2
    go_ret
    exact ⟨rfl, rfl⟩
  | cons c r =>
    have hs0 : ¬ (str (c :: r)).toList = [] := by rw [ByteArray.toList_eq]; show ¬ c :: r = []; simp
    have hs1 : (str (c :: r)).toList.isEmpty = false := by simpa using hs0
    have hsz : 0 < (str (c :: r)).size := by rw [str_size]; simp
    have hidx : (str (c :: r))[0]'hsz = c := rfl
    have hix := ix_of c s
    have e : inS s (c :: r) = s.contains c := rfl
    rw [e]
    generalize s.contains c = q at hix ⊢
    generalize str (c :: r) = t at hs0 hs1 hsz hidx c0
    clear h e
    go_enter Tryz.func51, Tryz.ntmps51
    go_wp2_with (go_at_call 65; refine (Any.strings_IndexByte Tryz.lays137 _ _ _).mono ?_; rintro e w' ⟨rfl, rfl⟩)
    all_goals go_ret
    exact ⟨congrArg (fun q => Ending.returned (.bool q)) hix, rfl⟩

set_option maxHeartbeats 2000000 in
set_option maxRecDepth 100000 in
theorem pass_any (b : Nat) (l : List UInt8) (n p : Nat) (V : Value) (w : World) (h : Rdr w b l p V) (hn : n ≤ l.length) (hp : l.length + p ≤ 1000000) :
    Calls Tryz.prog 72 #[.pointer (some ⟨b, 0, none⟩), .int .i64 n] w fun e w' => e = .returned (.string (str (l.take n))) ∧ Rdr w' b (l.drop n) (p + n) V ∧ But b w w' := by
  have c0 := h.left
  have c1 := h.place
  have hsz : (str l).size = l.length := str_size l
  have k0 := Qt.cell_in c0
  have k1 := Qt.cell_in c1
  go_enter Tryz.func72, Tryz.ntmps72
  go_wp2
  refine Qt.region_tree (.pure 0 <| .pure 1 <| .pure 2 <| .pure 3 <| .pure 4 <| .pure 6 <| .pure 8 <| .pure 9 <| .pure 10 <| .pure 12 <| .two 5 11 (.pure 7 <| .only 11 <| .pure 13 <| .only 14 <| .only 15 <| .only 16 <| .only 17 <| .only 18 <| .only 19 .done) (.pure 13 <| .only 5 <| .pure 7 <| .only 14 <| .only 15 <| .only 16 <| .only 17 <| .only 18 <| .only 19 .done)) (by kernel_rfl) (by kernel_rfl) (by kernel_rfl) (by rfl) ?_
  refine ⟨_, some 12, .pointer (some ⟨b, 0, none⟩), rfl, rfl, ⟨rfl, fun _ => by first | rfl | (simp only [execOp]; go_simp)⟩, ?_⟩
  simp only [Act.put, List.setIfInBounds_toArray, List.set_cons_succ, List.set_cons_zero]
  refine ⟨_, some 13, .pointer (some ⟨b, 0, none⟩), rfl, rfl, ⟨rfl, fun _ => by first | rfl | (simp only [execOp]; go_simp)⟩, ?_⟩
  simp only [Act.put, List.setIfInBounds_toArray, List.set_cons_succ, List.set_cons_zero]
  refine ⟨_, some 14, .pointer (some ⟨b, 0, none⟩), rfl, rfl, ⟨rfl, fun _ => by first | rfl | (simp only [execOp]; go_simp)⟩, ?_⟩
  simp only [Act.put, List.setIfInBounds_toArray, List.set_cons_succ, List.set_cons_zero]
  refine ⟨_, some 15, .pointer (some ⟨b, 0, none⟩), rfl, rfl, ⟨rfl, fun _ => by first | rfl | (simp only [execOp]; go_simp)⟩, ?_⟩
  simp only [Act.put, List.setIfInBounds_toArray, List.set_cons_succ, List.set_cons_zero]
  refine ⟨_, some 16, .pointer (some ⟨b, 0, none⟩), rfl, rfl, ⟨rfl, fun _ => by first | rfl | (simp only [execOp]; go_simp)⟩, ?_⟩
  simp only [Act.put, List.setIfInBounds_toArray, List.set_cons_succ, List.set_cons_zero]
  refine ⟨_, some 18, .int .i64 n, rfl, rfl, ⟨rfl, fun _ => by first | rfl | (simp only [execOp]; go_simp)⟩, ?_⟩
  simp only [Act.put, List.setIfInBounds_toArray, List.set_cons_succ, List.set_cons_zero]
  refine ⟨_, some 20, .pointer (some ⟨b, 0, none⟩), rfl, rfl, ⟨rfl, fun _ => by first | rfl | (simp only [execOp]; go_simp)⟩, ?_⟩
  simp only [Act.put, List.setIfInBounds_toArray, List.set_cons_succ, List.set_cons_zero]
  refine ⟨_, some 21, .pointer (some ⟨b, 0, none⟩), rfl, rfl, ⟨rfl, fun _ => by first | rfl | (simp only [execOp]; go_simp)⟩, ?_⟩
  simp only [Act.put, List.setIfInBounds_toArray, List.set_cons_succ, List.set_cons_zero]
  refine ⟨_, some 22, .pointer (some ⟨b, 1, none⟩), rfl, rfl, ⟨rfl, fun _ => by first | rfl | (simp only [execOp]; go_simp)⟩, ?_⟩
  simp only [Act.put, List.setIfInBounds_toArray, List.set_cons_succ, List.set_cons_zero]
  refine ⟨_, some 24, .int .i64 n, rfl, rfl, ⟨rfl, fun _ => by first | rfl | (simp only [execOp]; go_simp)⟩, ?_⟩
  simp only [Act.put, List.setIfInBounds_toArray, List.set_cons_succ, List.set_cons_zero]
  have f0 : w.frozen? ⟨b, 0, none⟩ = false := h.free 0
  have f1 : w.frozen? ⟨b, 1, none⟩ = false := h.free 1
  have HP := Lib.hid (passed (m := l.drop n) (n := n) h)
  have HT := Lib.hid (str_take l n)
  constructor
  · refine ⟨_, rfl, ?_⟩
    go_wp2_with fail
    refine ⟨rfl, ?_⟩
    refine ⟨_, some 19, .string (str (l.drop n)), rfl, rfl, ⟨rfl, by rw [← str_drop l n, ← hsz]; exact exec_str_from (x := .tmp 17) (y := .tmp 18) rfl rfl rfl (by omega) (by omega)⟩, ?_⟩
    simp only [Act.put, List.setIfInBounds_toArray, List.set_cons_succ, List.set_cons_zero]
    refine ⟨_, rfl, ?_⟩
    go_wp2_with fail
    refine ⟨rfl, ?_⟩
    refine ⟨_, some 25, .int .i64 ((p + n : Nat) : Int), rfl, rfl, ⟨rfl, exec_addi (x := .tmp 23) (y := .tmp 24) rfl rfl rfl (by omega)⟩, ?_⟩
    simp only [Act.put, List.setIfInBounds_toArray, List.set_cons_succ, List.set_cons_zero]
    refine ⟨_, rfl, ?_⟩
    go_wp2_with fail
    refine ⟨rfl, ?_⟩
    refine ⟨_, rfl, ?_⟩
    go_wp2_with fail
    refine ⟨rfl, ?_⟩
    refine ⟨_, rfl, ?_⟩
    go_wp2_with fail
    refine ⟨rfl, ?_⟩
    refine ⟨_, rfl, ?_⟩
    go_wp2_with fail
    refine ⟨rfl, ?_⟩
    refine ⟨_, rfl, ?_⟩
    go_wp2_with fail
    refine ⟨rfl, ?_⟩
    refine ⟨_, rfl, ?_⟩
    go_wp2_with fail
    refine ⟨rfl, ?_⟩
    simp only [Qt.treeW]
    go_wp2
    go_ret
    exact ⟨by rw [HT.out]; rfl, HP.out.1, HP.out.2⟩
  · refine ⟨_, rfl, ?_⟩
    go_wp2_with fail
    refine ⟨rfl, ?_⟩
    refine ⟨_, some 25, .int .i64 ((p + n : Nat) : Int), rfl, rfl, ⟨rfl, exec_addi (x := .tmp 23) (y := .tmp 24) rfl rfl rfl (by omega)⟩, ?_⟩
    simp only [Act.put, List.setIfInBounds_toArray, List.set_cons_succ, List.set_cons_zero]
    refine ⟨_, rfl, ?_⟩
    go_wp2_with fail
    refine ⟨rfl, ?_⟩
    refine ⟨_, some 19, .string (str (l.drop n)), rfl, rfl, ⟨rfl, by rw [← str_drop l n, ← hsz]; exact exec_str_from (x := .tmp 17) (y := .tmp 18) rfl rfl rfl (by omega) (by omega)⟩, ?_⟩
    simp only [Act.put, List.setIfInBounds_toArray, List.set_cons_succ, List.set_cons_zero]
    refine ⟨_, rfl, ?_⟩
    go_wp2_with fail
    refine ⟨rfl, ?_⟩
    refine ⟨_, rfl, ?_⟩
    go_wp2_with fail
    refine ⟨rfl, ?_⟩
    refine ⟨_, rfl, ?_⟩
    go_wp2_with fail
    refine ⟨rfl, ?_⟩
    refine ⟨_, rfl, ?_⟩
    go_wp2_with fail
    refine ⟨rfl, ?_⟩
    refine ⟨_, rfl, ?_⟩
    go_wp2_with fail
    refine ⟨rfl, ?_⟩
    refine ⟨_, rfl, ?_⟩
    go_wp2_with fail
    refine ⟨rfl, ?_⟩
    simp only [Qt.treeW]
    go_wp2
    go_ret
    exact ⟨by rw [HT.out]; rfl, HP.out.1, HP.out.2⟩

theorem mem_blank (c : UInt8) : [32, 9, 10, 13].contains c = blankB c := by unfold blankB; simp only [List.contains_cons, List.contains_nil, Bool.or_false, Bool.or_assoc]
theorem mem_dig (c : UInt8) : [48, 49, 50, 51, 52, 53, 54, 55, 56, 57].contains c = digB c := by
  rw [Bool.eq_iff_iff, digB_iff]
  simp only [List.contains_cons, List.contains_nil, Bool.or_eq_true, beq_iff_eq, ← UInt8.toNat_inj, Bool.or_false]
  have e : ∀ k : Nat, k < 256 → (UInt8.ofNat k).toNat = k := fun k h => by simp; omega
  constructor
  · intro h
    have : c.toNat = 48 ∨ c.toNat = 49 ∨ c.toNat = 50 ∨ c.toNat = 51 ∨ c.toNat = 52 ∨ c.toNat = 53 ∨ c.toNat = 54 ∨ c.toNat = 55 ∨ c.toNat = 56 ∨ c.toNat = 57 := h
    omega
  · intro h
    show c.toNat = 48 ∨ c.toNat = 49 ∨ c.toNat = 50 ∨ c.toNat = 51 ∨ c.toNat = 52 ∨ c.toNat = 53 ∨ c.toNat = 54 ∨ c.toNat = 55 ∨ c.toNat = 56 ∨ c.toNat = 57
    omega

theorem set_info : (Tryz.prog.info? (Tryz.lays161_ren.t 116)).map (fun i => (i.zero, i.size)) = some (some (.agg (Array.replicate 256 (.bool false))), 256) := by kernel_rfl
theorem trim_any (l cs : List UInt8) (w : World) (hcs : cs.length < 4294967281) (ha : cs.all (fun b => decide (b.toNat < 128)) = true) :
    Calls Tryz.prog 73 #[.string (str l), .string (str cs)] w fun e w' => e = .returned (.string (str (l.dropWhile fun c => cs.contains c))) ∧ Below w.heap.size w w' :=
  Any.strings_TrimLeft_laid Tryz.lays161 set_info (str l) (str cs) w (by rw [str_size]; exact hcs) (ascii_of_all ha)
theorem drop_taken (f : UInt8 → Bool) (l : List UInt8) : l.drop (l.takeWhile f).length = l.dropWhile f ∧ l.take (l.takeWhile f).length = l.takeWhile f ∧ (l.takeWhile f).length + (l.dropWhile f).length = l.length := by
  have h := List.takeWhile_append_dropWhile (p := f) (l := l)
  generalize l.takeWhile f = a at *
  generalize l.dropWhile f = b at *
  subst h
  simp

set_option maxHeartbeats 1000000 in
set_option maxRecDepth 100000 in
theorem passAll_any (b : Nat) (l cs : List UInt8) (f : UInt8 → Bool) (p : Nat) (V : Value) (w : World) (h : Rdr w b l p V) (hp : l.length + p ≤ 1000000) (hcs : cs.length < 4294967281) (ha : cs.all (fun b => decide (b.toNat < 128)) = true) (hf : ∀ c, cs.contains c = f c) :
    Calls Tryz.prog 50 #[.pointer (some ⟨b, 0, none⟩), .string (str cs)] w fun e w' => e = .returned (.string (str (l.takeWhile f))) ∧ Rdr w' b (l.dropWhile f) (p + (l.takeWhile f).length) V ∧ But b w w' := by
  have ht := fun W => trim_any l cs W hcs ha
  rw [funext hf] at ht
  obtain ⟨hd, htk, hlen⟩ := drop_taken f l
  obtain ⟨n, hn⟩ : ∃ n, n = (l.takeWhile f).length := ⟨_, rfl⟩
  rw [← hn] at hd htk hlen ⊢
  rw [← htk]
  rw [← hd] at ht hlen ⊢
  have hdl : (str (l.drop n)).size = l.length - n := by rw [str_size, List.length_drop]
  have hsz : (str l).size = l.length := str_size l
  have hnl : n ≤ l.length := by omega
  have hsub : ((l.length : Nat) : Int) - ((l.length - n : Nat) : Int) = (n : Int) := by omega
  have c0 := h.left
  have k0 := Qt.cell_in c0
  clear hd htk hn hf hlen
  go_enter Tryz.func50, Tryz.ntmps50
  go_wp2
  refine Qt.region_call 14 (by kernel_rfl) (by kernel_rfl) rfl rfl Tryz.func72 (by kernel_rfl) (by kernel_rfl) rfl ?_
  simp only [List.take_succ_cons, List.take_zero, List.drop_succ_cons, List.drop_zero]
  repeat (go_big_quiet_step (first | (go_at_call 73; exact Qt.at_call ht)))
  refine wpQuiet_nil ?_
  intro w3 hb3
  have hp3 := pass_any b l n p V w3 (h.below hb3) hnl hp
  simp only [List.map_toArray, List.map_cons, List.map_nil]
  show Calls Tryz.prog _ #[.pointer (some ⟨b, 0, none⟩), .int .i64 n] w3 _
  refine hp3.mono ?_
  rintro e w4 ⟨rfl, hR4, hB4⟩
  refine ⟨_, rfl, ?_⟩
  clear k0 c0 hp3
  simp only [Act.put, List.setIfInBounds_toArray, List.set_cons_succ, List.set_cons_zero]
  repeat (go_big_quiet_step (fail))
  refine wpQuiet_nil ?_
  intro w5 hb5
  go_wp2
  go_ret
  exact ⟨rfl, hR4.below hb5, ((But.of hb3).trans hB4).trans (But.of hb5)⟩
end Go.Proofs.YtacpncmdgkljdaaGreatDoor
namespace Go.Proofs.YtacpncmdgkljdaaGreatDoor
set_option linter.unusedVariables false
set_option linter.unusedSimpArgs false
open Go.RowKit Go.Sort

/-- what digits ask for: none, one; too many, the error -/
def timesL (d : List UInt8) : Int × Int := if d = [] then (1, 0) else if 1099511627776 < val d then (0, 2) else (val d, 0)

theorem bad_no {d : List UInt8} (h0 : d ≠ []) (hd : ∀ c ∈ d, digB c = true) (hz : d.headD 0 ≠ 48) : badL d = false := by
  refine (badL_iff d).2 ⟨h0, ?_, hd⟩
  unfold zeroB
  cases d with
  | nil => rfl
  | cons c r =>
    simp only [List.headD_cons] at hz
    simp [hz]

set_option maxHeartbeats 1000000 in
theorem times_any (d : List UInt8) (w : World) (hl : d.length ≤ 1000000) (hd : ∀ c ∈ d, digB c = true) (hz : d.headD 0 ≠ 48) :
    Calls Tryz.prog 74 #[.string (str d)] w fun e w' => e = .returned (.tuple #[.int .i64 (timesL d).1, .int .i64 (timesL d).2]) ∧ Below w.heap.size w w' := by
  by_cases h0 : d = []
  · subst h0
    have hs0 : (str []).toList = [] := by rw [ByteArray.toList_eq]; rfl
    have hs1 : (str []).toList.isEmpty = true := by rw [hs0]; rfl
    have e : timesL [] = (1, 0) := rfl
    rw [e]
    generalize str [] = s at hs0 hs1 ⊢
    go_enter Tryz.func74, Tryz.ntmps74
    go_wp2
    all_goals go_ret2
    all_goals exact ⟨rfl, Below.refl _ _⟩
  · have hs0 : ¬ (str d).toList = [] := str_ne h0
    have hs1 : (str d).toList.isEmpty = false := by simpa using hs0
    have hb := bad_no h0 hd hz
    have hpa := fun W => parse_any (str d) W (by unfold maxLen; rw [str_size]; omega)
    rw [str_data] at hpa
    have ht : timesL d = if 1099511627776 < val d then (0, 2) else ((val d : Int), 0) := by unfold timesL; rw [if_neg h0]
    rw [ht]
    clear ht
    by_cases h62 : 4611686018427387903 < val d
    · have e : parseL d = (0, 21) := parse_big hb h62
      rw [e] at hpa
      rw [if_pos (by omega)]
      generalize str d = s at hs0 hs1 hpa ⊢
      go_enter Tryz.func74, Tryz.ntmps74
      go_wp2_with fail
      refine (hpa _).mono ?_
      rintro e w' ⟨rfl, hb⟩
      go_wp2
      go_ret2
      exact ⟨rfl, hb⟩
    · have e : parseL d = ((val d : Int), 0) := parse_ok hb h62
      rw [e] at hpa
      obtain ⟨v, hv⟩ : ∃ v, v = val d := ⟨_, rfl⟩
      rw [← hv] at hpa h62 ⊢
      clear e hb hv
      generalize str d = s at hs0 hs1 hpa ⊢
      by_cases h40 : 1099511627776 < v
      · rw [if_pos h40]
        have hz : (1099511627776 : Int) < (v : Int) := by omega
        go_enter Tryz.func74, Tryz.ntmps74
        go_wp2_with fail
        refine (hpa _).mono ?_
        rintro e w' ⟨rfl, hb⟩
        go_wp2
        go_ret2
        exact ⟨rfl, hb⟩
      · rw [if_neg h40]
        have hz : ¬ (1099511627776 : Int) < (v : Int) := by omega
        go_enter Tryz.func74, Tryz.ntmps74
        go_wp2_with fail
        refine (hpa _).mono ?_
        rintro e w' ⟨rfl, hb⟩
        go_wp2
        go_ret2
        exact ⟨rfl, hb⟩

/-! ### the parts of one item -/
theorem digs_len (l : List UInt8) : (l.takeWhile digB).length = digs l := rfl
theorem take_dig (l : List UInt8) : ∀ c ∈ l.takeWhile digB, digB c = true := fun c hc => List.all_eq_true.1 List.all_takeWhile c hc
theorem tag_mem (c : UInt8) : [98, 111, 36].contains c = tagB c := by unfold tagB; simp only [List.contains_cons, List.contains_nil, Bool.or_false, Bool.or_assoc]
theorem head_zero (l : List UInt8) : Lib.hasPrefix (l.takeWhile digB) [48] = decide (l.headD 0 = 48) := by
  unfold Lib.hasPrefix
  cases l with
  | nil => rfl
  | cons c r =>
    by_cases h : digB c = true
    · rw [List.takeWhile_cons, if_pos h]
      simp [List.isPrefixOf, eq_comm, Bool.beq_eq_decide_eq]
    · rw [List.takeWhile_cons, if_neg h]
      have : ¬ c = 48 := fun e => h (by rw [e]; decide)
      simp [List.isPrefixOf, this]
theorem one_bad {l : List UInt8} (h : inS [98, 111, 36] (l.dropWhile digB) = false) : oneL l = (30, 0, 0, 0) := by
  unfold oneL
  rw [drop_digs]
  cases hq : l.dropWhile digB with
  | nil => rfl
  | cons t q =>
    rw [hq] at h
    have ht : tagB t = false := by rw [← tag_mem]; exact h
    simp only
    rw [if_pos (.inl ht)]
theorem one_zero {l : List UInt8} (h : l.headD 0 = 48) : oneL l = (30, 0, 0, 0) := by
  unfold oneL
  cases hq : l.drop (digs l) with
  | nil => rfl
  | cons t q =>
    simp only
    rw [if_pos (.inr h)]
theorem one_ok {l q : List UInt8} {t : UInt8} (hq : l.dropWhile digB = t :: q) (ht : tagB t = true) (hz : l.headD 0 ≠ 48) :
    oneL l = if (timesL (l.takeWhile digB)).2 = 0 then (0, t, (timesL (l.takeWhile digB)).1.toNat, (l.takeWhile digB).length + 1) else (2, 0, 0, 0) := by
  unfold oneL
  rw [drop_digs, hq]
  simp only
  rw [if_neg (fun h => by rcases h with h | h; (rw [ht] at h; cases h); exact hz h), take_digs]
  unfold timesL digs
  by_cases h0 : l.takeWhile digB = []
  · rw [h0]
    simp
  · have : ¬ (l.takeWhile digB).length = 0 := fun e => h0 (List.eq_nil_of_length_eq_zero e)
    rw [if_neg this, if_neg h0]
    by_cases hv : 1099511627776 < val (l.takeWhile digB)
    · simp [hv]
    · simp [hv]
theorem times_bd (d : List UInt8) : (timesL d).2 = 0 → 0 ≤ (timesL d).1 ∧ (timesL d).1 ≤ 1099511627776 := by
  unfold timesL
  split
  · intro _; simp
  · split
    · intro h; exact absurd h (by decide)
    · intro _; simp only; omega
theorem times_err (d : List UInt8) : (timesL d).2 = 0 ∨ (timesL d).2 = 2 := by
  unfold timesL
  split
  · exact .inl rfl
  · split
    · exact .inr rfl
    · exact .inl rfl
theorem but_below {B b : Nat} {w w' : World} (h : But b w w') (hb : B ≤ b) (hw : B ≤ w.heap.size) : Below B w w' :=
  ⟨h.os, h.tape, h.output, h.size, fun k hk => h.block k (by omega) (fun e => by injection e with e; omega)⟩
theorem drop_one (l : List UInt8) {t : UInt8} {q : List UInt8} (hq : l.dropWhile digB = t :: q) : q = l.drop ((l.takeWhile digB).length + 1) := by
  rw [← List.drop_drop, digs_len, drop_digs, hq]
  rfl


/-- what item comes to -/
def ItemR (B b : Nat) (l : List UInt8) (p : Nat) (acc : List Itm) (w : World) (e : Ending) (w' : World) : Prop :=
  e = .returned (.tuple #[.int .i64 (oneL l).1, .int .i64 p]) ∧ Below B w w' ∧
    ((oneL l).1 = 0 → ∃ V, Rdr w' b (l.drop (oneL l).2.2.2) (p + (oneL l).2.2.2) V ∧ OwnE w' B V ((acc ++ [((oneL l).2.1, (oneL l).2.2.1, p)]).map up))

theorem own_ne {w : World} {B b : Nat} {V U : Value} {out : List Ite} {l : List UInt8} {p : Nat} (hR : Rdr w b l p U) (hO : OwnE w B V out) : V.ownBlock = none ∨ V.ownBlock ≠ some b := by
  cases hb : V.ownBlock with
  | none => exact .inl rfl
  | some g =>
    refine .inr fun e => ?_
    rcases hO.2 with ⟨rfl, _⟩ | ⟨g', cap, cur, rfl, _, hg, _⟩
    · cases hb
    · have hgb : g' = b := by
        simp only [Value.ownBlock, Option.some.injEq] at hb
        simp only [Option.some.injEq] at e
        omega
      subst hgb
      have := hg.symm.trans hR
      simp only [Option.some.injEq, Obj.cells.injEq] at this
      exact absurd this.2.1 (by decide)

set_option maxHeartbeats 4000000 in
set_option maxRecDepth 100000 in
theorem item_any (B b : Nat) (l : List UInt8) (p : Nat) (V : Value) (acc : List Itm) (w : World) (hR : Rdr w b l p V) (hO : OwnE w B V (acc.map up)) (hBb : B ≤ b) (hBw : B ≤ w.heap.size) (hp : l.length + p ≤ 20000) (ha : acc.length ≤ 20000) :
    Calls Tryz.prog 52 #[.pointer (some ⟨b, 0, none⟩)] w (ItemR B b l p acc w) := by
  have hpa := passAll_any b l [48, 49, 50, 51, 52, 53, 54, 55, 56, 57] digB p V w hR (by omega) (by decide) (by decide) mem_dig
  have c1 := hR.place
  have hlen := (drop_taken digB l).2.2
  have hdg := take_dig l
  generalize hr : oneL l = r at *
  unfold ItemR
  rw [hr]
  obtain ⟨r1, r2, r3, r4⟩ := r
  simp only
  have HR := Lib.hid hr
  have HO := Lib.hid hO
  clear hr hO
  by_cases hb : inS [98, 111, 36] (l.dropWhile digB) = false
  · have he := HR.out.symm.trans (one_bad hb)
    simp only [Prod.mk.injEq] at he
    obtain ⟨rfl, rfl, rfl, rfl⟩ := he
    have HB := Lib.hid hb
    clear hb HR
    go_enter Tryz.func52, Tryz.ntmps52
    go_wp2_with fail
    refine hpa.mono ?_
    rintro e w1 ⟨rfl, hR1, hB1⟩
    have hbel : Below B w w1 := but_below hB1 hBb hBw
    have hbg := begins_any b _ [98, 111, 36] _ V w1 hR1
    rw [HB.out] at hbg
    generalize str (l.takeWhile digB) = d at *
    go_wp2_with fail
    refine hbg.mono ?_
    rintro e w2 ⟨rfl, rfl⟩
    go_wp2
    go_ret2
    exact ⟨rfl, hbel, fun h => by cases h⟩
  · obtain ⟨t, q, hq, ht⟩ : ∃ t q, l.dropWhile digB = t :: q ∧ tagB t = true := by
      cases hq : l.dropWhile digB with
      | nil => rw [hq] at hb; exact absurd rfl hb
      | cons t q =>
        rw [hq] at hb
        refine ⟨t, q, rfl, ?_⟩
        rw [← tag_mem]
        exact (Bool.not_eq_false _).mp hb
    have hB1 : inS [98, 111, 36] (t :: q) = true := by show [98, 111, 36].contains t = true; rw [tag_mem]; exact ht
    have hpf := head_zero l
    rw [hq] at hpa hlen
    have HB1 := Lib.hid hB1
    have hql : (t :: q).length = q.length + 1 := rfl
    clear hb hB1
    by_cases hz : l.headD 0 = 48
    · have he := HR.out.symm.trans (one_zero hz)
      simp only [Prod.mk.injEq] at he
      obtain ⟨rfl, rfl, rfl, rfl⟩ := he
      rw [decide_eq_true hz] at hpf
      clear HR
      generalize l.takeWhile digB = d at *
      go_enter Tryz.func52, Tryz.ntmps52
      go_wp2_with fail
      refine hpa.mono ?_
      rintro e w1 ⟨rfl, hR1, hB1⟩
      have hbel : Below B w w1 := but_below hB1 hBb hBw
      have hbg := begins_any b _ [98, 111, 36] _ V w1 hR1
      rw [HB1.out] at hbg
      go_wp2_with fail
      refine hbg.mono ?_
      rintro e w2 ⟨rfl, rfl⟩
      have hhp := Any.strings_HasPrefix Tryz.lays99 (str d) (str [48]) w1
      rw [str_data, str_data, hpf] at hhp
      go_wp2_with fail
      refine hhp.mono ?_
      rintro e w2 ⟨rfl, rfl⟩
      go_wp2
      go_ret2
      exact ⟨rfl, hbel, fun h => by cases h⟩
    · have he := HR.out.symm.trans (one_ok hq ht hz)
      rw [decide_eq_false hz] at hpf
      have hdr := drop_one l hq
      have hdh : (l.takeWhile digB).headD 0 ≠ 48 := by
        intro e
        have h1 := head_zero l
        rw [decide_eq_false hz] at h1
        cases hd : l.takeWhile digB with
        | nil => rw [hd] at e; simp at e
        | cons c r =>
          rw [hd] at e h1
          simp only [List.headD_cons] at e
          subst e
          simp [Lib.hasPrefix, List.isPrefixOf] at h1
      have hti := fun W => times_any (l.takeWhile digB) W (by omega) hdg hdh
      have htb := times_bd (l.takeWhile digB)
      have hte := times_err (l.takeWhile digB)
      clear HR hdg hdh hz
      generalize l.takeWhile digB = d at *
      generalize timesL d = tn at *
      obtain ⟨n, x⟩ := tn
      simp only at he hti htb hte
      rcases hte with rfl | rfl
      · rw [if_pos rfl] at he
        simp only [Prod.mk.injEq] at he
        obtain ⟨rfl, h2, rfl, rfl⟩ := he
        have h2' := h2.symm
        subst h2'
        have htb' := htb rfl
        obtain ⟨m, rfl⟩ : ∃ m : Nat, n = m := ⟨n.toNat, by omega⟩
        rw [Int.toNat_natCast]
        clear htb
        go_enter Tryz.func52, Tryz.ntmps52
        go_wp2_with fail
        refine hpa.mono ?_
        rintro e w1 ⟨rfl, hR1, hB1⟩
        have hbel : Below B w w1 := but_below hB1 hBb hBw
        have hO1 : OwnE w1 B V (acc.map up) := World.ownsRow.kept HO.out hB1 (own_ne hR HO.out)
        have hbg := begins_any b _ [98, 111, 36] _ V w1 hR1
        rw [HB1.out] at hbg
        go_wp2_with fail
        refine hbg.mono ?_
        rintro e w2 ⟨rfl, rfl⟩
        have hhp := Any.strings_HasPrefix Tryz.lays99 (str d) (str [48]) w1
        rw [str_data, str_data, hpf] at hhp
        go_wp2_with fail
        refine hhp.mono ?_
        rintro e w2 ⟨rfl, rfl⟩
        go_wp2_with fail
        refine (hti _).mono ?_
        rintro e w2 ⟨rfl, hb2⟩
        have hR2 := hR1.below hb2
        have hO2 : OwnE w2 B V (acc.map up) := World.ownsRow.kept hO1 (But.of hb2) (own_ne hR1 hO1)
        have hbel2 : Below B w w2 := hbel.trans (hb2.mono (Nat.le_trans hBw hbel.size))
        have hps := pass_any b (t :: q) 1 (p + d.length) V w2 hR2 (by simp) (by omega)
        have e1 : (t :: q).take 1 = [t] := by simp
        have e2 : (t :: q).drop 1 = q := rfl
        rw [e1, e2] at hps
        clear hR1 hO1 hbel hb2 hB1 hbg hhp e1 e2
        go_wp2_with fail
        refine hps.mono ?_
        rintro e w3 ⟨rfl, hR3, hB3⟩
        have hO3 : OwnE w3 B V (acc.map up) := World.ownsRow.kept hO2 hB3 (own_ne hR2 hO2)
        have hbel3 : Below B w w3 := hbel2.trans (but_below hB3 hBb (Nat.le_trans hBw hbel2.size))
        have hB3w : B ≤ w3.heap.size := Nat.le_trans hBw hbel3.size
        have hs1 : 0 < (str [t]).size := by rw [str_size]; exact Nat.one_pos
        have hi1 : (str [t])[0]'hs1 = t := rfl
        generalize str [t] = s1 at hs1 hi1
        have c2 := hR3.items
        obtain ⟨V', w4, hrun, hown, hgrow, hbel4⟩ := pushE_any (t, (m : Int), (p : Int)) hB3w hO3 (by simp; omega)
        obtain ⟨ao, n', cap, rfl⟩ : ∃ ao n' cap, V' = .slice ao n' cap := by
          rcases hown.2 with ⟨hv, _⟩ | ⟨g, cap, cur, hv, _⟩
          · exact ⟨_, _, _, hv⟩
          · exact ⟨_, _, _, hv⟩
        have hne := own_ne hR3 hO3
        have hR4 : Rdr w4 b q (p + d.length + 1) V := by
          have h1 := hgrow.block b (by have := hR3.lt; simp; omega) (fun e => by rcases hne with h | h; (rw [h] at e; cases e); exact h e.symm)
          unfold Rdr
          rw [h1, Lib.alloc_old w3 _ b hR3.lt]
          exact hR3
        have c4 := hR4.items
        have f4 := hR4.free 2
        have hR5 := hR4.set2 (U := .slice ao n' cap)
        have hO5 := World.ownsRow.kept hown (But.setCell (b := b) 2 (.slice ao n' cap)) (own_ne hR4 hown)
        have hbel5 : Below B w (w4.setCell ⟨b, 2, none⟩ (.slice ao n' cap)) := (hbel3.trans hbel4).setCell hBb _
        have HR5 := Lib.hid hR5
        have HO5 := Lib.hid hO5
        have HB5 := Lib.hid hbel5
        have HRUN := Lib.hid hrun
        clear hR5 hO5 hbel5 hrun hown hgrow hbel4 hbel3 hbel2 hR2 hO2 hB3 hps hti hne
        go_wp2_with (at_builtin; refine Lib.wpList_append_run _ rfl (.tmp 46) (.tmp 51) 47 47 rfl _ _ rfl rfl _ _ HRUN.out ?_)
        go_ret2
        refine ⟨rfl, HB5.out, fun _ => ⟨.slice ao n' cap, ?_, ?_⟩⟩
        · rw [← hdr, ← Nat.add_assoc]; exact HR5.out
        · rw [List.map_append]; exact HO5.out
      · rw [if_neg (by decide)] at he
        simp only [Prod.mk.injEq] at he
        obtain ⟨rfl, rfl, rfl, rfl⟩ := he
        go_enter Tryz.func52, Tryz.ntmps52
        go_wp2_with fail
        refine hpa.mono ?_
        rintro e w1 ⟨rfl, hR1, hB1⟩
        have hbel : Below B w w1 := but_below hB1 hBb hBw
        have hbg := begins_any b _ [98, 111, 36] _ V w1 hR1
        rw [HB1.out] at hbg
        go_wp2_with fail
        refine hbg.mono ?_
        rintro e w2 ⟨rfl, rfl⟩
        have hhp := Any.strings_HasPrefix Tryz.lays99 (str d) (str [48]) w1
        rw [str_data, str_data, hpf] at hhp
        go_wp2_with fail
        refine hhp.mono ?_
        rintro e w2 ⟨rfl, rfl⟩
        go_wp2_with fail
        refine (hti _).mono ?_
        rintro e w2 ⟨rfl, hb2⟩
        have hbel2 : Below B w w2 := hbel.trans (hb2.mono (Nat.le_trans hBw hbel.size))
        clear hbel hb2 hB1 hbg hhp hti
        go_wp2
        go_ret2
        exact ⟨rfl, hbel2, fun h => by cases h⟩
end Go.Proofs.YtacpncmdgkljdaaGreatDoor
namespace Go.Proofs.YtacpncmdgkljdaaGreatDoor
set_option linter.unusedVariables false
set_option linter.unusedSimpArgs false
open Go.RowKit Go.Sort

def LexR (r : List Itm × Int × Nat) (w : World) (e : Ending) (w' : World) : Prop :=
  ∃ v, e = .returned (.tuple #[v, .int .i64 r.2.1, .int .i64 r.2.2]) ∧ ReadsE w' v (r.1.map up) ∧ Below w.heap.size w w'
theorem lexR_none {x : Int} {p : Nat} {w w' : World} (h : Below w.heap.size w w') : LexR ([], x, p) w (.returned (.tuple #[.slice none 0 0, .int .i64 x, .int .i64 p])) w' :=
  ⟨_, rfl, ⟨none, 0, rfl, Nat.le_refl _, nowE_nil _ _⟩, h⟩

/-- how much is left -/
def leftOf (w : World) (b : Nat) : Nat := match w.cell? ⟨b, 0, none⟩ with | some (.string s) => s.size | _ => 0
theorem leftOf_of {w : World} {b : Nat} {l : List UInt8} {p : Nat} {V : Value} (h : Rdr w b l p V) : leftOf w b = l.length := by unfold leftOf; rw [h.left]; exact str_size l

/-- What is known at the head of the loop. -/
structure AtHead (w wr : World) (n : Nat) (r : List Itm × Int × Nat) (l : List UInt8) (p : Nat) (V : Value) (acc : List Itm) : Prop where
  rdr : Rdr wr w.heap.size l p V
  own : OwnE wr w.heap.size V (acc.map up)
  bel : Below w.heap.size w wr
  len : l.length + p = n
  cnt : acc.length ≤ p
  lex : lexL l p acc = r
  plain : ∀ c q, l = c :: q → blankB c = false

theorem head_of {w wr w1 : World} {n : Nat} {r : List Itm × Int × Nat} {l : List UInt8} {p : Nat} {V : Value} {acc : List Itm} (hO : OwnE wr w.heap.size V (acc.map up)) (hR : Rdr wr w.heap.size l p V) (hb : Below w.heap.size w wr) (hl : l.length + p = n) (ha : acc.length ≤ p) (he : lexL l p acc = r)
    (hR1 : Rdr w1 w.heap.size (l.dropWhile blankB) (p + (l.takeWhile blankB).length) V) (hB : But w.heap.size wr w1) : AtHead w w1 n r (l.dropWhile blankB) (p + (l.takeWhile blankB).length) V acc := by
  have h3 := (drop_taken blankB l).2.2
  refine ⟨hR1, World.ownsRow.kept hO hB (own_ne hR hO), hb.trans (but_below hB (Nat.le_refl _) hb.size), by omega, by omega, ?_, fun c q hq => head_plain hq⟩
  rw [← he]
  exact (lex_blanks l p acc).symm

theorem one_pos (l : List UInt8) : (oneL l).1 = 0 → 1 ≤ (oneL l).2.2.2 ∧ (oneL l).2.2.2 ≤ l.length := by
  unfold oneL
  split
  · intro h; exact absurd h (by decide)
  · rename_i t q hq
    have h1 := List.length_drop (i := digs l) (l := l)
    rw [hq] at h1
    simp only [List.length_cons] at h1
    split
    · intro h; exact absurd h (by decide)
    · split
      · intro _; simp only; omega
      · split
        · intro h; exact absurd h (by decide)
        · intro _; simp only; omega

set_option maxHeartbeats 4000000 in
set_option maxRecDepth 100000 in
theorem lex_any (l : List UInt8) (w : World) (hl : l.length ≤ 9223372036854775807) :
    Calls Tryz.prog 27 #[.string (str l)] w (LexR (lexA l) w) := by
  have hsz := str_size l
  by_cases hlong : 20000 < l.length
  · have e : lexA l = ([], 3, 0) := by unfold lexA; rw [if_pos hlong]
    rw [e]
    have hz : (20000 : Int) < ((str l).size : Int) := by omega
    clear e
    generalize str l = s at hz hsz
    go_enter Tryz.func27, Tryz.ntmps27
    go_wp2
    go_ret3
    exact lexR_none (Below.refl _ _)
  · rw [lexA_short (by omega)]
    generalize hr : lexL l 0 [] = r
    have HR := Lib.hid hr
    clear hr
    have hz : ¬ (20000 : Int) < ((str l).size : Int) := by omega
    have hR0 : Rdr (w.alloc (.cells #[.string (str l), .int .i64 0, .slice none 0 0] 86)) w.heap.size l 0 (.slice none 0 0) := heap_alloc_new w _
    have hO0 : OwnE (w.alloc (.cells #[.string (str l), .int .i64 0, .slice none 0 0] 86)) w.heap.size (.slice none 0 0) (([] : List Itm).map up) := World.ownsRow_nil _ _ _ _
    have hb0 : Below w.heap.size w (w.alloc (.cells #[.string (str l), .int .i64 0, .slice none 0 0] 86)) := (Below.refl _ _).alloc (Nat.le_refl _) _
    have hpa := passAll_any w.heap.size l [32, 9, 10, 13] blankB 0 _ _ hR0 (by omega) (by decide) (by decide) mem_blank
    go_enter Tryz.func27, Tryz.ntmps27
    go_wp2_with fail
    refine hpa.mono ?_
    rintro e w1 ⟨rfl, hR1, hB1⟩
    have H1 := Lib.hid (head_of (n := l.length) hO0 hR0 hb0 rfl (Nat.le_refl _) HR.out hR1 hB1)
    clear hR0 hO0 hb0 hpa hR1 hB1 HR
    generalize str l = s at *
    go_wp2
    go_loopw [] (fun wr => ∃ l' p V acc, Hid (AtHead w wr l.length r l' p V acc)) (fun wr => leftOf wr w.heap.size)
    case atStart => exact ⟨_, _, _, _, H1⟩
    case round =>
      obtain ⟨l', p, V, acc, HH⟩ := hrel
      have H := HH.out
      have c0 := H.rdr.left
      have c1 := H.rdr.place
      have c2 := H.rdr.items
      have hm := leftOf_of H.rdr
      cases l' with
      | nil =>
        have he : r = ([], 31, p) := H.lex.symm
        subst he
        have hs0 : (str []).toList = [] := by rw [ByteArray.toList_eq]; rfl
        have hs1 : (str []).toList.isEmpty = true := by rw [hs0]; rfl
        have hbel := H.bel
        have k1 := Qt.cell_in c1
        clear H HH
        generalize str [] = s0 at hs0 hs1 c0
        go_wp2
        refine Qt.below_all (by kernel_rfl) (by kernel_rfl) ?_
        repeat (go_big_quiet_step (fail))
        refine wpQuiet_nil ?_
        intro w2 hb2
        clear k1
        go_wp2
        go_ret3
        exact lexR_none (hbel.trans (hb2.mono hbel.size))
      | cons c q =>
        have hs0 : ¬ (str (c :: q)).toList = [] := str_ne (by simp)
        have hs1 : (str (c :: q)).toList.isEmpty = false := by simpa using hs0
        have hpl := H.plain c q rfl
        have hbg := begins_any w.heap.size (c :: q) [33] p V wr H.rdr
        have hin : inS [33] (c :: q) = (c == 33) := by show [33].contains c = _; simp only [List.contains_cons, List.contains_nil, Bool.or_false]
        rw [hin] at hbg
        have k1 := Qt.cell_in c1
        have k2 := Qt.cell_in c2
        by_cases hc : c = 33
        · subst hc
          have he : r = (acc, 0, p) := by rw [← H.lex]; exact lex_end p acc
          subst he
          have hrd := H.own.reads
          have hbel := H.bel
          have hbg2 : Calls Tryz.prog 51 #[.pointer (some ⟨w.heap.size, 0, none⟩), .string (str [33])] wr fun e w' => e = .returned (.bool true) ∧ wr = w' := hbg
          clear H HH hbg hin
          generalize str (33 :: q) = s0 at hs0 hs1 c0
          go_wp2_with fail
          refine hbg2.mono ?_
          rintro e w1 ⟨rfl, rfl⟩
          go_wp2_with fail
          refine Qt.below_all (by kernel_rfl) (by kernel_rfl) ?_
          repeat (go_big_quiet_step (fail))
          refine wpQuiet_nil ?_
          intro w2 hb2
          clear k1 k2
          go_wp2
          go_ret3
          exact ⟨_, rfl, hrd.below hb2, hbel.trans (hb2.mono hbel.size)⟩
        · have hc2 : (c == 33) = false := by simpa using hc
          rw [hc2] at hbg
          have hit := item_any w.heap.size w.heap.size (c :: q) p V acc wr H.rdr H.own (Nat.le_refl _) H.bel.size (by have := H.len; omega) (by have := H.len; have := H.cnt; omega)
          have hone := lex_one (r := q) hpl hc p acc
          have hlex := H.lex
          have hbel := H.bel
          have hlen := H.len
          have hcnt := H.cnt
          have hpos := one_pos (c :: q)
          rw [hlex] at hone
          unfold ItemR at hit
          generalize oneL (c :: q) = o at *
          obtain ⟨o1, o2, o3, o4⟩ := o
          simp only at hit hone hpos
          clear H HH hin hlex
          by_cases ho : o1 = 0
          · subst ho
            rw [if_pos rfl] at hone
            generalize str (c :: q) = s0 at hs0 hs1 c0
            go_wp2_with fail
            refine hbg.mono ?_
            rintro e w1 ⟨rfl, rfl⟩
            go_wp2_with fail
            refine hit.mono ?_
            rintro e w2 ⟨rfl, hb2, hon⟩
            obtain ⟨V2, hR2, hO2⟩ := hon trivial
            have hpo := hpos trivial
            have hps := passAll_any w.heap.size ((c :: q).drop o4) [32, 9, 10, 13] blankB (p + o4) V2 w2 hR2 (by rw [List.length_drop]; omega) (by decide) (by decide) mem_blank
            go_wp2_with fail
            refine hps.mono ?_
            rintro e w3 ⟨rfl, hR3, hB3⟩
            have hd := List.length_drop (i := o4) (l := c :: q)
            have H3 := Lib.hid (head_of (n := l.length) hO2 hR2 (hbel.trans hb2) (by have := hpos trivial; omega) (by simp; have := hpos trivial; omega) hone.symm hR3 hB3)
            have hdw := (drop_taken blankB ((c :: q).drop o4)).2.2
            have hm3 := leftOf_of hR3
            clear hR2 hO2 hps hR3 hB3 hit hbg k1 k2
            go_wp2
            go_roundw
            case measure => have := hpos trivial; omega
            case rel => exact ⟨_, _, _, _, H3⟩
          · rw [if_neg ho] at hone
            subst hone
            generalize str (c :: q) = s0 at hs0 hs1 c0
            go_wp2_with fail
            refine hbg.mono ?_
            rintro e w1 ⟨rfl, rfl⟩
            go_wp2_with fail
            refine hit.mono ?_
            rintro e w2 ⟨rfl, hb2, _⟩
            have ho2 : (o1 == 0) = false := by simpa using ho
            have ho3 : (o1 != 0) = true := by simpa using ho
            clear hit hbg k1 k2
            go_wp2
            go_ret3
            exact lexR_none (hbel.trans hb2)
end Go.Proofs.YtacpncmdgkljdaaGreatDoor
