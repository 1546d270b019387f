/-
  Texts that the claims of this seat share, part 2.
-/
import Derived.Test.YtkneecdpkdnjfaaB01
import Derived.Laws.Rows
import Derived.Test.YtkneecdpkdnjfaaB00
import Derived.Deep.RegionWith
set_option linter.unusedVariables false
set_option linter.unusedSimpArgs false
namespace Go.Proofs.Ytkneecdpkdnjfaa.Qt
open Go Go.Sort Go.RowKit

/-- It ends as it should, nothing else. -/
def Qn (K : Act → World → Prop) : Exit → Act → World → Prop := fun x a w => x = .normal ∧ K a w

section
variable {P : Program} {ops : Array Oper} {md : Region.Mode} {C : World → Prop}

def PureV (P : Program) (ops : Array Oper) (o : Oper) (v : Value) (a : Act) : Prop :=
  Region.wanted o (yielded ops a.tmps) = true ∧ ∀ w, (execOp a.eval o).run P w = .ok (.value v) w

theorem no_letsOut {K : Act → World → Prop} (h : LetsOut (Qn K)) : False := by
  obtain ⟨a, w, h1, _⟩ := h
  cases h1

theorem upon_qn {o : Oper} {a : Act} {K K' : Act → World → Prop} {Kf : Act → World → Prop} {Q' : Exit → Act → World → Prop} (h : ∀ a w, K a w → K' a w) (r : Result Next) (hh : o.upon P a K (Qn Kf) r) : o.upon P a K' Q' r := by
  cases r with
  | ok n w' =>
    cases n <;> simp only [Oper.upon] at hh ⊢ <;>
      first
        | exact h _ _ hh
        | exact Calls.mono hh (fun e w'' he => by cases e <;> first | exact h _ _ he | exact absurd he.1 (by simp) | exact (no_letsOut he).elim)
        | exact Rows.mono hh (fun _ _ he => h _ _ he)
  | halt x w' => cases x <;> simp only [Oper.upon] at hh ⊢ <;> first | exact hh | exact absurd hh.1 (by simp)

theorem wpOp_qn {i : Nat} {a : Act} {w : World} {K K' : Act → World → Prop} {Kf : Act → World → Prop} {Q' : Exit → Act → World → Prop} (h : ∀ a w, K a w → K' a w) (hh : wpOp P ops (Qn Kf) i K a w) : wpOp P ops Q' i K' a w := by
  unfold wpOp at *
  split
  · exact h _ _ (by simpa [*] using hh)
  · rename_i o ho
    simp only [ho] at hh
    split
    · rename_i hw
      simp only [hw, if_true] at hh
      rcases hh with hh | hh
      · left; unfold Oper.wp at *; exact upon_qn h _ hh
      · exact (no_letsOut hh.2).elim
    · rename_i hw; simp only [hw] at hh; exact h _ _ hh

theorem any_qn {Kf : Act → World → Prop} {Q : Exit → Act → World → Prop} (hQ : ∀ a w, Kf a w → Q .normal a w) (f : Nat) : ∀ listed a w, wpAny P md ops (Qn Kf) f listed a w → wpAny P md ops Q f listed a w := by
  induction f with
  | zero => intro listed a w h; exact ⟨h.1, hQ _ _ h.2.2⟩
  | succ f ih => intro listed a w h; exact ⟨fun h0 => hQ _ _ (h.1 h0).2, fun i hi => wpOp_qn (fun a' w' h' => ih _ a' w' h') (h.2 i hi)⟩

theorem upon_put {o : Oper} {a : Act} {d : Option Nat} {v : Value} {K : Act → World → Prop} {Kf : Act → World → Prop} {R : Act → Prop} (hc : ∀ (a : Act) u, (a.put d v).put o.dst u = (a.put o.dst u).put d v)
    (hk : ∀ a u, R a → R (a.put o.dst u)) (hd : ∀ (a : Act) ds, R a → R { a with defers := ds }) (ha : R a) (r : Result Next) (hh : o.upon P (a.put d v) K (Qn Kf) r) :
    o.upon P a (fun a' w' => R a' ∧ K (a'.put d v) w') (Qn Kf) r := by
  cases r with
  | ok n w' =>
    cases n <;> simp only [Oper.upon] at hh ⊢ <;>
      first
        | (rw [hc] at hh; exact ⟨hk _ _ ha, hh⟩)
        | exact Calls.mono hh (fun e w'' he => by cases e <;> first | (simp only [hc] at he; exact ⟨hk _ _ ha, he⟩) | exact absurd he.1 (by simp) | exact (no_letsOut he).elim)
        | exact Rows.mono hh (fun _ _ he => by rw [hc] at he; exact ⟨hk _ _ ha, he⟩)
        | (rename_i dd
           have e : ({ a.put d v with defers := dd :: (a.put d v).defers } : Act) = ({ a with defers := dd :: a.defers } : Act).put d v := by cases d <;> rfl
           rw [e, hc] at hh
           exact ⟨hk _ _ (hd _ _ ha), hh⟩)
  | halt x w' => cases x <;> simp only [Oper.upon] at hh ⊢ <;> first | exact hh | exact absurd hh.1 (by simp)

theorem wpOp_put {j : Nat} {oi oj : Oper} {v : Value} (hj : ops[j]? = some oj) (hap : oi.apart ops oj = true) (hsi : ∀ cs b, oi.op ≠ .select cs b) (hsj : ∀ cs b, oj.op ≠ .select cs b) {K : Act → World → Prop} {Kf : Act → World → Prop} {a : Act} {w : World}
    (hp : PureV P ops oi v a) (h : wpOp P ops (Qn Kf) j K (a.put oi.dst v) w) : wpOp P ops (Qn Kf) j (fun a' w' => PureV P ops oi v a' ∧ K (a'.put oi.dst v) w') a w := by
  obtain ⟨h1, h2, h3⟩ := Oper.apart_spec hap
  have keep : ∀ (a : Act) u, PureV P ops oi v a → PureV P ops oi v (a.put oj.dst u) := fun a u hp => by
    unfold PureV at *
    rw [execOp_put oi hsi a oj.dst u h3, wanted_put oi a oj.dst u h3]
    exact hp
  unfold wpOp at *
  simp only [hj] at *
  rw [wanted_put oj a oi.dst v h1] at h
  split
  · rename_i hw
    simp only [hw, if_true] at h
    rcases h with h | h
    · left
      unfold Oper.wp at *
      rw [execOp_put oj hsj a oi.dst v h1] at h
      exact upon_put (R := PureV P ops oi v) (fun a u => Act.put_comm a v u h2) keep (fun _ _ h => h) hp _ h
    · exact (no_letsOut h.2).elim
  · rename_i hw
    simp only [hw] at h
    exact ⟨keep _ _ hp, by rw [← Act.put_comm a v undef h2]; exact h⟩

theorem PureV.op {i : Nat} {oi : Oper} {v : Value} {a : Act} (hi : ops[i]? = some oi) (hp : PureV P ops oi v a) {K : Act → World → Prop} {Q : Exit → Act → World → Prop} {w : World} (h : K (a.put oi.dst v) w) : wpOp P ops Q i K a w := by
  unfold wpOp
  simp only [hi, hp.1, if_true]
  left
  unfold Oper.wp
  rw [hp.2 w]
  exact h

/-- It may come first. -/
theorem any_first {Kf : Act → World → Prop} {i : Nat} {oi : Oper} {v : Value} (hi : ops[i]? = some oi) (hsel : ∀ (j : Nat) (o : Oper) cs b, ops[j]? = some o → o.op ≠ .select cs b) (f : Nat) :
    ∀ (listed : Array Bool) (a : Act) (w : World),
      (∀ j oj, ops[j]? = some oj → j ≠ i → listed.getD j true = false → (∀ e ∈ oj.after, Region.binds md e = true → e.on ≠ i) → oi.apart ops oj = true) →
      i ∈ Region.ready md ops listed → PureV P ops oi v a →
      wpAny P md ops (Qn Kf) f (listed.setIfInBounds i true) (a.put oi.dst v) w → wpAny P md ops (Qn Kf) (f + 1) listed a w := by
  induction f with
  | zero =>
    intro listed a w _ hr hp H
    refine ⟨fun h => (by rw [h] at hr; cases hr), fun j hj => ?_⟩
    by_cases hji : j = i
    · subst hji; exact hp.op hi H
    · have := ready_mono hj hji
      rw [H.1] at this
      cases this
  | succ f ih =>
    intro listed a w hfree hr hp H
    refine ⟨fun h => (by rw [h] at hr; cases hr), fun j hj => ?_⟩
    by_cases hji : j = i
    · subst hji; exact hp.op hi H
    · obtain ⟨hjun, oj, hoj, hall⟩ := mem_ready.1 hj
      have hun := (mem_ready.1 hr).1
      have hnot : ∀ e ∈ oj.after, Region.binds md e = true → e.on ≠ i := fun e he hb heq => by
        have h1 := hall e he hb
        rw [heq, getD_both hun] at h1
        cases h1
      refine wpOp_mono (fun a' w' h3 => ih (listed.setIfInBounds j true) a' w' (fun k ok hk hki hku hno => hfree k ok hk hki ?_ hno) (ready_mono hr (Ne.symm hji)) h3.1 ?_)
        (wpOp_put hoj (hfree j oj hoj hji hjun hnot) (fun cs b => hsel i oi cs b hi) (fun cs b => hsel j oj cs b hoj) hp (H.2 j (ready_mono hj hji)))
      · by_cases hjk : j = k
        · subst hjk; exact hjun
        · rwa [getD_set_ne true hjk] at hku
      · rw [Array.setIfInBounds_comm _ _ hji]; exact h3.2

/-! ### operations that only move come first, then the rest in the one order that is left -/

/-- The rest of the region in one order alone, by the numbers of its operations. -/
def oneOrder (md : Region.Mode) (ops : Array Oper) : List Nat → Array Bool → Bool
  | [], listed => (Region.ready md ops listed).isEmpty
  | k :: ks, listed => decide (Region.ready md ops listed = [k]) && oneOrder md ops ks (listed.setIfInBounds k true)
def firstB (md : Region.Mode) (ops : Array Oper) (rs : List Nat) : List Nat → Array Bool → Bool
  | [], listed => oneOrder md ops rs listed
  | k :: ks, listed => (Region.ready md ops listed).contains k && Region.free md ops listed k && firstB md ops rs ks (listed.setIfInBounds k true)

def pureSteps (P : Program) (ops : Array Oper) (L : Act → Prop) : List Nat → Act → Prop
  | [], a => L a
  | k :: ks, a => ∃ (o : Oper) (d : Option Tmp) (v : Value), ops[k]? = some o ∧ o.dst = d ∧ PureV P ops o v a ∧ pureSteps P ops L ks (a.put d v)

theorem any_oneOrder {Kf : Act → World → Prop} (rs : List Nat) : ∀ (l : List Oper) (listed : Array Bool) (a : Act) (w : World), rs.map (fun k => ops[k]?) = l.map some → oneOrder md ops rs listed = true → wpList P ops (Qn Kf) l a w → wpAny P md ops (Qn Kf) rs.length listed a w := by
  induction rs with
  | nil =>
    intro l listed a w hl hB h
    obtain rfl : l = [] := by simpa using hl.symm
    exact ⟨by simpa [oneOrder] using hB, h⟩
  | cons k rs ih =>
    intro l listed a w hl hB h
    cases l with
    | nil => simp at hl
    | cons o l =>
      simp only [List.map_cons, List.cons.injEq] at hl
      simp only [oneOrder, Bool.and_eq_true, decide_eq_true_eq] at hB
      refine ⟨fun h1 => (by rw [hB.1] at h1; cases h1), fun i hi => ?_⟩
      rw [hB.1] at hi
      obtain rfl : i = k := by simpa using hi
      have hw : wpOp P ops (Qn Kf) i (wpList P ops (Qn Kf) l) a w := by unfold wpOp; simp only [hl.1]; exact h
      exact wpOp_mono (fun a' w' h' => ih l _ a' w' hl.2 hB.2 h') hw

theorem any_pure {Kf : Act → World → Prop} (hsel : Region.noSelect ops = true) (rs : List Nat) (l : List Oper) (hl : rs.map (fun k => ops[k]?) = l.map some) (w : World) (ks : List Nat) :
    ∀ (listed : Array Bool) (a : Act), firstB md ops rs ks listed = true → pureSteps P ops (fun a' => wpList P ops (Qn Kf) l a' w) ks a → wpAny P md ops (Qn Kf) (ks.length + rs.length) listed a w := by
  induction ks with
  | nil =>
    intro listed a hB h
    rw [List.length_nil, Nat.zero_add]
    exact any_oneOrder rs l listed a w hl hB h
  | cons k ks ih =>
    intro listed a hB h
    obtain ⟨o, d, v, ho, hd, hp, hrest⟩ := h
    subst hd
    simp only [firstB, Bool.and_eq_true] at hB
    rw [List.length_cons, show ks.length + 1 + rs.length = (ks.length + rs.length) + 1 by omega]
    exact any_first ho (Region.noSelect_spec hsel) _ listed a w (Region.free_spec ho hB.1.2) (by simpa using hB.1.1) hp (ih _ _ hB.2 hrest)

theorem region_pure {id : Nat} {Q : Exit → Act → World → Prop} {a : Act} {w : World} {l : List Oper} (ks rs : List Nat) (lr : List Oper) (hm : P.follows .mixedOrders = true) (hsel : Region.noSelect l.toArray = true)
    (hB : firstB .any l.toArray rs ks (Array.replicate l.toArray.size false) = true) (hlen : ks.length + rs.length = l.length) (hl : rs.map (fun k => l[k]?) = lr.map some)
    (h : pureSteps P l.toArray (fun a' => wpList P l.toArray (Qn fun a w => Q .normal a w) lr a' w.drew) ks a) : (Code.region id l.toArray true).wp P Q a w := by
  refine wp_region_any hm ?_
  have := any_pure (P := P) (md := .any) (Kf := fun a w => Q .normal a w) hsel rs lr (by simpa using hl) w.drew ks _ a hB h
  rw [hlen] at this
  have e := any_qn (fun a w h => h) _ _ _ _ this
  simpa using e

theorem map_filterMap {α : Type} (f : Nat → Option α) (rs : List Nat) (h : rs.all (fun k => (f k).isSome) = true) : rs.map f = (rs.filterMap f).map some := by
  induction rs with
  | nil => rfl
  | cons k rs ih =>
    simp only [List.all_cons, Bool.and_eq_true] at h
    obtain ⟨v, hv⟩ := Option.isSome_iff_exists.1 h.1
    simp [hv, ih h.2]

theorem region_pure_at {id : Nat} {Q : Exit → Act → World → Prop} {a : Act} {w : World} {l : List Oper} (ks rs : List Nat) (hm : P.follows .mixedOrders = true) (hsel : Region.noSelect l.toArray = true)
    (hB : firstB .any l.toArray rs ks (Array.replicate l.toArray.size false) = true) (hlen : ks.length + rs.length = l.length) (hl : rs.all (fun k => (l[k]?).isSome) = true)
    (h : pureSteps P l.toArray (fun a' => wpList P l.toArray (Qn fun a w => Q .normal a w) (rs.filterMap fun k => l[k]?) a' w.drew) ks a) : (Code.region id l.toArray true).wp P Q a w :=
  region_pure ks rs _ hm hsel hB hlen (map_filterMap _ rs hl) h

theorem region_pure4 {P : Program} {id : Nat} {Q : Exit → Act → World → Prop} {a : Act} {w : World} {l : List Oper} (ks : List Nat) (r0 r1 r2 r3 : Nat) {o0 o1 o2 o3 : Oper} (hm : P.follows .mixedOrders = true) (hsel : Region.noSelect l.toArray = true)
    (hB : firstB .any l.toArray [r0, r1, r2, r3] ks (Array.replicate l.toArray.size false) = true) (hlen : ks.length + 4 = l.length) (h0 : l[r0]? = some o0) (h1 : l[r1]? = some o1) (h2 : l[r2]? = some o2) (h3 : l[r3]? = some o3)
    (h : pureSteps P l.toArray (fun a' => wpList P l.toArray (Qn fun a w => Q .normal a w) [o0, o1, o2, o3] a' w.drew) ks a) : (Code.region id l.toArray true).wp P Q a w :=
  region_pure ks [r0, r1, r2, r3] [o0, o1, o2, o3] hm hsel hB hlen (by simp [h0, h1, h2, h3]) h

/-! ### Operation 0 first, then quiet ones in whatever order, then the rest in one order -/
def sinkFrom (md : Region.Mode) (ops : Array Oper) (s n : Nat) : Bool :=
  (List.range n).all fun i => decide (i < s) || (List.range (n + 1)).any fun j => decide (i < j) && Region.waitsFor md ops j i

theorem last_waits' {s n : Nat} {listed : Array Bool} (hs : sinkFrom md ops s n = true) (hn : n < ops.size) (inv : HeadInv md ops n listed) (d : Nat) :
    ∀ i, n - i ≤ d → s ≤ i → i < n → listed.getD i true = false → n ∉ Region.ready md ops listed := by
  induction d with
  | zero => intro i hd _ hi; omega
  | succ d ih =>
    intro i hd hsi hi hun hr
    have h0 := List.all_eq_true.1 hs i (List.mem_range.2 hi)
    simp only [Bool.or_eq_true, decide_eq_true_eq] at h0
    rcases h0 with h0 | h0
    · omega
    obtain ⟨j, hj, hj2⟩ := List.any_eq_true.1 h0
    simp only [Bool.and_eq_true, decide_eq_true_eq] at hj2
    obtain ⟨oj, hoj, e, he, hb, hon⟩ := Region.waitsFor_spec hj2.2
    have hjn := List.mem_range.1 hj
    by_cases hl : listed.getD j false = true
    · have h2 := inv.closed j oj hoj hl e he hb
      rw [hon, getD_both hun] at h2
      cases h2
    · rcases Nat.lt_or_eq_of_le (Nat.le_of_lt_succ hjn) with hlt | heq
      · exact ih j (by omega) (by omega) hlt (getD_in (by rw [inv.size]; omega) (by simpa using hl)) hr
      · subst heq
        obtain ⟨_, ot, hot, hall⟩ := mem_ready.1 hr
        obtain rfl : oj = ot := Option.some.inj (hoj.symm.trans hot)
        have h2 := hall e he hb
        rw [hon, getD_both hun] at h2
        cases h2

theorem rest_waits' {s n : Nat} {listed : Array Bool} (hs : sinkFrom md ops s n = true) (hd : depB md ops n = true) (hn : n < ops.size) (inv : HeadInv md ops n listed) {i : Nat} (hsi : s ≤ i) (hi : i < n) (hun : listed.getD i true = false) :
    ∀ t, n ≤ t → t ∉ Region.ready md ops listed := by
  intro t ht hr
  rcases Nat.lt_or_eq_of_le ht with hlt | heq
  · obtain ⟨_, ot, hot, hall⟩ := mem_ready.1 hr
    have hts : t < ops.size := (Array.getElem?_eq_some_iff.1 hot).1
    have h1 := List.all_eq_true.1 hd t (List.mem_range.2 hts)
    simp only [Bool.or_eq_true, decide_eq_true_eq] at h1
    rcases h1 with h1 | h1
    · omega
    · obtain ⟨j, hj, hj2⟩ := List.any_eq_true.1 h1
      simp only [Bool.and_eq_true, decide_eq_true_eq] at hj2
      obtain ⟨oj, hoj, e, he, hb, hon⟩ := Region.waitsFor_spec hj2.2
      obtain rfl : oj = ot := Option.some.inj (hoj.symm.trans hot)
      have h2 := hall e he hb
      have hjt := List.mem_range.1 hj
      rw [hon, getD_both (inv.tail j hj2.1 (by omega))] at h2
      cases h2
  · subst heq
    exact last_waits' hs hn inv _ i (Nat.le_refl _) hsi hi hun hr

theorem late_first {s n i : Nat} {oi : Oper} {v : Value} {L : Array Bool → Act → Prop} (hi : ops[i]? = some oi) (hsel : ∀ (j : Nat) (o : Oper) cs b, ops[j]? = some o → o.op ≠ .select cs b)
    (hs : sinkFrom md ops s n = true) (hc : depB md ops n = true) (hn : n < ops.size) (hsi : s ≤ i) (hin : i < n) (hdone : ∀ listed a, L listed a → ∀ j ∈ Region.ready md ops listed, n ≤ j) (f : Nat) :
    ∀ (listed : Array Bool) (a : Act), HeadInv md ops n listed →
      (∀ j oj, ops[j]? = some oj → j ≠ i → listed.getD j true = false → (∀ e ∈ oj.after, Region.binds md e = true → e.on ≠ i) → oi.apart ops oj = true) →
      i ∈ Region.ready md ops listed → YieldsIn P ops C oi v a →
      headAny P md ops C n L f (listed.setIfInBounds i true) (a.put oi.dst v) → headAny P md ops C n L (f + 1) listed a := by
  induction f with
  | zero =>
    intro listed a inv _ hr hy H
    refine ⟨fun h => (by rw [h] at hr; cases hr), fun j hj => ?_⟩
    have hjn : j < n := Nat.lt_of_not_le fun h => rest_waits' hs hc hn inv hsi hin (mem_ready.1 hr).1 j h hj
    refine ⟨hjn, ?_⟩
    by_cases hji : j = i
    · subst hji; exact hy.qOp hi H
    · exact absurd (hdone _ _ H j (ready_mono hj hji)) (by omega)
  | succ f ih =>
    intro listed a inv hfree hr hy H
    have hun := (mem_ready.1 hr).1
    refine ⟨fun h => (by rw [h] at hr; cases hr), fun j hj => ?_⟩
    have hjn : j < n := Nat.lt_of_not_le fun h => rest_waits' hs hc hn inv hsi hin hun j h hj
    refine ⟨hjn, ?_⟩
    by_cases hji : j = i
    · subst hji; exact hy.qOp hi H
    · obtain ⟨hjun, oj, hoj, hall⟩ := mem_ready.1 hj
      have hnot : ∀ e ∈ oj.after, Region.binds md e = true → e.on ≠ i := fun e he hb heq => by
        have h1 := hall e he hb
        rw [heq, getD_both hun] at h1
        cases h1
      have hq := qOp_put hoj (hfree j oj hoj hji hjun hnot) (fun cs b => hsel i oi cs b hi) (fun cs b => hsel j oj cs b hoj) hy (H.2 j (ready_mono hj hji)).2
      refine qOp_mono (fun a' h3 => ih (listed.setIfInBounds j true) a' (inv.set hj hjn) (fun k ok hk hki hku hno => hfree k ok hk hki ?_ hno) (ready_mono hr (Ne.symm hji)) h3.1 ?_) hq
      · by_cases hjk : j = k
        · subst hjk; exact hjun
        · rwa [getD_set_ne true hjk] at hku
      · rw [Array.setIfInBounds_comm _ _ hji]; exact h3.2

theorem late_lex {s n g : Nat} {Lq : Act → Prop} (hsel : Region.noSelect ops = true) (hs : sinkFrom md ops s n = true) (hc : depB md ops n = true) (hn : n < ops.size) (l : List Oper) :
    ∀ (k : Nat) (listed : Array Bool) (a : Act), s ≤ k → (∀ j, j < l.length → l[j]? = ops[k + j]?) → k + l.length = n → HeadInv md ops n listed →
    Region.lexHead md ops g l.length k listed = true → wpQuiet P ops C Lq l a →
    headAny P md ops C n (fun listed' a' => Region.seqB md ops g n listed' = true ∧ Lq a') l.length listed a := by
  induction l with
  | nil =>
    intro k listed a _ _ hk _ hB h
    obtain rfl : k = n := by simpa using hk
    exact ⟨by simpa [Region.lexHead] using hB, h⟩
  | cons o l ih =>
    intro k listed a hsk hl hk inv hB h
    have h0 : ops[k]? = some o := by simpa using (hl 0 (by simp)).symm
    simp only [List.length_cons, Region.lexHead, Bool.and_eq_true] at hB
    have hkn : k < n := by simp only [List.length_cons] at hk; omega
    have hr' : k ∈ Region.ready md ops listed := by simpa using hB.1.1
    have hst : qOp P ops C k (wpQuiet P ops C Lq l) a := by unfold qOp; simp only [h0]; exact h
    obtain ⟨v, hy, hK⟩ := yieldsIn_of_qOp h0 hst
    exact late_first h0 (Region.noSelect_spec hsel) hs hc hn hsk hkn (fun listed' a' hL => seqB_ready hL.1) l.length listed a inv (Region.free_spec h0 hB.1.2) hr' hy
      (ih (k + 1) _ _ (by omega) (fun j hj => by have := hl (j + 1) (by simp; omega); simpa [Nat.add_assoc, Nat.add_comm 1 j] using this) (by simp only [List.length_cons] at hk; omega) (inv.set hr' hkn) hB.2 hK)

def lateB (md : Region.Mode) (ops : Array Oper) (n : Nat) : Bool :=
  Region.noSelect ops && decide (n < ops.size) && sinkFrom md ops 1 n && depB md ops n && (Region.ready md ops (Array.replicate ops.size false)).contains 0 && Region.free md ops (Array.replicate ops.size false) 0 &&
    Region.lexHead md ops (ops.size - n) (n - 1) 1 ((Array.replicate ops.size false).setIfInBounds 0 true)

theorem region_late {id : Nat} {Q : Exit → Act → World → Prop} {a : Act} {w : World} {l : List Oper} {o : Oper} {v : Value} (n : Nat) (hn0 : 0 < n) (hm : P.follows .mixedOrders = true) (hB : lateB .any l.toArray n = true) (ho : l[0]? = some o) (hp : PureV P l.toArray o v a)
    (h : wpQuiet P l.toArray (fun w' => ∃ p : Regrown, w' = grow (redrawn w p.d) p.os) (fun a' => ∀ w', Below w.heap.size w w' → wpList P l.toArray (Qn fun a w => Q .normal a w) (l.drop n) a' w') ((l.take n).drop 1) (a.put o.dst v)) : (Code.region id l.toArray true).wp P Q a w := by
  simp only [lateB, Bool.and_eq_true, decide_eq_true_eq] at hB
  obtain ⟨⟨⟨⟨⟨⟨hsel, hn⟩, hs⟩, hc⟩, hr0⟩, hf0⟩, hlex⟩ := hB
  have hn' : n < l.length := by simpa using hn
  have htl : ((l.take n).drop 1).length = n - 1 := by simp; omega
  have hdl : (l.drop n).length = l.toArray.size - n := by simp
  have ho' : l.toArray[0]? = some o := by simpa using ho
  have hr0' : 0 ∈ Region.ready .any l.toArray (Array.replicate l.toArray.size false) := by simpa using hr0
  have inv0 : HeadInv .any l.toArray n (Array.replicate l.toArray.size false) :=
    ⟨by simp, fun j oj _ hl => (by rw [getD_replicate_false] at hl; cases hl), fun t _ ht => getD_in (by simpa using ht) (getD_replicate_false _ _)⟩
  have inv1 := inv0.set hr0' hn0
  have H := late_lex (P := P) (C := fun w' => ∃ p : Regrown, w' = grow (redrawn w p.d) p.os) (md := .any) (g := l.toArray.size - n) hsel hs hc hn ((l.take n).drop 1) 1 _ (a.put o.dst v) (Nat.le_refl _)
    (fun j hj => by rw [htl] at hj; rw [List.getElem?_drop, List.getElem?_take, if_pos (by omega)]; simp) (by rw [htl]; omega) inv1 (by rw [htl]; exact hlex) h
  refine wp_region_any hm ?_
  have e := any_of_head (Q := Qn fun a w => Q .normal a w) (g := l.toArray.size - n) (fun listed a' w' hw' hL => by
    obtain ⟨p, hp'⟩ := hw'
    have := wpAny_of_seq (md := .any) (Q' := Qn fun a w => Q .normal a w) (l.drop n) n listed a' w' (fun j => by simp [List.getElem?_drop]) (by rw [hdl]; exact hL.1) (hL.2 w' (hp' ▸ below_regrown w p.d p.os))
    rwa [hdl] at this) _ _ _ w.drew ⟨⟨w.drawn + 1, #[]⟩, by rw [grow_empty]; rfl⟩ H
  have e2 := any_first (P := P) (md := .any) (Kf := fun a w => Q .normal a w) ho' (Region.noSelect_spec hsel) _ _ a w.drew (Region.free_spec ho' hf0) hr0' hp e
  rw [htl, show n - 1 + (l.toArray.size - n) + 1 = l.toArray.size by omega] at e2
  exact any_qn (fun a w h => h) _ _ _ _ e2
end
end Go.Proofs.Ytkneecdpkdnjfaa.Qt
namespace Go.Proofs.Ytkneecdpkdnjfaa.Qt
open Go Go.Sort Go.RowKit

section
variable {P : Program} {ops : Array Oper} {md : Region.Mode}

/-- (true, k): operation k only moves a value; (false, k): operation k is the only one that may come. -/
def scriptB (md : Region.Mode) (ops : Array Oper) : List (Bool × Nat) → Array Bool → Bool
  | [], listed => (Region.ready md ops listed).isEmpty
  | (true, k) :: s, listed => (Region.ready md ops listed).contains k && Region.free md ops listed k && scriptB md ops s (listed.setIfInBounds k true)
  | (false, k) :: s, listed => decide (Region.ready md ops listed = [k]) && scriptB md ops s (listed.setIfInBounds k true)
def scriptW (P : Program) (ops : Array Oper) (Kf : Act → World → Prop) : List (Bool × Nat) → Act → World → Prop
  | [], a, w => Kf a w
  | (true, k) :: s, a, w => ∃ (o : Oper) (d : Option Tmp) (v : Value), ops[k]? = some o ∧ o.dst = d ∧ PureV P ops o v a ∧ scriptW P ops Kf s (a.put d v) w
  | (false, k) :: s, a, w => ∃ o : Oper, ops[k]? = some o ∧ wpList P ops (Qn (scriptW P ops Kf s)) [o] a w

theorem any_script {Kf : Act → World → Prop} (hsel : Region.noSelect ops = true) (s : List (Bool × Nat)) :
    ∀ (listed : Array Bool) (a : Act) (w : World), scriptB md ops s listed = true → scriptW P ops Kf s a w → wpAny P md ops (Qn Kf) s.length listed a w := by
  induction s with
  | nil =>
    intro listed a w hB h
    exact ⟨by simpa [scriptB] using hB, rfl, h⟩
  | cons x s ih =>
    intro listed a w hB h
    obtain ⟨b, k⟩ := x
    cases b with
    | true =>
      obtain ⟨o, d, v, ho, hd, hp, hrest⟩ := h
      subst hd
      simp only [scriptB, Bool.and_eq_true] at hB
      exact any_first ho (Region.noSelect_spec hsel) _ listed a w (Region.free_spec ho hB.1.2) (by simpa using hB.1.1) hp (ih _ _ _ hB.2 hrest)
    | false =>
      obtain ⟨o, ho, h⟩ := h
      simp only [scriptB, Bool.and_eq_true, decide_eq_true_eq] at hB
      refine ⟨fun h1 => (by rw [hB.1] at h1; cases h1), fun i hi => ?_⟩
      rw [hB.1] at hi
      obtain rfl : i = k := by simpa using hi
      have hw : wpOp P ops (Qn (scriptW P ops Kf s)) i (wpList P ops (Qn (scriptW P ops Kf s)) []) a w := by unfold wpOp; simp only [ho]; exact h
      exact wpOp_qn (fun a' w' h' => ih _ a' w' hB.2 h'.2) hw

theorem region_script {id : Nat} {Q : Exit → Act → World → Prop} {a : Act} {w : World} {l : List Oper} (s : List (Bool × Nat)) (hm : P.follows .mixedOrders = true) (hsel : Region.noSelect l.toArray = true)
    (hB : scriptB .any l.toArray s (Array.replicate l.toArray.size false) = true) (hlen : s.length = l.length)
    (h : scriptW P l.toArray (fun a w => Q .normal a w) s a w.drew) : (Code.region id l.toArray true).wp P Q a w := by
  refine wp_region_any hm ?_
  have := any_script (P := P) (md := .any) (Kf := fun a w => Q .normal a w) hsel s _ a w.drew hB h
  rw [hlen] at this
  have e := any_qn (fun a w h => h) _ _ _ _ this
  simpa using e
end
end Go.Proofs.Ytkneecdpkdnjfaa.Qt
namespace Go.Proofs.Ytkneecdpkdnjfaa.Qt
open Go Go.Sort Go.RowKit

inductive Scr where
  | done : Scr
  | pure : Nat → Scr → Scr
  | only : Nat → Scr → Scr
  | two : Nat → Nat → Scr → Scr → Scr
  | three : Nat → Nat → Nat → Scr → Scr → Scr → Scr

def Scr.len : Scr → Nat
  | .done => 0
  | .pure _ s => s.len + 1
  | .only _ s => s.len + 1
  | .two _ _ s _ => s.len + 1
  | .three _ _ _ s _ _ => s.len + 1

section
variable {P : Program} {ops : Array Oper} {md : Region.Mode}

def treeB (md : Region.Mode) (ops : Array Oper) : Scr → Array Bool → Bool
  | .done, listed => (Region.ready md ops listed).isEmpty
  | .pure k s, listed => (Region.ready md ops listed).contains k && Region.free md ops listed k && treeB md ops s (listed.setIfInBounds k true)
  | .only k s, listed => decide (Region.ready md ops listed = [k]) && treeB md ops s (listed.setIfInBounds k true)
  | .two j k s t, listed => decide (Region.ready md ops listed = [j, k]) && decide (s.len = t.len) && treeB md ops s (listed.setIfInBounds j true) && treeB md ops t (listed.setIfInBounds k true)
  | .three i j k r s t, listed => decide (Region.ready md ops listed = [i, j, k]) && decide (r.len = s.len) && decide (r.len = t.len) && treeB md ops r (listed.setIfInBounds i true) && treeB md ops s (listed.setIfInBounds j true) && treeB md ops t (listed.setIfInBounds k true)
def treeW (P : Program) (ops : Array Oper) (Kf : Act → World → Prop) : Scr → Act → World → Prop
  | .done, a, w => Kf a w
  | .pure k s, a, w => ∃ (o : Oper) (d : Option Tmp) (v : Value), ops[k]? = some o ∧ o.dst = d ∧ PureV P ops o v a ∧ treeW P ops Kf s (a.put d v) w
  | .only k s, a, w => ∃ o : Oper, ops[k]? = some o ∧ wpList P ops (Qn (treeW P ops Kf s)) [o] a w
  | .two j k s t, a, w => (∃ o : Oper, ops[j]? = some o ∧ wpList P ops (Qn (treeW P ops Kf s)) [o] a w) ∧ ∃ o : Oper, ops[k]? = some o ∧ wpList P ops (Qn (treeW P ops Kf t)) [o] a w
  | .three i j k r s t, a, w => (∃ o : Oper, ops[i]? = some o ∧ wpList P ops (Qn (treeW P ops Kf r)) [o] a w) ∧ (∃ o : Oper, ops[j]? = some o ∧ wpList P ops (Qn (treeW P ops Kf s)) [o] a w) ∧ ∃ o : Oper, ops[k]? = some o ∧ wpList P ops (Qn (treeW P ops Kf t)) [o] a w

theorem any_tree {Kf : Act → World → Prop} (hsel : Region.noSelect ops = true) (s : Scr) :
    ∀ (listed : Array Bool) (a : Act) (w : World), treeB md ops s listed = true → treeW P ops Kf s a w → wpAny P md ops (Qn Kf) s.len listed a w := by
  induction s with
  | done =>
    intro listed a w hB h
    exact ⟨by simpa [treeB] using hB, rfl, h⟩
  | pure k s ih =>
    intro listed a w hB h
    obtain ⟨o, d, v, ho, hd, hp, hrest⟩ := h
    subst hd
    simp only [treeB, Bool.and_eq_true] at hB
    exact any_first ho (Region.noSelect_spec hsel) _ listed a w (Region.free_spec ho hB.1.2) (by simpa using hB.1.1) hp (ih _ _ _ hB.2 hrest)
  | only k s ih =>
    intro listed a w hB h
    obtain ⟨o, ho, h⟩ := h
    simp only [treeB, Bool.and_eq_true, decide_eq_true_eq] at hB
    refine ⟨fun h1 => (by rw [hB.1] at h1; cases h1), fun i hi => ?_⟩
    rw [hB.1] at hi
    obtain rfl : i = k := by simpa using hi
    have hw : wpOp P ops (Qn (treeW P ops Kf s)) i (wpList P ops (Qn (treeW P ops Kf s)) []) a w := by unfold wpOp; simp only [ho]; exact h
    exact wpOp_qn (fun a' w' h' => ih _ a' w' hB.2 h'.2) hw
  | two j k s t ihs iht =>
    intro listed a w hB h
    obtain ⟨⟨o, ho, h1⟩, ⟨o', ho', h2⟩⟩ := h
    simp only [treeB, Bool.and_eq_true, decide_eq_true_eq] at hB
    obtain ⟨⟨⟨hr, hl⟩, hs⟩, ht⟩ := hB
    refine ⟨fun h1 => (by rw [hr] at h1; cases h1), fun i hi => ?_⟩
    rw [hr] at hi
    simp only [List.mem_cons, List.not_mem_nil, or_false] at hi
    rcases hi with rfl | rfl
    · have hw : wpOp P ops (Qn (treeW P ops Kf s)) i (wpList P ops (Qn (treeW P ops Kf s)) []) a w := by unfold wpOp; simp only [ho]; exact h1
      exact wpOp_qn (fun a' w' h' => ihs _ a' w' hs h'.2) hw
    · have hw : wpOp P ops (Qn (treeW P ops Kf t)) i (wpList P ops (Qn (treeW P ops Kf t)) []) a w := by unfold wpOp; simp only [ho']; exact h2
      refine wpOp_qn (fun a' w' h' => ?_) hw
      have := iht _ a' w' ht h'.2
      rwa [← hl] at this
  | three p j k r s t ihr ihs iht =>
    intro listed a w hB h
    obtain ⟨⟨o0, ho0, h0⟩, ⟨o, ho, h1⟩, ⟨o', ho', h2⟩⟩ := h
    simp only [treeB, Bool.and_eq_true, decide_eq_true_eq] at hB
    obtain ⟨⟨⟨⟨⟨hr, hl⟩, hl2⟩, h3⟩, hs⟩, ht⟩ := hB
    refine ⟨fun h1 => (by rw [hr] at h1; cases h1), fun i hi => ?_⟩
    rw [hr] at hi
    simp only [List.mem_cons, List.not_mem_nil, or_false] at hi
    rcases hi with rfl | rfl | rfl
    · have hw : wpOp P ops (Qn (treeW P ops Kf r)) i (wpList P ops (Qn (treeW P ops Kf r)) []) a w := by unfold wpOp; simp only [ho0]; exact h0
      exact wpOp_qn (fun a' w' h' => ihr _ a' w' h3 h'.2) hw
    · have hw : wpOp P ops (Qn (treeW P ops Kf s)) i (wpList P ops (Qn (treeW P ops Kf s)) []) a w := by unfold wpOp; simp only [ho]; exact h1
      refine wpOp_qn (fun a' w' h' => ?_) hw
      have := ihs _ a' w' hs h'.2
      rwa [← hl] at this
    · have hw : wpOp P ops (Qn (treeW P ops Kf t)) i (wpList P ops (Qn (treeW P ops Kf t)) []) a w := by unfold wpOp; simp only [ho']; exact h2
      refine wpOp_qn (fun a' w' h' => ?_) hw
      have := iht _ a' w' ht h'.2
      rwa [← hl2] at this

theorem region_tree {id : Nat} {Q : Exit → Act → World → Prop} {a : Act} {w : World} {l : List Oper} (s : Scr) (hm : P.follows .mixedOrders = true) (hsel : Region.noSelect l.toArray = true)
    (hB : treeB .any l.toArray s (Array.replicate l.toArray.size false) = true) (hlen : s.len = l.length)
    (h : treeW P l.toArray (fun a w => Q .normal a w) s a w.drew) : (Code.region id l.toArray true).wp P Q a w := by
  refine wp_region_any hm ?_
  have := any_tree (P := P) (md := .any) (Kf := fun a w => Q .normal a w) hsel s _ a w.drew hB h
  rw [hlen] at this
  have e := any_qn (fun a w h => h) _ _ _ _ this
  simpa using e
end
end Go.Proofs.Ytkneecdpkdnjfaa.Qt
namespace Go.Proofs.Ytkneecdpkdnjfaa
set_option linter.unusedVariables false
set_option linter.unusedSimpArgs false
open Go.RowKit Go.Sort

/-- three results, the first of which lies in a cell -/
theorem results_cell3 {P : Program} {fn : Func} {p u v : Tmp} {ty : TypeId} (h : fn.results = #[.cell p ty, .tmp u, .tmp v]) (tmps : Array Value) (w : World) (g : Nat) (t : TypeId) (cs : Array Value) (fr : Nat × Nat) (d : TypeDesc)
    (hp : tmps.getD p undef = .pointer (some ⟨g, 0, none⟩)) (hg : w.heap[g]? = some (.cells cs t fr))
    (hu : P.underlying ty = some d) (hd : (match d with | .struct _ | .array _ _ => true | _ => false) = true) (hi : (P.info? ty).map (·.size) = some cs.size) :
    (results fn tmps).run P w = .ok (.tuple #[.agg cs, tmps.getD u undef, tmps.getD v undef]) w := by
  have hp' : tmps[p]?.getD undef = .pointer (some ⟨g, 0, none⟩) := by simpa using hp
  simp [results, h, hp', asAddr, run_loadVar_row w g t ty cs fr d hg hu hd hi]
section
variable {w wr w' : World} {A : Option Addr} {n c : Nat} {room : Int} {k : Kd}
end
theorem put_no {l : List Nd} {room : Int} {k : Kd} {i : Nat} (hi : i < 4) (h : kidB l l.length (ndAt l k.1).1 (kd k i) = false) : put6 l room k = (l, 0, 1) := by
  unfold put6
  rw [if_pos]
  rw [Bool.eq_false_iff]
  intro hk
  have := kidsB_iff.1 hk i hi
  rw [h] at this
  cases this
theorem put_yes {l : List Nd} {room : Int} {k : Kd} (h : ∀ i, i < 4 → kidB l l.length (ndAt l k.1).1 (kd k i) = true) :
    (42 < (ndAt l k.1).1 + 1 → put6 l room k = (l, 0, 1)) ∧ (¬ 42 < (ndAt l k.1).1 + 1 → (∀ n, at6 l k = some n → put6 l room k = (l, (n : Int), 0)) ∧ (at6 l k = none → (room ≤ l.length → put6 l room k = (l, 0, 40)) ∧ (¬ room ≤ l.length → put6 l room k = (l ++ [((ndAt l k.1).1 + 1, k, popTo l k 4)], (l.length : Int), 0)))) := by
  have hk := kidsB_iff.2 h
  unfold put6
  rw [if_neg (by rw [hk]; decide)]
  refine ⟨fun h1 => by rw [if_pos h1], fun h1 => ?_⟩
  rw [if_neg h1]
  refine ⟨fun n hn => by rw [hn], fun hn => ?_⟩
  rw [hn]
  exact ⟨fun h2 => by simp only; rw [if_pos h2], fun h2 => by simp only; rw [if_neg h2]⟩
/-- What Put answers. -/
def PutR (p : List Nd × Int × Int) (room : Int) (w : World) (e : Ending) (w' : World) : Prop :=
  ∃ v, e = .returned (.tuple #[.agg #[v, .int .i64 room], .int .i64 p.2.1, .int .i64 p.2.2]) ∧ ReadsN w' v p.1 ∧ Below w.heap.size w w'

end Go.Proofs.Ytkneecdpkdnjfaa
namespace Go.Proofs.Ytkneecdpkdnjfaa
set_option linter.unusedVariables false
set_option linter.unusedSimpArgs false
open Go.RowKit Go.Sort

theorem but_set {b : Nat} {w : World} (j : Nat) (u : Value) : w.grownBy (w.setCell ⟨b, j, none⟩ u) (some b) := by
  have h := (Below.refl b w).setCell (p := ⟨b, j, none⟩) (Nat.le_refl _) u
  refine ⟨h.os, h.tape, h.output, h.size, fun k hk hne => ?_⟩
  have hkb : k ≠ b := fun e => hne (by rw [e])
  simp [World.setCell, Array.getElem?_modify, Ne.symm hkb]

theorem below_drewN6 (w : World) : Below w.heap.size w w.drew := (Below.refl _ _).drew
theorem ownN_kind {w : World} {B T s : Nat} {v : Value} {n : Nat} {xs : List Value} (h : w.ownsRow B T s v n xs) : ∀ k, v.ownBlock = some k → B ≤ k ∧ k < w.heap.size ∧ ∃ c fz, w.heap[k]? = some (.cells c T fz) := by
  intro k hk
  have hl := World.ownsRow.lt h k hk
  rcases h.2 with ⟨rfl, h0⟩ | ⟨g, cap, cur, rfl, hB, hg, _⟩
  · simp [Value.ownBlock] at hk
  · simp [Value.ownBlock] at hk
    subst hk
    exact ⟨hl.1, hl.2, _, _, hg⟩
theorem set_row {w : World} {g T : Nat} {a b u v : Value} (h : w.heap[g]? = some (.cells #[a, b] T (0, 0))) : ((w.setCell ⟨g, 0, none⟩ u).setCell ⟨g, 1, none⟩ v).heap[g]? = some (.cells #[u, v] T (0, 0)) := by
  simp [World.setCell, Array.getElem?_modify, h]
/-- A region that draws its order, by a script, to what is known at its end. -/
theorem region_tree_to {P : Program} {id : Nat} {Q : Exit → Act → World → Prop} {a : Act} {w : World} {l : List Oper} (R : Act → Act → World → Prop) (s : Qt.Scr) (hm : P.follows .mixedOrders = true) (hsel : Region.noSelect l.toArray = true)
    (hB : Qt.treeB .any l.toArray s (Array.replicate l.toArray.size false) = true) (hlen : s.len = l.length)
    (h : Qt.treeW P l.toArray (R a) s a w.drew) (hQ : ∀ a' w', R a a' w' → Q .normal a' w') : (Code.region id l.toArray true).wp P Q a w := by
  refine wp_region_any hm ?_
  have := Qt.any_tree (P := P) (md := .any) (Kf := R a) hsel s _ a w.drew hB h
  rw [hlen] at this
  have e := Qt.any_qn hQ _ _ _ _ this
  simpa using e
end Go.Proofs.Ytkneecdpkdnjfaa
namespace Go.Proofs.Ytkneecdpkdnjfaa
set_option linter.unusedVariables false
set_option linter.unusedSimpArgs false
open Go.RowKit Go.Sort

/-- nodes do not lie in a row that is too short -/
theorem rdN_ne {w : World} {B q T : Nat} {A : Option Addr} {l : List Nd} {cs : Array Value} {fz : Nat × Nat} (h : RdN w B A l) (hrow : w.heap[q]? = some (.cells cs T fz)) (hsz : cs.size ≤ 5) : ∀ j, j < l.length → ∃ b off, A = some ⟨b, off, none⟩ ∧ b ≠ q ∧ b < B ∧ NdAt w b (off + j * 6) (l.getD j deadN) := by
  intro j hj
  obtain ⟨b, off, e, hlt, h0⟩ := h j hj
  refine ⟨b, off, e, ?_, hlt, h0⟩
  rintro rfl
  obtain ⟨_, _, _, _, _, h5⟩ := h0
  rw [Lib.cell_of_heap hrow (off + j * 6 + 5), Array.getElem?_eq_none (by omega)] at h5
  cases h5
theorem rdN_told {w : World} {B q T : Nat} {A : Option Addr} {l : List Nd} {x y u v : Value} (h : RdN w B A l) (hrow : w.heap[q]? = some (.cells #[x, y] T (0, 0))) : RdN ((w.setCell ⟨q, 0, none⟩ u).setCell ⟨q, 1, none⟩ v) B A l := by
  intro j hj
  obtain ⟨b, off, e, hne, hlt, h0, h1, h2, h3, h4, h5⟩ := rdN_ne h hrow (Nat.le_of_ble_eq_true rfl) j hj
  have hb : ((w.setCell ⟨q, 0, none⟩ u).setCell ⟨q, 1, none⟩ v).heap[b]? = w.heap[b]? := (Below.heap_setCell _ _ _ _ hne).trans (Below.heap_setCell _ _ _ _ hne)
  have hc : ∀ o, ((w.setCell ⟨q, 0, none⟩ u).setCell ⟨q, 1, none⟩ v).cell? ⟨b, o, none⟩ = w.cell? ⟨b, o, none⟩ := fun o => World.cell?_of_block (w := w) hb
  exact ⟨b, off, e, hlt, (hc _).trans h0, (hc _).trans h1, (hc _).trans h2, (hc _).trans h3, (hc _).trans h4, (hc _).trans h5⟩

end Go.Proofs.Ytkneecdpkdnjfaa
namespace Go.Proofs.Ytkneecdpkdnjfaa
set_option linter.unusedVariables false
set_option linter.unusedSimpArgs false
open Go.RowKit Go.Sort

theorem emptyTo_right {l : List Nd} {room : Int} (h : Right6 l room) : ∀ j, Right6 (emptyTo l room j).1 room
  | 0 => h
  | j + 1 => by
    rw [emptyTo]
    split
    · exact put_right (emptyTo_right h j) _
    · exact emptyTo_right h j
theorem emptyTo_stop {l : List Nd} {room : Int} {j : Nat} (h : ¬ (emptyTo l room j).2.2 = 0) : ∀ d, emptyTo l room (j + d) = emptyTo l room j
  | 0 => rfl
  | d + 1 => by
    have := emptyTo_stop h d
    rw [← Nat.add_assoc, emptyTo, this, if_neg h]
theorem empty_bad {l : List Nd} {room lev : Int} (h : right6 l room = false ∨ lev < 0 ∨ 42 < lev) : empty6 l room lev = (l, 0, 1) := by
  unfold empty6
  rw [if_neg]
  intro hh
  simp only [Bool.and_eq_true, decide_eq_true_eq] at hh
  obtain ⟨⟨h1, h2⟩, h3⟩ := hh
  rcases h with h | h | h
  · rw [h] at h1; cases h1
  · omega
  · omega
theorem empty_good {l : List Nd} {room : Int} {L : Nat} (h : right6 l room = true) (hL : L ≤ 42) : empty6 l room L = (if (emptyTo l room L).2.2 = 0 then emptyTo l room L else (l, 0, (emptyTo l room L).2.2)) := by
  unfold empty6
  rw [if_pos (by rw [h, decide_eq_true (by omega), decide_eq_true (by omega)]; rfl), Int.toNat_natCast]

section
variable {w wr w' : World} {A : Option Addr} {n c : Nat} {room : Int}
end
end Go.Proofs.Ytkneecdpkdnjfaa
namespace Go.Proofs.Ytkneecdpkdnjfaa
set_option linter.unusedVariables false
set_option linter.unusedSimpArgs false
open Go.RowKit Go.Sort

theorem results_cell1 {P : Program} {fn : Func} {p : Tmp} {ty : TypeId} (h : fn.results = #[.cell p ty]) (tmps : Array Value) (w : World) (g : Nat) (t : TypeId) (cs : Array Value) (fr : Nat × Nat) (d : TypeDesc)
    (hp : tmps.getD p undef = .pointer (some ⟨g, 0, none⟩)) (hg : w.heap[g]? = some (.cells cs t fr))
    (hu : P.underlying ty = some d) (hd : (match d with | .struct _ | .array _ _ => true | _ => false) = true) (hi : (P.info? ty).map (·.size) = some cs.size) :
    (results fn tmps).run P w = .ok (.agg cs) w := by
  have hp' : tmps[p]?.getD undef = .pointer (some ⟨g, 0, none⟩) := by simpa using hp
  simp [results, h, hp', asAddr, run_loadVar_row w g t ty cs fr d hg hu hd hi]

/-- A store, as a value. -/
def StoreR (l : List Nd) (room : Int) (w : World) (e : Ending) (w' : World) : Prop :=
  ∃ v, e = .returned (.agg #[v, .int .i64 room]) ∧ ReadsN w' v l ∧ Below w.heap.size w w'
def newL (room : Int) : List Nd := if 2 ≤ room ∧ room ≤ 100000 then new6 else []
def newRoom (room : Int) : Int := if 2 ≤ room ∧ room ≤ 100000 then room else 0

end Go.Proofs.Ytkneecdpkdnjfaa
namespace Go.Proofs.Ytkneecdpkdnjfaa
set_option linter.unusedVariables false
set_option linter.unusedSimpArgs false
open Go.RowKit Go.Sort

section
variable {w wr w' : World} {A B : Option Addr} {n c m d : Nat} {room ro : Int}
end
theorem ext_nd {l m : List Nd} (h : l.length = m.length) (hq : ∀ q, q < l.length → l.getD q deadN = m.getD q deadN) : l = m := by
  refine List.ext_getElem h fun i h1 h2 => ?_
  have := hq i h1
  simpa [List.getD, h1, h2] using this

end Go.Proofs.Ytkneecdpkdnjfaa
namespace Go.Proofs.Ytkneecdpkdnjfaa
set_option linter.unusedVariables false
set_option linter.unusedSimpArgs false
open Go.RowKit Go.Sort

theorem pow_bd {y : Nat} (h : y ≤ 61) : 1 ≤ 2 ^ y ∧ 2 ^ y ≤ 2305843009213693952 := by
  have h1 := Nat.pow_le_pow_right (n := 2) (by decide) h
  have h2 : (2 : Nat) ^ 61 = 2305843009213693952 := by decide
  have h3 : 0 < 2 ^ y := Nat.pow_pos (by decide)
  omega
theorem sum_away {l : List Int} {k : Nat} (h : k < l.length) (hb : l.getD k 0 < 0 ∨ 61 < l.getD k 0) : sumL l = (0, 1) := by
  unfold sumL
  rw [if_pos]
  unfold awayB
  rw [List.any_eq_true]
  refine ⟨l.getD k 0, ?_, by simpa using hb⟩
  rw [List.getD_eq_getElem?_getD, List.getElem?_eq_getElem h]
  exact List.getElem_mem _
theorem all_in {l : List Int} (h : ∀ j, j < l.length → 0 ≤ l.getD j 0 ∧ l.getD j 0 ≤ 61) : ∀ e ∈ l, 0 ≤ e ∧ e ≤ 61 := by
  intro e he
  obtain ⟨j, hj, rfl⟩ := List.getElem_of_mem he
  have := h j hj
  rwa [List.getD_eq_getElem?_getD, List.getElem?_eq_getElem hj] at this
theorem sum_big {l : List Int} (h : ∀ j, j < l.length → 0 ≤ l.getD j 0 ∧ l.getD j 0 ≤ 61) (ht : 4611686018427387903 < total l) : sumL l = (0, 21) := by
  unfold sumL
  rw [awayB_no (all_in h), if_neg (by decide), if_pos ht]
theorem sum_fits {l : List Int} (h : ∀ j, j < l.length → 0 ≤ l.getD j 0 ∧ l.getD j 0 ≤ 61) (ht : ¬ 4611686018427387903 < total l) : sumL l = ((total l : Int), 0) := by
  unfold sumL
  rw [awayB_no (all_in h), if_neg (by decide), if_neg ht]
theorem in_to {l : List Int} {k : Nat} (hk : ∀ j, j < k → 0 ≤ l.getD j 0 ∧ l.getD j 0 ≤ 61) (hd : 0 ≤ l.getD k 0 ∧ l.getD k 0 ≤ 61) : ∀ j, j < k + 1 → 0 ≤ l.getD j 0 ∧ l.getD j 0 ≤ 61 := by
  intro j hj
  by_cases e : j = k
  · subst e; exact hd
  · exact hk j (by omega)

theorem min_step (t p : Nat) : min (min t 4611686018427387904 + p) 4611686018427387904 = min (t + p) 4611686018427387904 := by omega

def PairR (p : Int × Int) (w : World) (e : Ending) (w' : World) : Prop := e = .returned (.tuple #[.int .i64 p.1, .int .i64 p.2]) ∧ Below w.heap.size w w'

end Go.Proofs.Ytkneecdpkdnjfaa
namespace Go.Proofs.Ytkneecdpkdnjfaa
set_option linter.unusedVariables false
set_option linter.unusedSimpArgs false
open Go.RowKit Go.Sort

theorem eq_of_all {l m : List Int} (hlen : l.length = m.length) (h : ∀ j, j < l.length → l.getD j 0 = m.getD j 0) : l = m := by
  refine List.ext_getElem hlen fun j h1 h2 => ?_
  have := h j h1
  rwa [List.getD_eq_getElem?_getD, List.getD_eq_getElem?_getD, List.getElem?_eq_getElem h1, List.getElem?_eq_getElem h2] at this

theorem ints_len (A A' : Option Addr) (n m c c' : Nat) (w : World) (hne : n ≠ m) :
    Calls Try.prog 12 #[.slice A n c, .slice A' m c'] w fun e w' => e = .returned (.bool false) ∧ Below w.heap.size w w' := by
  have hz : ((n : Int) == (m : Int)) = false := beq_eq_false_iff_ne.2 (by omega)
  have hz2 : ((n : Int) != (m : Int)) = true := by rw [bne, hz]; rfl
  go_enter Try.func12, Try.ntmps12
  go_wp2
  go_ret
  exact ⟨rfl, Below.refl _ _⟩

theorem ints_same (A A' : Option Addr) (l m : List Int) (c c' : Nat) (w : World) (hR : Now w A l) (hR' : Now w A' m) (hl : l.length ≤ 1000000) (hlm : l.length = m.length) :
    Calls Try.prog 12 #[.slice A l.length c, .slice A' l.length c'] w fun e w' => e = .returned (.bool (decide (l = m))) ∧ Below w.heap.size w w' := by
  generalize hr : decide (l = m) = r
  have HR := Lib.hid hr
  have HLM := Lib.hid hlm
  clear hr hlm
  go_enter Try.func12, Try.ntmps12
  go_wp2
  go_loopw [5] (fun i wr => ∃ k : Nat, k ≤ l.length ∧ i = .int .i64 k ∧ Hid (∀ j, j < k → l.getD j 0 = m.getD j 0) ∧ Below w.heap.size w wr) (fun i _ => l.length - (intOf i).toNat)
  case atStart => exact ⟨0, Nat.zero_le _, rfl, (show Hid _ from fun j hj => absurd hj (Nat.not_lt_zero j)), Below.refl _ _⟩
  case round =>
    obtain ⟨k, hk, rfl, HK, hb⟩ := hrel
    by_cases hlt : k < l.length
    · have hltz : (k : Int) < (l.length : Int) := by omega
      obtain ⟨b, off, rfl, hbB, hcell⟩ := hR.at_ (by omega)
      obtain ⟨b2, off2, rfl, hbB2, hcell2⟩ := hR'.at_ (by have := HLM.out; omega)
      obtain ⟨x, hx⟩ : ∃ p, p = l.getD k 0 := ⟨_, rfl⟩
      obtain ⟨y, hy⟩ : ∃ p, p = m.getD k 0 := ⟨_, rfl⟩
      have a0 := hcell k hlt
      have e0 := hcell2 k (by have := HLM.out; omega)
      rw [← hx] at a0
      rw [← hy] at e0
      have k0 := Qt.cell_in (Qt.keep hb a0)
      have k2 := Qt.cell_in (Qt.keep hb e0)
      have HX := Lib.hid hx
      have HY := Lib.hid hy
      clear hx hy hcell hcell2 a0 e0
      by_cases hxy : x = y
      · subst hxy
        go_wp2
        refine Qt.below_all (by kernel_rfl) (by kernel_rfl) ?_
        repeat (go_big_quiet_step (fail))
        refine wpQuiet_nil ?_
        intro w1 hb1
        clear k0 k2
        go_wp2
        go_roundw
        case measure => simp [intOf]; omega
        case rel =>
          refine ⟨k + 1, by omega, by go_num, (show Hid _ from fun j hj => ?_), Qt.more hb hb.size hb1⟩
          by_cases hjk : j = k
          · subst hjk; rw [← HX.out, ← HY.out]
          · exact HK.out j (by omega)
      · have hne : l ≠ m := by
          intro e
          subst e
          exact hxy (HX.out.trans HY.out.symm)
        have HNE := Lib.hid hne
        clear hne
        go_wp2
        refine Qt.below_all (by kernel_rfl) (by kernel_rfl) ?_
        repeat (go_big_quiet_step (fail))
        refine wpQuiet_nil ?_
        intro w1 hb1
        clear k0 k2
        go_wp2
        go_ret
        exact ⟨by rw [← HR.out, decide_eq_false HNE.out]; rfl, Qt.more hb hb.size hb1⟩
    · have hltz : ¬ (k : Int) < (l.length : Int) := by omega
      have he : l = m := eq_of_all HLM.out fun j hj => HK.out j (by omega)
      have HE := Lib.hid he
      clear he
      go_wp2
      go_ret
      exact ⟨by rw [← HR.out, decide_eq_true HE.out]; rfl, hb⟩

theorem ints_any {A A' : Option Addr} {l m : List Int} {n n' c c' : Nat} {w : World} (hR : Now w A l) (hR' : Now w A' m) (hn : n = l.length) (hn' : n' = m.length) (hl : n ≤ 1000000) :
    Calls Try.prog 12 #[.slice A n c, .slice A' n' c'] w fun e w' => e = .returned (.bool (decide (l = m))) ∧ Below w.heap.size w w' := by
  subst hn hn'
  by_cases h : l.length = m.length
  · have := ints_same A A' l m c c' w hR hR' hl h
    rwa [← h]
  · rw [decide_eq_false fun e => h (congrArg List.length e)]
    exact ints_len A A' _ _ c c' w h
theorem ints_yes {A A' : Option Addr} {l m : List Int} {n n' c c' : Nat} {w : World} (hR : Now w A l) (hR' : Now w A' m) (hn : n = l.length) (hn' : n' = m.length) (hl : n ≤ 1000000) (he : l = m) :
    Calls Try.prog 12 #[.slice A n c, .slice A' n' c'] w fun e w' => e = .returned (.bool true) ∧ Below w.heap.size w w' := by
  have := ints_any (c := c) (c' := c') hR hR' hn hn' hl
  rwa [decide_eq_true he] at this

theorem total_bound {l : List Int} {k x : Nat} (h : k < l.length) (hx : (x : Int) = l.getD k 0) (hn : 4611686018427387903 < total (l.take k) + 2 ^ x) : 4611686018427387903 < total l := by
  have h1 := total_take_le l (k + 1)
  rw [total_take_succ h, ← hx] at h1
  simp only [Int.toNat_natCast] at h1
  omega

end Go.Proofs.Ytkneecdpkdnjfaa
namespace Go.Proofs.Ytkneecdpkdnjfaa
set_option linter.unusedVariables false
set_option linter.unusedSimpArgs false
open Go.RowKit Go.Sort

def rd5 (r : Raw5) : Nat → Int
  | 0 => r.1
  | 1 => r.2.1
  | 2 => r.2.2.1
  | 3 => r.2.2.2.1
  | _ => r.2.2.2.2
def rawV (r : Raw5) : Value := .agg #[.int .i64 r.1, .int .i64 r.2.1, .int .i64 r.2.2.1, .int .i64 r.2.2.2.1, .int .i64 r.2.2.2.2]
def Fine5 (r : Raw5) : Prop := I64 r.1 ∧ I64 r.2.1 ∧ I64 r.2.2.1 ∧ I64 r.2.2.2.1 ∧ I64 r.2.2.2.2
theorem Fine5.at_ {r : Raw5} (h : Fine5 r) : ∀ i, I64 (rd5 r i) := by
  intro i
  match i with
  | 0 => exact h.1
  | 1 => exact h.2.1
  | 2 => exact h.2.2.1
  | 3 => exact h.2.2.2.1
  | n + 4 => exact h.2.2.2.2
theorem pick6_I (c n : Int) : pick6 c n = pickI c n := rfl
/-- so many of the four -/
def kdTo (K : Kd) (n : Nat) : Kd := (if 0 < n then K.1 else 0, if 1 < n then K.2.1 else 0, if 2 < n then K.2.2.1 else 0, if 3 < n then K.2.2.2 else 0)
theorem kdTo_4 (K : Kd) : kdTo K 4 = K := rfl
theorem kids6_kd (l : List Nd) (r : Raw5) : ∀ i, i < 4 → kd (kids6 l r) i = pickOf (sameTo l (levOf l r) l.length) (rd5 r i) := by
  intro i hi
  match i, hi with
  | 0, _ => rfl
  | 1, _ => rfl
  | 2, _ => rfl
  | 3, _ => rfl
theorem kdTo_set {w : World} {g T : Nat} {K : Kd} {k : Nat} (hk : k < 4) (h : w.heap[g]? = some (.cells #[.int .i64 (kdTo K k).1, .int .i64 (kdTo K k).2.1, .int .i64 (kdTo K k).2.2.1, .int .i64 (kdTo K k).2.2.2] T (0, 0))) :
    (w.setCell ⟨g, k, none⟩ (.int .i64 (kd K k))).heap[g]? = some (.cells #[.int .i64 (kdTo K (k + 1)).1, .int .i64 (kdTo K (k + 1)).2.1, .int .i64 (kdTo K (k + 1)).2.2.1, .int .i64 (kdTo K (k + 1)).2.2.2] T (0, 0)) := by
  match k, hk with
  | 0, _ => simp [World.setCell, Array.getElem?_modify, h, kdTo, kd]
  | 1, _ => simp [World.setCell, Array.getElem?_modify, h, kdTo, kd]
  | 2, _ => simp [World.setCell, Array.getElem?_modify, h, kdTo, kd]
  | 3, _ => simp [World.setCell, Array.getElem?_modify, h, kdTo, kd]
theorem kdTo_cell {w : World} {g T : Nat} {K : Kd} {k j : Nat} (hj : j < 4) (h : w.heap[g]? = some (.cells #[.int .i64 (kdTo K k).1, .int .i64 (kdTo K k).2.1, .int .i64 (kdTo K k).2.2.1, .int .i64 (kdTo K k).2.2.2] T (0, 0))) :
    w.cell? ⟨g, j, none⟩ = some (.int .i64 (kd (kdTo K k) j)) := by
  rw [Lib.cell_of_heap h]
  match j, hj with
  | 0, _ => rfl
  | 1, _ => rfl
  | 2, _ => rfl
  | 3, _ => rfl
section
variable {w wr w' : World} {A : Option Addr} {n c : Nat} {room : Int} {r : Raw5}
end
/-- what was told -/
theorem kid_told {w wr : World} {K : Kd} (h : wr.heap[w.heap.size + 2]? = some (.cells #[.int .i64 0, .int .i64 0, .int .i64 0, .int .i64 0] 22 (0, 0))) (hb : Below w.heap.size w wr) :
    ((((wr.setCell ⟨w.heap.size + 1 + 1, 0, none⟩ (.int .i64 K.1)).setCell ⟨w.heap.size + 1 + 1, 1, none⟩ (.int .i64 K.2.1)).setCell ⟨w.heap.size + 1 + 1, 2, none⟩ (.int .i64 K.2.2.1)).setCell ⟨w.heap.size + 1 + 1, 3, none⟩ (.int .i64 K.2.2.2)).heap[w.heap.size + 1 + 1]? = some (.cells #[.int .i64 K.1, .int .i64 K.2.1, .int .i64 K.2.2.1, .int .i64 K.2.2.2] 22 (0, 0)) ∧
    Below w.heap.size w ((((wr.setCell ⟨w.heap.size + 1 + 1, 0, none⟩ (.int .i64 K.1)).setCell ⟨w.heap.size + 1 + 1, 1, none⟩ (.int .i64 K.2.1)).setCell ⟨w.heap.size + 1 + 1, 2, none⟩ (.int .i64 K.2.2.1)).setCell ⟨w.heap.size + 1 + 1, 3, none⟩ (.int .i64 K.2.2.2)) := by
  refine ⟨by simp [World.setCell, Array.getElem?_modify, h], ?_⟩
  exact (((hb.setCell (by show _ ≤ _ + 1 + 1; omega) _).setCell (by show _ ≤ _ + 1 + 1; omega) _).setCell (by show _ ≤ _ + 1 + 1; omega) _).setCell (by show _ ≤ _ + 1 + 1; omega) _

end Go.Proofs.Ytkneecdpkdnjfaa
namespace Go.Proofs.Ytkneecdpkdnjfaa.Qt
open Go Go.Sort Go.RowKit

section
variable {P : Program} {ops : Array Oper} {md : Region.Mode} {C : World → Prop}

def midEndE (md : Region.Mode) (ops : Array Oper) (s : Scr) (n : Nat) (listed : Array Bool) : Bool :=
  decide (Region.ready md ops listed = [n]) && treeB md ops s (listed.setIfInBounds n true)
def midHeadE (md : Region.Mode) (ops : Array Oper) (s : Scr) (n : Nat) : Nat → Nat → Array Bool → Bool
  | 0, _, listed => midEndE md ops s n listed
  | f + 1, k, listed => (Region.ready md ops listed).contains k && Region.free md ops listed k && midHeadE md ops s n f (k + 1) (listed.setIfInBounds k true)
def midTreeB (md : Region.Mode) (ops : Array Oper) (s : Scr) (n : Nat) : Bool :=
  Region.noSelect ops && decide (n < ops.size) && Region.sinkB md ops n && depB md ops n && midHeadE md ops s n n 0 (Array.replicate ops.size false)

theorem mid_lexE {n : Nat} {s : Scr} {Lq : Act → Prop} (hsel : Region.noSelect ops = true) (hs : Region.sinkB md ops n = true) (hc : depB md ops n = true) (hn : n < ops.size) (l : List Oper) :
    ∀ (k : Nat) (listed : Array Bool) (a : Act), (∀ j, j < l.length → l[j]? = ops[k + j]?) → k + l.length = n → HeadInv md ops n listed →
    midHeadE md ops s n l.length k listed = true → wpQuiet P ops C Lq l a →
    headAny P md ops C n (fun listed' a' => midEndE md ops s n listed' = true ∧ Lq a') l.length listed a := by
  induction l with
  | nil =>
    intro k listed a _ hk _ hB h
    exact ⟨by simpa [midHeadE] using hB, h⟩
  | cons o l ih =>
    intro k listed a hl hk inv hB h
    have h0 : ops[k]? = some o := by simpa using (hl 0 (by simp)).symm
    simp only [List.length_cons, midHeadE, Bool.and_eq_true] at hB
    have hkn : k < n := by simp only [List.length_cons] at hk; omega
    have hr' : k ∈ Region.ready md ops listed := by simpa using hB.1.1
    have hst : qOp P ops C k (wpQuiet P ops C Lq l) a := by unfold qOp; simp only [h0]; exact h
    obtain ⟨v, hy, hK⟩ := yieldsIn_of_qOp h0 hst
    refine mid_first h0 (Region.noSelect_spec hsel) hs hc hn hkn (fun listed' a' hL j hj => ?_) l.length listed a inv (Region.free_spec h0 hB.1.2) hr' hy
      (ih (k + 1) _ _ (fun j hj => by have := hl (j + 1) (by simp; omega); simpa [Nat.add_assoc, Nat.add_comm 1 j] using this) (by simp only [List.length_cons] at hk; omega) (inv.set hr' hkn) hB.2 hK)
    have h1 := hL.1
    simp only [midEndE, Bool.and_eq_true, decide_eq_true_eq] at h1
    rw [h1.1] at hj
    have : j = n := by simpa using hj
    omega

/-- One walk of the text: quiet, the call, a script. -/
theorem region_call_tree {id : Nat} {Q : Exit → Act → World → Prop} {a : Act} {w : World} {l : List Oper} (n : Nat) (s : Scr) {o : Oper} {f : FuncId} {ars : Array Operand} {ts : Array TypeId} (hm : P.follows .mixedOrders = true) (hB : midTreeB .any l.toArray s n = true)
    (hlen : s.len + (n + 1) = l.length)
    (ho : l[n]? = some o) (hg : o.guard = none) {fn : Func} (hf : P.funcs[f]? = some fn) (hnm0 : (fn.name == "runtime.NumGoroutine") = false) (hbd0 : fn.body.isNone = false) (hop : o.op = .call { callee := .value (.func f), args := ars, argTypes := ts })
    (h : wpQuiet P l.toArray (fun w' => ∃ p : Regrown, w' = grow (redrawn w p.d) p.os) (fun a' => ∀ w', Below w.heap.size w w' → Calls P f (ars.map a'.eval) w' fun e w'' => ∃ v, e = .returned v ∧
      treeW P l.toArray (fun a w => Q .normal a w) s (a'.put o.dst v) w'') (l.take n) a) : (Code.region id l.toArray true).wp P Q a w := by
  simp only [midTreeB, Bool.and_eq_true, decide_eq_true_eq] at hB
  obtain ⟨⟨⟨⟨hsel, hn⟩, hs⟩, hc⟩, hlex⟩ := hB
  have hn' : n < l.length := by simpa using hn
  have htl : (l.take n).length = n := by simp; omega
  have hsz : l.toArray.size = l.length := by simp
  have inv0 : HeadInv .any l.toArray n (Array.replicate l.toArray.size false) :=
    ⟨by simp, fun j oj _ hl => (by rw [getD_replicate_false] at hl; cases hl), fun t _ ht => getD_in (by simpa using ht) (getD_replicate_false _ _)⟩
  have ho' : l.toArray[n]? = some o := by simpa using ho
  have H := mid_lexE (P := P) (C := fun w' => ∃ p : Regrown, w' = grow (redrawn w p.d) p.os) (md := .any) hsel hs hc hn (l.take n) 0 _ a (fun j hj => by rw [htl] at hj; simp [hj]) (by simpa using htl) inv0 (by rw [htl]; exact hlex) h
  refine wp_region_any hm ?_
  have e := any_of_head (Q := Q) (g := l.toArray.size - n) (fun listed a' w' hw' hL => by
    obtain ⟨h1, h2⟩ := hL
    simp only [midEndE, Bool.and_eq_true, decide_eq_true_eq] at h1
    obtain ⟨p, hp⟩ := hw'
    rw [show l.toArray.size - n = s.len + 1 by omega]
    refine ⟨fun h0 => (by rw [h1.1] at h0; cases h0), fun i hi => ?_⟩
    rw [h1.1] at hi
    obtain rfl : i = n := by simpa using hi
    refine wpOp_call ho' hg hf hnm0 hbd0 hop ((h2 w' (hp ▸ below_regrown w p.d p.os)).mono fun e w'' ⟨v, he, hq⟩ => ⟨v, he, ?_⟩)
    have := any_tree (P := P) (md := .any) (Kf := fun a w => Q .normal a w) hsel s _ _ _ h1.2 hq
    exact any_qn (fun a w h => h) _ _ _ _ this) _ _ _ w.drew ⟨⟨w.drawn + 1, #[]⟩, by rw [grow_empty]; rfl⟩ H
  rw [htl, show n + (l.toArray.size - n) = l.toArray.size by omega] at e
  exact e
end
end Go.Proofs.Ytkneecdpkdnjfaa.Qt
