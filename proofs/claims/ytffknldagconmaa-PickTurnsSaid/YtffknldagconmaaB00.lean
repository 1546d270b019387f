/-
  Texts that the claims of this seat share, part 0.
-/
import Derived.Lib.QuietBelow
import Derived.StillTail
import Derived.BigQuiet
import Derived.KernelRfl
import Derived.Test.YtffknldagconmaaRows
import Derived.Test.YtffknldagconmaaSh
import Derived.Lib.ItoaMem
import GoSem.Op.String
import Derived.WalkKit
import Derived.WalkSpells
import Derived.WalkLawsBesides
import Derived.WalkArith
import Derived.IntWalk
import Derived.Lib.Hide
import Derived.Lib.AppendIntMem
import Derived.StillTailTactics
import Derived.LoopN
import Derived.Handy
import Derived.Deep.LoopGhost
import Derived.Lib.AppendZerosOnto
set_option linter.unusedVariables false
set_option linter.unusedSimpArgs false
namespace Go.Proofs.Ytffknldagconmaa.Qt
set_option linter.unusedVariables false
set_option linter.unusedSimpArgs false
open Go Go.Sort Go.RowKit

section
variable {P : Program} {ops : Array Oper} {md : Region.Mode} {C : World → Prop}

/-- f rounds of the head, whatever order, then L. -/
def headAny (P : Program) (md : Region.Mode) (ops : Array Oper) (C : World → Prop) (n : Nat) (L : Array Bool → Act → Prop) : Nat → Array Bool → Act → Prop
  | 0, listed, a => L listed a
  | f + 1, listed, a => Region.ready md ops listed ≠ [] ∧ ∀ i ∈ Region.ready md ops listed, i < n ∧ qOp P ops C i (headAny P md ops C n L f (listed.setIfInBounds i true)) a

theorem any_of_head {n g : Nat} {L : Array Bool → Act → Prop} {Q : Exit → Act → World → Prop} (hL : ∀ listed a w, C w → L listed a → wpAny P md ops Q g listed a w) (f : Nat) :
    ∀ listed a w, C w → headAny P md ops C n L f listed a → wpAny P md ops Q (f + g) listed a w := by
  induction f with
  | zero => intro listed a w hw h; rw [Nat.zero_add]; exact hL _ _ _ hw h
  | succ f ih =>
    intro listed a w hw h
    rw [Nat.succ_add]
    exact ⟨fun h0 => absurd h0 h.1, fun i hi => wpOp_of_qOp hw (fun a' w' hw' h' => ih _ a' w' hw' h') (h.2 i hi).2⟩

/-- What may be taken first is taken first. -/
theorem head_first {n i : Nat} {oi : Oper} {v : Value} {L : Array Bool → Act → Prop} (hi : ops[i]? = some oi) (hsel : ∀ (j : Nat) (o : Oper) cs b, ops[j]? = some o → o.op ≠ .select cs b)
    (hs : Region.sinkB md ops n = true) (hc : Region.chainB md ops n = true) (hn : n < ops.size) (hin : i < n) (hdone : ∀ listed a, L listed a → ∀ j ∈ Region.ready md ops listed, n ≤ j) (f : Nat) :
    ∀ (listed : Array Bool) (a : Act), HeadInv md ops n listed →
      (∀ j oj, ops[j]? = some oj → j ≠ i → listed.getD j true = false → (∀ e ∈ oj.after, Region.binds md e = true → e.on ≠ i) → oi.apart ops oj = true) →
      i ∈ Region.ready md ops listed → YieldsIn P ops C oi v a →
      headAny P md ops C n L f (listed.setIfInBounds i true) (a.put oi.dst v) → headAny P md ops C n L (f + 1) listed a := by
  induction f with
  | zero =>
    intro listed a inv _ hr hy H
    refine ⟨fun h => (by rw [h] at hr; cases hr), fun j hj => ?_⟩
    have hjn : j < n := Nat.lt_of_not_le fun h => tail_waits hs hc hn inv _ i rfl hin (mem_ready.1 hr).1 j h hj
    refine ⟨hjn, ?_⟩
    by_cases hji : j = i
    · subst hji; exact hy.qOp hi H
    · exact absurd (hdone _ _ H j (ready_mono hj hji)) (by omega)
  | succ f ih =>
    intro listed a inv hfree hr hy H
    have hun := (mem_ready.1 hr).1
    refine ⟨fun h => (by rw [h] at hr; cases hr), fun j hj => ?_⟩
    have hjn : j < n := Nat.lt_of_not_le fun h => tail_waits hs hc hn inv _ i rfl hin hun j h hj
    refine ⟨hjn, ?_⟩
    by_cases hji : j = i
    · subst hji; exact hy.qOp hi H
    · obtain ⟨hjun, oj, hoj, hall⟩ := mem_ready.1 hj
      have hnot : ∀ e ∈ oj.after, Region.binds md e = true → e.on ≠ i := fun e he hb heq => by
        have h1 := hall e he hb
        rw [heq, getD_both hun] at h1
        cases h1
      have hq := qOp_put hoj (hfree j oj hoj hji hjun hnot) (fun cs b => hsel i oi cs b hi) (fun cs b => hsel j oj cs b hoj) hy (H.2 j (ready_mono hj hji)).2
      refine qOp_mono (fun a' h3 => ih (listed.setIfInBounds j true) a' (inv.set hj hjn) (fun k ok hk hki hku hno => hfree k ok hk hki ?_ hno) (ready_mono hr (Ne.symm hji)) h3.1 ?_) hq
      · by_cases hjk : j = k
        · subst hjk; exact hjun
        · rwa [getD_set_ne true hjk] at hku
      · rw [Array.setIfInBounds_comm _ _ hji]; exact h3.2

theorem head_lex {n g : Nat} {Lq : Act → Prop} (hsel : Region.noSelect ops = true) (hs : Region.sinkB md ops n = true) (hc : Region.chainB md ops n = true) (hn : n < ops.size) (l : List Oper) :
    ∀ (k : Nat) (listed : Array Bool) (a : Act), (∀ j, j < l.length → l[j]? = ops[k + j]?) → k + l.length = n → HeadInv md ops n listed →
    Region.lexHead md ops g l.length k listed = true → wpQuiet P ops C Lq l a →
    headAny P md ops C n (fun listed' a' => Region.seqB md ops g n listed' = true ∧ Lq a') l.length listed a := by
  induction l with
  | nil =>
    intro k listed a _ hk _ hB h
    obtain rfl : k = n := by simpa using hk
    exact ⟨by simpa [Region.lexHead] using hB, h⟩
  | cons o l ih =>
    intro k listed a hl hk inv hB h
    have h0 : ops[k]? = some o := by simpa using (hl 0 (by simp)).symm
    simp only [List.length_cons, Region.lexHead, Bool.and_eq_true] at hB
    have hkn : k < n := by simp only [List.length_cons] at hk; omega
    have hr' : k ∈ Region.ready md ops listed := by simpa using hB.1.1
    have hst : qOp P ops C k (wpQuiet P ops C Lq l) a := by unfold qOp; simp only [h0]; exact h
    obtain ⟨v, hy, hK⟩ := yieldsIn_of_qOp h0 hst
    exact head_first h0 (Region.noSelect_spec hsel) hs hc hn hkn (fun listed' a' hL => seqB_ready hL.1) l.length listed a inv (Region.free_spec h0 hB.1.2) hr' hy
      (ih (k + 1) _ _ (fun j hj => by have := hl (j + 1) (by simp; omega); simpa [Nat.add_assoc, Nat.add_comm 1 j] using this) (by simp only [List.length_cons] at hk; omega) (inv.set hr' hkn) hB.2 hK)

theorem quiet_mono {Q Q' : Act → Prop} (hq : ∀ a, Q a → Q' a) (l : List Oper) : ∀ a, wpQuiet P ops C Q l a → wpQuiet P ops C Q' l a := by
  induction l with
  | nil => exact hq
  | cons o l ih =>
    intro a h
    unfold wpQuiet at h ⊢
    split
    · rename_i hw; rw [if_pos hw] at h; exact Oper.quiet_mono ih h
    · rename_i hw; rw [if_neg hw] at h; exact ih _ h

theorem region_tail {id : Nat} {Q : Exit → Act → World → Prop} {a : Act} {w : World} {l : List Oper} (n : Nat) (hm : P.follows .mixedOrders = true) (hB : Region.lexTailB .any l.toArray n = true) (hC : C w.drew)
    (h : wpQuiet P l.toArray C (fun a' => ∀ w', C w' → wpList P l.toArray Q (l.drop n) a' w') (l.take n) a) : (Code.region id l.toArray true).wp P Q a w := by
  simp only [Region.lexTailB, Bool.and_eq_true, decide_eq_true_eq] at hB
  obtain ⟨⟨⟨⟨hsel, hn⟩, hs⟩, hc⟩, hlex⟩ := hB
  have hn' : n < l.length := by simpa using hn
  have htl : (l.take n).length = n := by simp; omega
  have hdl : (l.drop n).length = l.toArray.size - n := by simp
  have inv0 : HeadInv .any l.toArray n (Array.replicate l.toArray.size false) :=
    ⟨by simp, fun j oj _ hl => (by rw [getD_replicate_false] at hl; cases hl), fun t _ ht => getD_in (by simpa using ht) (getD_replicate_false _ _)⟩
  have H := head_lex (P := P) (C := C) (md := .any) (g := l.toArray.size - n) hsel hs hc hn (l.take n) 0 _ a (fun j hj => by rw [htl] at hj; simp [hj]) (by simpa using htl) inv0 (by rw [htl]; exact hlex) h
  refine wp_region_any hm ?_
  have e := any_of_head (Q := Q) (g := l.toArray.size - n) (fun listed a' w' hw' hL => by
    have := wpAny_of_seq (md := .any) (Q' := Q) (l.drop n) n listed a' w' (fun j => by simp [List.getElem?_drop]) (by rw [hdl]; exact hL.1) (hL.2 w' hw')
    rwa [hdl] at this) _ _ _ w.drew hC H
  rw [htl, show n + (l.toArray.size - n) = l.toArray.size by omega] at e
  exact e

/-- .. at the class 'of what was there nothing has turned'; the tail in whatever such world. -/
theorem below_tail {id : Nat} {Q : Exit → Act → World → Prop} {a : Act} {w : World} {l : List Oper} (n : Nat) (hm : P.follows .mixedOrders = true) (hB : Region.lexTailB .any l.toArray n = true)
    (h : wpQuiet P l.toArray (fun w' => ∃ p : Regrown, w' = grow (redrawn w p.d) p.os) (fun a' => ∀ w', Below w.heap.size w w' → wpList P l.toArray Q (l.drop n) a' w') (l.take n) a) : (Code.region id l.toArray true).wp P Q a w :=
  region_tail n hm hB ⟨⟨w.drawn + 1, #[]⟩, by rw [grow_empty]; rfl⟩ (quiet_mono (fun a' h w' ⟨p, hp⟩ => h w' (hp ▸ below_regrown w p.d p.os)) _ _ h)

/-- The whole region quiet. -/
theorem below_all {id : Nat} {Q : Exit → Act → World → Prop} {a : Act} {w : World} {l : List Oper} (hm : P.follows .mixedOrders = true) (hB : Region.lexB .any l.toArray = true)
    (h : wpQuiet P l.toArray (fun w' => ∃ p : Regrown, w' = grow (redrawn w p.d) p.os) (fun a' => ∀ w', Below w.heap.size w w' → Q .normal a' w') l a) : (Code.region id l.toArray true).wp P Q a w :=
  wp_region_quiet_below hm hB (quiet_mono (fun a' h w' ⟨p, hp⟩ => h w' (hp ▸ below_regrown w p.d p.os)) _ _ h)

/-- .. one that asks for the world ahead. -/
theorem at_call' {f : FuncId} {args : Array Value} {w : World} {d : Nat} {os : Array Obj} {v : Value} (h : ∀ W, Below w.heap.size w W → Calls P f args W fun e w' => e = .returned v ∧ Below W.heap.size W w') :
    Calls P f args (grow (redrawn w d) os) fun e w'' => e = .returned v ∧ ∃ p : Regrown, w'' = grow (redrawn w p.d) p.os := Calls.regrown_of (h _ (below_regrown w d os))

/-- .. one that leaves the world alone. -/
theorem at_same {f : FuncId} {args : Array Value} {w : World} {d : Nat} {os : Array Obj} {v : Value} (h : ∀ W, Below w.heap.size w W → Calls P f args W fun e w' => e = .returned v ∧ W = w') :
    Calls P f args (grow (redrawn w d) os) fun e w'' => e = .returned v ∧ ∃ p : Regrown, w'' = grow (redrawn w p.d) p.os :=
  Calls.regrown_of ((h _ (below_regrown w d os)).mono fun _ _ ⟨he, hw⟩ => ⟨he, hw ▸ Below.refl _ _⟩)

/-- A cell that is there, in every world of the class. -/
theorem cell_in {w : World} {a : Addr} {v : Value} (h : w.cell? a = some v) : ∀ d os, (grow (redrawn w d) os).cell? a = some v := cell_regrown h
/-- a cell that is there stays, and Below adds up -/
theorem keep {w w' : World} {a : Addr} {v : Value} (hb : Below w.heap.size w w') (h : w.cell? a = some v) : w'.cell? a = some v := (hb.cell (block_lt_of_cell h)).trans h
theorem more {B : Nat} {w0 w w' : World} (h : Below B w0 w) (hB : B ≤ w.heap.size) (hb : Below w.heap.size w w') : Below B w0 w' := h.trans (hb.mono hB)

theorem ret_int {k : IntKind} {x y : Int} (h : x = y) : Ending.returned (.int k x) = .returned (.int k y) := by rw [h]
end
end Go.Proofs.Ytffknldagconmaa.Qt
namespace Go.Proofs.Ytffknldagconmaa
open Go.RowKit Go.Sort

def I64 (n : Int) : Prop := -9223372036854775808 ≤ n ∧ n ≤ 9223372036854775807

/-- The table of powers of ten, that the library's Itoa looks into. -/
def tabName : String := Rows.pickTellsRow.named.getD 0 default
def Tab (w : World) : Prop := Lib.TabIs Try.prog w tabName .u64 Lib.pow10Tab
theorem Tab.below {w w' : World} (h : Tab w) (hb : Below w.heap.size w w') : Tab w' := Lib.tabBelow_of_tabIs h w' hb

def pickI (c n : Int) : Int := if c < 0 then (-(c + 1)) % n else c % n
theorem pickI_bd (c n : Int) (hn : 1 ≤ n) : 0 ≤ pickI c n ∧ pickI c n < n := by
  unfold pickI
  split
  · exact ⟨Int.emod_nonneg _ (by omega), Int.emod_lt_of_pos _ (by omega)⟩
  · exact ⟨Int.emod_nonneg _ (by omega), Int.emod_lt_of_pos _ (by omega)⟩

/-! ### slices of numbers -/

/-- The slice at A of l.length numbers reads as l, below block B. -/
def Rd (w : World) (B : Nat) (A : Option Addr) (l : List Int) : Prop :=
  ∀ j, j < l.length → ∃ b off, A = some ⟨b, off, none⟩ ∧ b < B ∧ w.cell? ⟨b, off + j, none⟩ = some (.int .i64 (l.getD j 0))

theorem Rd.below {w w' : World} {B B' : Nat} {A : Option Addr} {l : List Int} (h : Rd w B A l) (hb : Below B' w w') (hB : B ≤ B') : Rd w' B A l := fun j hj => by
  obtain ⟨b, off, e, hlt, h0⟩ := h j hj
  exact ⟨b, off, e, hlt, (hb.cell (p := ⟨b, off + j, none⟩) (Nat.lt_of_lt_of_le hlt hB)).trans h0⟩
theorem Rd.more {w : World} {B B' : Nat} {A : Option Addr} {l : List Int} (h : Rd w B A l) (hB : B ≤ B') : Rd w B' A l := fun j hj => by
  obtain ⟨b, off, e, hlt, h0⟩ := h j hj
  exact ⟨b, off, e, by omega, h0⟩
theorem Rd.nil (w : World) (B : Nat) (A : Option Addr) : Rd w B A [] := fun j hj => absurd hj (Nat.not_lt_zero j)
theorem Rd.at_ {w : World} {B : Nat} {A : Option Addr} {l : List Int} (h : Rd w B A l) (hn : 0 < l.length) :
    ∃ b off, A = some ⟨b, off, none⟩ ∧ b < B ∧ ∀ j, j < l.length → w.cell? ⟨b, off + j, none⟩ = some (.int .i64 (l.getD j 0)) := by
  obtain ⟨b, off, e, hlt, _⟩ := h 0 hn
  refine ⟨b, off, e, hlt, fun j hj => ?_⟩
  obtain ⟨b', off', e', _, h0⟩ := h j hj
  rw [e] at e'
  injection e' with e'
  injection e' with e1 e2
  subst e1 e2
  exact h0
/-- A slice whose cells read as a list, now. -/
def Now (w : World) (A : Option Addr) (l : List Int) : Prop := Rd w w.heap.size A l
theorem Now.below {w w' : World} {A : Option Addr} {l : List Int} (h : Now w A l) (hb : Below w.heap.size w w') : Now w' A l := (Rd.below h hb (Nat.le_refl _)).more hb.size
theorem now_nil (w : World) (A : Option Addr) : Now w A [] := Rd.nil _ _ _

/-- A slice that the call itself has made. -/
abbrev Own (w : World) (B : Nat) (v : Value) (l : List Int) : Prop := w.ownsRow B 3 1 v l.length (l.map (Value.int .i64))
/-- It reads as its list. -/
def Reads (w : World) (v : Value) (l : List Int) : Prop := ∃ A c, v = .slice A l.length c ∧ l.length ≤ c ∧ Now w A l
theorem Own.reads {w : World} {B : Nat} {v : Value} {l : List Int} (h : Own w B v l) : Reads w v l := by
  rcases h.2 with ⟨rfl, h0⟩ | ⟨g, cap, cur, rfl, hb, hh, hn, hcap, hsz, htake⟩
  · have : l = [] := by simpa using h0
    subst this
    exact ⟨none, 0, rfl, Nat.le_refl _, now_nil _ _⟩
  · refine ⟨some ⟨g, 0, none⟩, cap, rfl, hn, fun j hj => ⟨g, 0, rfl, (World.ownsRow.lt h g rfl).2, ?_⟩⟩
    have := World.ownsRow.cellAt h j (by simpa using hj)
    rw [Nat.zero_add]
    rw [this]
    simp [List.getD_eq_getElem?_getD, List.getElem?_eq_getElem hj]
theorem Reads.below {w w' : World} {v : Value} {l : List Int} (h : Reads w v l) (hb : Below w.heap.size w w') : Reads w' v l := by
  obtain ⟨A, c, e, hc, hR⟩ := h
  exact ⟨A, c, e, hc, hR.below hb⟩

end Go.Proofs.Ytffknldagconmaa
namespace Go.Proofs.Ytffknldagconmaa
set_option linter.unusedVariables false
set_option linter.unusedSimpArgs false

/-! ### how many are left -/
def livI (x : Int) : Nat := if 0 < x then 1 else 0
theorem livI_le (x : Int) : livI x ≤ 1 := by unfold livI; split <;> omega
theorem livI_yes {x : Int} (h : 0 < x) : livI x = 1 := by unfold livI; rw [if_pos h]
theorem livI_no {x : Int} (h : ¬ 0 < x) : livI x = 0 := by unfold livI; rw [if_neg h]
/-- how many are left of those ahead of a place -/
def cntP (l : List Int) : Nat → Nat
  | 0 => 0
  | p + 1 => cntP l p + livI (l.getD p 0)
def manyP (l : List Int) : Nat := cntP l l.length
theorem cntP_succ (l : List Int) (p : Nat) : cntP l (p + 1) = cntP l p + livI (l.getD p 0) := rfl
theorem cntP_mono (l : List Int) {p q : Nat} (h : p ≤ q) : cntP l p ≤ cntP l q := by
  induction q with
  | zero => obtain rfl : p = 0 := by omega
            exact Nat.le_refl _
  | succ q ih =>
    by_cases hp : p = q + 1
    · subst hp; exact Nat.le_refl _
    · exact Nat.le_trans (ih (by omega)) (by rw [cntP_succ]; omega)
theorem cntP_le (l : List Int) (p : Nat) : cntP l p ≤ p := by
  induction p with
  | zero => exact Nat.le_refl _
  | succ p ih => have := livI_le (l.getD p 0); rw [cntP_succ]; omega
theorem getD_past (l : List Int) {p : Nat} (h : l.length ≤ p) : l.getD p 0 = 0 := by
  rw [List.getD_eq_getElem?_getD, List.getElem?_eq_none h]; rfl
theorem cntP_past (l : List Int) {p : Nat} (h : l.length ≤ p) : cntP l p = manyP l := by
  induction p with
  | zero => obtain h0 : l.length = 0 := by omega
            unfold manyP; rw [h0]
  | succ p ih =>
    by_cases hp : l.length = p + 1
    · unfold manyP; rw [hp]
    · rw [cntP_succ, ih (by omega), getD_past l (by omega)]; rfl
theorem cntP_many (l : List Int) (p : Nat) : cntP l p ≤ manyP l := by
  rcases Nat.le_total p l.length with h | h
  · exact cntP_mono l h
  · rw [cntP_past l h]; exact Nat.le_refl _
theorem many_le (l : List Int) : manyP l ≤ l.length := cntP_le l _
/-- the place of the one that has so many ahead of it (below a bound) -/
def kthTo (l : List Int) (r : Nat) : Nat → Nat
  | 0 => 0
  | p + 1 => if r < cntP l p + livI (l.getD p 0) ∧ cntP l p ≤ r then p else kthTo l r p
def kthP (l : List Int) (r : Nat) : Nat := kthTo l r l.length
theorem kthTo_ok (l : List Int) (r : Nat) : ∀ p, r < cntP l p → kthTo l r p < p ∧ 0 < l.getD (kthTo l r p) 0 ∧ cntP l (kthTo l r p) = r := by
  intro p
  induction p with
  | zero => intro h; exact absurd h (Nat.not_lt_zero r)
  | succ p ih =>
    intro h
    rw [cntP_succ] at h
    have hl := livI_le (l.getD p 0)
    unfold kthTo
    by_cases hc : r < cntP l p + livI (l.getD p 0) ∧ cntP l p ≤ r
    · rw [if_pos hc]
      refine ⟨by omega, ?_, by omega⟩
      by_cases h0 : 0 < l.getD p 0
      · exact h0
      · have := livI_no h0; omega
    · rw [if_neg hc]
      obtain ⟨h1, h2, h3⟩ := ih (by omega)
      exact ⟨by omega, h2, h3⟩
theorem kth_ok {l : List Int} {r : Nat} (h : r < manyP l) : kthP l r < l.length ∧ 0 < l.getD (kthP l r) 0 ∧ cntP l (kthP l r) = r := kthTo_ok l r l.length h
theorem live_lt {l : List Int} {p : Nat} (h : 0 < l.getD p 0) : p < l.length := by
  rcases Nat.lt_or_ge p l.length with h1 | h1
  · exact h1
  · rw [getD_past l h1] at h; omega
theorem live_cnt {l : List Int} {p : Nat} (h : 0 < l.getD p 0) : cntP l (p + 1) = cntP l p + 1 := by rw [cntP_succ, livI_yes h]
theorem live_many {l : List Int} {p : Nat} (h : 0 < l.getD p 0) : cntP l p < manyP l := by
  have := cntP_many l (p + 1)
  rw [live_cnt h] at this
  omega
theorem live_inj {l : List Int} {p q : Nat} (hp : 0 < l.getD p 0) (hq : 0 < l.getD q 0) (h : cntP l p = cntP l q) : p = q := by
  rcases Nat.lt_trichotomy p q with h1 | h1 | h1
  · have := cntP_mono l (show p + 1 ≤ q from h1); rw [live_cnt hp] at this; omega
  · exact h1
  · have := cntP_mono l (show q + 1 ≤ p from h1); rw [live_cnt hq] at this; omega
/-- of two places: behind, if so many are ahead -/
theorem kth_lt {l : List Int} {r p : Nat} (h : r < manyP l) : kthP l r < p ↔ r < cntP l p := by
  obtain ⟨_, h2, h3⟩ := kth_ok h
  constructor
  · intro hp
    have := cntP_mono l (show kthP l r + 1 ≤ p from hp)
    rw [live_cnt h2] at this
    omega
  · intro hp
    rcases Nat.lt_or_ge (kthP l r) p with h4 | h4
    · exact h4
    · have := cntP_mono l h4; omega
theorem cntP_set (l : List Int) (k : Nat) (x : Int) (hk : k < l.length) (p : Nat) : cntP (l.set k x) p + (if k < p then livI (l.getD k 0) else 0) = cntP l p + (if k < p then livI x else 0) := by
  induction p with
  | zero => rfl
  | succ p ih =>
    rw [cntP_succ, cntP_succ]
    by_cases h1 : k < p
    · have e : (l.set k x).getD p 0 = l.getD p 0 := by simp [List.getD_eq_getElem?_getD, List.getElem?_set, show ¬ k = p by omega]
      rw [if_pos h1] at ih
      rw [if_pos h1] at ih
      rw [if_pos (by omega), if_pos (by omega), e]
      omega
    · rw [if_neg h1, if_neg h1] at ih
      by_cases h2 : k = p
      · subst h2
        have e : (l.set k x).getD k 0 = x := by simp [List.getD_eq_getElem?_getD, List.getElem?_set, hk]
        rw [if_pos (by omega), if_pos (by omega), e]
        omega
      · have e : (l.set k x).getD p 0 = l.getD p 0 := by simp [List.getD_eq_getElem?_getD, List.getElem?_set, h2]
        rw [if_neg (by omega), if_neg (by omega), e]
        omega
/-! ### who is next -/
/-- of those that are left, the how-manieth it is -/
def rankP (picks : List Int) (step : Int) (many upto : Nat) : Nat :=
  if 0 ≤ step ∧ step < picks.length then (pickI (picks.getD step.toNat 0) many).toNat else upto % many
theorem rankP_lt (picks : List Int) (step : Int) {many : Nat} (upto : Nat) (h : 0 < many) : rankP picks step many upto < many := by
  unfold rankP
  split
  · have := pickI_bd (picks.getD step.toNat 0) many (by omega); omega
  · exact Nat.mod_lt _ h
/-- how many are left up to the last one -/
def uptoP (l : List Int) (last : Int) : Nat := cntP l (last + 1).toNat
def nextN (picks : List Int) (step : Int) (l : List Int) (last : Int) : Nat := kthP l (rankP picks step (manyP l) (uptoP l last))
def nextP (picks : List Int) (step : Int) (l : List Int) (last : Int) : Int := if manyP l = 0 then -1 else (nextN picks step l last : Int)
theorem nextN_ok (picks : List Int) (step : Int) {l : List Int} (last : Int) (h : 0 < manyP l) : nextN picks step l last < l.length ∧ 0 < l.getD (nextN picks step l last) 0 ∧ cntP l (nextN picks step l last) = rankP picks step (manyP l) (uptoP l last) :=
  kth_ok (rankP_lt _ _ _ h)
/-! ### all turns -/
/-- what is left, and who was last, behind so many turns -/
def stP (picks : List Int) (l : List Int) : Nat → List Int × Int
  | 0 => (l, -1)
  | j + 1 => ((stP picks l j).1.set (nextN picks j (stP picks l j).1 (stP picks l j).2) ((stP picks l j).1.getD (nextN picks j (stP picks l j).1 (stP picks l j).2) 0 - 1), (nextN picks j (stP picks l j).1 (stP picks l j).2 : Int))
/-- who has the turn j -/
def tnP (picks : List Int) (l : List Int) (j : Nat) : Nat := nextN picks j (stP picks l j).1 (stP picks l j).2
theorem stP_succ (picks l : List Int) (j : Nat) : stP picks l (j + 1) = ((stP picks l j).1.set (tnP picks l j) ((stP picks l j).1.getD (tnP picks l j) 0 - 1), (tnP picks l j : Int)) := rfl
/-- how many turns there are -/
def totP : List Int → Nat
  | [] => 0
  | x :: l => x.toNat + totP l
theorem totP_set : ∀ (l : List Int) (k : Nat), 0 < l.getD k 0 → totP (l.set k (l.getD k 0 - 1)) + 1 = totP l := by
  intro l
  induction l with
  | nil => intro k h; simp at h
  | cons x l ih =>
    intro k h
    cases k with
    | zero => simp only [List.getD_cons_zero, List.set_cons_zero, totP] at h ⊢; omega
    | succ k =>
      simp only [List.getD_cons_succ, List.set_cons_succ, totP] at h ⊢
      have := ih k h
      omega
theorem totP_live : ∀ (l : List Int), 0 < totP l → ∃ k, 0 < l.getD k 0 := by
  intro l
  induction l with
  | nil => intro h; simp [totP] at h
  | cons x l ih =>
    intro h
    by_cases hx : 0 < x
    · exact ⟨0, by simpa using hx⟩
    · obtain ⟨k, hk⟩ := ih (by unfold totP at h; omega)
      exact ⟨k + 1, by simpa using hk⟩
theorem totP_dead : ∀ (l : List Int), totP l = 0 → ∀ k, ¬ 0 < l.getD k 0 := by
  intro l
  induction l with
  | nil => intro _ k h; simp at h
  | cons x l ih =>
    intro h k hk
    unfold totP at h
    cases k with
    | zero => simp at hk; omega
    | succ k => exact ih (by omega) k (by simpa using hk)
theorem many_pos {l : List Int} : 0 < manyP l ↔ 0 < totP l := by
  constructor
  · intro h
    obtain ⟨_, h2, _⟩ := kth_ok (l := l) (r := 0) h
    rcases Nat.eq_zero_or_pos (totP l) with h0 | h0
    · exact absurd h2 (totP_dead l h0 _)
    · exact h0
  · intro h
    obtain ⟨k, hk⟩ := totP_live l h
    have := live_many hk
    omega
theorem stP_ok (picks l : List Int) : ∀ j, j ≤ totP l → totP (stP picks l j).1 + j = totP l ∧ (stP picks l j).1.length = l.length := by
  intro j
  induction j with
  | zero => intro _; exact ⟨rfl, rfl⟩
  | succ j ih =>
    intro h
    obtain ⟨h1, h2⟩ := ih (by omega)
    have hm : 0 < manyP (stP picks l j).1 := many_pos.2 (by omega)
    obtain ⟨_, h4, _⟩ := nextN_ok picks j (stP picks l j).2 hm
    rw [stP_succ]
    have := totP_set _ _ h4
    refine ⟨?_, by rw [List.length_set]; exact h2⟩
    show totP (List.set _ (tnP picks l j) _) + _ = _
    unfold tnP
    omega
theorem tnP_ok (picks l : List Int) {j : Nat} (h : j < totP l) : 0 < manyP (stP picks l j).1 ∧ tnP picks l j < l.length ∧ 0 < (stP picks l j).1.getD (tnP picks l j) 0 ∧ nextP picks j (stP picks l j).1 (stP picks l j).2 = (tnP picks l j : Int) := by
  obtain ⟨h1, h2⟩ := stP_ok picks l j (by omega)
  have hm : 0 < manyP (stP picks l j).1 := many_pos.2 (by omega)
  obtain ⟨h3, h4, _⟩ := nextN_ok picks j (stP picks l j).2 hm
  refine ⟨hm, by rw [← h2]; exact h3, h4, ?_⟩
  unfold nextP
  rw [if_neg (by omega)]
  rfl
theorem stP_end (picks l : List Int) : manyP (stP picks l (totP l)).1 = 0 := by
  have := (stP_ok picks l (totP l) (Nat.le_refl _)).1
  rcases Nat.eq_zero_or_pos (manyP (stP picks l (totP l)).1) with h | h
  · exact h
  · have := many_pos.1 h; omega
def turnsP (picks l : List Int) : List Int := (List.range (totP l)).map fun j => (tnP picks l j : Int)
def turnsTo (picks l : List Int) (k : Nat) : List Int := (List.range k).map fun j => (tnP picks l j : Int)
theorem turnsTo_succ (picks l : List Int) (k : Nat) : turnsTo picks l (k + 1) = turnsTo picks l k ++ [(tnP picks l k : Int)] := by unfold turnsTo; rw [List.range_succ, List.map_append]; rfl
theorem turnsTo_len (picks l : List Int) (k : Nat) : (turnsTo picks l k).length = k := by unfold turnsTo; simp
theorem turns_len (picks l : List Int) : (turnsP picks l).length = totP l := turnsTo_len picks l _
theorem turnsTo_get (picks l : List Int) {k j : Nat} (h : j < k) : (turnsTo picks l k).getD j 0 = (tnP picks l j : Int) := by
  unfold turnsTo
  rw [List.getD_eq_getElem?_getD, List.getElem?_map, List.getElem?_range h]
  rfl
theorem turns_get (picks l : List Int) {j : Nat} (h : j < totP l) : (turnsP picks l).getD j 0 = (tnP picks l j : Int) := turnsTo_get picks l h
theorem stP_bd (picks l : List Int) (m : Int) (hm : ∀ k, 0 ≤ l.getD k 0 ∧ l.getD k 0 ≤ m) : ∀ j, j ≤ totP l → ∀ k, 0 ≤ (stP picks l j).1.getD k 0 ∧ (stP picks l j).1.getD k 0 ≤ m := by
  intro j
  induction j with
  | zero => intro _; exact hm
  | succ j ih =>
    intro h k
    obtain ⟨_, h2, h3, _⟩ := tnP_ok picks l (show j < totP l by omega)
    have i := ih (by omega) k
    have hl := (stP_ok picks l j (by omega)).2
    rw [stP_succ]
    show 0 ≤ (List.set _ (tnP picks l j) _).getD k 0 ∧ (List.set _ (tnP picks l j) _).getD k 0 ≤ m
    by_cases hk : tnP picks l j = k
    · subst hk
      simp only [List.getD_eq_getElem?_getD, List.getElem?_set, if_true, show tnP picks l j < (stP picks l j).1.length by omega, Option.getD_some] at i h3 ⊢
      omega
    · simp only [List.getD_eq_getElem?_getD, List.getElem?_set, if_neg hk] at i ⊢
      exact i
end Go.Proofs.Ytffknldagconmaa
namespace Go.Proofs.Ytffknldagconmaa
set_option linter.unusedVariables false
set_option linter.unusedSimpArgs false

/-- an access: its kind, its place, what is to be there, what is to be written -/
abbrev Ac := Int × Int × Int × Int
def deadA : Ac := (0, 0, 0, 0)
end Go.Proofs.Ytffknldagconmaa
namespace Go.Proofs.Ytffknldagconmaa
set_option maxRecDepth 100000
open Go.RowKit Go.Sort

def fl (l : List Int) : List Value := l.map (Value.int .i64)
theorem length_fl (l : List Int) : (fl l).length = l.length * 1 := by simp [fl]
theorem fl_append (l m : List Int) : fl (l ++ m) = fl l ++ fl m := List.map_append
theorem fl_at {w : World} {m : List Int} {b off : Nat} (h : ∀ j, j < m.length → w.cell? ⟨b, off + j, none⟩ = some (.int .i64 (m.getD j 0))) : ∀ j u, (fl m)[j]? = some u → w.cell? ((⟨b, off, none⟩ : Addr).add j) = some u := by
  intro j u hj
  have hlt : j < m.length := by
    have := (List.getElem?_eq_some_iff.1 hj).1
    simpa [fl] using this
  have e : u = .int .i64 (m.getD j 0) := by
    simp only [fl, List.getElem?_map, List.getElem?_eq_getElem hlt, Option.map_some, Option.some.injEq] at hj
    rw [← hj, List.getD_eq_getElem?_getD, List.getElem?_eq_getElem hlt, Option.getD_some]
  rw [e]
  rw [Addr.add_lit]
  exact h j hlt
theorem fl_cell1 (m : List Int) : ∀ u ∈ fl m, u.oneCell' = true := by
  intro u hu
  obtain ⟨x, _, rfl⟩ := List.mem_map.1 hu
  rfl

theorem info_int : (Try.prog.info? 3).map (fun i => (i.zero, i.size, i.bytes)) = some (some (.int .i64 0), 1, 8) := by kernel_rfl

theorem append_none {w : World} {B : Nat} {v : Value} {out : List Int} (c : Nat) (ho : Own w B v out) :
    (Builtin.append_ #[22, 22] 22 #[v, .slice none 0 c]).run Try.prog w = .ok v w := by
  obtain ⟨i0, hi, hz0, hz1, hz2⟩ := info_parts info_int
  rcases ho.2 with ⟨rfl, _⟩ | ⟨g, cap, cur, rfl, _, _, hnc, _⟩
  · simp [Builtin.append_, run_underlying Try.underlying22, sizeOf, typeInfo, hi, Builtin.lenOf, Builtin.firstCells]
  · simp [Builtin.append_, run_underlying Try.underlying22, sizeOf, typeInfo, hi, Builtin.lenOf, Builtin.firstCells, storeCells, hnc]

theorem app_any {w : World} {B : Nat} {v : Value} {out m : List Int} {A : Option Addr} (c : Nat) (hB : B ≤ w.heap.size) (ho : Own w B v out) (hm : Now w A m) (hl : out.length + m.length ≤ 1000000) :
    ∃ v' w', (Builtin.append_ #[22, 22] 22 #[v, .slice A m.length c]).run Try.prog w = .ok v' w' ∧ Own w' B v' (out ++ m) ∧ w.grownBy w' v.ownBlock := by
  obtain ⟨i0, hi, hz0, hz1, hz2⟩ := info_parts info_int
  by_cases h0 : m.length = 0
  · have : m = [] := List.eq_nil_of_length_eq_zero h0
    subst this
    cases A with
    | none => exact ⟨v, w, append_none c ho, by rw [List.append_nil]; exact ho, ⟨rfl, rfl, rfl, Nat.le_refl _, fun _ _ _ => rfl⟩⟩
    | some a =>
      obtain ⟨v', w', hr, h2, h3, _⟩ := run_append_own (P := Try.prog) (w := w) B 22 22 3 i0 (.int .i64 0) 1 8 Try.underlying22 hi hz0 hz1 hz2 rfl (by decide) v out.length (fl out) ho a 0 c [] rfl (fun j u h => by simp at h) (fun u h => by cases h) (by unfold maxLen; omega) (by omega) hB
      exact ⟨v', w', hr, by rw [List.append_nil] at h2 ⊢; exact h2, h3⟩
  · obtain ⟨b, off, rfl, _, hcell⟩ := hm.at_ (by omega)
    obtain ⟨v', w', hr, h2, h3, _⟩ := run_append_own (P := Try.prog) (w := w) B 22 22 3 i0 (.int .i64 0) 1 8 Try.underlying22 hi hz0 hz1 hz2 rfl (by decide) v out.length (fl out) ho ⟨b, off, none⟩ m.length c (fl m) (length_fl m) (fl_at hcell) (fl_cell1 m) (by unfold maxLen; omega) (by omega) hB
    refine ⟨v', w', hr, ?_, h3⟩
    show World.ownsRow _ _ _ _ _ _ (fl (out ++ m))
    rw [fl_append, List.length_append]
    exact h2

/-- one number more, that lies in a new block -/
theorem push_any {w : World} {B : Nat} {v : Value} {out : List Int} (x : Int) (hB : B ≤ w.heap.size) (ho : Own w B v out) (hl : out.length ≤ 999999) :
    ∃ v' w', (Builtin.append_ #[22, 22] 22 #[v, .slice (some ⟨w.heap.size, 0, none⟩) 1 1]).run Try.prog (w.alloc (.cells #[.int .i64 x] 3)) = .ok v' w' ∧ Own w' B v' (out ++ [x]) ∧ Below B w w' := by
  have hm : Now (w.alloc (.cells #[.int .i64 x] 3)) (some ⟨w.heap.size, 0, none⟩) [x] := fun j hj => by
    have hj1 : j = 0 := by simp at hj; omega
    subst hj1
    exact ⟨w.heap.size, 0, rfl, by simp, by simp⟩
  have ho' : Own (w.alloc (.cells #[.int .i64 x] 3)) B v out := World.ownsRow.alloc ho _
  obtain ⟨v', w', hr, h1, h2⟩ := app_any (m := [x]) 1 (by simp; omega) ho' hm (by simp; omega)
  exact ⟨v', w', hr, h1, Below.grown ((Below.refl _ _).alloc hB _) h2 (by simp; omega) (fun k e => (World.ownsRow.lt ho' k e).1)⟩

/-! ### bit k of a number, as the two texts ask for it -/
end Go.Proofs.Ytffknldagconmaa
namespace Go.Proofs.Ytffknldagconmaa
set_option linter.unusedVariables false
set_option linter.unusedSimpArgs false
open Go.RowKit Go.Sort

theorem eq_of_all {l m : List Int} (hlen : l.length = m.length) (h : ∀ j, j < l.length → l.getD j 0 = m.getD j 0) : l = m := by
  refine List.ext_getElem hlen fun j h1 h2 => ?_
  have := h j h1
  rwa [List.getD_eq_getElem?_getD, List.getD_eq_getElem?_getD, List.getElem?_eq_getElem h1, List.getElem?_eq_getElem h2] at this

theorem ints_len (A A' : Option Addr) (n m c c' : Nat) (w : World) (hne : n ≠ m) :
    Calls Try.prog 14 #[.slice A n c, .slice A' m c'] w fun e w' => e = .returned (.bool false) ∧ Below w.heap.size w w' := by
  have hz : ((n : Int) == (m : Int)) = false := beq_eq_false_iff_ne.2 (by omega)
  have hz2 : ((n : Int) != (m : Int)) = true := by rw [bne, hz]; rfl
  go_enter Try.func14, Try.ntmps14
  go_wp2
  go_ret
  exact ⟨rfl, Below.refl _ _⟩

theorem ints_same (A A' : Option Addr) (l m : List Int) (c c' : Nat) (w : World) (hR : Now w A l) (hR' : Now w A' m) (hl : l.length ≤ 1000000) (hlm : l.length = m.length) :
    Calls Try.prog 14 #[.slice A l.length c, .slice A' l.length c'] w fun e w' => e = .returned (.bool (decide (l = m))) ∧ Below w.heap.size w w' := by
  generalize hr : decide (l = m) = r
  have HR := Lib.hid hr
  have HLM := Lib.hid hlm
  clear hr hlm
  go_enter Try.func14, Try.ntmps14
  go_wp2
  go_loopw [5] (fun i wr => ∃ k : Nat, k ≤ l.length ∧ i = .int .i64 k ∧ Hid (∀ j, j < k → l.getD j 0 = m.getD j 0) ∧ Below w.heap.size w wr) (fun i _ => l.length - (intOf i).toNat)
  case atStart => exact ⟨0, Nat.zero_le _, rfl, (show Hid _ from fun j hj => absurd hj (Nat.not_lt_zero j)), Below.refl _ _⟩
  case round =>
    obtain ⟨k, hk, rfl, HK, hb⟩ := hrel
    by_cases hlt : k < l.length
    · have hltz : (k : Int) < (l.length : Int) := by omega
      obtain ⟨b, off, rfl, hbB, hcell⟩ := hR.at_ (by omega)
      obtain ⟨b2, off2, rfl, hbB2, hcell2⟩ := hR'.at_ (by have := HLM.out; omega)
      obtain ⟨x, hx⟩ : ∃ p, p = l.getD k 0 := ⟨_, rfl⟩
      obtain ⟨y, hy⟩ : ∃ p, p = m.getD k 0 := ⟨_, rfl⟩
      have a0 := hcell k hlt
      have e0 := hcell2 k (by have := HLM.out; omega)
      rw [← hx] at a0
      rw [← hy] at e0
      have k0 := Qt.cell_in (Qt.keep hb a0)
      have k2 := Qt.cell_in (Qt.keep hb e0)
      have HX := Lib.hid hx
      have HY := Lib.hid hy
      clear hx hy hcell hcell2 a0 e0
      by_cases hxy : x = y
      · subst hxy
        go_wp2
        refine Qt.below_all (by kernel_rfl) (by kernel_rfl) ?_
        repeat (go_big_quiet_step (fail))
        refine wpQuiet_nil ?_
        intro w1 hb1
        clear k0 k2
        go_wp2
        go_roundw
        case measure => simp [intOf]; omega
        case rel =>
          refine ⟨k + 1, by omega, by go_num, (show Hid _ from fun j hj => ?_), Qt.more hb hb.size hb1⟩
          by_cases hjk : j = k
          · subst hjk; rw [← HX.out, ← HY.out]
          · exact HK.out j (by omega)
      · have hne : l ≠ m := by
          intro e
          subst e
          exact hxy (HX.out.trans HY.out.symm)
        have HNE := Lib.hid hne
        clear hne
        go_wp2
        refine Qt.below_all (by kernel_rfl) (by kernel_rfl) ?_
        repeat (go_big_quiet_step (fail))
        refine wpQuiet_nil ?_
        intro w1 hb1
        clear k0 k2
        go_wp2
        go_ret
        exact ⟨by rw [← HR.out, decide_eq_false HNE.out]; rfl, Qt.more hb hb.size hb1⟩
    · have hltz : ¬ (k : Int) < (l.length : Int) := by omega
      have he : l = m := eq_of_all HLM.out fun j hj => HK.out j (by omega)
      have HE := Lib.hid he
      clear he
      go_wp2
      go_ret
      exact ⟨by rw [← HR.out, decide_eq_true HE.out]; rfl, hb⟩

theorem ints_any {A A' : Option Addr} {l m : List Int} {n n' c c' : Nat} {w : World} (hR : Now w A l) (hR' : Now w A' m) (hn : n = l.length) (hn' : n' = m.length) (hl : n ≤ 1000000) :
    Calls Try.prog 14 #[.slice A n c, .slice A' n' c'] w fun e w' => e = .returned (.bool (decide (l = m))) ∧ Below w.heap.size w w' := by
  subst hn hn'
  by_cases h : l.length = m.length
  · have := ints_same A A' l m c c' w hR hR' hl h
    rwa [← h]
  · rw [decide_eq_false fun e => h (congrArg List.length e)]
    exact ints_len A A' _ _ c c' w h
theorem ints_yes {A A' : Option Addr} {l m : List Int} {n n' c c' : Nat} {w : World} (hR : Now w A l) (hR' : Now w A' m) (hn : n = l.length) (hn' : n' = m.length) (hl : n ≤ 1000000) (he : l = m) :
    Calls Try.prog 14 #[.slice A n c, .slice A' n' c'] w fun e w' => e = .returned (.bool true) ∧ Below w.heap.size w w' := by
  have := ints_any (c := c) (c' := c') hR hR' hn hn' hl
  rwa [decide_eq_true he] at this

end Go.Proofs.Ytffknldagconmaa
namespace Go.Proofs.Ytffknldagconmaa
set_option maxRecDepth 100000
set_option linter.unusedVariables false
set_option linter.unusedSimpArgs false
open Go.RowKit Go.Sort

theorem grown_below {w w' : World} (h : Below w.heap.size w w') (row : Option Nat) : w.grownBy w' row := ⟨h.os, h.tape, h.output, h.size, fun k hk _ => h.block k hk⟩
theorem lt_heap6' {w : World} {g : Nat} {o : Obj} (h : w.heap[g]? = some o) : g < w.heap.size := (Array.getElem?_eq_some_iff.1 h).1
theorem own_next {w w' : World} {B : Nat} {v : Value} {l : List Int} (h : Own w B v l) (hb : Below w.heap.size w w') : Own w' B v l := h.kept (grown_below hb none) (by cases v.ownBlock <;> simp)
theorem own_row {w : World} {B : Nat} {A : Option Addr} {c : Nat} {l : List Int} (h : Own w B (.slice A l.length c) l) (hl : 0 < l.length) : ∃ g, A = some ⟨g, 0, none⟩ ∧ B ≤ g ∧ g < w.heap.size ∧ (∀ j, w.frozen? ⟨g, j, none⟩ = false) ∧
    ∀ j, j < l.length → w.cell? ⟨g, j, none⟩ = some (.int .i64 (l.getD j 0)) := by
  rcases h.2 with ⟨_, h0⟩ | ⟨g, cap, cur, hv, _⟩
  · omega
  · injection hv with e1 e2 e3
    subst e1 e3
    have hlt := h.lt g rfl
    refine ⟨g, rfl, hlt.1, hlt.2, fun j => h.frozenAt j, fun j hj => ?_⟩
    rw [h.cellAt j (by omega)]
    simp [List.getD_eq_getElem?_getD, List.getElem?_eq_getElem hj]
theorem own_set {w : World} {B g c : Nat} {l : List Int} (h : Own w B (.slice (some ⟨g, 0, none⟩) l.length c) l) (j : Nat) (x : Int) :
    Own (w.setCell ⟨g, j, none⟩ (.int .i64 x)) B (.slice (some ⟨g, 0, none⟩) l.length c) (l.set j x) ∧ w.grownBy (w.setCell ⟨g, j, none⟩ (.int .i64 x)) (some g) := by
  obtain ⟨h1, h2⟩ := h.stored j (.int .i64 x)
  refine ⟨?_, h2⟩
  show World.ownsRow _ _ _ _ _ _ _
  rw [List.length_set, List.map_set]
  exact h1
end Go.Proofs.Ytffknldagconmaa
namespace Go.Proofs.Ytffknldagconmaa
set_option maxRecDepth 100000
set_option linter.unusedVariables false
set_option linter.unusedSimpArgs false
open Go.RowKit Go.Sort

theorem appW_any {w : World} {B : Nat} {v : Value} {out m : List Int} {A : Option Addr} (c : Nat) (hB : B ≤ w.heap.size) (ho : Own w B v out) (hm : Now w A m) (hl : out.length + m.length ≤ 17592186044416) :
    ∃ v' w', (Builtin.append_ #[22, 22] 22 #[v, .slice A m.length c]).run Try.prog w = .ok v' w' ∧ Own w' B v' (out ++ m) ∧ w.grownBy w' v.ownBlock := by
  obtain ⟨i0, hi, hz0, hz1, hz2⟩ := info_parts info_int
  by_cases h0 : m.length = 0
  · have : m = [] := List.eq_nil_of_length_eq_zero h0
    subst this
    cases A with
    | none => exact ⟨v, w, append_none c ho, by rw [List.append_nil]; exact ho, ⟨rfl, rfl, rfl, Nat.le_refl _, fun _ _ _ => rfl⟩⟩
    | some a =>
      obtain ⟨v', w', hr, h2, h3, _⟩ := run_append_own (P := Try.prog) (w := w) B 22 22 3 i0 (.int .i64 0) 1 8 Try.underlying22 hi hz0 hz1 hz2 rfl (by decide) v out.length (fl out) ho a 0 c [] rfl (fun j u h => by simp at h) (fun u h => by cases h) (by unfold maxLen; omega) (by omega) hB
      exact ⟨v', w', hr, by rw [List.append_nil] at h2 ⊢; exact h2, h3⟩
  · obtain ⟨b, off, rfl, _, hcell⟩ := hm.at_ (by omega)
    obtain ⟨v', w', hr, h2, h3, _⟩ := run_append_own (P := Try.prog) (w := w) B 22 22 3 i0 (.int .i64 0) 1 8 Try.underlying22 hi hz0 hz1 hz2 rfl (by decide) v out.length (fl out) ho ⟨b, off, none⟩ m.length c (fl m) (length_fl m) (fl_at hcell) (fl_cell1 m) (by unfold maxLen; omega) (by omega) hB
    refine ⟨v', w', hr, ?_, h3⟩
    show World.ownsRow _ _ _ _ _ _ (fl (out ++ m))
    rw [fl_append, List.length_append]
    exact h2
def CloneR (l : List Int) (w : World) (r : Ending) (w' : World) : Prop := ∃ v, r = .returned v ∧ Own w' w.heap.size v l ∧ Below w.heap.size w w'
theorem eql_nil10 (A : Option Addr) (n c : Nat) (w : World) : (binOp .eql 22 (.slice A n c) (.slice none 0 0)).run Try.prog w = .ok (.bool A.isNone) w := by
  have h := run_neq_slice_nil_any (P := Try.prog) w 22 3 A n c 0 0 Try.underlying22
  simp only [binOp] at h ⊢
  cases A <;> simp_all [Op.equal, Op.maxDepth, Lib.run_equalIn_slice_nil w 9999 22 3 _ n c 0 0 Try.underlying22]
theorem now_none {w : World} {l : List Int} (h : Now w none l) : l = [] := by
  cases l with
  | nil => rfl
  | cons x r => obtain ⟨b, off, e, _⟩ := h 0 (by simp); cases e
set_option maxHeartbeats 1000000 in
theorem clone_any (A : Option Addr) (l : List Int) (c : Nat) (w : World) (hR : Now w A l) (hl : l.length ≤ 17592186044416) :
    Calls Try.prog 25 #[.slice A l.length c] w (CloneR l w) := by
  have heq := eql_nil10 A l.length c
  cases A with
  | none =>
    have h0 := now_none hR
    subst h0
    go_enter Try.func25, Try.ntmps25
    simp only [List.length_nil, Option.isNone_none] at heq
    go_wp2
    go_ret
    exact ⟨_, rfl, World.ownsRow_nil _ _ _ _, Below.refl _ _⟩
  | some a =>
    have hB0 : Below w.heap.size w (w.alloc (.cells #[] 3)) := (Below.refl _ w).alloc (Nat.le_refl _) _
    have ho : Own (w.alloc (.cells #[] 3)) w.heap.size (.slice (some ⟨w.heap.size, 0, none⟩) 0 0) [] := World.ownsRow_lit (size := 1) w #[] 0 (Nat.le_refl _) (by unfold maxLen; omega) (by simp)
    obtain ⟨v', w', hrun, hown, hgr⟩ := appW_any c (by simp) ho (Now.below hR hB0) (by simp; omega)
    have HO := Lib.hid hown
    have HB : Hid (Below w.heap.size w w') := hB0.grown hgr (by simp) (fun k e => by simp [Value.ownBlock] at e; omega)
    clear hown hgr ho hB0
    simp only [Option.isNone_some] at heq
    go_enter Try.func25, Try.ntmps25
    go_wp2_with (at_builtin; refine Lib.wpList_append_run _ rfl (.tmp 5) (.tmp 6) 22 22 rfl _ _ rfl rfl _ _ hrun ?_)
    go_ret
    exact ⟨_, rfl, HO.out, HB.out⟩
theorem own_slice {w : World} {B : Nat} {v : Value} {l : List Int} (h : Own w B v l) : ∃ A c, v = .slice A l.length c ∧ l.length ≤ c ∧ Now w A l := h.reads
end Go.Proofs.Ytffknldagconmaa
namespace Go.Proofs.Ytffknldagconmaa
set_option maxRecDepth 100000
set_option linter.unusedVariables false
set_option linter.unusedSimpArgs false
open Go.RowKit Go.Sort

theorem which11_any (c n : Int) (w : World) (hc : I64 c) (hn : 1 ≤ n) (hn2 : n ≤ 9223372036854775807) :
    Calls Try.prog 11 #[.int .i64 c, .int .i64 n] w fun e w' => e = .returned (.int .i64 (pickI c n)) ∧ w = w' := by
  obtain ⟨h1, h2⟩ := hc
  generalize hr : pickI c n = r
  have HR := Lib.hid hr
  clear hr
  go_enter Try.func11, Try.ntmps11
  go_wp2
  all_goals go_ret
  all_goals refine ⟨?_, rfl⟩
  all_goals (refine Qt.ret_int ?_; rw [← HR.out]; unfold pickI)
  · rw [if_pos (by assumption), ← Int.neg_tmod, Int.tmod_eq_emod_of_nonneg (by omega)]
  · rw [if_neg (by omega)]

/-- what is left of raw numbers -/
def leftTo (raw : List Int) (k : Nat) : List Int := (raw.take k).map fun x => pickI x 8
def leftP (raw : List Int) : List Int := leftTo raw (min raw.length 10)
theorem leftTo_len (raw : List Int) {k : Nat} (h : k ≤ raw.length) : (leftTo raw k).length = k := by unfold leftTo; simp; omega
theorem leftTo_succ {raw : List Int} {k : Nat} (h : k < raw.length) : leftTo raw (k + 1) = leftTo raw k ++ [pickI (raw.getD k 0) 8] := by
  unfold leftTo
  rw [List.take_add_one, List.map_append, List.getD_eq_getElem?_getD, List.getElem?_eq_getElem h]
  rfl
theorem leftP_len (raw : List Int) : (leftP raw).length ≤ 10 := by
  unfold leftP
  rw [leftTo_len raw (by omega)]
  omega
theorem leftP_bd (raw : List Int) (k : Nat) : 0 ≤ (leftP raw).getD k 0 ∧ (leftP raw).getD k 0 ≤ 7 := by
  by_cases h : k < (leftP raw).length
  · rw [List.getD_eq_getElem?_getD, List.getElem?_eq_getElem h, Option.getD_some]
    have hm := List.getElem_mem h
    unfold leftP leftTo at hm
    obtain ⟨x, _, hx⟩ := List.mem_map.1 hm
    have := pickI_bd x 8 (by decide)
    simp only [← hx, leftP, leftTo] at this ⊢
    omega
  · rw [getD_past _ (by omega)]; decide
def OwnI (l : List Int) (w : World) (r : Ending) (w' : World) : Prop := ∃ v, r = .returned v ∧ Own w' w.heap.size v l ∧ Below w.heap.size w w'
set_option maxHeartbeats 4000000 in
theorem left11_any (A : Option Addr) (raw : List Int) (c : Nat) (w : World) (hR : Now w A raw) (hl : raw.length ≤ 9223372036854775807) (hw : ∀ j, j < raw.length → I64 (raw.getD j 0)) :
    Calls Try.prog 10 #[.slice A raw.length c] w (OwnI (leftP raw) w) := by
  have HW := Lib.hid hw
  have HR := Lib.hid hR
  clear hw hR
  go_enter Try.func10, Try.ntmps10
  go_wp2
  go_loopw [3, 4] (fun v i wr => ∃ k : Nat, k ≤ raw.length ∧ k ≤ 10 ∧ i = .int .i64 k ∧ Hid (Own wr w.heap.size v (leftTo raw k)) ∧ Below w.heap.size w wr) (fun _ i _ => 10 - (intOf i).toNat)
  case atStart => exact ⟨0, Nat.zero_le _, by omega, rfl, World.ownsRow_nil _ _ _ _, Below.refl _ _⟩
  case round =>
    obtain ⟨k, hk, hk10, rfl, HO, hb⟩ := hrel
    by_cases hlt : k < raw.length ∧ k < 10
    · obtain ⟨hlt1, hlt2⟩ := hlt
      have hltz : (k : Int) < (raw.length : Int) := by omega
      obtain ⟨b, off, rfl, hbB, hcell⟩ := Rd.at_ HR.out (by omega)
      have y0 := (hb.cell (p := ⟨b, off + k, none⟩) hbB).trans (hcell k hlt1)
      have i0 := HW.out k hlt1
      have hsu := leftTo_succ hlt1
      have hln := leftTo_len raw hk
      obtain ⟨x, hx⟩ : ∃ x, x = raw.getD k 0 := ⟨_, rfl⟩
      rw [← hx] at y0 i0 hsu
      have hp := which11_any x 8 wr i0 (by decide) (by decide)
      obtain ⟨v', w', hrun, hown, hb2⟩ := push_any (pickI x 8) hb.size HO.out (by rw [hln]; omega)
      have ho2 : Own w' w.heap.size v' (leftTo raw (k + 1)) := by rw [hsu]; exact hown
      have HO2 := Lib.hid (And.intro ho2 (hb.trans hb2))
      have HRun := Lib.hid hrun
      clear hcell hsu hln hx hrun hown hb2 ho2 HO i0 hb
      go_wp2_with fail
      refine hp.mono ?_
      rintro r w3 ⟨rfl, rfl⟩
      clear hp
      go_wp2_with (at_builtin; refine Lib.wpList_append_run _ rfl (.tmp 15) (.tmp 21) 22 22 rfl _ _ rfl rfl _ _ HRun.out ?_)
      go_roundw
      case measure => simp [intOf]; omega
      case rel => exact ⟨k + 1, by omega, by omega, by go_num, HO2.out.1, HO2.out.2⟩
    · have hmin : min raw.length 10 = k := by omega
      have hfin : leftP raw = leftTo raw k := by unfold leftP; rw [hmin]
      have HFin := Lib.hid hfin
      clear hmin hfin
      by_cases h1 : k < raw.length
      · have h2 : ¬ (k < 10) := by omega
        obtain rfl : k = 10 := by omega
        have hltz : ((10 : Nat) : Int) < (raw.length : Int) := by omega
        go_wp2
        go_ret
        exact ⟨_, rfl, by rw [HFin.out]; exact HO.out, hb⟩
      · have hltz : ¬ (k : Int) < (raw.length : Int) := by omega
        go_wp2
        go_ret
        exact ⟨_, rfl, by rw [HFin.out]; exact HO.out, hb⟩

/-! ### rankOf -/
theorem rankP_no {picks : List Int} {step : Int} {m u : Nat} (h : step < 0 ∨ (picks.length : Int) ≤ step) : rankP picks step m u = u % m := by
  unfold rankP
  rw [if_neg (by omega)]
theorem rankP_yes {picks : List Int} {s m u : Nat} (h : s < picks.length) : rankP picks (s : Int) m u = (pickI (picks.getD s 0) m).toNat := by
  unfold rankP
  rw [if_pos (by omega), Int.toNat_natCast]
theorem rankOf_any (A : Option Addr) (picks : List Int) (c : Nat) (step : Int) (m u : Nat) (w : World) (hR : Now w A picks) (hl : picks.length ≤ 9223372036854775807) (hp : ∀ j, j < picks.length → I64 (picks.getD j 0)) (hm : 1 ≤ m) (hm2 : m ≤ 1000000) (hu : u ≤ 1000000) (hs : I64 step) :
    Calls Try.prog 17 #[.slice A picks.length c, .int .i64 step, .int .i64 (m : Int), .int .i64 (u : Int)] w fun e w' => e = .returned (.int .i64 (rankP picks step m u : Int)) ∧ w = w' := by
  obtain ⟨s1, s2⟩ := hs
  by_cases h : step < 0 ∨ (picks.length : Int) ≤ step
  · rw [rankP_no h]
    have HQ : Hid ((u : Int) % (m : Int) = ((u % m : Nat) : Int)) := by show _ = _; simp
    by_cases h0 : step < 0
    · go_enter Try.func17, Try.ntmps17
      go_wp2
      go_ret
      exact ⟨Qt.ret_int (by first | exact HQ.out | rfl), rfl⟩
    · have h1 : (picks.length : Int) ≤ step := by omega
      go_enter Try.func17, Try.ntmps17
      go_wp2
      go_ret
      exact ⟨Qt.ret_int (by first | exact HQ.out | rfl), rfl⟩
  · obtain ⟨s, rfl⟩ : ∃ s : Nat, step = s := ⟨step.toNat, by omega⟩
    have hs : s < picks.length := by omega
    rw [rankP_yes hs]
    have hsz : ¬ (picks.length : Int) ≤ (s : Int) := by omega
    have hs0 : ¬ (s : Int) < 0 := by omega
    obtain ⟨b, off, rfl, hbB, hcell⟩ := Rd.at_ hR (by omega)
    have y0 := hcell s hs
    have i0 := hp s hs
    obtain ⟨x, hx⟩ : ∃ x, x = picks.getD s 0 := ⟨_, rfl⟩
    rw [← hx] at y0 i0 ⊢
    have hpb := pickI_bd x m (by omega)
    obtain ⟨i1, i2⟩ := i0
    have hr : (((pickI x m).toNat : Nat) : Int) = pickI x m := by omega
    rw [hr]
    clear hr
    generalize hrr : pickI x m = r
    have HR := Lib.hid hrr
    clear hrr hcell hR hp hpb hx
    by_cases hneg : x < 0
    · go_enter Try.func17, Try.ntmps17
      go_wp2
      go_ret
      refine ⟨?_, rfl⟩
      refine Qt.ret_int ?_
      rw [← HR.out]
      unfold pickI
      rw [if_pos (by assumption), ← Int.neg_tmod, Int.tmod_eq_emod_of_nonneg (by omega)]
    · go_enter Try.func17, Try.ntmps17
      go_wp2
      go_ret
      refine ⟨?_, rfl⟩
      refine Qt.ret_int ?_
      rw [← HR.out]
      unfold pickI
      rw [if_neg (by omega)]
/-! ### lowest, bits.Len -/
def lowN (n : Nat) : Nat := if n % 2 = 1 then 1 else if n % 4 = 2 then 2 else if n % 8 = 4 then 4 else if n % 16 = 8 then 8 else 16
theorem lowest_any (n : Nat) (w : World) (h1 : 1 ≤ n) (h2 : n ≤ 16) :
    Calls Try.prog 26 #[.int .i64 (n : Int)] w fun e w' => e = .returned (.int .i64 (lowN n : Int)) ∧ w = w' := by
  have : n = 1 ∨ n = 2 ∨ n = 3 ∨ n = 4 ∨ n = 5 ∨ n = 6 ∨ n = 7 ∨ n = 8 ∨ n = 9 ∨ n = 10 ∨ n = 11 ∨ n = 12 ∨ n = 13 ∨ n = 14 ∨ n = 15 ∨ n = 16 := by omega
  rcases this with rfl | rfl | rfl | rfl | rfl | rfl | rfl | rfl | rfl | rfl | rfl | rfl | rfl | rfl | rfl | rfl
  all_goals
    go_enter Try.func26, Try.ntmps26
    go_wp2
    go_ret
    exact ⟨Qt.ret_int (by decide), rfl⟩
def lenN (n : Nat) : Nat := if n = 0 then 0 else if n < 2 then 1 else if n < 4 then 2 else if n < 8 then 3 else 4
theorem len64_any (n : Nat) (w : World) (h2 : n ≤ 15) :
    Calls Try.prog 29 #[.int .u64 (n : Int)] w fun e w' => e = .returned (.int .i64 (lenN n : Int)) ∧ w = w' := by
  have : n = 0 ∨ n = 1 ∨ n = 2 ∨ n = 3 ∨ n = 4 ∨ n = 5 ∨ n = 6 ∨ n = 7 ∨ n = 8 ∨ n = 9 ∨ n = 10 ∨ n = 11 ∨ n = 12 ∨ n = 13 ∨ n = 14 ∨ n = 15 := by omega
  rcases this with rfl | rfl | rfl | rfl | rfl | rfl | rfl | rfl | rfl | rfl | rfl | rfl | rfl | rfl | rfl | rfl
  all_goals
    go_enter Try.func29, Try.ntmps29
    go_wp2
    go_ret
    exact ⟨Qt.ret_int (by decide +kernel), rfl⟩
theorem len_any (n : Nat) (w : World) (h2 : n ≤ 15) :
    Calls Try.prog 27 #[.int .u64 (n : Int)] w fun e w' => e = .returned (.int .i64 (lenN n : Int)) ∧ w = w' := by
  have h := fun W => len64_any n W h2
  go_enter Try.func27, Try.ntmps27
  go_wp2_with fail
  refine (h _).mono ?_
  rintro e w' ⟨rfl, rfl⟩
  go_wp2
  go_ret
  exact ⟨rfl, rfl⟩
end Go.Proofs.Ytffknldagconmaa
namespace Go.Proofs.Ytffknldagconmaa
set_option maxRecDepth 100000
set_option linter.unusedVariables false
set_option linter.unusedSimpArgs false
open Go.RowKit Go.Sort

/-- a list of numbers that came in -/
structure InL (w : World) (A : Option Addr) (l : List Int) (c : Nat) : Prop where
  now : Now w A l
  len : l.length ≤ 9223372036854775807
  fit : ∀ j, j < l.length → I64 (l.getD j 0)
theorem InL.below {w w' : World} {A : Option Addr} {l : List Int} {c : Nat} (h : InL w A l c) (hb : Below w.heap.size w w') : InL w' A l c := ⟨h.now.below hb, h.len, h.fit⟩
theorem upto_step (l : List Int) (last : Int) {k : Nat} (h : 0 < l.getD k 0) (hl : (k : Int) ≤ last) : cntP l (min (k + 1) (last + 1).toNat) = cntP l (min k (last + 1).toNat) + 1 := by
  rw [show min (k + 1) (last + 1).toNat = k + 1 by omega, show min k (last + 1).toNat = k by omega, live_cnt h]
theorem upto_same (l : List Int) (last : Int) {k : Nat} (h : ¬ 0 < l.getD k 0 ∨ last < (k : Int)) : cntP l (min (k + 1) (last + 1).toNat) = cntP l (min k (last + 1).toNat) := by
  by_cases hk : k + 1 ≤ (last + 1).toNat
  · rw [show min (k + 1) (last + 1).toNat = k + 1 by omega, show min k (last + 1).toNat = k by omega, cntP_succ]
    rcases h with h | h
    · rw [livI_no h, Nat.add_zero]
    · omega
  · rw [show min (k + 1) (last + 1).toNat = min k (last + 1).toNat by omega]
theorem upto_all (l : List Int) (last : Int) : cntP l (min l.length (last + 1).toNat) = uptoP l last := by
  unfold uptoP
  rcases Nat.le_total l.length (last + 1).toNat with h | h
  · rw [Nat.min_eq_left h, cntP_past l h]; rfl
  · rw [Nat.min_eq_right h]
set_option maxHeartbeats 8000000 in
theorem next11_any (A B : Option Addr) (picks l : List Int) (c d : Nat) (step last : Int) (w : World) (hP : InL w A picks c) (hL : InL w B l d) (hl : l.length ≤ 1000000) (hs : I64 step) (hla : I64 last) :
    Calls Try.prog 12 #[.slice A picks.length c, .int .i64 step, .slice B l.length d, .int .i64 last] w fun e w' => e = .returned (.int .i64 (nextP picks step l last)) ∧ w = w' := by
  generalize hr : nextP picks step l last = r
  have HR := Lib.hid hr
  have HP := Lib.hid hP
  have HL := Lib.hid hL
  have HS := Lib.hid hs
  obtain ⟨la1, la2⟩ := hla
  clear hr hP hL hs
  go_enter Try.func12, Try.ntmps12
  go_wp2
  go_loopw [9, 10, 17] (fun m u i wr => ∃ k : Nat, k ≤ l.length ∧ i = .int .i64 k ∧ m = .int .i64 (cntP l k : Int) ∧ u = .int .i64 (cntP l (min k (last + 1).toNat) : Int) ∧ wr = w) (fun _ _ i _ => l.length - (intOf i).toNat)
  case atStart => exact ⟨0, Nat.zero_le _, rfl, rfl, by rw [Nat.zero_min]; rfl, rfl⟩
  case round =>
    obtain ⟨k, hk, rfl, rfl, rfl, hwr⟩ := hrel
    subst hwr
    by_cases hlt : k < l.length
    · have hltz : (k : Int) < (l.length : Int) := by omega
      obtain ⟨b, off, rfl, hbB, hcell⟩ := Rd.at_ HL.out.now (by omega)
      have y0 := hcell k hlt
      have e1 := cntP_succ l k
      have e2 := @upto_step l last k
      have e3 := @upto_same l last k
      have hc1 := cntP_le l k
      have hc2 := cntP_le l (min k (last + 1).toNat)
      obtain ⟨x, hx⟩ : ∃ x, x = l.getD k 0 := ⟨_, rfl⟩
      rw [← hx] at y0 e1 e2 e3
      obtain ⟨m, hm⟩ : ∃ m, m = cntP l k := ⟨_, rfl⟩
      obtain ⟨u, hu⟩ : ∃ u, u = cntP l (min k (last + 1).toNat) := ⟨_, rfl⟩
      rw [← hm] at e1 hc1 ⊢
      rw [← hu] at e2 e3 hc2 ⊢
      have hmk : m ≤ 1000000 := by omega
      have huk : u ≤ 1000000 := by omega
      have HX := Lib.hid hx
      clear hcell hx hm hu hc1 hc2
      by_cases h0 : x < 1
      · rw [livI_no (by omega)] at e1
        have e4 := e3 (.inl (by omega))
        have HE := Lib.hid (And.intro e1 e4)
        clear e1 e2 e3 e4
        go_wp2
        go_roundw
        case measure => simp [intOf]; omega
        case rel => exact ⟨k + 1, by omega, by go_num, by rw [HE.out.1]; rfl, by rw [HE.out.2], by first | trivial | rfl⟩
      · rw [livI_yes (by omega)] at e1
        by_cases h1 : (k : Int) ≤ last
        · have e4 := e2 (by omega) h1
          have HE := Lib.hid (And.intro e1 e4)
          clear e1 e2 e3 e4
          go_wp2
          go_roundw
          case measure => simp [intOf]; omega
          case rel => exact ⟨k + 1, by omega, by go_num, by rw [HE.out.1]; go_num, by rw [HE.out.2]; go_num, by first | trivial | rfl⟩
        · have e4 := e3 (.inr (by omega))
          have HE := Lib.hid (And.intro e1 e4)
          clear e1 e2 e3 e4
          go_wp2
          go_roundw
          case measure => simp [intOf]; omega
          case rel => exact ⟨k + 1, by omega, by go_num, by rw [HE.out.1]; go_num, by rw [HE.out.2], by first | trivial | rfl⟩
    · obtain rfl : k = l.length := by omega
      have hltz : ¬ (l.length : Int) < (l.length : Int) := by omega
      rw [upto_all, show cntP l l.length = manyP l from rfl]
      have hm1 := many_le l
      have hu1 : uptoP l last ≤ 1000000 := by have := cntP_many l (last + 1).toNat; unfold uptoP; omega
      have hnx := @nextN_ok picks step l last
      have hdef : nextN picks step l last = kthP l (rankP picks step (manyP l) (uptoP l last)) := rfl
      have hro := fun W (h : InL W A picks c) (hm : 1 ≤ manyP l) => rankOf_any A picks c step (manyP l) (uptoP l last) W h.now h.len h.fit hm (by omega) hu1 HS.out
      have hrl := fun hm => rankP_lt picks step (many := manyP l) (uptoP l last) hm
      have hnp : nextP picks step l last = if manyP l = 0 then -1 else (nextN picks step l last : Int) := rfl
      rw [HR.out] at hnp
      obtain ⟨u, hu⟩ : ∃ u, u = uptoP l last := ⟨_, rfl⟩
      obtain ⟨rk, hrk⟩ : ∃ rk, rk = rankP picks step (manyP l) u := ⟨_, rfl⟩
      rw [← hu] at hu1 hro hrl hnx hdef ⊢
      rw [← hrk] at hro hrl hnx hdef
      obtain ⟨T, hT⟩ : ∃ T, T = nextN picks step l last := ⟨_, rfl⟩
      rw [← hT] at hnx hdef hnp
      have hkl := fun (p : Nat) (h : rk < manyP l) => kth_lt (l := l) (r := rk) (p := p) h
      rw [← hdef] at hkl
      by_cases hm0 : manyP l = 0
      · rw [if_pos hm0] at hnp
        subst hnp
        clear hnx hro hrl hkl
        rw [hm0]
        go_wp2
        go_ret
        exact ⟨rfl, rfl⟩
      · rw [if_neg hm0] at hnp
        have hmz : ¬ ((manyP l : Nat) : Int) = 0 := by omega
        have hmz2 : (((manyP l : Nat) : Int) == 0) = false := beq_eq_false_iff_ne.2 hmz
        obtain ⟨n1, n2, n3⟩ := hnx (by omega)
        have hro := hro wr HP.out (by omega)
        have hrl := hrl (by omega)
        have HK := Lib.hid (fun p => hkl p hrl)
        have HN := Lib.hid hnp
        have HN2 := Lib.hid (And.intro n2 n3)
        clear hkl hnp hm0 hmz hnx n2 n3 hdef hu hrk hT
        generalize hmm : manyP l = m at *
        have HM := Lib.hid hmm
        clear hmm
        go_wp2_with fail
        refine hro.mono ?_
        rintro e w' ⟨rfl, hw'⟩
        subst hw'
        clear hro hmz2
        obtain ⟨wo, rfl⟩ : ∃ wo : World, wo = wr := ⟨_, rfl⟩
        go_wp2
        go_loopw [13, 14] (fun q p wr => ∃ (k s : Nat), k ≤ T ∧ p = .int .i64 k ∧ q = .int .i64 (s : Int) ∧ Hid (s + cntP l k = rk) ∧ wr = wo) (fun _ p _ => l.length - (intOf p).toNat)
        case atStart => exact ⟨0, rk, Nat.zero_le _, rfl, rfl, (show Hid _ from Nat.add_zero _), rfl⟩
        case round =>
          obtain ⟨k, s, hkT, rfl, rfl, HC, hwr2⟩ := hrel
          subst hwr2
          have hlt : k < l.length := by omega
          have hltz : (k : Int) < (l.length : Int) := by omega
          obtain ⟨b, off, rfl, hbB, hcell⟩ := Rd.at_ HL.out.now (by omega)
          have y0 := hcell k hlt
          have e1 := cntP_succ l k
          have hki := @live_inj l k T
          have hks : k ≠ T → cntP l (k + 1) ≤ cntP l T := fun h => cntP_mono l (by omega)
          obtain ⟨n2, n3⟩ := HN2.out
          have hC := HC.out
          obtain ⟨x, hx⟩ : ∃ x, x = l.getD k 0 := ⟨_, rfl⟩
          rw [← hx] at y0 e1 hki
          have HX := Lib.hid hx
          clear hcell hx
          by_cases h0 : x < 1
          · rw [livI_no (by omega)] at e1
            have hne : k ≠ T := fun e => by have hx := HX.out; rw [e] at hx; omega
            have HE := Lib.hid (show s + cntP l (k + 1) = rk by omega)
            clear e1 hki hks n2 n3 hC
            go_wp2
            go_roundw
            case measure => simp [intOf]; omega
            case rel => exact ⟨k + 1, s, by omega, by go_num, rfl, (show Hid _ from HE.out), by first | trivial | rfl⟩
          · rw [livI_yes (by omega)] at e1
            by_cases h1 : s = 0
            · have hkT2 : k = T := hki (by omega) n2 (by omega)
              subst h1 hkT2
              have hN := HN.out
              clear e1 hki hks n2 n3 hC
              go_wp2
              go_ret
              exact ⟨by first | rfl | rw [hN], by first | trivial | rfl⟩
            · have hne : k ≠ T := fun e => by rw [e] at hC; omega
              have HE := Lib.hid (show (s - 1) + cntP l (k + 1) = rk by omega)
              have hsz : (0 : Int) < (s : Int) := by omega
              have hx2 : (0 : Int) < x := by omega
              have hsl : s ≤ 1000000 := by omega
              clear e1 hki hks n2 n3 hC
              go_wp2
              go_roundw
              case measure => simp [intOf]; omega
              case rel => exact ⟨k + 1, s - 1, by omega, by go_num, by rw [show ((s - 1 : Nat) : Int) = (s : Int) - 1 by omega], (show Hid _ from HE.out), by first | trivial | rfl⟩
end Go.Proofs.Ytffknldagconmaa
namespace Go.Proofs.Ytffknldagconmaa
set_option maxRecDepth 100000
set_option linter.unusedVariables false
set_option linter.unusedSimpArgs false
open Go.RowKit Go.Sort

/-! ### what lies in blocks q to q2 may change -/
structure St11 (q q2 : Nat) (A B : World) : Prop where
  os : B.os = A.os
  tape : B.tape = A.tape
  output : B.output = A.output
  size : A.heap.size ≤ B.heap.size
  same : ∀ k, k < A.heap.size → (k < q ∨ q2 ≤ k) → B.heap[k]? = A.heap[k]?
theorem St11.refl (q q2 : Nat) (A : World) : St11 q q2 A A := ⟨rfl, rfl, rfl, Nat.le_refl _, fun _ _ _ => rfl⟩
theorem St11.trans {q q2 : Nat} {A B C : World} (h : St11 q q2 A B) (k : St11 q q2 B C) : St11 q q2 A C :=
  ⟨k.os.trans h.os, k.tape.trans h.tape, k.output.trans h.output, Nat.le_trans h.size k.size, fun j hj hc => (k.same j (Nat.lt_of_lt_of_le hj h.size) hc).trans (h.same j hj hc)⟩
theorem St11.set {q q2 : Nat} {A B : World} (h : St11 q q2 A B) {b i : Nat} (v : Value) (h1 : q ≤ b) (h2 : b < q2) : St11 q q2 A (B.setCell ⟨b, i, none⟩ v) := by
  refine h.trans ⟨rfl, rfl, rfl, by simp, fun k hk hc => ?_⟩
  have hne : ¬ b = k := by omega
  simp [World.setCell, Array.getElem?_modify, hne]
theorem St11.below {q q2 : Nat} {A B : World} (h : St11 q q2 A B) (hq : q ≤ A.heap.size) : Below q A B := ⟨h.os, h.tape, h.output, h.size, fun k hk => h.same k (by omega) (.inl hk)⟩
theorem st_below {q q2 : Nat} {A B : World} (h : Below A.heap.size A B) : St11 q q2 A B := ⟨h.os, h.tape, h.output, h.size, fun k hk _ => h.block k hk⟩

/-- a list told place by place -/
def rowF (n : Nat) (f : Nat → Int) : List Int := (List.range n).map f
theorem rowF_len (n : Nat) (f : Nat → Int) : (rowF n f).length = n := by unfold rowF; simp
theorem rowF_get {n i : Nat} (f : Nat → Int) (h : i < n) : (rowF n f).getD i 0 = f i := by
  unfold rowF
  rw [List.getD_eq_getElem?_getD, List.getElem?_map, List.getElem?_range h]
  rfl
theorem rowF_congr {n : Nat} {f g : Nat → Int} (h : ∀ i, i < n → f i = g i) : rowF n f = rowF n g := by
  unfold rowF
  exact List.map_congr_left fun i hi => h i (List.mem_range.1 hi)
theorem rowF_set (n i : Nat) (f : Nat → Int) (x : Int) : (rowF n f).set i x = rowF n (fun k => if k = i then x else f k) := by
  refine List.ext_getElem? fun k => ?_
  rw [List.getElem?_set]
  unfold rowF
  by_cases hk : k < n
  · rw [List.getElem?_map, List.getElem?_map, List.getElem?_range hk]
    by_cases hik : i = k
    · subst hik
      simp [hk]
    · have : ¬ k = i := fun e => hik e.symm
      simp [hik, this]
  · rw [List.getElem?_eq_none (by simp; omega), List.getElem?_eq_none (by simp; omega)]
    split <;> simp; omega
/-! ### the tree of counts -/
theorem lowN_bd {n : Nat} (h : 1 ≤ n) : 1 ≤ lowN n ∧ lowN n ≤ n := by
  unfold lowN
  repeat' split
  all_goals omega
theorem low_pow {p z : Nat} (hz : z = 1 ∨ z = 2 ∨ z = 4 ∨ z = 8) (hp : p % (2 * z) = 0) : lowN (p + z) = z := by
  unfold lowN
  rcases hz with rfl | rfl | rfl | rfl
  all_goals repeat' split
  all_goals omega
/-- how many are left of those that a place of the tree tells of -/
def fenA (l : List Int) (n : Nat) : Int := (cntP l n : Int) - (cntP l (n - lowN n) : Int)
theorem fenA_bd (l : List Int) (n : Nat) : 0 ≤ fenA l n ∧ fenA l n ≤ n := by
  have h1 := cntP_mono l (show n - lowN n ≤ n by omega)
  have h2 := cntP_le l n
  unfold fenA
  omega
def fenL (l : List Int) : List Int := rowF (l.length + 1) (fenA l)
theorem fenL_len (l : List Int) : (fenL l).length = l.length + 1 := rowF_len _ _
theorem fenL_get (l : List Int) {n : Nat} (h : n ≤ l.length) : (fenL l).getD n 0 = fenA l n := rowF_get _ (by omega)
theorem path_fin : ∀ (k : Fin 11) (n : Fin 12), (n.1 - lowN n.1 ≤ k.1 ∧ k.1 < n.1) → (∀ m : Fin 12, n.1 < m.1 → m.1 < n.1 + lowN n.1 → ¬ (m.1 - lowN m.1 ≤ k.1 ∧ k.1 < m.1)) ∧ (n.1 + lowN n.1 < 12 → (n.1 + lowN n.1) - lowN (n.1 + lowN n.1) ≤ k.1) := by decide +kernel
theorem path_next {k n : Nat} (hk : k < 11) (hn : n < 12) (h : n - lowN n ≤ k ∧ k < n) : (∀ m, m < 12 → n < m → m < n + lowN n → ¬ (m - lowN m ≤ k ∧ k < m)) ∧ (n + lowN n < 12 → (n + lowN n) - lowN (n + lowN n) ≤ k) := by
  have := path_fin ⟨k, hk⟩ ⟨n, hn⟩ h
  exact ⟨fun m hm => this.1 ⟨m, hm⟩, this.2⟩

theorem own_keeps {w w' : World} {B : Nat} {v : Value} {l : List Int} (h : Own w B v l) (hk : ∀ g, v.ownBlock = some g → w'.heap[g]? = w.heap[g]?) : Own w' B v l := by
  refine ⟨h.1, ?_⟩
  rcases h.2 with h0 | ⟨g, cap, cur, hv, hb, hh, rest⟩
  · exact .inl h0
  · exact .inr ⟨g, cap, cur, hv, hb, (hk g (by rw [hv]; rfl)).trans hh, rest⟩
/-- a crew in its blocks -/
structure Crew (W : World) (q q2 C : Nat) (AS : Option Addr) (cS D : Nat) (l : List Int) : Prop where
  box : W.heap[C]? = some (.cells #[.slice AS l.length cS, .slice (some ⟨D, 0, none⟩) (l.length + 1) (l.length + 1), .int .i64 (manyP l : Int)] 43 (0, 0))
  steps : Own W q (.slice AS l.length cS) l
  counts : Own W q (.slice (some ⟨D, 0, none⟩) (l.length + 1) (l.length + 1)) (fenL l)
  cb : q ≤ C ∧ C < q2
  db : D < q2 ∧ D ≠ C
  sb : ∀ a, AS = some a → a.block < q2 ∧ a.block ≠ C ∧ a.block ≠ D
section
variable {W W' : World} {q q2 C : Nat} {AS : Option Addr} {cS D : Nat} {l : List Int}
theorem Crew.keeps (h : Crew W q q2 C AS cS D l) (hk : ∀ k, q ≤ k → k < q2 → W'.heap[k]? = W.heap[k]?) : Crew W' q q2 C AS cS D l := by
  refine ⟨(hk C h.cb.1 h.cb.2).trans h.box, own_keeps h.steps fun g hg => hk g (World.ownsRow.lt h.steps g hg).1 ?_, own_keeps h.counts fun g hg => hk g (World.ownsRow.lt h.counts g hg).1 ?_, h.cb, h.db, h.sb⟩
  · cases AS with
    | none => cases hg
    | some a => have := h.sb a rfl; simp [Value.ownBlock] at hg; omega
  · have := h.db; simp [Value.ownBlock] at hg; omega
theorem Crew.below (h : Crew W q q2 C AS cS D l) (hb : Below W.heap.size W W') : Crew W' q q2 C AS cS D l :=
  ⟨(hb.block C (lt_heap6' h.box)).trans h.box, own_next h.steps hb, own_next h.counts hb, h.cb, h.db, h.sb⟩
theorem Crew.c0 (h : Crew W q q2 C AS cS D l) : W.cell? ⟨C, 0, none⟩ = some (.slice AS l.length cS) := by rw [Lib.cell_of_heap h.box]; rfl
theorem Crew.c1 (h : Crew W q q2 C AS cS D l) : W.cell? ⟨C, 1, none⟩ = some (.slice (some ⟨D, 0, none⟩) (l.length + 1) (l.length + 1)) := by rw [Lib.cell_of_heap h.box]; rfl
theorem Crew.c2 (h : Crew W q q2 C AS cS D l) : W.cell? ⟨C, 2, none⟩ = some (.int .i64 (manyP l : Int)) := by rw [Lib.cell_of_heap h.box]; rfl
theorem Crew.cf (h : Crew W q q2 C AS cS D l) (i : Nat) : W.frozen? ⟨C, i, none⟩ = false := Lib.frozen_of_heap h.box i
theorem Crew.cnt (h : Crew W q q2 C AS cS D l) : ∀ n, n ≤ l.length → W.cell? ⟨D, n, none⟩ = some (.int .i64 (fenA l n)) := fun n hn => by
  have hc := h.counts
  rw [← fenL_len l] at hc
  obtain ⟨g, hg, _, _, _, hcell⟩ := own_row hc (by rw [fenL_len]; omega)
  have : g = D := by injection hg with e; injection e with e; exact e.symm
  subst this
  have := hcell n (by rw [fenL_len]; omega)
  rw [fenL_get l hn] at this
  exact this
end
theorem upto_any (W : World) (q q2 C : Nat) (AS : Option Addr) (cS D : Nat) (l : List Int) (last : Int) (h : Crew W q q2 C AS cS D l) (hl : l.length ≤ 11) (h1 : -1 ≤ last) (h2 : last < l.length) :
    Calls Try.prog 23 #[.pointer (some ⟨C, 0, none⟩), .int .i64 last] W fun e w' => e = .returned (.int .i64 (uptoP l last : Int)) ∧ W = w' := by
  obtain ⟨u, hu⟩ : ∃ u : Nat, last + 1 = u := ⟨(last + 1).toNat, by omega⟩
  have hup : uptoP l last = cntP l u := by unfold uptoP; rw [hu, Int.toNat_natCast]
  rw [hup]
  have hul : u ≤ l.length := by omega
  have hub := cntP_le l u
  obtain ⟨t, ht⟩ : ∃ t, t = cntP l u := ⟨_, rfl⟩
  rw [← ht] at hub ⊢
  have HT := Lib.hid ht
  have HC := Lib.hid h
  obtain rfl : last = (u : Int) - 1 := by omega
  have HU : (u : Int) - 1 + 1 = (u : Int) := by omega
  clear h hup ht hu
  go_enter Try.func23, Try.ntmps23
  go_wp2
  go_loopw [5, 6] (fun s n wr => ∃ (a b : Nat), b ≤ l.length ∧ a ≤ 11 ∧ s = .int .i64 (a : Int) ∧ n = .int .i64 (b : Int) ∧ Hid (a + cntP l b = t) ∧ wr = W) (fun _ n _ => (intOf n).toNat)
  case atStart => exact ⟨0, u, hul, by omega, rfl, by first | rfl | (rw [HU]), (show Hid _ from by show _ = _; rw [HT.out, Nat.zero_add]), rfl⟩
  case round =>
    obtain ⟨a, b, hb, ha, rfl, rfl, HA, hwr⟩ := hrel
    subst hwr
    by_cases hb0 : b = 0
    · subst hb0
      have hA := HA.out
      rw [show cntP l 0 = 0 from rfl, Nat.add_zero] at hA
      subst hA
      go_wp2
      go_ret
      exact ⟨rfl, by first | trivial | rfl⟩
    · have hbz : (0 : Int) < (b : Int) := by omega
      have y0 := HC.out.c1
      have y1 := HC.out.cnt b hb
      have hlo := lowest_any b wr (by omega) (by omega)
      obtain ⟨k1, k2⟩ := lowN_bd (n := b) (by omega)
      have hf : fenA l b = (cntP l b : Int) - (cntP l (b - lowN b) : Int) := rfl
      have hfb := fenA_bd l b
      have hcb := cntP_le l b
      have hmo := cntP_mono l (show b - lowN b ≤ b by omega)
      have hA := HA.out
      obtain ⟨z, hz⟩ : ∃ z, z = lowN b := ⟨_, rfl⟩
      rw [← hz] at hlo k1 k2 hf hmo
      obtain ⟨y, hy⟩ : ∃ y : Nat, fenA l b = y := ⟨(fenA l b).toNat, by omega⟩
      rw [hy] at y1 hf hfb
      have HE := Lib.hid (show (a + y) + cntP l (b - z) = t by omega)
      have hay : a + y ≤ 11 := by omega
      have hbl : (b : Int) < (l.length : Int) + 1 := by omega
      clear hz hf hfb hcb hmo hA hy
      go_wp2_with fail
      refine hlo.mono ?_
      rintro e w' ⟨rfl, hw'⟩
      subst hw'
      clear hlo
      go_wp2
      go_roundw
      case measure => simp [intOf]; omega
      case rel => exact ⟨a + y, b - z, by omega, hay, by go_num, by rw [show ((b - z : Nat) : Int) = (b : Int) - (z : Int) by omega], (show Hid _ from HE.out), by first | trivial | rfl⟩
/-- where the search is -/
structure AtP (l : List Int) (r T p z q : Nat) : Prop where
  zs : z = 0 ∨ z = 1 ∨ z = 2 ∨ z = 4 ∨ z = 8 ∨ z = 16
  sum : q + cntP l p = r
  le : p ≤ T
  fin : z = 0 → p = T
  lt : 0 < z → T < p + 2 * z ∧ p % (2 * z) = 0
theorem len_size {n : Nat} (h : n ≤ 11) : (2 ^ lenN n = 1 ∨ 2 ^ lenN n = 2 ∨ 2 ^ lenN n = 4 ∨ 2 ^ lenN n = 8 ∨ 2 ^ lenN n = 16) ∧ n < 2 * 2 ^ lenN n ∧ lenN n ≤ 4 := by
  have : n = 0 ∨ n = 1 ∨ n = 2 ∨ n = 3 ∨ n = 4 ∨ n = 5 ∨ n = 6 ∨ n = 7 ∨ n = 8 ∨ n = 9 ∨ n = 10 ∨ n = 11 := by omega
  rcases this with rfl | rfl | rfl | rfl | rfl | rfl | rfl | rfl | rfl | rfl | rfl | rfl
  all_goals decide
/-- on to the half -/
theorem AtP.half {l : List Int} {r T p z q p2 q2 : Nat} (h : AtP l r T p z q) (hz : 0 < z) (hs : q2 + cntP l p2 = r) (hle : p2 ≤ T) (hc : (p2 = p ∧ T < p + z) ∨ p2 = p + z) : AtP l r T p2 (z / 2) q2 := by
  obtain ⟨h1, h2⟩ := h.lt hz
  have h3 := h.zs
  refine ⟨by omega, hs, hle, fun h0 => by omega, fun h0 => ⟨by omega, ?_⟩⟩
  have h4 : z = 2 ∨ z = 4 ∨ z = 8 ∨ z = 16 := by omega
  rcases h4 with rfl | rfl | rfl | rfl <;> omega
set_option maxHeartbeats 4000000 in
theorem at_any (W : World) (q q2 C : Nat) (AS : Option Addr) (cS D : Nat) (l : List Int) (r : Nat) (h : Crew W q q2 C AS cS D l) (hl : l.length ≤ 11) (hr : r < manyP l) :
    Calls Try.prog 22 #[.pointer (some ⟨C, 0, none⟩), .int .i64 (r : Int)] W fun e w' => e = .returned (.int .i64 (kthP l r : Int)) ∧ Below W.heap.size W w' := by
  obtain ⟨k1, k2, k3⟩ := kth_ok hr
  have hkl := fun p => kth_lt (l := l) (p := p) hr
  obtain ⟨T, hT⟩ : ∃ T, T = kthP l r := ⟨_, rfl⟩
  rw [← hT] at k1 k2 k3 hkl ⊢
  have hrm := many_le l
  have HK := Lib.hid hkl
  have HC := Lib.hid h
  have hlen := fun W => len_any l.length W (by omega)
  obtain ⟨z1, z2, z3⟩ := len_size hl
  have c0 := h.c0
  have hr11 : r ≤ 11 := by omega
  have hsh : ((1 : Int) * 2 ^ lenN l.length : Int) = ((2 ^ lenN l.length : Nat) : Int) := by simp
  obtain ⟨e0, he0⟩ : ∃ e0, e0 = lenN l.length := ⟨_, rfl⟩
  rw [← he0] at hlen z1 z2 z3 hsh
  rw [Int.one_mul] at hsh
  obtain ⟨z0, hz0⟩ : ∃ z0 : Nat, z0 = 2 ^ e0 := ⟨_, rfl⟩
  rw [← hz0] at hsh z1 z2
  have HS : Hid (AtP l r T 0 z0 r) := ⟨by omega, rfl, Nat.zero_le _, fun h => by omega, fun _ => ⟨by omega, Nat.zero_mod _⟩⟩
  have HH := Lib.hid hsh
  clear h hkl hT k2 k3 he0 hr hsh hz0
  go_enter Try.func22, Try.ntmps22
  go_wp2_with fail
  refine (hlen _).mono ?_
  rintro e w' ⟨rfl, hw'⟩
  subst hw'
  clear hlen c0 z1 z2
  go_wp2_with fail
  rw [HH.out]
  go_loopw [1, 5, 6] (fun x y s wr => ∃ (p z f : Nat), x = .int .i64 (f : Int) ∧ y = .int .i64 (p : Int) ∧ s = .int .i64 (z : Int) ∧ Hid (AtP l r T p z f) ∧ Below W.heap.size W wr) (fun _ _ s _ => (intOf s).toNat)
  case atStart => exact ⟨0, z0, r, rfl, rfl, by rw [show wrap64 (z0 : Int) = z0 by have := HS.out.zs; unfold wrap64; omega], HS.out, Below.refl _ _⟩
  case round =>
    obtain ⟨p, z, f, rfl, rfl, rfl, HA, hb⟩ := hrel
    have hA := HA.out
    have hAz := hA.zs
    have hAs := hA.sum
    have hAl := hA.le
    by_cases hz : z = 0
    · have hpT := hA.fin hz
      subst hz
      clear hA hAz hAs hAl
      rw [hpT]
      go_wp2
      go_ret
      exact ⟨by first | rfl | (rw [hpT]; rfl), hb⟩
    · have hzz : (0 : Int) < (z : Int) := by omega
      obtain ⟨a1, a2⟩ := hA.lt (by omega)
      have hz16 : z ≤ 16 := by omega
      have hp11 : p ≤ 11 := by omega
      have hf11 : f ≤ 11 := by omega
      have HC2 := HC.out.below hb
      have y0 := HC2.c1
      have hh2 : (z : Int) / 2 = ((z / 2 : Nat) : Int) := by omega
      have HH2 := Lib.hid hh2
      clear hh2
      by_cases hn : p + z ≤ l.length
      · have hnz : ((p : Int) + (z : Int)) < (l.length : Int) + 1 := by omega
        have y1 := HC2.cnt (p + z) hn
        have hlow := low_pow (show z = 1 ∨ z = 2 ∨ z = 4 ∨ z = 8 by omega) a2
        have hfen : fenA l (p + z) = (cntP l (p + z) : Int) - (cntP l p : Int) := by
          unfold fenA
          rw [hlow, show p + z - z = p by omega]
        have hfb := fenA_bd l (p + z)
        obtain ⟨y, hy⟩ : ∃ y : Nat, fenA l (p + z) = y := ⟨(fenA l (p + z)).toNat, by omega⟩
        rw [hy] at y1 hfen hfb
        have hk := HK.out (p + z)
        by_cases hyf : y ≤ f
        · have HN := Lib.hid (hA.half (by omega) (p2 := p + z) (q2 := f - y) (by omega) (by omega) (.inr rfl))
          have hyz : (y : Int) ≤ (f : Int) := by omega
          clear hA hAz hAs hAl hlow hfen hfb hk hy a1 a2 HC2
          go_wp2_with fail
          have q0 := Qt.cell_in y0
          have q1 := Qt.cell_in y1
          have s1 : IntKind.i64.wrap ((f : Int) - (y : Int)) = (f : Int) - (y : Int) := by rw [IntKind.wrap_i64]; omega
          refine Qt.below_all (by kernel_rfl) (by kernel_rfl) ?_
          repeat (go_big_quiet_step (fail))
          refine wpQuiet_nil ?_
          intro w2 hb2
          have hb3 := Qt.more hb hb.size hb2
          clear q0 q1 y0 y1 s1
          go_wp2_with fail
          go_roundw
          case measure => simp [intOf]; omega
          case rel => exact ⟨p + z, z / 2, f - y, by rw [show ((f - y : Nat) : Int) = (f : Int) - (y : Int) by omega], by go_num, by rw [HH2.out], (show Hid _ from HN.out), hb3⟩
        · have HN := Lib.hid (hA.half (by omega) (p2 := p) (q2 := f) (by omega) (by omega) (.inl ⟨rfl, by omega⟩))
          have hyz : ¬ (y : Int) ≤ (f : Int) := by omega
          clear hA hAz hAs hAl hlow hfen hfb hk hy a1 a2 HC2
          go_wp2_with fail
          go_roundw
          case measure => simp [intOf]; omega
          case rel => exact ⟨p, z / 2, f, rfl, rfl, by rw [HH2.out], (show Hid _ from HN.out), hb⟩
      · have hnz : ¬ ((p : Int) + (z : Int)) < (l.length : Int) + 1 := by omega
        have HN := Lib.hid (hA.half (by omega) (p2 := p) (q2 := f) (by omega) (by omega) (.inl ⟨rfl, by omega⟩))
        clear hA hAz hAs hAl a1 a2 HC2
        go_wp2_with fail
        go_roundw
        case measure => simp [intOf]; omega
        case rel => exact ⟨p, z / 2, f, rfl, rfl, by rw [HH2.out], (show Hid _ from HN.out), hb⟩
end Go.Proofs.Ytffknldagconmaa
