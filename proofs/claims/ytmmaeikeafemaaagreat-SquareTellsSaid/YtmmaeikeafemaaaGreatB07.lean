/-
  Texts that the claims of this seat share, part 7.
-/
import Derived.Test.YtmmaeikeafemaaaGreatB00
import Derived.Test.YtmmaeikeafemaaaGreatB02
import Derived.Test.YtmmaeikeafemaaaGreatB06
set_option linter.unusedVariables false
set_option linter.unusedSimpArgs false
namespace Go.Proofs.YtmmaeikeafemaaaGreat
set_option maxRecDepth 100000
set_option linter.unusedVariables false
set_option linter.unusedSimpArgs false

theorem emptyTo_right7 {l : List Nd} {room : Int} (h : Right6 l room) : ∀ j, Right6 (emptyTo l room j).1 room
  | 0 => h
  | j + 1 => by
    have ih := emptyTo_right7 h j
    unfold emptyTo
    split
    · exact put_right ih _
    · exact ih
theorem build_right {room : Int} : ∀ (k : Nat) (l : List Nd) (S : List (Int × Int)), Right6 l room → Right6 (buildC room k l S).1 room
  | 0, l, S, h => by
    unfold buildC
    split <;> exact h
  | k + 1, l, S, h => by
    unfold buildC
    split
    · exact emptyTo_right7 h _
    · exact four_right (fun i l' _ h' => build_right k l' _ h') h
/-! ### a cell is set -/
def setC (room : Int) : Nat → List Nd → Nat → Int × Int → Bool → List Nd × Int × Int
  | 0, l, _, _, a => (l, if a = true then 1 else 0, 0)
  | k + 1, l, n, c, a => if (setC room k l (kidN l n (q7 k c)) c a).2.2 = 0 then put6 (setC room k l (kidN l n (q7 k c)) c a).1 room (kset (l.getD n deadN).2.1 (q7 k c) (setC room k l (kidN l n (q7 k c)) c a).2.1) else ((setC room k l (kidN l n (q7 k c)) c a).1, 0, (setC room k l (kidN l n (q7 k c)) c a).2.2)
theorem setC_right {room : Int} : ∀ (k : Nat) (l : List Nd) (n : Nat) (c : Int × Int) (a : Bool), Right6 l room → Right6 (setC room k l n c a).1 room
  | 0, _, _, _, _, h => h
  | k + 1, l, n, c, a, h => by
    have ih := setC_right k l (kidN l n (q7 k c)) c a h
    unfold setC
    split
    · exact put_right ih _
    · exact ih
theorem kset_lev {l : List Nd} {room : Int} {k n : Nat} (hr : Right6 l room) (h : Is l (k + 1) n) {m : List Nd} (g : Grows l m) {i p : Nat} (hi : i < 4) (hp : Is m k p) (hk : k + 1 ≤ 42) : Fit4 m (kset (l.getD n deadN).2.1 i (p : Int)) := by
  have hall : ∀ j, j < 4 → ∃ q : Nat, kd (kset (l.getD n deadN).2.1 i (p : Int)) j = (q : Int) ∧ Is m k q := by
    intro j hj
    rw [kd_kset _ _ hi hj]
    by_cases hji : j = i
    · rw [if_pos hji]; exact ⟨p, rfl, hp⟩
    · rw [if_neg hji]; exact ⟨kidN l n j, kid_cast hr h hj, (kid_is hr h hj).grows g⟩
  obtain ⟨q0, e0, i0⟩ := hall 0 (by decide)
  have e0' : (kset (l.getD n deadN).2.1 i (p : Int)).1 = (q0 : Int) := e0
  have hl0 : (ndAt m (kset (l.getD n deadN).2.1 i (p : Int)).1).1 = (k : Int) := by rw [e0', ndAt_nat]; exact i0.lev
  refine ⟨fun j hj => ?_, by omega⟩
  obtain ⟨q, e, iq⟩ := hall j hj
  rw [e, hl0]
  exact ⟨by omega, by have := iq.lt; omega, by rw [ndAt_nat]; exact iq.lev⟩
/-- a node with a cell, or without it -/
theorem set_ok {room : Int} : ∀ (k : Nat) (l : List Nd) (n : Nat) (c : Int × Int) (a : Bool), k ≤ 42 → Right6 l room → Is l k n → ((l.length + k : Nat) : Int) ≤ room →
    ∃ m p : _, ∃ p' : Nat, p = (p' : Int) ∧ setC room k l n c a = (m, p, 0) ∧ Grows l m ∧ Right6 m room ∧ Is m k p' ∧ m.length ≤ l.length + k ∧ ∀ d, alive m k p' d = if agreeB k c d = true then a else alive l k n d
  | 0, l, n, c, a, hk, hr, hn, hroom => by
    cases a with
    | true => exact ⟨l, 1, 1, rfl, rfl, Grows.refl l, hr, ⟨by have := hr.two; omega, by rw [hr.live]; rfl⟩, by omega, fun d => rfl⟩
    | false => exact ⟨l, 0, 0, rfl, rfl, Grows.refl l, hr, ⟨by have := hr.two; omega, by rw [hr.dead]; rfl⟩, by omega, fun d => rfl⟩
  | k + 1, l, n, c, a, hk, hr, hn, hroom => by
    have hq := q7_lt k c
    obtain ⟨m, p, p', rfl, e, g, r, is, len, al⟩ := set_ok k l (kidN l n (q7 k c)) c a (by omega) hr (kid_is hr hn hq) (by omega)
    have hfit := kset_lev hr hn g hq is hk
    have e2 : setC room (k + 1) l n c a = put6 m room (kset (l.getD n deadN).2.1 (q7 k c) (p' : Int)) := by
      show (if (setC room k l (kidN l n (q7 k c)) c a).2.2 = 0 then _ else _) = _
      rw [e, if_pos rfl]
    rcases put_ok r hfit with ⟨m', n', e', hp⟩ | ⟨_, hf, _⟩
    · obtain ⟨_, p2, p3, p4, _⟩ := hp.node hfit
      have hlev : Is m' (k + 1) n' := by
        refine ⟨p2, ?_⟩
        have h0 := (hfit.kid 0 (by decide)).2.2
        rw [p4]
        have hall : (ndAt m (kset (l.getD n deadN).2.1 (q7 k c) (p' : Int)).1).1 = (k : Int) := by
          have := kd_kset (l.getD n deadN).2.1 (p' : Int) hq (j := 0) (by decide)
          have e0 : (kset (l.getD n deadN).2.1 (q7 k c) (p' : Int)).1 = if 0 = q7 k c then (p' : Int) else kd (l.getD n deadN).2.1 0 := this
          rw [e0]
          split
          · rw [ndAt_nat]; exact is.lev
          · rw [kid_cast hr hn (by decide), ndAt_nat]; exact ((kid_is hr hn (by decide)).grows g).lev
        rw [hall]
        omega
      refine ⟨m', (n' : Int), n', rfl, by rw [e2, e'], g.trans hp.grows, hp.right, hlev, by have := hp.more; omega, fun d => ?_⟩
      have hd := q7_lt k d
      have hkid : kidN m' n' (q7 k d) = if q7 k d = q7 k c then p' else kidN l n (q7 k d) := by
        unfold kidN
        rw [p3, kd_kset _ _ hq hd]
        by_cases h : q7 k d = q7 k c
        · rw [if_pos h, if_pos h, Int.toNat_natCast]
        · rw [if_neg h, if_neg h]
      show alive m' k (kidN m' n' (q7 k d)) d = _
      rw [hkid]
      by_cases h : q7 k d = q7 k c
      · rw [if_pos h, alive_grows r hp.grows d k p' is, al d]
        have e3 : agreeB (k + 1) c d = agreeB k c d := by
          rw [Bool.eq_iff_iff, agree_iff, agree_iff, agree_succ]
          exact ⟨fun h' => h'.2, fun h' => ⟨h.symm, h'⟩⟩
        rw [e3]
        split
        · rfl
        · show _ = alive l k (kidN l n (q7 k d)) d
          rw [h]
      · rw [if_neg h, alive_grows hr (g.trans hp.grows) d k _ (kid_is hr hn hd)]
        have e3 : agreeB (k + 1) c d = false := by
          rw [← Bool.not_eq_true, agree_iff, agree_succ]
          exact fun h' => h h'.1.symm
        rw [e3]
        rfl
    · omega

/-! ### a node grown -/
/-- the quarters of a grown node's quarter -/
def growK (x : Kd) (d : Int) (i : Nat) : Kd := kset (d, d, d, d) (3 - i) (kd x i)
def growC (room : Int) (l : List Nd) (n : Nat) (e : Nat) : List Nd × Int × Int :=
  if (emptyTo l room e).2.2 = 0 then four room (fun i l' => put6 l' room (growK (l.getD n deadN).2.1 (emptyTo l room e).2.1 i)) (emptyTo l room e).1 else ((emptyTo l room e).1, 0, (emptyTo l room e).2.2)
end Go.Proofs.YtmmaeikeafemaaaGreat
namespace Go.Proofs.YtmmaeikeafemaaaGreat.Qt
open Go Go.Sort Go.RowKit

inductive Scc where
  | done : Scc
  | calm : Nat → Scc → Scc
  | only : Nat → Scc → Scc
  | two : Nat → Nat → Scc → Scc → Scc
  | three : Nat → Nat → Nat → Scc → Scc → Scc → Scc
def Scc.len : Scc → Nat
  | .done => 0
  | .calm _ s => s.len + 1
  | .only _ s => s.len + 1
  | .two _ _ s _ => s.len + 1
  | .three _ _ _ s _ _ => s.len + 1

section
variable {P : Program} {ops : Array Oper} {md : Region.Mode} {C : World → Prop}

/-- In every world of the class it leaves the world as it is, and yields v. -/
def CalmV (P : Program) (ops : Array Oper) (C : World → Prop) (o : Oper) (v : Value) (a : Act) : Prop :=
  Region.wanted o (yielded ops a.tmps) = true ∧ ∀ W, C W → Oper.quietUpon P (fun w' => w' = W) W v ((execOp a.eval o).run P W)

theorem CalmV.op {i : Nat} {oi : Oper} {v : Value} {a : Act} (hi : ops[i]? = some oi) (hp : CalmV P ops C oi v a) {K : Act → World → Prop} {Q : Exit → Act → World → Prop} {w : World} (hw : C w) (h : K (a.put oi.dst v) w) : wpOp P ops Q i K a w := by
  unfold wpOp
  simp only [hi, hp.1, if_true]
  left
  refine Oper.wp_of_quiet (C := fun w' => w' = w) (K := fun a' => a' = a.put oi.dst v) rfl (fun a' w' hw' ha' => ?_) ⟨v, fun W hW => ?_, rfl⟩
  · subst hw' ha'
    exact h
  · subst hW
    exact hp.2 W hw

theorem wpOp_keep {j : Nat} {oi oj : Oper} {v : Value} (R : Act → Prop) (hj : ops[j]? = some oj) (hap : oi.apart ops oj = true) (hsi : ∀ cs b, oi.op ≠ .select cs b) (hsj : ∀ cs b, oj.op ≠ .select cs b) {K : Act → World → Prop} {Kf : Act → World → Prop} {a : Act} {w : World}
    (keep : ∀ (a : Act) u, R a → R (a.put oj.dst u)) (hd : ∀ (a : Act) ds, R a → R { a with defers := ds })
    (hp : R a) (h : wpOp P ops (Qn Kf) j K (a.put oi.dst v) w) : wpOp P ops (Qn Kf) j (fun a' w' => R a' ∧ K (a'.put oi.dst v) w') a w := by
  obtain ⟨h1, h2, h3⟩ := Oper.apart_spec hap
  unfold wpOp at *
  simp only [hj] at *
  rw [wanted_put oj a oi.dst v h1] at h
  split
  · rename_i hw
    simp only [hw, if_true] at h
    rcases h with h | h
    · left
      unfold Oper.wp at *
      rw [execOp_put oj hsj a oi.dst v h1] at h
      exact upon_put (R := R) (fun a u => Act.put_comm a v u h2) keep hd hp _ h
    · exact (no_letsOut h.2).elim
  · rename_i hw
    simp only [hw] at h
    exact ⟨keep _ _ hp, by rw [← Act.put_comm a v undef h2]; exact h⟩

/-- whatever order is picked; each world is one of the class -/
def wpAnyC (P : Program) (md : Region.Mode) (ops : Array Oper) (C : World → Prop) (Kf : Act → World → Prop) : Nat → Array Bool → Act → World → Prop
  | 0, listed, a, w => Region.ready md ops listed = [] ∧ Kf a w
  | f + 1, listed, a, w => Region.ready md ops listed ≠ [] ∧ ∀ i ∈ Region.ready md ops listed, wpOp P ops (Qn fun _ _ => False) i (fun a' w' => C w' ∧ wpAnyC P md ops C Kf f (listed.setIfInBounds i true) a' w') a w

theorem any_of_C {Kf : Act → World → Prop} (f : Nat) : ∀ listed a w, wpAnyC P md ops C Kf f listed a w → wpAny P md ops (Qn Kf) f listed a w := by
  induction f with
  | zero => intro listed a w h; exact ⟨h.1, rfl, h.2⟩
  | succ f ih => intro listed a w h; exact ⟨fun h0 => absurd h0 h.1, fun i hi => wpOp_qn (fun a' w' h' => ih _ a' w' h'.2) (h.2 i hi)⟩

theorem calm_first {Kf : Act → World → Prop} {i : Nat} {oi : Oper} {v : Value} (hi : ops[i]? = some oi) (hsel : ∀ (j : Nat) (o : Oper) cs b, ops[j]? = some o → o.op ≠ .select cs b) (f : Nat) :
    ∀ (listed : Array Bool) (a : Act) (w : World), C w →
      (∀ j oj, ops[j]? = some oj → j ≠ i → listed.getD j true = false → (∀ e ∈ oj.after, Region.binds md e = true → e.on ≠ i) → oi.apart ops oj = true) →
      i ∈ Region.ready md ops listed → CalmV P ops C oi v a →
      wpAnyC P md ops C Kf f (listed.setIfInBounds i true) (a.put oi.dst v) w → wpAnyC P md ops C Kf (f + 1) listed a w := by
  induction f with
  | zero =>
    intro listed a w hC _ hr hp H
    refine ⟨fun h => (by rw [h] at hr; cases hr), fun j hj => ?_⟩
    by_cases hji : j = i
    · subst hji; exact hp.op hi hC ⟨hC, H⟩
    · have := ready_mono hj hji
      rw [H.1] at this
      cases this
  | succ f ih =>
    intro listed a w hC hfree hr hp H
    refine ⟨fun h => (by rw [h] at hr; cases hr), fun j hj => ?_⟩
    by_cases hji : j = i
    · subst hji; exact hp.op hi hC ⟨hC, H⟩
    · obtain ⟨hjun, oj, hoj, hall⟩ := mem_ready.1 hj
      have hun := (mem_ready.1 hr).1
      have hnot : ∀ e ∈ oj.after, Region.binds md e = true → e.on ≠ i := fun e he hb heq => by
        have h1 := hall e he hb
        rw [heq, getD_both hun] at h1
        cases h1
      have hap := hfree j oj hoj hji hjun hnot
      obtain ⟨h1, h2, h3⟩ := Oper.apart_spec hap
      have keep : ∀ (a : Act) u, CalmV P ops C oi v a → CalmV P ops C oi v (a.put oj.dst u) := fun a u hp => by
        unfold CalmV at *
        rw [execOp_put oi (fun cs b => hsel i oi cs b hi) a oj.dst u h3, wanted_put oi a oj.dst u h3]
        exact hp
      refine wpOp_mono (fun a' w' h3 => ⟨h3.2.1, ih (listed.setIfInBounds j true) a' w' h3.2.1 (fun k ok hk hki hku hno => hfree k ok hk hki ?_ hno) (ready_mono hr (Ne.symm hji)) h3.1 ?_⟩)
        (wpOp_keep (CalmV P ops C oi v) hoj hap (fun cs b => hsel i oi cs b hi) (fun cs b => hsel j oj cs b hoj) keep (fun _ _ h => h) hp (H.2 j (ready_mono hj hji)))
      · by_cases hjk : j = k
        · subst hjk; exact hjun
        · rwa [getD_set_ne true hjk] at hku
      · rw [Array.setIfInBounds_comm _ _ hji]; exact h3.2.2

def treeCB (md : Region.Mode) (ops : Array Oper) : Scc → Array Bool → Bool
  | .done, listed => (Region.ready md ops listed).isEmpty
  | .calm k s, listed => (Region.ready md ops listed).contains k && Region.free md ops listed k && treeCB md ops s (listed.setIfInBounds k true)
  | .only k s, listed => decide (Region.ready md ops listed = [k]) && treeCB md ops s (listed.setIfInBounds k true)
  | .two j k s t, listed => decide (Region.ready md ops listed = [j, k]) && decide (s.len = t.len) && treeCB md ops s (listed.setIfInBounds j true) && treeCB md ops t (listed.setIfInBounds k true)
  | .three i j k r s t, listed => decide (Region.ready md ops listed = [i, j, k]) && decide (r.len = s.len) && decide (r.len = t.len) && treeCB md ops r (listed.setIfInBounds i true) && treeCB md ops s (listed.setIfInBounds j true) && treeCB md ops t (listed.setIfInBounds k true)
def treeCW (P : Program) (ops : Array Oper) (C : World → Prop) (Kf : Act → World → Prop) : Scc → Act → World → Prop
  | .done, a, w => Kf a w
  | .calm k s, a, w => ∃ (o : Oper) (d : Option Tmp) (v : Value), ops[k]? = some o ∧ o.dst = d ∧ CalmV P ops C o v a ∧ treeCW P ops C Kf s (a.put d v) w
  | .only k s, a, w => ∃ o : Oper, ops[k]? = some o ∧ wpList P ops (Qn fun a w => C w ∧ treeCW P ops C Kf s a w) [o] a w
  | .two j k s t, a, w => (∃ o : Oper, ops[j]? = some o ∧ wpList P ops (Qn fun a w => C w ∧ treeCW P ops C Kf s a w) [o] a w) ∧ ∃ o : Oper, ops[k]? = some o ∧ wpList P ops (Qn fun a w => C w ∧ treeCW P ops C Kf t a w) [o] a w
  | .three i j k r s t, a, w => (∃ o : Oper, ops[i]? = some o ∧ wpList P ops (Qn fun a w => C w ∧ treeCW P ops C Kf r a w) [o] a w) ∧ (∃ o : Oper, ops[j]? = some o ∧ wpList P ops (Qn fun a w => C w ∧ treeCW P ops C Kf s a w) [o] a w) ∧ ∃ o : Oper, ops[k]? = some o ∧ wpList P ops (Qn fun a w => C w ∧ treeCW P ops C Kf t a w) [o] a w

theorem op_of_list {Kf : Act → World → Prop} {k : Nat} {o : Oper} {s : Scc} {listed : Array Bool} {a : Act} {w : World} {n : Nat} (ho : ops[k]? = some o) (h : wpList P ops (Qn fun a w => C w ∧ treeCW P ops C Kf s a w) [o] a w)
    (ih : ∀ a' w', C w' → treeCW P ops C Kf s a' w' → wpAnyC P md ops C Kf n (listed.setIfInBounds k true) a' w') :
    wpOp P ops (Qn fun _ _ => False) k (fun a' w' => C w' ∧ wpAnyC P md ops C Kf n (listed.setIfInBounds k true) a' w') a w := by
  have hw : wpOp P ops (Qn fun a w => C w ∧ treeCW P ops C Kf s a w) k (wpList P ops (Qn fun a w => C w ∧ treeCW P ops C Kf s a w) []) a w := by unfold wpOp; simp only [ho]; exact h
  exact wpOp_qn (fun a' w' h' => ⟨h'.2.1, ih a' w' h'.2.1 h'.2.2⟩) hw

theorem any_treeC {Kf : Act → World → Prop} (hsel : Region.noSelect ops = true) (s : Scc) :
    ∀ (listed : Array Bool) (a : Act) (w : World), C w → treeCB md ops s listed = true → treeCW P ops C Kf s a w → wpAnyC P md ops C Kf s.len listed a w := by
  induction s with
  | done =>
    intro listed a w _ hB h
    exact ⟨by simpa [treeCB] using hB, h⟩
  | calm k s ih =>
    intro listed a w hC hB h
    obtain ⟨o, d, v, ho, hd, hp, hrest⟩ := h
    subst hd
    simp only [treeCB, Bool.and_eq_true] at hB
    exact calm_first ho (Region.noSelect_spec hsel) _ listed a w hC (Region.free_spec ho hB.1.2) (by simpa using hB.1.1) hp (ih _ _ _ hC hB.2 hrest)
  | only k s ih =>
    intro listed a w hC hB h
    obtain ⟨o, ho, h⟩ := h
    simp only [treeCB, Bool.and_eq_true, decide_eq_true_eq] at hB
    refine ⟨fun h1 => (by rw [hB.1] at h1; cases h1), fun i hi => ?_⟩
    rw [hB.1] at hi
    obtain rfl : i = k := by simpa using hi
    exact op_of_list ho h (fun a' w' hc ht => ih _ a' w' hc hB.2 ht)
  | two j k s t ihs iht =>
    intro listed a w hC hB h
    obtain ⟨⟨o, ho, h1⟩, ⟨o', ho', h2⟩⟩ := h
    simp only [treeCB, Bool.and_eq_true, decide_eq_true_eq] at hB
    obtain ⟨⟨⟨hr, hl⟩, hs⟩, ht⟩ := hB
    refine ⟨fun h1 => (by rw [hr] at h1; cases h1), fun i hi => ?_⟩
    rw [hr] at hi
    simp only [List.mem_cons, List.not_mem_nil, or_false] at hi
    rcases hi with rfl | rfl
    · exact op_of_list ho h1 (fun a' w' hc h' => ihs _ a' w' hc hs h')
    · exact op_of_list ho' h2 (fun a' w' hc h' => by have := iht _ a' w' hc ht h'; rwa [← hl] at this)
  | three p j k r s t ihr ihs iht =>
    intro listed a w hC hB h
    obtain ⟨⟨o0, ho0, h0⟩, ⟨o, ho, h1⟩, ⟨o', ho', h2⟩⟩ := h
    simp only [treeCB, Bool.and_eq_true, decide_eq_true_eq] at hB
    obtain ⟨⟨⟨⟨⟨hr, hl⟩, hl2⟩, h3⟩, hs⟩, ht⟩ := hB
    refine ⟨fun h1 => (by rw [hr] at h1; cases h1), fun i hi => ?_⟩
    rw [hr] at hi
    simp only [List.mem_cons, List.not_mem_nil, or_false] at hi
    rcases hi with rfl | rfl | rfl
    · exact op_of_list ho0 h0 (fun a' w' hc h' => ihr _ a' w' hc h3 h')
    · exact op_of_list ho h1 (fun a' w' hc h' => by have := ihs _ a' w' hc hs h'; rwa [← hl] at this)
    · exact op_of_list ho' h2 (fun a' w' hc h' => by have := iht _ a' w' hc ht h'; rwa [← hl2] at this)

/-- A region that draws its order, by a script with calm operations, to what is known at its end. -/
theorem region_calm {id : Nat} {Q : Exit → Act → World → Prop} {a : Act} {w : World} {l : List Oper} (C : World → Prop) (R : Act → World → Prop) (s : Scc) (hm : P.follows .mixedOrders = true) (hsel : Region.noSelect l.toArray = true)
    (hB : treeCB .any l.toArray s (Array.replicate l.toArray.size false) = true) (hlen : s.len = l.length) (hC : C w.drew)
    (h : treeCW P l.toArray C R s a w.drew) (hQ : ∀ a' w', R a' w' → Q .normal a' w') : (Code.region id l.toArray true).wp P Q a w := by
  refine wp_region_any hm ?_
  have := any_of_C _ _ _ _ (any_treeC (P := P) (md := .any) (Kf := R) hsel s _ a w.drew hC hB h)
  rw [hlen] at this
  have e := any_qn hQ _ _ _ _ this
  simpa using e
end
end Go.Proofs.YtmmaeikeafemaaaGreat.Qt
namespace Go.Proofs.YtmmaeikeafemaaaGreat
set_option linter.unusedVariables false
open Go.RowKit Go.Sort

theorem below_drew (w : World) : Below w.heap.size w w.drew := ⟨rfl, rfl, rfl, Nat.le_refl _, fun k _ => rfl⟩
/-- A region that draws its order, by a script with calm operations, to what is known at its end. -/
theorem region_calm_to {P : Program} {id : Nat} {Q : Exit → Act → World → Prop} {a : Act} {w : World} {l : List Oper} (C : World → Prop) (R : Act → Act → World → Prop) (s : Qt.Scc) (hm : P.follows .mixedOrders = true) (hsel : Region.noSelect l.toArray = true)
    (hB : Qt.treeCB .any l.toArray s (Array.replicate l.toArray.size false) = true) (hlen : s.len = l.length) (hC : C w.drew)
    (h : Qt.treeCW P l.toArray C (R a) s a w.drew) (hQ : ∀ a' w', R a a' w' → Q .normal a' w') : (Code.region id l.toArray true).wp P Q a w :=
  Qt.region_calm C (R a) s hm hsel hB hlen hC h hQ
end Go.Proofs.YtmmaeikeafemaaaGreat
namespace Go.Proofs.YtmmaeikeafemaaaGreat
set_option maxRecDepth 100000
set_option linter.unusedVariables false
set_option linter.unusedSimpArgs false
open Go.RowKit Go.Sort

/-- an int in a box -/
def LR (w : World) (b : Nat) (x : Int) : Prop := w.heap[b]? = some (.cells #[.int .i64 x] 3 (0, 0))
theorem LR.kp {w w' : World} {b : Nat} {x : Int} (h : LR w b x) (hk : Kp w w') : LR w' b x := hk _ _ _ _ h ⟨.inl (by decide), by decide⟩
theorem LR.c {w : World} {b : Nat} {x : Int} (h : LR w b x) : w.cell? ⟨b, 0, none⟩ = some (.int .i64 x) := by rw [Lib.cell_of_heap h]; rfl
theorem LR.below {w w' : World} {b : Nat} {x : Int} (h : LR w b x) (hb : Below w.heap.size w w') : LR w' b x := (hb.block _ (lt_heap6 h)).trans h
theorem MR.below {w w' : World} {b g : Nat} (h : MR w b g) (hb : Below w.heap.size w w') : MR w' b g := (hb.block _ (lt_heap6 h)).trans h
/-- What is known in the loop over cells. -/
structure DrAt (w wr : World) (g : Nat) (k : Nat) (S : List (Int × Int)) (j : Nat) (vs : Nat → Value) : Prop where
  mkr : MR wr w.heap.size g
  lev : LR wr (w.heap.size + 1) ((k : Int) + 1)
  qs : QsB (w.heap.size + 3) wr (w.heap.size + 1 + 1) vs (fun i => (S.take j).filter fun c => decide (q7 k c = i))
  bel : Below w.heap.size w wr
  size : w.heap.size + 3 ≤ wr.heap.size
theorem DrAt.below {w wr w' : World} {g k j : Nat} {S : List (Int × Int)} {vs : Nat → Value} (h : DrAt w wr g k S j vs) (hb : Below wr.heap.size wr w') : DrAt w w' g k S j vs :=
  ⟨h.mkr.below hb, h.lev.below hb, h.qs.below hb, Qt.more h.bel h.bel.size hb, Nat.le_trans h.size hb.size⟩
theorem filter_next {k : Nat} {S : List (Int × Int)} {j : Nat} (hj : j < S.length) (i : Nat) : (S.take (j + 1)).filter (fun c => decide (q7 k c = i)) = if i = q7 k (S.getD j (0, 0)) then (S.take j).filter (fun c => decide (q7 k c = i)) ++ [S.getD j (0, 0)] else (S.take j).filter fun c => decide (q7 k c = i) := by
  rw [List.take_succ_eq_append_getElem hj, List.filter_append, List.getD_eq_getElem?_getD, List.getElem?_eq_getElem hj]
  simp only [Option.getD_some, List.filter_cons, List.filter_nil]
  by_cases h : i = q7 k S[j]
  · rw [if_pos h, if_pos (by rw [decide_eq_true_eq]; exact h.symm)]
  · rw [if_neg h, if_neg (by rw [decide_eq_true_eq]; exact fun e => h e.symm), List.append_nil]
theorem DrAt.pushed {w w6 w4 : World} {g k j : Nat} {S : List (Int × Int)} {vs : Nat → Value} {v' : Value} {o : Obj} (h : DrAt w w6 g k S j vs) (hj : j < S.length) {q : Nat} (hq : q = q7 k (S.getD j (0, 0))) {c : Int × Int} (hc : c = S.getD j (0, 0))
    (ho : OwnC w4 (w.heap.size + 3) v' ((S.take j).filter (fun c => decide (q7 k c = q)) ++ [c])) (hg : (w6.alloc o).grownBy w4 (vs q).ownBlock) (hw : v'.ownBlock = (vs q).ownBlock ∨ v'.ownBlock = some (w6.heap.size + 1)) :
    w4.heap[w.heap.size + 1 + 1]? = some (.cells #[vs 0, vs 1, vs 2, vs 3] 97 (0, 0)) ∧ DrAt w (w4.setCell ⟨w.heap.size + 1 + 1, q, none⟩ v') g k S (j + 1) (fun i => if i = q then v' else vs i) := by
  have hq4 : q < 4 := by rw [hq]; exact q7_lt k _
  obtain ⟨h1, h2⟩ := h.qs.push hq4 ho hg hw
  have hS : (fun i => (S.take (j + 1)).filter fun c => decide (q7 k c = i)) = fun i => if i = q then (S.take j).filter (fun c => decide (q7 k c = q)) ++ [c] else (S.take j).filter fun c => decide (q7 k c = i) := by
    funext i
    rw [filter_next hj i, ← hq, hc]
    by_cases hi : i = q
    · rw [if_pos hi, if_pos hi, hi]
    · rw [if_neg hi, if_neg hi]
  have hlow : ∀ {i T : Nat} {cs : Array Value}, i < w.heap.size + 1 + 1 → w6.heap[i]? = some (.cells cs T (0, 0)) → (w4.setCell ⟨w.heap.size + 1 + 1, q, none⟩ v').heap[i]? = some (.cells cs T (0, 0)) := by
    intro i T cs hi he
    have hlt := lt_heap6 he
    rw [Below.heap_setCell _ _ _ _ (by show i ≠ w.heap.size + 1 + 1; omega), hg.block i (by simp; omega) (fun e => by have := (World.ownsRow.lt (h.qs.own q hq4) i e.symm).1; omega), Lib.alloc_old _ _ _ hlt]
    exact he
  have hsz := h.size
  have hgs := hg.size
  simp at hgs
  refine ⟨h1, ⟨hlow (by omega) h.mkr, hlow (by omega) h.lev, by rw [hS]; exact h2, ?_, ?_⟩⟩
  · refine ((h.bel.alloc h.bel.size o).grown hg (by simp; omega) (fun r e => ?_)).setCell (by show w.heap.size ≤ w.heap.size + 1 + 1; omega) _
    have := (World.ownsRow.lt (h.qs.own q hq4) r e).1
    omega
  · simp [World.setCell]
    omega

/-- what drawn answers, at a level -/
def DrawnAt (room : Int) (n0 g b k : Nat) : Prop := ∀ (l : List Nd) (A : Option Addr) (S : List (Int × Int)) (c : Nat) (w : World), Ix n0 w g b l room → Right6 l room → RdC w w.heap.size A S → S.length ≤ 2000 → (∀ s ∈ S, 0 ≤ s.1 ∧ s.1 ≤ 9223372036854775807 ∧ 0 ≤ s.2 ∧ s.2 ≤ 9223372036854775807) →
    Calls Tryz.prog 61 #[makerV g, .slice A S.length c, .int .i64 ((k : Nat) : Int)] w (IxK (buildC room k l S) n0 g b room w)
set_option maxHeartbeats 16000000 in
theorem drawnClos_any {room : Int} {n0 g b k : Nat} (hk : k ≤ 60) (ih : DrawnAt room n0 g b k) {mb qb lb B : Nat} {vs : Nat → Value} {Ss : Nat → List (Int × Int)} {i : Nat} (hi : i < 4) (l : List Nd) (W : World) (hr : Right6 l room) (hix : Ix n0 W g b l room)
    (hm : MR W mb g) (hq : QsB B W qb vs Ss) (hl : LR W lb ((k : Int) + 1)) (hS : (Ss i).length ≤ 2000) (hb : ∀ s ∈ Ss i, 0 ≤ s.1 ∧ s.1 ≤ 9223372036854775807 ∧ 0 ≤ s.2 ∧ s.2 ≤ 9223372036854775807) :
    Calls Tryz.prog 85 #[.int .i64 (i : Nat), .pointer (some ⟨mb, 0, none⟩), .pointer (some ⟨qb, 0, none⟩), .pointer (some ⟨lb, 0, none⟩)] W (IxK (buildC room k l (Ss i)) n0 g b room W) := by
  have hn0 := hix.hB
  obtain ⟨A, c, hv, hcap, hrd⟩ := Cel.Own.rd (hq.own i hi)
  have HQ := Lib.hid hq
  have hcall := fun W' (hW : BelK n0 W W') (h1 : Ix n0 W' g b l room) (h2 : RdC W' W'.heap.size A (Ss i)) => ih l A (Ss i) c W' h1 hr h2 hS hb
  have hrdk : ∀ W', Kp W W' → RdC W' W'.heap.size A (Ss i) := fun W' hW => by
    obtain ⟨A', c', e, _, h⟩ := Cel.Own.rd ((hq.kp hW).own i hi)
    rw [hv] at e
    injection e with e1 e2 e3
    rw [e1]
    exact h
  have hC0 : BelK n0 W W.drew := .of (below_drew W) hn0
  have hiz : (i : Int) < 4 := by omega
  generalize hSS : Ss i = S at *
  generalize hz : buildC room k l S = z at *
  obtain ⟨m, p, ee⟩ := z
  have HC := Lib.hid (hcall W.drew hC0 (hix.below (below_drew W)) (hrdk W.drew hC0.kp))
  clear hcall hrdk ih hix hr hS hb hSS hz hrd hq
  go_enter Tryz.func85, Tryz.ntmps85
  go_wp2_with fail
  refine region_calm_to (fun W' => BelK n0 W W') (fun (a0 a9 : Act) (w9 : World) => a9 = (((((((((((a0.put (some 7) (makerV g)).put (some 8) (.int .i64 (i : Int))).put (some 9) (.pointer (some ⟨qb, i, none⟩))).put (some 10) (.slice A S.length c)).put (some 11) (.int .i64 ((k : Int) + 1))).put (some 12) (.int .i64 (k : Int))).put (some 13) (.tuple #[.int .i64 p, .int .i64 ee])).put (some 14) (.int .i64 p)).put (some 15) (.int .i64 ee)).put (some 5) (.int .i64 p)).put (some 6) (.int .i64 ee)) ∧ Ix n0 w9 g b m room ∧ BelK n0 W w9) (.calm 0 (.calm 1 (.calm 2 (.calm 3 (.calm 4 (.calm 5 (.only 6 (.calm 7 (.calm 8 (.calm 9 (.calm 10 .done))))))))))) (by kernel_rfl) (by kernel_rfl) (by kernel_rfl) (by rfl) hC0 ?_ ?_
  · skip
    refine ⟨_, _, makerV g, rfl, rfl, ⟨rfl, fun W9 hW => by have q := (hm.kp hW.kp).c; simp only [execOp]; go_simp; done⟩, ?_⟩
    simp only [Act.put, List.setIfInBounds_toArray, List.set_cons_succ, List.set_cons_zero]
    refine ⟨_, _, (.int .i64 (i : Int)), rfl, rfl, ⟨rfl, fun W9 hW => by exact ⟨rfl, rfl⟩⟩, ?_⟩
    simp only [Act.put, List.setIfInBounds_toArray, List.set_cons_succ, List.set_cons_zero]
    refine ⟨_, _, (.pointer (some ⟨qb, i, none⟩)), rfl, rfl, ⟨rfl, fun W9 hW => by simp only [execOp]; go_simp; try exact ⟨rfl, rfl⟩⟩, ?_⟩
    simp only [Act.put, List.setIfInBounds_toArray, List.set_cons_succ, List.set_cons_zero]
    refine ⟨_, _, (.slice A S.length c), rfl, rfl, ⟨rfl, fun W9 hW => by have q := (HQ.out.kp hW.kp).c hi; rw [hv] at q; simp only [execOp]; go_simp; done⟩, ?_⟩
    simp only [Act.put, List.setIfInBounds_toArray, List.set_cons_succ, List.set_cons_zero]
    refine ⟨_, _, (.int .i64 ((k : Int) + 1)), rfl, rfl, ⟨rfl, fun W9 hW => by have q := (hl.kp hW.kp).c; simp only [execOp]; go_simp; done⟩, ?_⟩
    simp only [Act.put, List.setIfInBounds_toArray, List.set_cons_succ, List.set_cons_zero]
    refine ⟨_, _, (.int .i64 (k : Int)), rfl, rfl, ⟨rfl, fun W9 hW => by simp only [execOp]; go_simp; rw [IntKind.wrap_i64]; omega⟩, ?_⟩
    simp only [Act.put, List.setIfInBounds_toArray, List.set_cons_succ, List.set_cons_zero]
    refine ⟨_, rfl, ?_⟩
    go_wp2_with fail
    refine HC.out.mono ?_
    rintro e w7 ⟨rfl, hi7, hb7⟩
    have hBf := hC0.trans hb7
    clear hb7
    go_wp2_with fail
    refine ⟨rfl, hBf, ?_⟩
    refine ⟨_, _, .int .i64 p, rfl, rfl, ⟨rfl, fun W9 hW => by first | exact ⟨rfl, rfl⟩ | (simp only [Act.eval, execOp]; go_simp; try exact ⟨rfl, rfl⟩)⟩, ?_⟩
    simp only [Act.put, List.setIfInBounds_toArray, List.set_cons_succ, List.set_cons_zero]
    refine ⟨_, _, .int .i64 ee, rfl, rfl, ⟨rfl, fun W9 hW => by first | exact ⟨rfl, rfl⟩ | (simp only [Act.eval, execOp]; go_simp; try exact ⟨rfl, rfl⟩)⟩, ?_⟩
    simp only [Act.put, List.setIfInBounds_toArray, List.set_cons_succ, List.set_cons_zero]
    refine ⟨_, _, .int .i64 p, rfl, rfl, ⟨rfl, fun W9 hW => by first | exact ⟨rfl, rfl⟩ | (simp only [Act.eval, execOp]; go_simp; try exact ⟨rfl, rfl⟩)⟩, ?_⟩
    simp only [Act.put, List.setIfInBounds_toArray, List.set_cons_succ, List.set_cons_zero]
    refine ⟨_, _, .int .i64 ee, rfl, rfl, ⟨rfl, fun W9 hW => by first | exact ⟨rfl, rfl⟩ | (simp only [Act.eval, execOp]; go_simp; try exact ⟨rfl, rfl⟩)⟩, ?_⟩
    simp only [Act.put, List.setIfInBounds_toArray, List.set_cons_succ, List.set_cons_zero]
    refine ⟨?_, hi7, hBf⟩
    first | rfl | simp only [Act.put, List.setIfInBounds_toArray, List.set_cons_succ, List.set_cons_zero]
  rintro a9 w9 ⟨rfl, hi9, hb9⟩
  simp only [Act.put, List.setIfInBounds_toArray, List.set_cons_succ, List.set_cons_zero]
  have HI := Lib.hid hi9
  have HB := Lib.hid hb9
  clear hi9 hb9
  go_wp2_with fail
  go_ret2
  exact ⟨rfl, HI.out, HB.out⟩

set_option maxHeartbeats 16000000 in
theorem drawn_none (room : Int) (n0 g b k : Nat) (hk : k ≤ 42) (l : List Nd) (A : Option Addr) (c : Nat) (w : World) (hix : Ix n0 w g b l room) (hr : Right6 l room) :
    Calls Tryz.prog 61 #[makerV g, .slice A 0 c, .int .i64 ((k : Nat) : Int)] w (IxK (emptyTo l room k) n0 g b room w) := by
  have hn0 := hix.hB
  have hal1 := (Below.refl w.heap.size w).alloc (Nat.le_refl _) (.cells #[.pointer (some ⟨g, 0, none⟩)] 64)
  have hal2 := hal1.alloc hal1.size (.cells #[.int .i64 (k : Int)] 3)
  have hs1 : (w.alloc (.cells #[.pointer (some ⟨g, 0, none⟩)] 64)).heap.size = w.heap.size + 1 := by simp
  have b2 := (Below.refl _ (w.alloc (.cells #[.pointer (some ⟨g, 0, none⟩)] 64))).alloc (Nat.le_refl _) (.cells #[.int .i64 (k : Int)] 3)
  have h1 : MR (w.alloc (.cells #[.pointer (some ⟨g, 0, none⟩)] 64)) w.heap.size g := heap_alloc_new w _
  have h2 : LR ((w.alloc (.cells #[.pointer (some ⟨g, 0, none⟩)] 64)).alloc (.cells #[.int .i64 (k : Int)] 3)) (w.heap.size + 1) (k : Int) := by
    have := heap_alloc_new (w.alloc (.cells #[.pointer (some ⟨g, 0, none⟩)] 64)) (.cells #[.int .i64 (k : Int)] 3)
    rw [hs1] at this
    exact this
  have m0 := (h1.below b2).c
  have l0 := h2.c
  have hcall := ixEmpty_anyK n0 g b l room (k : Int) _ (hix.below hal2) hr (Nat.le_trans hn0 hal2.size)
  have hz : ixEmpty l room (k : Int) = emptyTo l room k := by unfold ixEmpty; rw [if_pos (by omega), Int.toNat_natCast]
  rw [hz] at hcall
  have HB := Lib.hid (BelK.of hal2 hn0)
  generalize emptyTo l room k = z at *
  obtain ⟨m, p, ee⟩ := z
  clear hix hr hal1 hal2 hs1 b2 h1 h2 hz
  go_enter Tryz.func61, Tryz.ntmps61
  go_wp2_with fail
  refine hcall.mono ?_
  rintro e w1 ⟨rfl, hi1, hb1⟩
  have HI := Lib.hid hi1
  have HBF := Lib.hid (HB.out.trans hb1)
  clear hcall hi1 hb1 m0 l0
  go_wp2_with fail
  go_ret2
  exact ⟨rfl, HI.out, HBF.out⟩
set_option maxHeartbeats 16000000 in
theorem drawn_one (room : Int) (n0 g b : Nat) (l : List Nd) (A : Option Addr) (n c : Nat) (hn : 1 ≤ n) (w : World) (hix : Ix n0 w g b l room) :
    Calls Tryz.prog 61 #[makerV g, .slice A n c, .int .i64 0] w (IxK (l, 1, 0) n0 g b room w) := by
  have hn0 := hix.hB
  have hal1 := (Below.refl w.heap.size w).alloc (Nat.le_refl _) (.cells #[.pointer (some ⟨g, 0, none⟩)] 64)
  have hal2 := hal1.alloc hal1.size (.cells #[.int .i64 0] 3)
  have hs1 : (w.alloc (.cells #[.pointer (some ⟨g, 0, none⟩)] 64)).heap.size = w.heap.size + 1 := by simp
  have h2 : LR ((w.alloc (.cells #[.pointer (some ⟨g, 0, none⟩)] 64)).alloc (.cells #[.int .i64 0] 3)) (w.heap.size + 1) 0 := by
    have := heap_alloc_new (w.alloc (.cells #[.pointer (some ⟨g, 0, none⟩)] 64)) (.cells #[.int .i64 0] 3)
    rw [hs1] at this
    exact this
  have l0 := h2.c
  have HB := Lib.hid (BelK.of hal2 hn0)
  have HI := Lib.hid (hix.below hal2)
  have hp1 : ((n : Int) == 0) = false := beq_eq_false_iff_ne.2 (by omega)
  have hp2 : ¬ (n : Int) = 0 := by omega
  clear hix hal1 hal2 hs1 h2
  go_enter Tryz.func61, Tryz.ntmps61
  go_wp2_with fail
  go_ret2
  exact ⟨rfl, HI.out, HB.out⟩
set_option maxHeartbeats 16000000 in
theorem drawn_any (room : Int) (n0 g b : Nat) : ∀ (k : Nat), k ≤ 42 → ∀ (l : List Nd) (A : Option Addr) (S : List (Int × Int)) (c : Nat) (w : World), Ix n0 w g b l room → Right6 l room → RdC w w.heap.size A S → S.length ≤ 2000 → (∀ s ∈ S, 0 ≤ s.1 ∧ s.1 ≤ 9223372036854775807 ∧ 0 ≤ s.2 ∧ s.2 ≤ 9223372036854775807) →
    Calls Tryz.prog 61 #[makerV g, .slice A S.length c, .int .i64 ((k : Nat) : Int)] w (IxK (buildC room k l S) n0 g b room w) := by
  intro k
  induction k with
  | zero =>
    intro _ l A S c w hix hr hS hSl hSb
    by_cases hS0 : S = []
    · subst hS0
      have := drawn_none room n0 g b 0 (by omega) l A c w hix hr
      rwa [← buildC_nil] at this
    · have := drawn_one room n0 g b l A S.length c (List.length_pos_iff.2 hS0) w hix
      have e : buildC room 0 l S = (l, 1, 0) := by unfold buildC; rw [if_neg hS0]
      rw [e]
      exact this
  | succ k ih =>
    intro hk l A S c w hix hr hS hSl hSb
    have hn0 := hix.hB
    by_cases hS0 : S = []
    · subst hS0
      have := drawn_none room n0 g b (k + 1) hk l A c w hix hr
      rwa [← buildC_nil] at this
    · have hpos : 1 ≤ S.length := List.length_pos_iff.2 hS0
      have e1 : ((k + 1 : Nat) : Int) = (k : Int) + 1 := by omega
      rw [e1]
      have hal1 := (Below.refl w.heap.size w).alloc (Nat.le_refl _) (.cells #[.pointer (some ⟨g, 0, none⟩)] 64)
      have hal2 := hal1.alloc hal1.size (.cells #[.int .i64 ((k : Int) + 1)] 3)
      have hal3 := hal2.alloc hal2.size (.cells #[.slice none 0 0, .slice none 0 0, .slice none 0 0, .slice none 0 0] 97)
      have HD0 : Hid (DrAt w (((w.alloc (.cells #[.pointer (some ⟨g, 0, none⟩)] 64)).alloc (.cells #[.int .i64 ((k : Int) + 1)] 3)).alloc (.cells #[.slice none 0 0, .slice none 0 0, .slice none 0 0, .slice none 0 0] 97)) g k S 0 (fun _ => .slice none 0 0)) := by
        have hs1 : (w.alloc (.cells #[.pointer (some ⟨g, 0, none⟩)] 64)).heap.size = w.heap.size + 1 := by simp
        have hs2 : ((w.alloc (.cells #[.pointer (some ⟨g, 0, none⟩)] 64)).alloc (.cells #[.int .i64 ((k : Int) + 1)] 3)).heap.size = w.heap.size + 1 + 1 := by simp
        have b2 := (Below.refl _ (w.alloc (.cells #[.pointer (some ⟨g, 0, none⟩)] 64))).alloc (Nat.le_refl _) (.cells #[.int .i64 ((k : Int) + 1)] 3)
        have b3 := (Below.refl _ ((w.alloc (.cells #[.pointer (some ⟨g, 0, none⟩)] 64)).alloc (.cells #[.int .i64 ((k : Int) + 1)] 3))).alloc (Nat.le_refl _) (.cells #[.slice none 0 0, .slice none 0 0, .slice none 0 0, .slice none 0 0] 97)
        have h1 : MR (w.alloc (.cells #[.pointer (some ⟨g, 0, none⟩)] 64)) w.heap.size g := heap_alloc_new w _
        have h2 : LR ((w.alloc (.cells #[.pointer (some ⟨g, 0, none⟩)] 64)).alloc (.cells #[.int .i64 ((k : Int) + 1)] 3)) (w.heap.size + 1) ((k : Int) + 1) := by
          have := heap_alloc_new (w.alloc (.cells #[.pointer (some ⟨g, 0, none⟩)] 64)) (.cells #[.int .i64 ((k : Int) + 1)] 3)
          rw [hs1] at this
          exact this
        have h3 := heap_alloc_new ((w.alloc (.cells #[.pointer (some ⟨g, 0, none⟩)] 64)).alloc (.cells #[.int .i64 ((k : Int) + 1)] 3)) (.cells #[.slice none 0 0, .slice none 0 0, .slice none 0 0, .slice none 0 0] 97)
        rw [hs2] at h3
        refine ⟨(h1.below b2).below b3, h2.below b3, ⟨h3, fun i _ => ?_, fun i j _ _ _ => .inl rfl⟩, hal3, by simp⟩
        simp only [List.take_zero, List.filter_nil]
        exact World.ownsRow_nil _ _ _ _
      obtain ⟨z, hz⟩ : ∃ z, z = buildC room (k + 1) l S := ⟨_, rfl⟩
      rw [← hz]
      have HZ := Lib.hid hz
      have HIX := Lib.hid hix
      have HR := Lib.hid hr
      have HS := Lib.hid hS
      have HSB := Lib.hid hSb
      have HIH := Lib.hid ih
      have HS0 := Lib.hid hS0
      have hposz : ¬ (S.length : Int) = 0 := by omega
      have hp1 : ((S.length : Int) == 0) = false := beq_eq_false_iff_ne.2 (by omega)
      have hk1 : (((k : Int) + 1) == 0) = false := beq_eq_false_iff_ne.2 (by omega)
      have hkz : ¬ (k : Int) + 1 = 0 := by omega
      clear hix hr hS hSb ih hz hal1 hal2 hal3 hS0 e1
      go_enter Tryz.func61, Tryz.ntmps61
      go_wp2_with fail
      go_loopw [25] (fun i wr => ∃ j : Nat, j ≤ S.length ∧ i = .int .i64 j ∧ Hid (∃ vs, DrAt w wr g k S j vs)) (fun i _ => S.length - (intOf i).toNat)
      case atStart => exact ⟨0, Nat.zero_le _, rfl, ⟨_, HD0.out⟩⟩
      case round =>
        obtain ⟨j, hj, rfl, HH⟩ := hrel
        obtain ⟨vs, HD⟩ := HH.out
        by_cases hlt : j < S.length
        · have hltz : (j : Int) < (S.length : Int) := by omega
          obtain ⟨b1, o1, rfl, hb1, hr1⟩ := Cel.Rd.at_ HS.out hpos
          obtain ⟨r0, r1⟩ := hr1 j hlt
          have c0 := Qt.keep HD.bel r0
          have c1 := Qt.keep HD.bel r1
          have hcb := HSB.out (S.getD j (0, 0)) (Cel.getD_mem hlt)
          obtain ⟨⟨x, y⟩, hxy⟩ : ∃ c, c = S.getD j (0, 0) := ⟨_, rfl⟩
          rw [← hxy] at c0 c1 hcb
          dsimp only at c0 c1 hcb
          obtain ⟨u, rfl⟩ : ∃ u : Nat, x = (u : Int) := ⟨x.toNat, by omega⟩
          obtain ⟨v, rfl⟩ : ∃ v : Nat, y = (v : Int) := ⟨y.toNat, by omega⟩
          have hal := (Below.refl wr.heap.size wr).alloc (Nat.le_refl _) (.cells #[.int .i64 (u : Int), .int .i64 (v : Int)] 28)
          have HD1 := Lib.hid (HD.below hal)
          have HC1 := Lib.hid (clB_new (w := wr) ((u : Int), (v : Int)))
          have x0 := HC1.out.c0
          have x1 := HC1.out.c1
          have l0 := HD1.out.lev.c
          dsimp only at x0 x1
          obtain ⟨wo, rfl⟩ : ∃ wo : World, wo = wr := ⟨_, rfl⟩
          have HXY := Lib.hid hxy
          clear hr1 r0 r1 hal HD HH hxy
          go_wp2_with fail
          clear x0 x1 l0 c0 c1
          generalize (wo.alloc (.cells #[.int .i64 (u : Int), .int .i64 (v : Int)] 28)) = w5 at *
          generalize wo.heap.size = cb at *
          refine (quarter_any k (by omega) u v (by omega) (by omega) w5).mono ?_
          rintro e w6 ⟨rfl, hb6⟩
          have hD6 := HD1.out.below hb6
          have hC6 := HC1.out.below hb6
          have hq4 := q7_lt k ((u : Int), (v : Int))
          obtain ⟨q, hq⟩ : ∃ q, q = q7 k ((u : Int), (v : Int)) := ⟨_, rfl⟩
          rw [← hq] at hq4 ⊢
          have hqz : (q : Int) < 4 := by omega
          obtain ⟨v', w4, rp, op, gp, bp, hw⟩ := pushC_any (w := w6.drew) (B := w.heap.size + 3) (v := vs q) (out := (S.take j).filter fun c => decide (q7 k c = q)) ((u : Int), (v : Int)) hD6.size (hD6.qs.own q hq4) (Nat.le_trans (List.length_filter_le _ _) (by rw [List.length_take]; omega))
          obtain ⟨A4, c4, rfl, hc4, _⟩ := Cel.Own.rd op
          have hpu := DrAt.pushed (hD6.below (below_drew w6)) hlt (by rw [hq, HXY.out]) HXY.out op gp hw
          have rp : (Builtin.append_ #[29, 29] 29 #[vs q, .slice (some ⟨w6.heap.size, 0, none⟩) 1 1]).run Tryz.prog (w6.alloc (.cells #[.int .i64 (u : Int), .int .i64 (v : Int)] 28)).drew = .ok (.slice A4 ((S.take j).filter (fun c => decide (q7 k c = q)) ++ [((u : Int), (v : Int))]).length c4) w4 := rp
          generalize ((S.take j).filter (fun c => decide (q7 k c = q)) ++ [((u : Int), (v : Int))]).length = n4 at *
          have q0 := hD6.qs.c hq4
          have q0o : ∀ o, (w6.alloc o).cell? ⟨w.heap.size + 1 + 1, q, none⟩ = some (vs q) := fun o => (World.cell?_alloc_lt _ _ _ (block_lt_of_cell q0)).trans q0
          have y0 := hC6.c0
          have y1 := hC6.c1
          dsimp only at y0 y1
          have f4 : w4.frozen? ⟨w.heap.size + 1 + 1, q, none⟩ = false := Lib.frozen_of_heap hpu.1 q
          have g4 : ∃ ov, w4.cell? ⟨w.heap.size + 1 + 1, q, none⟩ = some ov := by
            rcases (by omega : q = 0 ∨ q = 1 ∨ q = 2 ∨ q = 3) with h | h | h | h <;> rw [h] <;> exact ⟨_, by rw [Lib.cell_of_heap hpu.1]; rfl⟩
          obtain ⟨ov, g4⟩ := g4
          have HN := Lib.hid hpu.2
          clear HD1 HC1 hD6 hC6 hq op gp bp hw hpu hb6 hcb
          generalize vs q = vq at *
          go_wp2_with fail
          refine region_tree_to (fun a0 a9 w9 => a9 = (((((((((a0.put (some 32) (.int .i64 (q : Int))).put (some 33) (.int .i64 (q : Int))).put (some 34) (.pointer (some ⟨w.heap.size + 1 + 1, q, none⟩))).put (some 35) vq).put (some 36) (.agg #[.int .i64 (u : Int), .int .i64 (v : Int)])).put (some 37) (.slice (some ⟨w6.heap.size, 0, none⟩) 1 1)).put (some 38) (.slice A4 n4 c4)).put (some 39) (.pointer (some ⟨w.heap.size + 1 + 1, q, none⟩)))) ∧ w9 = w4.setCell ⟨w.heap.size + 1 + 1, q, none⟩ (.slice A4 n4 c4)) (.pure 0 (.pure 1 (.pure 2 (.two 3 4 (.only 4 (.only 5 (.only 6 (.pure 7 (.only 8 .done))))) (.two 3 5 (.only 5 (.only 6 (.pure 7 (.only 8 .done)))) (.only 3 (.only 6 (.pure 7 (.only 8 .done))))))))) (by kernel_rfl) (by kernel_rfl) (by kernel_rfl) (by rfl) ?_ ?_
          · skip
            refine ⟨_, some 32, .int .i64 (q : Int), rfl, rfl, ⟨rfl, fun _ => by first | rfl | (simp only [execOp]; go_simp)⟩, ?_⟩
            simp only [Act.put, List.setIfInBounds_toArray, List.set_cons_succ, List.set_cons_zero]
            refine ⟨_, some 33, .int .i64 (q : Int), rfl, rfl, ⟨rfl, fun _ => by first | rfl | (simp only [execOp]; go_simp)⟩, ?_⟩
            simp only [Act.put, List.setIfInBounds_toArray, List.set_cons_succ, List.set_cons_zero]
            refine ⟨_, some 34, .pointer (some ⟨w.heap.size + 1 + 1, q, none⟩), rfl, rfl, ⟨rfl, fun _ => by first | rfl | (simp only [execOp]; go_simp)⟩, ?_⟩
            simp only [Act.put, List.setIfInBounds_toArray, List.set_cons_succ, List.set_cons_zero]
            constructor
            · refine ⟨_, rfl, ?_⟩
              go_wp2_with fail
              refine ⟨rfl, ?_⟩
              refine ⟨_, rfl, ?_⟩
              go_wp2_with fail
              refine ⟨rfl, ?_⟩
              refine ⟨_, rfl, ?_⟩
              go_wp2_with fail
              refine ⟨rfl, ?_⟩
              refine ⟨_, rfl, ?_⟩
              refine Lib.wpList_append_run _ rfl (.tmp 35) (.tmp 37) 29 29 rfl _ _ rfl rfl _ _ rp ?_
              refine ⟨rfl, ?_⟩
              refine ⟨_, some 39, .pointer (some ⟨w.heap.size + 1 + 1, q, none⟩), rfl, rfl, ⟨rfl, fun _ => by first | rfl | (simp only [execOp]; go_simp)⟩, ?_⟩
              simp only [Act.put, List.setIfInBounds_toArray, List.set_cons_succ, List.set_cons_zero]
              refine ⟨_, rfl, ?_⟩
              go_wp2_with fail
              refine ⟨rfl, ?_⟩
              show (_ = _) ∧ (_ = _)
              exact ⟨by first | rfl | simp only [Act.put, List.setIfInBounds_toArray, List.set_cons_succ, List.set_cons_zero], rfl⟩
            · refine ⟨_, rfl, ?_⟩
              go_wp2_with fail
              refine ⟨rfl, ?_⟩
              constructor
              · refine ⟨_, rfl, ?_⟩
                go_wp2_with fail
                refine ⟨rfl, ?_⟩
                refine ⟨_, rfl, ?_⟩
                go_wp2_with fail
                refine ⟨rfl, ?_⟩
                refine ⟨_, rfl, ?_⟩
                refine Lib.wpList_append_run _ rfl (.tmp 35) (.tmp 37) 29 29 rfl _ _ rfl rfl _ _ rp ?_
                refine ⟨rfl, ?_⟩
                refine ⟨_, some 39, .pointer (some ⟨w.heap.size + 1 + 1, q, none⟩), rfl, rfl, ⟨rfl, fun _ => by first | rfl | (simp only [execOp]; go_simp)⟩, ?_⟩
                simp only [Act.put, List.setIfInBounds_toArray, List.set_cons_succ, List.set_cons_zero]
                refine ⟨_, rfl, ?_⟩
                go_wp2_with fail
                refine ⟨rfl, ?_⟩
                show (_ = _) ∧ (_ = _)
                exact ⟨by first | rfl | simp only [Act.put, List.setIfInBounds_toArray, List.set_cons_succ, List.set_cons_zero], rfl⟩
              · refine ⟨_, rfl, ?_⟩
                go_wp2_with fail
                refine ⟨rfl, ?_⟩
                refine ⟨_, rfl, ?_⟩
                go_wp2_with fail
                refine ⟨rfl, ?_⟩
                refine ⟨_, rfl, ?_⟩
                refine Lib.wpList_append_run _ rfl (.tmp 35) (.tmp 37) 29 29 rfl _ _ rfl rfl _ _ rp ?_
                refine ⟨rfl, ?_⟩
                refine ⟨_, some 39, .pointer (some ⟨w.heap.size + 1 + 1, q, none⟩), rfl, rfl, ⟨rfl, fun _ => by first | rfl | (simp only [execOp]; go_simp)⟩, ?_⟩
                simp only [Act.put, List.setIfInBounds_toArray, List.set_cons_succ, List.set_cons_zero]
                refine ⟨_, rfl, ?_⟩
                go_wp2_with fail
                refine ⟨rfl, ?_⟩
                show (_ = _) ∧ (_ = _)
                exact ⟨by first | rfl | simp only [Act.put, List.setIfInBounds_toArray, List.set_cons_succ, List.set_cons_zero], rfl⟩
          · rintro a9 w9 ⟨rfl, rfl⟩
            simp only [Act.put, List.setIfInBounds_toArray, List.set_cons_succ, List.set_cons_zero]
            clear rp q0 q0o y0 y1 f4 g4
            go_wp2_with fail
            go_roundw
            case measure => simp [intOf]; omega
            case rel => exact ⟨j + 1, by omega, by go_num, ⟨_, HN.out⟩⟩
        · obtain rfl : j = S.length := by omega
          have hltz : ¬ (S.length : Int) < (S.length : Int) := by omega
          have hmf : ∀ (fn : Fn) (first cap : Array Value) (W : World), (Instr.makeFunc fn first cap).run Tryz.prog W = .ok (.func fn first cap) W := fun _ _ _ _ => rfl
          have hq := HD.qs
          simp only [List.take_length] at hq
          have hof := of_any 85 (enters_of Tryz.func85 (by kernel_rfl) rfl) (.pointer (some ⟨w.heap.size, 0, none⟩)) (.pointer (some ⟨w.heap.size + 1 + 1, 0, none⟩)) (.pointer (some ⟨w.heap.size + 1, 0, none⟩)) (fun i l => buildC room k l (S.filter fun c => decide (q7 k c = i))) n0 g b l room wr (HIX.out.below HD.bel) HR.out (fun i l' _ h' => build_right k l' _ h')
            (fun i hi l' W hr' hix' hb => drawnClos_any (by omega) (HIH.out (by omega)) hi l' W hr' hix' (HD.mkr.kp hb.kp) (hq.kp hb.kp) (HD.lev.kp hb.kp) (Nat.le_trans (List.length_filter_le _ _) hSl) (fun s hs => HSB.out s (List.mem_filter.1 hs).1))
          have hzz : four room (fun i l => buildC room k l (S.filter fun c => decide (q7 k c = i))) l = z := by
            rw [HZ.out]
            show _ = if S = [] then _ else _
            rw [if_neg HS0.out]
          rw [hzz] at hof
          have m0 := HD.mkr.c
          have HB := Lib.hid (BelK.of HD.bel hn0)
          obtain ⟨m, p, ee⟩ := z
          clear HD HH hq hzz hlt hj
          go_wp2_with fail
          refine hof.mono ?_
          rintro e w1 ⟨rfl, hi1, hb1⟩
          have HI := Lib.hid hi1
          have HBF := Lib.hid (HB.out.trans hb1)
          clear hof hi1 hb1 m0 hmf
          go_wp2_with fail
          go_ret2
          exact ⟨rfl, HI.out, HBF.out⟩
end Go.Proofs.YtmmaeikeafemaaaGreat
