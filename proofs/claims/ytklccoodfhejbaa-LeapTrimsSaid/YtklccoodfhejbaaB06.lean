/-
  Texts that the claims of this seat share, part 6.
-/
import Derived.Test.YtklccoodfhejbaaB00
import Derived.Test.YtklccoodfhejbaaB01
import Derived.Test.YtklccoodfhejbaaB05
set_option linter.unusedVariables false
set_option linter.unusedSimpArgs false
namespace Go.Proofs.Ytklccoodfhejbaa
set_option maxRecDepth 100000
set_option linter.unusedVariables false
set_option linter.unusedSimpArgs false

theorem emptyTo_right7 {l : List Nd} {room : Int} (h : Right6 l room) : ∀ j, Right6 (emptyTo l room j).1 room
  | 0 => h
  | j + 1 => by
    have ih := emptyTo_right7 h j
    unfold emptyTo
    split
    · exact put_right ih _
    · exact ih
theorem build_right {room : Int} : ∀ (k : Nat) (l : List Nd) (S : List (Int × Int)), Right6 l room → Right6 (buildC room k l S).1 room
  | 0, l, S, h => by
    unfold buildC
    split <;> exact h
  | k + 1, l, S, h => by
    unfold buildC
    split
    · exact emptyTo_right7 h _
    · exact four_right (fun i l' _ h' => build_right k l' _ h') h
theorem put_grows7 {l : List Nd} {R : Int} (h : Right6 l R) (k : Kd) : Grows l (put6 l R k).1 := (put_grows h k).1
/-! ### a cell is set -/
def setC (room : Int) : Nat → List Nd → Nat → Int × Int → Bool → List Nd × Int × Int
  | 0, l, _, _, a => (l, if a = true then 1 else 0, 0)
  | k + 1, l, n, c, a => if (setC room k l (kidN l n (q7 k c)) c a).2.2 = 0 then put6 (setC room k l (kidN l n (q7 k c)) c a).1 room (kset (l.getD n deadN).2.1 (q7 k c) (setC room k l (kidN l n (q7 k c)) c a).2.1) else ((setC room k l (kidN l n (q7 k c)) c a).1, 0, (setC room k l (kidN l n (q7 k c)) c a).2.2)
theorem kset_lev {l : List Nd} {room : Int} {k n : Nat} (hr : Right6 l room) (h : Is l (k + 1) n) {m : List Nd} (g : Grows l m) {i p : Nat} (hi : i < 4) (hp : Is m k p) (hk : k + 1 ≤ 42) : Fit4 m (kset (l.getD n deadN).2.1 i (p : Int)) := by
  have hall : ∀ j, j < 4 → ∃ q : Nat, kd (kset (l.getD n deadN).2.1 i (p : Int)) j = (q : Int) ∧ Is m k q := by
    intro j hj
    rw [kd_kset _ _ hi hj]
    by_cases hji : j = i
    · rw [if_pos hji]; exact ⟨p, rfl, hp⟩
    · rw [if_neg hji]; exact ⟨kidN l n j, kid_cast hr h hj, (kid_is hr h hj).grows g⟩
  obtain ⟨q0, e0, i0⟩ := hall 0 (by decide)
  have e0' : (kset (l.getD n deadN).2.1 i (p : Int)).1 = (q0 : Int) := e0
  have hl0 : (ndAt m (kset (l.getD n deadN).2.1 i (p : Int)).1).1 = (k : Int) := by rw [e0', ndAt_nat]; exact i0.lev
  refine ⟨fun j hj => ?_, by omega⟩
  obtain ⟨q, e, iq⟩ := hall j hj
  rw [e, hl0]
  exact ⟨by omega, by have := iq.lt; omega, by rw [ndAt_nat]; exact iq.lev⟩
/-- a node with a cell, or without it -/
theorem set_ok {room : Int} : ∀ (k : Nat) (l : List Nd) (n : Nat) (c : Int × Int) (a : Bool), k ≤ 42 → Right6 l room → Is l k n → ((l.length + k : Nat) : Int) ≤ room →
    ∃ m p : _, ∃ p' : Nat, p = (p' : Int) ∧ setC room k l n c a = (m, p, 0) ∧ Grows l m ∧ Right6 m room ∧ Is m k p' ∧ m.length ≤ l.length + k ∧ ∀ d, alive m k p' d = if agreeB k c d = true then a else alive l k n d
  | 0, l, n, c, a, hk, hr, hn, hroom => by
    cases a with
    | true => exact ⟨l, 1, 1, rfl, rfl, Grows.refl l, hr, ⟨by have := hr.two; omega, by rw [hr.live]; rfl⟩, by omega, fun d => rfl⟩
    | false => exact ⟨l, 0, 0, rfl, rfl, Grows.refl l, hr, ⟨by have := hr.two; omega, by rw [hr.dead]; rfl⟩, by omega, fun d => rfl⟩
  | k + 1, l, n, c, a, hk, hr, hn, hroom => by
    have hq := q7_lt k c
    obtain ⟨m, p, p', rfl, e, g, r, is, len, al⟩ := set_ok k l (kidN l n (q7 k c)) c a (by omega) hr (kid_is hr hn hq) (by omega)
    have hfit := kset_lev hr hn g hq is hk
    have e2 : setC room (k + 1) l n c a = put6 m room (kset (l.getD n deadN).2.1 (q7 k c) (p' : Int)) := by
      show (if (setC room k l (kidN l n (q7 k c)) c a).2.2 = 0 then _ else _) = _
      rw [e, if_pos rfl]
    rcases put_ok r hfit with ⟨m', n', e', hp⟩ | ⟨_, hf, _⟩
    · obtain ⟨_, p2, p3, p4, _⟩ := hp.node hfit
      have hlev : Is m' (k + 1) n' := by
        refine ⟨p2, ?_⟩
        have h0 := (hfit.kid 0 (by decide)).2.2
        rw [p4]
        have hall : (ndAt m (kset (l.getD n deadN).2.1 (q7 k c) (p' : Int)).1).1 = (k : Int) := by
          have := kd_kset (l.getD n deadN).2.1 (p' : Int) hq (j := 0) (by decide)
          have e0 : (kset (l.getD n deadN).2.1 (q7 k c) (p' : Int)).1 = if 0 = q7 k c then (p' : Int) else kd (l.getD n deadN).2.1 0 := this
          rw [e0]
          split
          · rw [ndAt_nat]; exact is.lev
          · rw [kid_cast hr hn (by decide), ndAt_nat]; exact ((kid_is hr hn (by decide)).grows g).lev
        rw [hall]
        omega
      refine ⟨m', (n' : Int), n', rfl, by rw [e2, e'], g.trans hp.grows, hp.right, hlev, by have := hp.more; omega, fun d => ?_⟩
      have hd := q7_lt k d
      have hkid : kidN m' n' (q7 k d) = if q7 k d = q7 k c then p' else kidN l n (q7 k d) := by
        unfold kidN
        rw [p3, kd_kset _ _ hq hd]
        by_cases h : q7 k d = q7 k c
        · rw [if_pos h, if_pos h, Int.toNat_natCast]
        · rw [if_neg h, if_neg h]
      show alive m' k (kidN m' n' (q7 k d)) d = _
      rw [hkid]
      by_cases h : q7 k d = q7 k c
      · rw [if_pos h, alive_grows r hp.grows d k p' is, al d]
        have e3 : agreeB (k + 1) c d = agreeB k c d := by
          rw [Bool.eq_iff_iff, agree_iff, agree_iff, agree_succ]
          exact ⟨fun h' => h'.2, fun h' => ⟨h.symm, h'⟩⟩
        rw [e3]
        split
        · rfl
        · show _ = alive l k (kidN l n (q7 k d)) d
          rw [h]
      · rw [if_neg h, alive_grows hr (g.trans hp.grows) d k _ (kid_is hr hn hd)]
        have e3 : agreeB (k + 1) c d = false := by
          rw [← Bool.not_eq_true, agree_iff, agree_succ]
          exact fun h' => h h'.1.symm
        rw [e3]
        rfl
    · omega

/-! ### a node grown -/
/-- the quarters of a grown node's quarter -/
def growK (x : Kd) (d : Int) (i : Nat) : Kd := kset (d, d, d, d) (3 - i) (kd x i)
def growC (room : Int) (l : List Nd) (n : Nat) (e : Nat) : List Nd × Int × Int :=
  if (emptyTo l room e).2.2 = 0 then four room (fun i l' => put6 l' room (growK (l.getD n deadN).2.1 (emptyTo l room e).2.1 i)) (emptyTo l room e).1 else ((emptyTo l room e).1, 0, (emptyTo l room e).2.2)
end Go.Proofs.Ytklccoodfhejbaa
namespace Go.Proofs.Ytklccoodfhejbaa.Qt
open Go Go.Sort Go.RowKit

inductive Scc where
  | done : Scc
  | calm : Nat → Scc → Scc
  | only : Nat → Scc → Scc
  | two : Nat → Nat → Scc → Scc → Scc
  | three : Nat → Nat → Nat → Scc → Scc → Scc → Scc
def Scc.len : Scc → Nat
  | .done => 0
  | .calm _ s => s.len + 1
  | .only _ s => s.len + 1
  | .two _ _ s _ => s.len + 1
  | .three _ _ _ s _ _ => s.len + 1

section
variable {P : Program} {ops : Array Oper} {md : Region.Mode} {C : World → Prop}

/-- In every world of the class it leaves the world as it is, and yields v. -/
def CalmV (P : Program) (ops : Array Oper) (C : World → Prop) (o : Oper) (v : Value) (a : Act) : Prop :=
  Region.wanted o (yielded ops a.tmps) = true ∧ ∀ W, C W → Oper.quietUpon P (fun w' => w' = W) W v ((execOp a.eval o).run P W)

theorem CalmV.op {i : Nat} {oi : Oper} {v : Value} {a : Act} (hi : ops[i]? = some oi) (hp : CalmV P ops C oi v a) {K : Act → World → Prop} {Q : Exit → Act → World → Prop} {w : World} (hw : C w) (h : K (a.put oi.dst v) w) : wpOp P ops Q i K a w := by
  unfold wpOp
  simp only [hi, hp.1, if_true]
  left
  refine Oper.wp_of_quiet (C := fun w' => w' = w) (K := fun a' => a' = a.put oi.dst v) rfl (fun a' w' hw' ha' => ?_) ⟨v, fun W hW => ?_, rfl⟩
  · subst hw' ha'
    exact h
  · subst hW
    exact hp.2 W hw

theorem wpOp_keep {j : Nat} {oi oj : Oper} {v : Value} (R : Act → Prop) (hj : ops[j]? = some oj) (hap : oi.apart ops oj = true) (hsi : ∀ cs b, oi.op ≠ .select cs b) (hsj : ∀ cs b, oj.op ≠ .select cs b) {K : Act → World → Prop} {Kf : Act → World → Prop} {a : Act} {w : World}
    (keep : ∀ (a : Act) u, R a → R (a.put oj.dst u)) (hd : ∀ (a : Act) ds, R a → R { a with defers := ds })
    (hp : R a) (h : wpOp P ops (Qn Kf) j K (a.put oi.dst v) w) : wpOp P ops (Qn Kf) j (fun a' w' => R a' ∧ K (a'.put oi.dst v) w') a w := by
  obtain ⟨h1, h2, h3⟩ := Oper.apart_spec hap
  unfold wpOp at *
  simp only [hj] at *
  rw [wanted_put oj a oi.dst v h1] at h
  split
  · rename_i hw
    simp only [hw, if_true] at h
    rcases h with h | h
    · left
      unfold Oper.wp at *
      rw [execOp_put oj hsj a oi.dst v h1] at h
      exact upon_put (R := R) (fun a u => Act.put_comm a v u h2) keep hd hp _ h
    · exact (no_letsOut h.2).elim
  · rename_i hw
    simp only [hw] at h
    exact ⟨keep _ _ hp, by rw [← Act.put_comm a v undef h2]; exact h⟩

/-- whatever order is picked; each world is one of the class -/
def wpAnyC (P : Program) (md : Region.Mode) (ops : Array Oper) (C : World → Prop) (Kf : Act → World → Prop) : Nat → Array Bool → Act → World → Prop
  | 0, listed, a, w => Region.ready md ops listed = [] ∧ Kf a w
  | f + 1, listed, a, w => Region.ready md ops listed ≠ [] ∧ ∀ i ∈ Region.ready md ops listed, wpOp P ops (Qn fun _ _ => False) i (fun a' w' => C w' ∧ wpAnyC P md ops C Kf f (listed.setIfInBounds i true) a' w') a w

theorem any_of_C {Kf : Act → World → Prop} (f : Nat) : ∀ listed a w, wpAnyC P md ops C Kf f listed a w → wpAny P md ops (Qn Kf) f listed a w := by
  induction f with
  | zero => intro listed a w h; exact ⟨h.1, rfl, h.2⟩
  | succ f ih => intro listed a w h; exact ⟨fun h0 => absurd h0 h.1, fun i hi => wpOp_qn (fun a' w' h' => ih _ a' w' h'.2) (h.2 i hi)⟩

theorem calm_first {Kf : Act → World → Prop} {i : Nat} {oi : Oper} {v : Value} (hi : ops[i]? = some oi) (hsel : ∀ (j : Nat) (o : Oper) cs b, ops[j]? = some o → o.op ≠ .select cs b) (f : Nat) :
    ∀ (listed : Array Bool) (a : Act) (w : World), C w →
      (∀ j oj, ops[j]? = some oj → j ≠ i → listed.getD j true = false → (∀ e ∈ oj.after, Region.binds md e = true → e.on ≠ i) → oi.apart ops oj = true) →
      i ∈ Region.ready md ops listed → CalmV P ops C oi v a →
      wpAnyC P md ops C Kf f (listed.setIfInBounds i true) (a.put oi.dst v) w → wpAnyC P md ops C Kf (f + 1) listed a w := by
  induction f with
  | zero =>
    intro listed a w hC _ hr hp H
    refine ⟨fun h => (by rw [h] at hr; cases hr), fun j hj => ?_⟩
    by_cases hji : j = i
    · subst hji; exact hp.op hi hC ⟨hC, H⟩
    · have := ready_mono hj hji
      rw [H.1] at this
      cases this
  | succ f ih =>
    intro listed a w hC hfree hr hp H
    refine ⟨fun h => (by rw [h] at hr; cases hr), fun j hj => ?_⟩
    by_cases hji : j = i
    · subst hji; exact hp.op hi hC ⟨hC, H⟩
    · obtain ⟨hjun, oj, hoj, hall⟩ := mem_ready.1 hj
      have hun := (mem_ready.1 hr).1
      have hnot : ∀ e ∈ oj.after, Region.binds md e = true → e.on ≠ i := fun e he hb heq => by
        have h1 := hall e he hb
        rw [heq, getD_both hun] at h1
        cases h1
      have hap := hfree j oj hoj hji hjun hnot
      obtain ⟨h1, h2, h3⟩ := Oper.apart_spec hap
      have keep : ∀ (a : Act) u, CalmV P ops C oi v a → CalmV P ops C oi v (a.put oj.dst u) := fun a u hp => by
        unfold CalmV at *
        rw [execOp_put oi (fun cs b => hsel i oi cs b hi) a oj.dst u h3, wanted_put oi a oj.dst u h3]
        exact hp
      refine wpOp_mono (fun a' w' h3 => ⟨h3.2.1, ih (listed.setIfInBounds j true) a' w' h3.2.1 (fun k ok hk hki hku hno => hfree k ok hk hki ?_ hno) (ready_mono hr (Ne.symm hji)) h3.1 ?_⟩)
        (wpOp_keep (CalmV P ops C oi v) hoj hap (fun cs b => hsel i oi cs b hi) (fun cs b => hsel j oj cs b hoj) keep (fun _ _ h => h) hp (H.2 j (ready_mono hj hji)))
      · by_cases hjk : j = k
        · subst hjk; exact hjun
        · rwa [getD_set_ne true hjk] at hku
      · rw [Array.setIfInBounds_comm _ _ hji]; exact h3.2.2

def treeCB (md : Region.Mode) (ops : Array Oper) : Scc → Array Bool → Bool
  | .done, listed => (Region.ready md ops listed).isEmpty
  | .calm k s, listed => (Region.ready md ops listed).contains k && Region.free md ops listed k && treeCB md ops s (listed.setIfInBounds k true)
  | .only k s, listed => decide (Region.ready md ops listed = [k]) && treeCB md ops s (listed.setIfInBounds k true)
  | .two j k s t, listed => decide (Region.ready md ops listed = [j, k]) && decide (s.len = t.len) && treeCB md ops s (listed.setIfInBounds j true) && treeCB md ops t (listed.setIfInBounds k true)
  | .three i j k r s t, listed => decide (Region.ready md ops listed = [i, j, k]) && decide (r.len = s.len) && decide (r.len = t.len) && treeCB md ops r (listed.setIfInBounds i true) && treeCB md ops s (listed.setIfInBounds j true) && treeCB md ops t (listed.setIfInBounds k true)
def treeCW (P : Program) (ops : Array Oper) (C : World → Prop) (Kf : Act → World → Prop) : Scc → Act → World → Prop
  | .done, a, w => Kf a w
  | .calm k s, a, w => ∃ (o : Oper) (d : Option Tmp) (v : Value), ops[k]? = some o ∧ o.dst = d ∧ CalmV P ops C o v a ∧ treeCW P ops C Kf s (a.put d v) w
  | .only k s, a, w => ∃ o : Oper, ops[k]? = some o ∧ wpList P ops (Qn fun a w => C w ∧ treeCW P ops C Kf s a w) [o] a w
  | .two j k s t, a, w => (∃ o : Oper, ops[j]? = some o ∧ wpList P ops (Qn fun a w => C w ∧ treeCW P ops C Kf s a w) [o] a w) ∧ ∃ o : Oper, ops[k]? = some o ∧ wpList P ops (Qn fun a w => C w ∧ treeCW P ops C Kf t a w) [o] a w
  | .three i j k r s t, a, w => (∃ o : Oper, ops[i]? = some o ∧ wpList P ops (Qn fun a w => C w ∧ treeCW P ops C Kf r a w) [o] a w) ∧ (∃ o : Oper, ops[j]? = some o ∧ wpList P ops (Qn fun a w => C w ∧ treeCW P ops C Kf s a w) [o] a w) ∧ ∃ o : Oper, ops[k]? = some o ∧ wpList P ops (Qn fun a w => C w ∧ treeCW P ops C Kf t a w) [o] a w

theorem op_of_list {Kf : Act → World → Prop} {k : Nat} {o : Oper} {s : Scc} {listed : Array Bool} {a : Act} {w : World} {n : Nat} (ho : ops[k]? = some o) (h : wpList P ops (Qn fun a w => C w ∧ treeCW P ops C Kf s a w) [o] a w)
    (ih : ∀ a' w', C w' → treeCW P ops C Kf s a' w' → wpAnyC P md ops C Kf n (listed.setIfInBounds k true) a' w') :
    wpOp P ops (Qn fun _ _ => False) k (fun a' w' => C w' ∧ wpAnyC P md ops C Kf n (listed.setIfInBounds k true) a' w') a w := by
  have hw : wpOp P ops (Qn fun a w => C w ∧ treeCW P ops C Kf s a w) k (wpList P ops (Qn fun a w => C w ∧ treeCW P ops C Kf s a w) []) a w := by unfold wpOp; simp only [ho]; exact h
  exact wpOp_qn (fun a' w' h' => ⟨h'.2.1, ih a' w' h'.2.1 h'.2.2⟩) hw

theorem any_treeC {Kf : Act → World → Prop} (hsel : Region.noSelect ops = true) (s : Scc) :
    ∀ (listed : Array Bool) (a : Act) (w : World), C w → treeCB md ops s listed = true → treeCW P ops C Kf s a w → wpAnyC P md ops C Kf s.len listed a w := by
  induction s with
  | done =>
    intro listed a w _ hB h
    exact ⟨by simpa [treeCB] using hB, h⟩
  | calm k s ih =>
    intro listed a w hC hB h
    obtain ⟨o, d, v, ho, hd, hp, hrest⟩ := h
    subst hd
    simp only [treeCB, Bool.and_eq_true] at hB
    exact calm_first ho (Region.noSelect_spec hsel) _ listed a w hC (Region.free_spec ho hB.1.2) (by simpa using hB.1.1) hp (ih _ _ _ hC hB.2 hrest)
  | only k s ih =>
    intro listed a w hC hB h
    obtain ⟨o, ho, h⟩ := h
    simp only [treeCB, Bool.and_eq_true, decide_eq_true_eq] at hB
    refine ⟨fun h1 => (by rw [hB.1] at h1; cases h1), fun i hi => ?_⟩
    rw [hB.1] at hi
    obtain rfl : i = k := by simpa using hi
    exact op_of_list ho h (fun a' w' hc ht => ih _ a' w' hc hB.2 ht)
  | two j k s t ihs iht =>
    intro listed a w hC hB h
    obtain ⟨⟨o, ho, h1⟩, ⟨o', ho', h2⟩⟩ := h
    simp only [treeCB, Bool.and_eq_true, decide_eq_true_eq] at hB
    obtain ⟨⟨⟨hr, hl⟩, hs⟩, ht⟩ := hB
    refine ⟨fun h1 => (by rw [hr] at h1; cases h1), fun i hi => ?_⟩
    rw [hr] at hi
    simp only [List.mem_cons, List.not_mem_nil, or_false] at hi
    rcases hi with rfl | rfl
    · exact op_of_list ho h1 (fun a' w' hc h' => ihs _ a' w' hc hs h')
    · exact op_of_list ho' h2 (fun a' w' hc h' => by have := iht _ a' w' hc ht h'; rwa [← hl] at this)
  | three p j k r s t ihr ihs iht =>
    intro listed a w hC hB h
    obtain ⟨⟨o0, ho0, h0⟩, ⟨o, ho, h1⟩, ⟨o', ho', h2⟩⟩ := h
    simp only [treeCB, Bool.and_eq_true, decide_eq_true_eq] at hB
    obtain ⟨⟨⟨⟨⟨hr, hl⟩, hl2⟩, h3⟩, hs⟩, ht⟩ := hB
    refine ⟨fun h1 => (by rw [hr] at h1; cases h1), fun i hi => ?_⟩
    rw [hr] at hi
    simp only [List.mem_cons, List.not_mem_nil, or_false] at hi
    rcases hi with rfl | rfl | rfl
    · exact op_of_list ho0 h0 (fun a' w' hc h' => ihr _ a' w' hc h3 h')
    · exact op_of_list ho h1 (fun a' w' hc h' => by have := ihs _ a' w' hc hs h'; rwa [← hl] at this)
    · exact op_of_list ho' h2 (fun a' w' hc h' => by have := iht _ a' w' hc ht h'; rwa [← hl2] at this)

/-- A region that draws its order, by a script with calm operations, to what is known at its end. -/
theorem region_calm {id : Nat} {Q : Exit → Act → World → Prop} {a : Act} {w : World} {l : List Oper} (C : World → Prop) (R : Act → World → Prop) (s : Scc) (hm : P.follows .mixedOrders = true) (hsel : Region.noSelect l.toArray = true)
    (hB : treeCB .any l.toArray s (Array.replicate l.toArray.size false) = true) (hlen : s.len = l.length) (hC : C w.drew)
    (h : treeCW P l.toArray C R s a w.drew) (hQ : ∀ a' w', R a' w' → Q .normal a' w') : (Code.region id l.toArray true).wp P Q a w := by
  refine wp_region_any hm ?_
  have := any_of_C _ _ _ _ (any_treeC (P := P) (md := .any) (Kf := R) hsel s _ a w.drew hC hB h)
  rw [hlen] at this
  have e := any_qn hQ _ _ _ _ this
  simpa using e
end
end Go.Proofs.Ytklccoodfhejbaa.Qt
namespace Go.Proofs.Ytklccoodfhejbaa
set_option linter.unusedVariables false
open Go.RowKit Go.Sort

theorem below_drew (w : World) : Below w.heap.size w w.drew := ⟨rfl, rfl, rfl, Nat.le_refl _, fun k _ => rfl⟩
/-- A region that draws its order, by a script with calm operations, to what is known at its end. -/
theorem region_calm_to {P : Program} {id : Nat} {Q : Exit → Act → World → Prop} {a : Act} {w : World} {l : List Oper} (C : World → Prop) (R : Act → Act → World → Prop) (s : Qt.Scc) (hm : P.follows .mixedOrders = true) (hsel : Region.noSelect l.toArray = true)
    (hB : Qt.treeCB .any l.toArray s (Array.replicate l.toArray.size false) = true) (hlen : s.len = l.length) (hC : C w.drew)
    (h : Qt.treeCW P l.toArray C (R a) s a w.drew) (hQ : ∀ a' w', R a a' w' → Q .normal a' w') : (Code.region id l.toArray true).wp P Q a w :=
  Qt.region_calm C (R a) s hm hsel hB hlen hC h hQ
end Go.Proofs.Ytklccoodfhejbaa
namespace Go.Proofs.Ytklccoodfhejbaa
set_option maxRecDepth 100000
set_option linter.unusedVariables false
set_option linter.unusedSimpArgs false
open Go.RowKit Go.Sort

/-- an int in a box -/
def LR (w : World) (b : Nat) (x : Int) : Prop := w.heap[b]? = some (.cells #[.int .i64 x] 3 (0, 0))
theorem LR.kp {w w' : World} {b : Nat} {x : Int} (h : LR w b x) (hk : Kp w w') : LR w' b x := hk _ _ _ _ h ⟨.inl (by decide), by decide⟩
theorem LR.c {w : World} {b : Nat} {x : Int} (h : LR w b x) : w.cell? ⟨b, 0, none⟩ = some (.int .i64 x) := by rw [Lib.cell_of_heap h]; rfl
theorem LR.below {w w' : World} {b : Nat} {x : Int} (h : LR w b x) (hb : Below w.heap.size w w') : LR w' b x := (hb.block _ (lt_heap6 h)).trans h
theorem MR.below {w w' : World} {b g : Nat} (h : MR w b g) (hb : Below w.heap.size w w') : MR w' b g := (hb.block _ (lt_heap6 h)).trans h
/-- What is known in the loop over cells. -/
structure DrAt (w wr : World) (g : Nat) (k : Nat) (S : List (Int × Int)) (j : Nat) (vs : Nat → Value) : Prop where
  mkr : MR wr w.heap.size g
  lev : LR wr (w.heap.size + 1) ((k : Int) + 1)
  qs : QsB (w.heap.size + 3) wr (w.heap.size + 1 + 1) vs (fun i => (S.take j).filter fun c => decide (q7 k c = i))
  bel : Below w.heap.size w wr
  size : w.heap.size + 3 ≤ wr.heap.size
theorem DrAt.below {w wr w' : World} {g k j : Nat} {S : List (Int × Int)} {vs : Nat → Value} (h : DrAt w wr g k S j vs) (hb : Below wr.heap.size wr w') : DrAt w w' g k S j vs :=
  ⟨h.mkr.below hb, h.lev.below hb, h.qs.below hb, Qt.more h.bel h.bel.size hb, Nat.le_trans h.size hb.size⟩
theorem filter_next {k : Nat} {S : List (Int × Int)} {j : Nat} (hj : j < S.length) (i : Nat) : (S.take (j + 1)).filter (fun c => decide (q7 k c = i)) = if i = q7 k (S.getD j (0, 0)) then (S.take j).filter (fun c => decide (q7 k c = i)) ++ [S.getD j (0, 0)] else (S.take j).filter fun c => decide (q7 k c = i) := by
  rw [List.take_succ_eq_append_getElem hj, List.filter_append, List.getD_eq_getElem?_getD, List.getElem?_eq_getElem hj]
  simp only [Option.getD_some, List.filter_cons, List.filter_nil]
  by_cases h : i = q7 k S[j]
  · rw [if_pos h, if_pos (by rw [decide_eq_true_eq]; exact h.symm)]
  · rw [if_neg h, if_neg (by rw [decide_eq_true_eq]; exact fun e => h e.symm), List.append_nil]
theorem DrAt.pushed {w w6 w4 : World} {g k j : Nat} {S : List (Int × Int)} {vs : Nat → Value} {v' : Value} {o : Obj} (h : DrAt w w6 g k S j vs) (hj : j < S.length) {q : Nat} (hq : q = q7 k (S.getD j (0, 0))) {c : Int × Int} (hc : c = S.getD j (0, 0))
    (ho : OwnC w4 (w.heap.size + 3) v' ((S.take j).filter (fun c => decide (q7 k c = q)) ++ [c])) (hg : (w6.alloc o).grownBy w4 (vs q).ownBlock) (hw : v'.ownBlock = (vs q).ownBlock ∨ v'.ownBlock = some (w6.heap.size + 1)) :
    w4.heap[w.heap.size + 1 + 1]? = some (.cells #[vs 0, vs 1, vs 2, vs 3] 107 (0, 0)) ∧ DrAt w (w4.setCell ⟨w.heap.size + 1 + 1, q, none⟩ v') g k S (j + 1) (fun i => if i = q then v' else vs i) := by
  have hq4 : q < 4 := by rw [hq]; exact q7_lt k _
  obtain ⟨h1, h2⟩ := h.qs.push hq4 ho hg hw
  have hS : (fun i => (S.take (j + 1)).filter fun c => decide (q7 k c = i)) = fun i => if i = q then (S.take j).filter (fun c => decide (q7 k c = q)) ++ [c] else (S.take j).filter fun c => decide (q7 k c = i) := by
    funext i
    rw [filter_next hj i, ← hq, hc]
    by_cases hi : i = q
    · rw [if_pos hi, if_pos hi, hi]
    · rw [if_neg hi, if_neg hi]
  have hlow : ∀ {i T : Nat} {cs : Array Value}, i < w.heap.size + 1 + 1 → w6.heap[i]? = some (.cells cs T (0, 0)) → (w4.setCell ⟨w.heap.size + 1 + 1, q, none⟩ v').heap[i]? = some (.cells cs T (0, 0)) := by
    intro i T cs hi he
    have hlt := lt_heap6 he
    rw [Below.heap_setCell _ _ _ _ (by show i ≠ w.heap.size + 1 + 1; omega), hg.block i (by simp; omega) (fun e => by have := (World.ownsRow.lt (h.qs.own q hq4) i e.symm).1; omega), Lib.alloc_old _ _ _ hlt]
    exact he
  have hsz := h.size
  have hgs := hg.size
  simp at hgs
  refine ⟨h1, ⟨hlow (by omega) h.mkr, hlow (by omega) h.lev, by rw [hS]; exact h2, ?_, ?_⟩⟩
  · refine ((h.bel.alloc h.bel.size o).grown hg (by simp; omega) (fun r e => ?_)).setCell (by show w.heap.size ≤ w.heap.size + 1 + 1; omega) _
    have := (World.ownsRow.lt (h.qs.own q hq4) r e).1
    omega
  · simp [World.setCell]
    omega

end Go.Proofs.Ytklccoodfhejbaa
