/-
  Plain maths of a crowd at a free list: all steps, whatever the picks, come to an end, and what is known there.
-/
import Derived.Test.YtohnhcjpdohddaaYi
namespace Go.Proofs.Ytohnhcjpdohddaa
set_option linter.unusedVariables false
set_option linter.unusedSimpArgs false

def muW (K c : Nat) (w : Wk) : Nat := if w.done then 0 else gW c w + 4 * K
def muL (K c : Nat) (l : List Wk) : Nat := (l.map (muW K c)).sum
theorem muL_app (K c : Nat) (a b : List Wk) (x : Wk) : muL K c (a ++ x :: b) = muL K c a + (muW K c x + muL K c b) := by unfold muL; simp
theorem gW_pos {c : Nat} {w : Wk} (h : w.pc = 0 ∨ w.pc = 1 ∨ w.pc = 2) (hd : w.done = false) : 1 ≤ gW c w := by
  unfold gW
  rw [hd, if_neg (by decide)]
  split
  · omega
  · split <;> omega
theorem muL_more {K c c' : Nat} {l : List Wk} (h : ∀ w ∈ l, w.pc = 0 ∨ w.pc = 1 ∨ w.pc = 2) : muL K c' l ≤ muL K c l + 3 * l.length := by
  induction l with
  | nil => simp [muL]
  | cons x l ih =>
    have h1 := ih (fun w hw => h w (List.mem_cons_of_mem _ hw))
    have h2 := gW_more c c' (h x (by simp))
    have e : ∀ c, muL K c (x :: l) = muW K c x + muL K c l := fun c => by unfold muL; simp
    rw [e, e, List.length_cons]
    unfold muW
    split <;> omega
theorem done_of_many {l : List Wk} (h : manyP (leftW l) = 0) : ∀ w ∈ l, w.done = true := by
  intro w hw
  obtain ⟨j, hj, rfl⟩ := List.getElem_of_mem hw
  cases hd : l[j].done with
  | true => rfl
  | false =>
    have h1 := leftW_get l hj
    rw [List.getD_eq_getElem?_getD (l := l), List.getElem?_eq_getElem hj, Option.getD_some, hd, if_neg (by decide)] at h1
    have := live_many (l := leftW l) (p := j) (by omega)
    omega
theorem many_of_done {l : List Wk} (h : ∀ w ∈ l, w.done = true) : manyP (leftW l) = 0 := by
  rcases Nat.eq_zero_or_pos (manyP (leftW l)) with h0 | h0
  · exact h0
  · obtain ⟨k, hk⟩ := totP_live _ (many_pos.1 h0)
    have hl := live_lt hk
    rw [leftW_len] at hl
    rw [leftW_get l hl] at hk
    have := h (l.getD k deadW) (by rw [List.getD_eq_getElem?_getD, List.getElem?_eq_getElem hl]; exact List.getElem_mem hl)
    rw [this] at hk
    simp at hk
/-- what became of a crowd -/
structure Went (c : Nat) (F : List Nat) (l : List Wk) (c' : Nat) (F' : List Nat) (l' : List Wk) : Prop where
  len : l'.length = l.length
  same : ∀ j, j < l.length → (l'.getD j deadW).job = (l.getD j deadW).job ∧ (l'.getD j deadW).r0 = (l.getD j deadW).r0
  cnt : c' + succN l = c + succN l'
  pops : (∀ j, j < l.length → (l.getD j deadW).job = 1) → (∀ w ∈ l, w.done = true → w.out = -1 → F = []) → (∀ w ∈ l', w.done = true → w.out = -1 → F' = []) ∧ F.length + c = F'.length + c'
theorem Went.refl (c : Nat) (F : List Nat) (l : List Wk) : Went c F l c F l := ⟨rfl, fun _ _ => ⟨rfl, rfl⟩, rfl, fun _ h => ⟨h, rfl⟩⟩
theorem Went.trans {c c1 c2 : Nat} {F F1 F2 : List Nat} {l l1 l2 : List Wk} (h : Went c F l c1 F1 l1) (g : Went c1 F1 l1 c2 F2 l2) : Went c F l c2 F2 l2 := by
  refine ⟨g.len.trans h.len, fun j hj => ?_, by have := h.cnt; have := g.cnt; omega, fun hj hF => ?_⟩
  · obtain ⟨a1, a2⟩ := h.same j hj
    obtain ⟨b1, b2⟩ := g.same j (by rw [h.len]; exact hj)
    exact ⟨b1.trans a1, b2.trans a2⟩
  · obtain ⟨a1, a2⟩ := h.pops hj hF
    obtain ⟨b1, b2⟩ := g.pops (fun j hj1 => by rw [h.len] at hj1; rw [(h.same j hj1).1]; exact hj j hj1) a1
    exact ⟨b1, by omega⟩
theorem getD_setW (l : List Wk) {T : Nat} (u : Wk) (hT : T < l.length) (j : Nat) : (l.set T u).getD j deadW = if T = j then u else l.getD j deadW := by
  rw [List.getD_eq_getElem?_getD, List.getElem?_set]
  by_cases e : T = j
  · subst e; rw [if_pos rfl, if_pos rfl, if_pos hT]; rfl
  · rw [if_neg e, if_neg e, ← List.getD_eq_getElem?_getD]
theorem went_step {n c c' : Nat} {F F' : List Nat} {l : List Wk} {T : Nat} {u : Wk} (hT : T < l.length) (hd : (l.getD T deadW).done = false) (h : StepI n c c' F F' (l.getD T deadW) u) : Went c F l c' F' (l.set T u) := by
  obtain ⟨a, b, hl, hset, _⟩ := ownL_split hT u
  refine ⟨by rw [List.length_set], fun j hj => ?_, ?_, fun hj hF => ?_⟩
  · rw [getD_setW l u hT]
    by_cases e : T = j
    · subst e; rw [if_pos rfl]; exact ⟨h.job, h.r0⟩
    · rw [if_neg e]; exact ⟨rfl, rfl⟩
  · have e1 : succN l = succN a + 0 + succN b := by
      conv => lhs; rw [hl]
      rw [succN_app, hd]; simp
    rw [hset, succN_app, e1]
    rcases h.cases with ⟨q1, q2, q3, q4⟩ | ⟨q1, q2, q3, q4⟩
    · rw [if_neg (by
        intro e
        simp only [Bool.and_eq_true, decide_eq_true_eq] at e
        have := (q3 e.1).2.1
        omega)]
      omega
    · rw [if_pos (by simp [q2, q3])]
      omega
  · have hmem : ∀ z, z ∈ a ∨ z ∈ b → z ∈ l := fun z hz => by rw [hl]; simp; rcases hz with hz | hz; exact .inl hz; exact .inr (.inr hz)
    rcases h.cases with ⟨q1, q2, q3, q4⟩ | ⟨q1, q2, q3, q4⟩
    · subst q1 q2
      refine ⟨fun w hw hwd hwo => ?_, rfl⟩
      rw [hset] at hw
      rcases List.mem_append.1 hw with hw | hw
      · exact hF w (hmem w (.inl hw)) hwd hwo
      · rcases List.mem_cons.1 hw with rfl | hw
        · exact (q3 hwd).2.2
        · exact hF w (hmem w (.inr hw)) hwd hwo
    · obtain ⟨q5, q6⟩ := q4 (hj T hT)
      refine ⟨fun w hw hwd hwo => ?_, by omega⟩
      rw [hset] at hw
      rcases List.mem_append.1 hw with hw | hw
      · exact absurd (hF w (hmem w (.inl hw)) hwd hwo) q5
      · rcases List.mem_cons.1 hw with rfl | hw
        · omega
        · exact absurd (hF w (hmem w (.inr hw)) hwd hwo) q5
theorem mu_step {n K c c' : Nat} {F F' : List Nat} {l : List Wk} {T : Nat} {u : Wk} (hK : l.length = K) (hpc : ∀ w ∈ l, w.pc = 0 ∨ w.pc = 1 ∨ w.pc = 2) (hT : T < l.length) (hd : (l.getD T deadW).done = false) (h : StepI n c c' F F' (l.getD T deadW) u) : muL K c' (l.set T u) < muL K c l := by
  obtain ⟨a, b, hl, hset, _⟩ := ownL_split hT u
  have hlen : l.length = a.length + (b.length + 1) := by
    conv => lhs; rw [hl]
    simp
  have hmem : ∀ z, z ∈ a ∨ z ∈ b → z ∈ l := fun z hz => by rw [hl]; simp; rcases hz with hz | hz; exact .inl hz; exact .inr (.inr hz)
  have hw : l.getD T deadW ∈ l := by rw [List.getD_eq_getElem?_getD, List.getElem?_eq_getElem hT]; exact List.getElem_mem hT
  have hp := gW_pos (c := c) (hpc _ hw) hd
  have e1 : muL K c l = muL K c a + (gW c (l.getD T deadW) + 4 * K + muL K c b) := by
    conv => lhs; rw [hl]
    rw [muL_app]
    unfold muW
    rw [hd, if_neg (by decide)]
  rw [hset, muL_app, e1]
  rcases h.cases with ⟨q1, q2, q3, q4⟩ | ⟨q1, q2, q3, q4⟩
  · subst q1
    unfold muW
    split <;> omega
  · have m1 := muL_more (K := K) (c := c) (c' := c') (l := a) (fun w hw => hpc w (hmem w (.inl hw)))
    have m2 := muL_more (K := K) (c := c) (c' := c') (l := b) (fun w hw => hpc w (hmem w (.inr hw)))
    unfold muW
    rw [q2, if_pos rfl]
    omega
theorem runA_done' (at0 : Int) (picks : List Int) (f n : Nat) (m : List Int) (l : List Wk) (last : Int) (h : manyP (leftW l) = 0) : runA at0 picks f n m l last = (m, l, 0) := by cases f <;> (unfold runA; rw [if_pos h])
/-- Whatever the picks: all come to their end, and what is kept is kept. -/
theorem run_ok {n : Nat} {E : List Nat} (hn : n ≤ 1000) (picks : List Int) : ∀ (f N : Nat) (m : List Int) (l : List Wk) (last : Int) (c : Nat) (F : List Nat), CrowdI n c m F l E → c + f ≤ 1000000 → muL l.length c l ≤ f →
    ∃ m' l' c' F', runA 0 picks f N m l last = (m', l', 0) ∧ CrowdI n c' m' F' l' E ∧ (∀ w ∈ l', w.done = true) ∧ Went c F l c' F' l' := by
  intro f
  induction f with
  | zero =>
    intro N m l last c F h hc hmu
    have hz : manyP (leftW l) = 0 := by
      apply many_of_done
      intro w hw
      cases hd : w.done with
      | true => rfl
      | false =>
        obtain ⟨j, hj, rfl⟩ := List.getElem_of_mem hw
        obtain ⟨a, b, hl, _, _⟩ := ownL_split hj l[j]
        have e : l.getD j deadW = l[j] := by rw [List.getD_eq_getElem?_getD, List.getElem?_eq_getElem hj]; rfl
        rw [e] at hl
        have hp := gW_pos (c := c) (h.wks _ hw).pcs hd
        have : muL l.length c l = muL l.length c a + (gW c l[j] + 4 * l.length + muL l.length c b) := by
          conv => lhs; arg 3; rw [hl]
          rw [muL_app]
          unfold muW
          rw [hd, if_neg (by decide)]
        omega
    exact ⟨m, l, c, F, runA_done' _ _ _ _ _ _ _ hz, h, done_of_many hz, Went.refl _ _ _⟩
  | succ f ih =>
    intro N m l last c F h hc hmu
    by_cases hz : manyP (leftW l) = 0
    · exact ⟨m, l, c, F, runA_done' _ _ _ _ _ _ _ hz, h, done_of_many hz, Went.refl _ _ _⟩
    · obtain ⟨t1, t2, -⟩ := nextN_ok picks (N : Int) last (show 0 < manyP (leftW l) by omega)
      obtain ⟨T, hT⟩ : ∃ T, nextN picks N (leftW l) last = T := ⟨_, rfl⟩
      rw [hT] at t1 t2
      rw [leftW_len] at t1
      have hd : (l.getD T deadW).done = false := by
        rw [leftW_get l t1] at t2
        cases hx : (l.getD T deadW).done with
        | false => rfl
        | true => rw [hx, if_pos rfl] at t2; omega
      obtain ⟨m1, u, F1, c1, hs, hI, hst⟩ := crowd_step hn (by omega) h t1 hd
      have hmu1 := mu_step rfl (fun w hw => (h.wks w hw).pcs) t1 hd hst
      have hw1 := went_step t1 hd hst
      have hc1 : c1 ≤ c + 1 := by rcases hst.cases with ⟨q, _⟩ | ⟨q, _⟩ <;> omega
      obtain ⟨m2, l2, c2, F2, hr, hI2, hd2, hw2⟩ := ih (N + 1) m1 (l.set T u) (T : Int) c1 F1 hI (by omega) (by rw [List.length_set]; omega)
      refine ⟨m2, l2, c2, F2, ?_, hI2, hd2, hw1.trans hw2⟩
      conv => lhs; unfold runA
      rw [if_neg hz, hT, hs]
      exact hr
end Go.Proofs.Ytohnhcjpdohddaa
