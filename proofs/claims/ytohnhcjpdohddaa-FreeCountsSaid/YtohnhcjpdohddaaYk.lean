/-
  Plain maths of FreeCounts: a crowd that takes, then the same nodes given back.
-/
import Derived.Test.YtohnhcjpdohddaaYj
namespace Go.Proofs.Ytohnhcjpdohddaa
set_option linter.unusedVariables false
set_option linter.unusedSimpArgs false

theorem stk_wd {n c : Nat} {m : List Int} {F : List Nat} (h : Stk n c m F) (hn : n ≤ 1000) (hc : c ≤ 1000000) : ∀ x ∈ m, WdI x := by
  intro x hx
  obtain ⟨j, hj, rfl⟩ := List.getElem_of_mem hx
  have e : m.getD j 0 = m[j] := by rw [List.getD_eq_getElem?_getD, List.getElem?_eq_getElem hj]; rfl
  have ht := topF_bd h.lt
  rw [← e]
  by_cases h0 : j = 0
  · subst h0; rw [h.head]; unfold WdI; omega
  · have := h.links j (by omega); unfold WdI; omega
theorem walk_chain {m : List Int} {n : Nat} (hl : m.length = n + 1) : ∀ (F : List Nat) (f : Nat), F.length ≤ f → ChainF m F → (∀ x ∈ F, x < n) → walkF m f (topF F) = F.map fun (x : Nat) => (x : Int) := by
  intro F
  induction F with
  | nil => intro f _ _ _; cases f <;> simp [walkF, topF]
  | cons x r ih =>
    intro f hf hch hlt
    cases f with
    | zero => simp at hf
    | succ f =>
      have hx := hlt x (by simp)
      unfold walkF
      rw [if_pos ⟨by show (0 : Int) < (x : Int) + 1; omega, by show (x : Int) + 1 < _; omega⟩]
      show ((x : Int) + 1 - 1) :: walkF m f (m.getD ((x : Int) + 1).toNat 0) = _
      rw [show ((x : Int) + 1).toNat = x + 1 by omega, hch.1, ih f (by simpa using hf) hch.2 (fun z hz => hlt z (List.mem_cons_of_mem _ hz))]
      simp
theorem stk_free {n c : Nat} {m : List Int} {F : List Nat} (h : Stk n c m F) (hn : n ≤ 1000) (hF : F.length ≤ n) : freeL m = F.map fun (x : Nat) => (x : Int) := by
  have ht := topF_bd h.lt
  have := h.len
  unfold freeL
  rw [if_pos (by omega), h.head, head_H ht.1 (by omega)]
  exact walk_chain h.len F 1000 (by omega) h.chain h.lt
theorem chain_range (n : Nat) : ∀ k t, t + k = n → ChainF (makeL n) (List.range' t k) := by
  intro k
  induction k with
  | zero => intro t _; trivial
  | succ k ih =>
    intro t h
    refine ⟨?_, ih (t + 1) (by omega)⟩
    cases k with
    | zero => rw [show t + 1 = n by omega]; exact makeL_last n
    | succ k => rw [makeL_get (by omega)]; rfl
theorem stk_new (n : Nat) : Stk n 0 (makeL n) (List.range n) := by
  have hl := makeL_len n
  refine ⟨hl, ?_, fun k hk => ?_, ?_, fun x hx => List.mem_range.1 hx⟩
  · by_cases h : n = 0
    · subst h; rfl
    · rw [makeL_get (by omega)]
      cases n with
      | zero => exact absurd rfl h
      | succ n => rw [List.range_succ_eq_map]; rfl
  · by_cases h : k < n
    · rw [makeL_get h]; omega
    · by_cases h2 : k = n
      · rw [h2, makeL_last]; omega
      · rw [List.getD_eq_getElem?_getD, List.getElem?_eq_none (by omega)]; simp
  · rw [List.range_eq_range']
    exact chain_range n n 0 (by omega)
theorem pop_wkI (n c : Nat) (m : List Int) (F : List Nat) : WkI n c m F popW :=
  ⟨.inl rfl, .inl rfl, ⟨Int.le_refl _, (show (0 : Int) ≤ n by omega)⟩, wdI0, wdI0, ⟨by decide, (show (0 : Int) ≤ n by omega)⟩, fun h => absurd h (by decide), fun h => absurd h (by decide), .inr (.inl rfl)⟩
theorem push_wkI {n c : Nat} {m : List Int} {F : List Nat} {x : Int} (h0 : 0 ≤ x) (h1 : x < n) : WkI n c m F (pushW x) :=
  ⟨.inr rfl, .inl rfl, ⟨h0, (show x ≤ n by omega)⟩, wdI0, wdI0, ⟨(show (-1 : Int) ≤ 0 by decide), (show (0 : Int) ≤ n by omega)⟩, fun _ h => absurd h (by simp [pushW]), fun _ => h1, .inr (.inl rfl)⟩
theorem mu_bd (K c : Nat) {l : List Wk} (h : ∀ w ∈ l, w.pc = 0 ∨ w.pc = 1 ∨ w.pc = 2) : muL K c l ≤ l.length * (5 + 4 * K) := by
  induction l with
  | nil => simp [muL]
  | cons x l ih =>
    have h1 := ih (fun w hw => h w (List.mem_cons_of_mem _ hw))
    have h2 := gW_le c (h x (by simp))
    have e : muL K c (x :: l) = muW K c x + muL K c l := by unfold muL; simp
    have h3 : muW K c x ≤ 5 + 4 * K := by unfold muW; split <;> omega
    rw [e, List.length_cons, Nat.add_mul, Nat.one_mul]
    omega
theorem runW_of {at0 : Int} {picks m : List Int} {l : List Wk} {m' : List Int} {l' : List Wk} (hl : l.length ≤ 64) (h : runA at0 picks 100000 0 m l (-1) = (m', l', 0)) : runW at0 picks m l = (m', l', 0) := by
  unfold runW
  rw [if_neg (by omega), h, if_pos rfl]
/-- a crowd of at most sixteen -/
theorem crowd_run {n c : Nat} {m : List Int} {F : List Nat} {l : List Wk} {E : List Nat} (hn : n ≤ 1000) (hc : c ≤ 1000) (hl : l.length ≤ 16) (h : CrowdI n c m F l E) (picks : List Int) :
    ∃ m' l' c' F', runW 0 picks m l = (m', l', 0) ∧ CrowdI n c' m' F' l' E ∧ (∀ w ∈ l', w.done = true) ∧ Went c F l c' F' l' := by
  have hb := mu_bd l.length c (fun w hw => (h.wks w hw).pcs)
  have hb2 : l.length * (5 + 4 * l.length) ≤ 16 * 69 := Nat.mul_le_mul hl (by omega)
  obtain ⟨m', l', c', F', hr, h1, h2, h3⟩ := run_ok hn picks 100000 0 m l (-1) c F h (by omega) (by omega)
  exact ⟨m', l', c', F', runW_of (by omega) hr, h1, h2, h3⟩
/-- the nodes that were taken, in the workers' order -/
def heldL (l : List Wk) : List Int := (l.filter fun w => decide (0 ≤ w.out)).map (·.out)
theorem held_own {l : List Wk} (hd : ∀ w ∈ l, w.done = true) (hj : ∀ w ∈ l, w.job = 1) : ownL l = (heldL l).map Int.toNat := by
  induction l with
  | nil => rfl
  | cons x l ih =>
    have i := ih (fun w hw => hd w (List.mem_cons_of_mem _ hw)) (fun w hw => hj w (List.mem_cons_of_mem _ hw))
    have h1 := hd x (by simp)
    have h2 := hj x (by simp)
    have e : ownL (x :: l) = ownN x ++ ownL l := by unfold ownL; simp
    rw [e, i]
    unfold heldL ownN
    rw [h2, if_neg (by decide), h1]
    by_cases h0 : 0 ≤ x.out
    · rw [if_pos ⟨rfl, h0⟩]; simp [h0]
    · rw [if_neg (fun q => h0 q.2)]; simp [h0]
theorem held_succ {l : List Wk} (hd : ∀ w ∈ l, w.done = true) : succN l = (heldL l).length := by
  unfold succN heldL
  rw [List.length_map]
  congr 1
  refine List.filter_congr fun w hw => ?_
  rw [hd w hw]
  simp
theorem push_own (H : List Int) (h : ∀ x ∈ H, 0 ≤ x) : ownL (H.map pushW) = H.map Int.toNat := by
  induction H with
  | nil => rfl
  | cons x H ih =>
    have e : ownL ((x :: H).map pushW) = ownN (pushW x) ++ ownL (H.map pushW) := by unfold ownL; simp
    rw [e, ih (fun z hz => h z (List.mem_cons_of_mem _ hz))]
    rfl
theorem push_succ (H : List Int) : succN (H.map pushW) = 0 := by
  unfold succN
  rw [List.length_eq_zero_iff, List.filter_eq_nil_iff]
  intro w hw
  obtain ⟨x, _, rfl⟩ := List.mem_map.1 hw
  simp [pushW]
theorem pop_succ (k : Nat) : succN (List.replicate k popW) = 0 := by
  unfold succN
  rw [List.length_eq_zero_iff, List.filter_eq_nil_iff]
  intro w hw
  rw [List.eq_of_mem_replicate hw]
  simp [popW]
theorem pop_own (k : Nat) : ownL (List.replicate k popW) = [] := by
  induction k with
  | zero => rfl
  | succ k ih => rw [List.replicate_succ]; have e : ownL (popW :: List.replicate k popW) = ownN popW ++ ownL (List.replicate k popW) := by unfold ownL; simp
                 rw [e, ih]; rfl
/-- what FreeCounts asks -/
structure CntK (n L : Nat) (picks a : List Int) (l : List Wk) (b : List Int) (k : List Wk) (c : Nat) (s t : Int) : Prop where
  run1 : runW 0 picks (makeL n) (List.replicate L popW) = (a, l, 0)
  alen : a.length = n + 1
  awd : ∀ x ∈ a, WdI x
  llen : l.length = L
  outs : ∀ w ∈ l, -1 ≤ w.out ∧ w.out ≤ 1000
  took : (heldL l).length = c
  least : c = min L n
  ahead : a.getD 0 0 = (c : Int) * 1048576 + s
  sbd : 0 ≤ s ∧ s ≤ 1000
  run2 : runW 0 picks a ((heldL l).map pushW) = (b, k, 0)
  blen : b.length = n + 1
  bwd : ∀ x ∈ b, WdI x
  klen : k.length = c
  bhead : b.getD 0 0 = (2 * (c : Int)) * 1048576 + t
  tbd : 0 ≤ t ∧ t ≤ 1000
  free : (freeL b).length = n
theorem counts (n L : Nat) (hn : n ≤ 6) (hL : L ≤ 8) (picks : List Int) : ∃ a l b k c s t, CntK n L picks a l b k c s t := by
  have hI : CrowdI n 0 (makeL n) (List.range n) (List.replicate L popW) [] := by
    refine ⟨stk_new n, ?_, fun w hw => ?_⟩
    · unfold AllN; rw [pop_own]; simp
    · rw [List.eq_of_mem_replicate hw]; exact pop_wkI _ _ _ _
  have hgp : ∀ j, j < (List.replicate L popW).length → (List.replicate L popW).getD j deadW = popW := fun j hj => by
    rw [List.getD_eq_getElem?_getD, List.getElem?_eq_getElem hj, Option.getD_some, List.getElem_replicate]
  obtain ⟨a, l, c, F, hr, h1, h2, h3⟩ := crowd_run (by omega) (by omega) (by rw [List.length_replicate]; omega) hI picks
  have hll : l.length = L := by rw [h3.len, List.length_replicate]
  have hj1 : ∀ w ∈ l, w.job = 1 := fun w hw => by
    obtain ⟨j, hj, rfl⟩ := List.getElem_of_mem hw
    have := (h3.same j (by rw [← h3.len]; exact hj)).1
    rw [hgp j (by rw [← h3.len]; exact hj), List.getD_eq_getElem?_getD, List.getElem?_eq_getElem hj] at this
    exact this
  obtain ⟨p1, p2⟩ := h3.pops (fun j hj => by rw [hgp j hj]; rfl) (fun w hw hd _ => by rw [List.eq_of_mem_replicate hw] at hd; cases hd)
  have hsc := h3.cnt
  rw [pop_succ, held_succ h2] at hsc
  rw [List.length_range] at p2
  have hown := held_own h2 hj1
  have hall := h1.all
  unfold AllN at hall
  rw [hown, List.append_nil] at hall
  have hheld : ∀ x ∈ heldL l, 0 ≤ x ∧ x < n := by
    intro x hx
    have hx0 : 0 ≤ x := by
      unfold heldL at hx
      obtain ⟨w, hw, rfl⟩ := List.mem_map.1 hx
      simpa using (List.mem_filter.1 hw).2
    have hm : x.toNat ∈ List.range n := hall.subset (List.mem_append.2 (.inr (List.mem_map.2 ⟨x, hx, rfl⟩)))
    have := List.mem_range.1 hm
    exact ⟨hx0, by omega⟩
  have hhl : (heldL l).length ≤ L := by unfold heldL; rw [List.length_map, ← hll]; exact List.length_filter_le _ _
  have hI2 : CrowdI n c a F ((heldL l).map pushW) [] := by
    refine ⟨h1.stk, ?_, fun w hw => ?_⟩
    · unfold AllN; rw [push_own _ (fun x hx => (hheld x hx).1), List.append_nil]; exact hall
    · obtain ⟨x, hx, rfl⟩ := List.mem_map.1 hw
      exact push_wkI (hheld x hx).1 (hheld x hx).2
  obtain ⟨b, k, c2, F2, hr2, g1, g2, g3⟩ := crowd_run (by omega) (by omega) (by rw [List.length_map]; omega) hI2 picks
  have hkl : k.length = (heldL l).length := by rw [g3.len, List.length_map]
  have hk2 : ∀ w ∈ k, w.job = 2 ∧ 0 ≤ w.r0 := fun w hw => by
    obtain ⟨j, hj, rfl⟩ := List.getElem_of_mem hw
    have hj' : j < ((heldL l).map pushW).length := by rw [← g3.len]; exact hj
    have := g3.same j hj'
    rw [List.getD_eq_getElem?_getD, List.getElem?_eq_getElem hj, List.getD_eq_getElem?_getD, List.getElem?_eq_getElem hj', List.getElem_map] at this
    refine ⟨this.1, ?_⟩
    rw [show k[j].r0 = (pushW ((heldL l)[j]'(by simpa using hj'))).r0 from this.2]
    exact (hheld _ (List.getElem_mem _)).1
  have hs2 : succN k = k.length := by
    unfold succN
    rw [List.filter_eq_self.2]
    intro w hw
    have e := (g1.wks w hw).push (hk2 w hw).1 (g2 w hw)
    rw [g2 w hw, e]
    simp [(hk2 w hw).2]
  have hcnt2 := g3.cnt
  rw [push_succ, hs2, hkl] at hcnt2
  have hown2 : ownL k = [] := by
    unfold ownL
    rw [List.flatMap_eq_nil_iff]
    intro w hw
    unfold ownN
    rw [if_pos (hk2 w hw).1, g2 w hw, if_pos rfl]
  have hall2 := g1.all
  unfold AllN at hall2
  rw [hown2, List.append_nil, List.append_nil] at hall2
  have hF2 : F2.length = n := by rw [hall2.length_eq, List.length_range]
  have ht1 := topF_bd h1.stk.lt
  have ht2 := topF_bd g1.stk.lt
  refine ⟨a, l, b, k, c, topF F, topF F2, hr, h1.stk.len, stk_wd h1.stk (by omega) (by omega), hll, fun w hw => ?_, by omega, ?_, h1.stk.head, ⟨ht1.1, by omega⟩, hr2, g1.stk.len, stk_wd g1.stk (by omega) (by omega), by omega, ?_, ⟨ht2.1, by omega⟩, ?_⟩
  · have := (h1.wks w hw).out
    exact ⟨this.1, by omega⟩
  · by_cases hex : ∃ w ∈ l, w.out = -1
    · obtain ⟨w, hw, ho⟩ := hex
      have hF := p1 w hw (h2 w hw) ho
      rw [hF] at p2
      simp at p2
      omega
    · have hfull : (heldL l).length = l.length := by
        unfold heldL
        rw [List.length_map, List.filter_eq_self.2]
        intro w hw
        have := (h1.wks w hw).out
        have : w.out ≠ -1 := fun e => hex ⟨w, hw, e⟩
        simp only [decide_eq_true_eq]
        omega
      omega
  · rw [g1.stk.head]
    have : (c2 : Int) = 2 * (c : Int) := by omega
    rw [this]
  · rw [stk_free g1.stk (by omega) (by omega), List.length_map, hF2]
end Go.Proofs.Ytohnhcjpdohddaa
