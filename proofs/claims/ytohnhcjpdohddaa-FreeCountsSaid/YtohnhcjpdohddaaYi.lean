/-
  Plain maths of a crowd at a free list: one step of one of them.
-/
import Derived.Test.YtohnhcjpdohddaaYh
namespace Go.Proofs.Ytohnhcjpdohddaa
set_option linter.unusedVariables false
set_option linter.unusedSimpArgs false

/-- how far a worker is from its end, if none else comes between -/
def gW (c : Nat) (w : Wk) : Nat := if w.done then 0 else if w.pc = 0 then 3 else if hdC w.r1 = (c : Int) then (3 - w.pc).toNat else (6 - w.pc).toNat
theorem gW_le (c : Nat) {w : Wk} (h : w.pc = 0 ∨ w.pc = 1 ∨ w.pc = 2) : gW c w ≤ 5 := by
  unfold gW
  split
  · omega
  · split
    · omega
    · split <;> omega
theorem gW_more (c c' : Nat) {w : Wk} (h : w.pc = 0 ∨ w.pc = 1 ∨ w.pc = 2) : gW c' w ≤ gW c w + 3 := by
  unfold gW
  split
  · omega
  · split
    · omega
    · split <;> split <;> omega
theorem gW_next {c : Nat} {w u : Wk} (h0 : w.pc = 1) (hd : w.done = false) (hu : u.done = false) (hp : u.pc = 2) (hr : u.r1 = w.r1) : gW c u < gW c w := by
  unfold gW
  rw [hd, hu, h0, hp, hr]
  by_cases hk : hdC w.r1 = (c : Int) <;> simp [hk]
theorem gW_back {c : Nat} {w u : Wk} (h0 : w.pc = 2) (hd : w.done = false) (hu : u.done = false) (hp : u.pc = 0) (hk : hdC w.r1 ≠ (c : Int)) : gW c u < gW c w := by
  unfold gW
  rw [hd, hu, h0, hp]
  simp [hk]
/-- what one step has done -/
structure StepI (n c c' : Nat) (F F' : List Nat) (w u : Wk) : Prop where
  job : u.job = w.job
  r0 : u.r0 = w.r0
  cases : (c' = c ∧ F' = F ∧ (u.done = true → w.job = 1 ∧ u.out = -1 ∧ F = []) ∧ gW c u < gW c w) ∨ (c' = c + 1 ∧ u.done = true ∧ 0 ≤ u.out ∧ (w.job = 1 → F ≠ [] ∧ F.length = F'.length + 1))
theorem crowd_make {n c' : Nat} {m' : List Int} {F' : List Nat} {l a b : List Wk} {T : Nat} {u : Wk} {E : List Nat} (hset : l.set T u = a ++ u :: b) (hS : Stk n c' m' F') (hA : AllN n F' (a ++ u :: b) E) (hu : WkI n c' m' F' u)
    (hoth : ∀ z, z ∈ a ∨ z ∈ b → WkI n c' m' F' z) : CrowdI n c' m' F' (l.set T u) E := by
  rw [hset]
  refine ⟨hS, hA, fun z hz => ?_⟩
  rcases List.mem_append.1 hz with h | h
  · exact hoth z (.inl h)
  · rcases List.mem_cons.1 h with rfl | h
    · exact hu
    · exact hoth z (.inr h)
theorem all_same {n : Nat} {F : List Nat} {a b : List Wk} {w u : Wk} {E : List Nat} (h : AllN n F (a ++ w :: b) E) (he : ownN u = ownN w) : AllN n F (a ++ u :: b) E := by
  unfold AllN at h ⊢
  rw [ownL_app] at h ⊢
  rw [he]
  exact h
theorem crowd_step {n c : Nat} {m : List Int} {F : List Nat} {l : List Wk} {E : List Nat} {T : Nat} (hn : n ≤ 1000) (hc : c ≤ 1000000) (h : CrowdI n c m F l E) (hT : T < l.length) (hd : (l.getD T deadW).done = false) :
    ∃ m' u F' c', stepW 0 m (l.getD T deadW) = (m', u, 0) ∧ CrowdI n c' m' F' (l.set T u) E ∧ StepI n c c' F F' (l.getD T deadW) u := by
  have hsplit := fun u => ownL_split hT u
  obtain ⟨w, hw⟩ : ∃ w, l.getD T deadW = w := ⟨_, rfl⟩
  rw [hw] at hd hsplit ⊢
  have hmem : w ∈ l := by
    obtain ⟨a, b, e, _, _⟩ := hsplit w
    rw [e]; simp
  have hI := h.wks w hmem
  have hS := h.stk
  have hlen := hS.len
  have htop := topF_bd hS.lt
  have hjob := hI.job
  by_cases h0 : w.pc = 0
  · have h1 := h0
    have hs := stepW_of (at0 := 0) (m := m) (w := w) (y := (1, 0, 0, 0)) (by unfold accW; rw [if_pos h1]) (doA_load (by decide) (by omega) (by omega))
    rw [show (0 : Int).toNat = 0 from rfl, hS.head] at hs
    have hH := head_H (c := c) htop.1 (by omega)
    have hC := head_C (c := c) htop.1 (by omega)
    have hg : gW c w = 3 := by unfold gW; rw [hd, if_neg (by decide), if_pos h1]
    have hwd : WdI ((c : Int) * 1048576 + topF F) := by unfold WdI; omega
    by_cases hend : w.job = 1 ∧ topF F = 0
    · have hb : behW w ((c : Int) * 1048576 + topF F) true = { w with r1 := (c : Int) * 1048576 + topF F, done := true, out := -1 } := by
        unfold behW; rw [if_pos h1, if_pos (by rw [hH]; exact hend)]
      rw [hb] at hs
      obtain ⟨a, b, hl, hset, _⟩ := hsplit { w with r1 := (c : Int) * 1048576 + topF F, done := true, out := -1 }
      have hF : F = [] := by
        cases F with
        | nil => rfl
        | cons x r => have : (x : Int) + 1 = 0 := hend.2; omega
      refine ⟨m, _, F, c, hs, crowd_make hset hS (all_same (w := w) (by rw [← hl]; exact h.all) ?_) ⟨hI.job, hI.pcs, hI.r0, hwd, hI.r2, ⟨Int.le_refl _, (show (-1 : Int) ≤ n by omega)⟩, fun e => ?_, hI.room, .inl rfl⟩ (fun z hz => h.wks z (by rw [hl]; simp; rcases hz with hz | hz; exact .inl hz; exact .inr (.inr hz))), ⟨rfl, rfl, .inl ⟨rfl, rfl, fun _ => ⟨hend.1, rfl, hF⟩, ?_⟩⟩⟩
      · unfold ownN
        simp only [hend.1]
        rw [if_neg (by decide), if_neg (by decide), if_neg (by simp), if_neg (by simp [hd])]
      · exact absurd (hend.1.symm.trans e) (by decide)
      · rw [hg]; unfold gW; simp
    · have hb : behW w ((c : Int) * 1048576 + topF F) true = { w with r1 := (c : Int) * 1048576 + topF F, pc := 1 } := by
        unfold behW; rw [if_pos h1, if_neg (by rw [hH]; exact hend)]
      rw [hb] at hs
      obtain ⟨a, b, hl, hset, _⟩ := hsplit { w with r1 := (c : Int) * 1048576 + topF F, pc := 1 }
      refine ⟨m, _, F, c, hs, crowd_make hset hS (all_same (w := w) (by rw [← hl]; exact h.all) rfl) ⟨hI.job, .inr (.inl rfl), hI.r0, hwd, hI.r2, hI.out, hI.push, hI.room, .inr (.inr ⟨c, topF F, ⟨rfl, Nat.le_refl _, htop.1, htop.2, fun _ => rfl⟩, fun e => ?_, fun e => ?_⟩)⟩ (fun z hz => h.wks z (by rw [hl]; simp; rcases hz with hz | hz; exact .inl hz; exact .inr (.inr hz))), ⟨rfl, rfl, .inl ⟨rfl, rfl, fun e => ?_, ?_⟩⟩⟩
      · have : topF F ≠ 0 := fun e2 => hend ⟨e, e2⟩
        omega
      · exact absurd e (by show ¬ (1 : Int) = 2; decide)
      · have e2 : w.done = true := e
        rw [hd] at e2; cases e2
      · rw [hg]; unfold gW
        simp only [hd]
        rw [if_neg (by decide), if_neg (by decide), if_pos hC]
        decide
  · have hst : ∃ k t, ReadH n c F w.r1 k t ∧ (w.job = 1 → 1 ≤ t) ∧ (w.pc = 2 → if w.job = 1 then 0 ≤ w.r2 ∧ w.r2 ≤ n ∧ (k = c → w.r2 = m.getD t.toNat 0) else m.getD (w.r0.toNat + 1) 0 = t) := by
      rcases hI.stage with h1 | h1 | h1
      · rw [hd] at h1; cases h1
      · exact absurd h1 h0
      · exact h1
    obtain ⟨k, t, ⟨e1, e2, e3, e4, e5⟩, hj, hp⟩ := hst
    have hH : hdH w.r1 = t := by rw [e1]; exact head_H e3 (by omega)
    have hC : hdC w.r1 = k := by rw [e1]; exact head_C e3 (by omega)
    have hoth : ∀ {a b : List Wk}, l = a ++ w :: b → ∀ z, z ∈ a ∨ z ∈ b → z ∈ l := fun hl z hz => by rw [hl]; simp; rcases hz with hz | hz; exact .inl hz; exact .inr (.inr hz)
    have hr0 := hI.r0
    have hr0n : (w.r0.toNat : Int) = w.r0 := by omega
    have hown : ∀ u : Wk, u.job = w.job → u.r0 = w.r0 → u.done = false → ownN u = ownN w := fun u q1 q2 q3 => by unfold ownN; rw [q1, q2, q3, hd]; simp
    by_cases h1 : w.pc = 1
    · by_cases hjob1 : w.job = 1
      · -- which one is behind the first
        have ht1 := hj hjob1
        have hlk := hS.links t.toNat (by omega)
        have hs := stepW_of (at0 := 0) (m := m) (w := w) (y := (1, 0 + hdH w.r1, 0, 0)) (by unfold accW; rw [if_neg h0, if_pos hjob1, if_pos h1]) (doA_load (by rw [hH]; omega) (by rw [hH]; omega) (by omega))
        rw [hH, show (0 + t).toNat = t.toNat by omega] at hs
        have hb : behW w (m.getD t.toNat 0) true = { w with r2 := m.getD t.toNat 0, pc := 2 } := by
          unfold behW; rw [if_neg h0, if_pos h1, if_pos hjob1]
        rw [hb] at hs
        obtain ⟨a, b, hl, hset, _⟩ := hsplit { w with r2 := m.getD t.toNat 0, pc := 2 }
        refine ⟨m, _, F, c, hs, crowd_make hset hS (all_same (w := w) (by rw [← hl]; exact h.all) (hown _ rfl rfl hd)) ⟨hI.job, .inr (.inr rfl), hI.r0, hI.r1, by unfold WdI; simp only; omega, hI.out, hI.push, hI.room, .inr (.inr ⟨k, t, ⟨e1, e2, e3, e4, e5⟩, hj, fun _ => by rw [if_pos hjob1]; exact ⟨hlk.1, hlk.2, fun _ => rfl⟩⟩)⟩ (fun z hz => h.wks z (hoth hl z hz)), ⟨rfl, rfl, .inl ⟨rfl, rfl, fun e => ?_, ?_⟩⟩⟩
        · have e2 : w.done = true := e
          rw [hd] at e2; cases e2
        · exact gW_next h1 hd hd rfl rfl
      · -- the node is written
        have hjob2 : w.job = 2 := by rcases hjob with q | q; exact absurd q hjob1; exact q
        have hrm := hI.room hjob2
        have hs := stepW_of (at0 := 0) (m := m) (w := w) (y := (2, 0 + 1 + w.r0, 0, hdH w.r1)) (by unfold accW; rw [if_neg h0, if_neg hjob1, if_pos h1]) (doA_write (by omega) (by omega) (by omega) (by rw [hH]; unfold WdI; omega))
        rw [hH, show (0 + 1 + w.r0).toNat = w.r0.toNat + 1 by omega] at hs
        have hb : behW w (m.getD (w.r0.toNat + 1) 0) true = { w with pc := 2 } := by
          unfold behW; rw [if_neg h0, if_pos h1, if_neg hjob1]
        rw [hb] at hs
        obtain ⟨a, b, hl, hset, _⟩ := hsplit { w with pc := 2 }
        have hmine : w.r0.toNat ∈ ownN w := by unfold ownN; rw [if_pos hjob2, hd]; simp
        have hall := h.all
        rw [hl] at hall
        obtain ⟨q1, q2, q3⟩ := own_apart hall hmine
        have hget : ∀ y, y ≠ w.r0.toNat + 1 → (m.set (w.r0.toNat + 1) t).getD y 0 = m.getD y 0 := fun y hy => by
          rw [List.getD_eq_getElem?_getD, List.getElem?_set_ne (fun e => hy e.symm), ← List.getD_eq_getElem?_getD]
        have hgot : (m.set (w.r0.toNat + 1) t).getD (w.r0.toNat + 1) 0 = t := by
          rw [List.getD_eq_getElem?_getD, List.getElem?_set, if_pos rfl, if_pos (by omega)]; rfl
        have hne : ∀ x ∈ F, x + 1 ≠ w.r0.toNat + 1 := fun x hx e => by
          have e9 : x = w.r0.toNat := by omega
          rw [e9] at hx
          exact q1 hx
        have hS' : Stk n c (m.set (w.r0.toNat + 1) t) F := by
          refine ⟨by rw [List.length_set]; exact hlen, by rw [hget 0 (by omega)]; exact hS.head, fun y hy => ?_, chain_set hS.chain _ _ hne, hS.lt⟩
          by_cases e : y = w.r0.toNat + 1
          · rw [e, hgot]; exact ⟨e3, e4⟩
          · rw [hget y e]; exact hS.links y hy
        refine ⟨_, _, F, c, hs, crowd_make hset hS' (all_same (w := w) hall (hown _ rfl rfl hd)) ⟨hI.job, .inr (.inr rfl), hI.r0, hI.r1, hI.r2, hI.out, hI.push, hI.room, .inr (.inr ⟨k, t, ⟨e1, e2, e3, e4, e5⟩, hj, fun _ => by rw [if_neg hjob1]; exact hgot⟩)⟩ (fun z hz => ?_), ⟨rfl, rfl, .inl ⟨rfl, rfl, fun e => ?_, ?_⟩⟩⟩
        · have hz2 := h.wks z (hoth hl z hz)
          refine hz2.again (Nat.le_refl _) (fun _ => rfl) (fun z1 z2 z3 => hget _ (fun e => ?_)) (fun _ x hx => hget _ (fun e => ?_))
          · have hzm : w.r0.toNat ∈ ownN z := by unfold ownN; rw [if_pos z3, z1, if_neg (by decide)]; simp; omega
            rcases hz with hz | hz
            · exact q2 z hz hzm
            · exact q3 z hz hzm
          · have : x = w.r0.toNat := by omega
            rw [this] at hx; exact q1 hx
        · have e2 : w.done = true := e
          rw [hd] at e2; cases e2
        · exact gW_next h1 hd hd rfl rfl
    · have h2 : w.pc = 2 := by rcases hI.pcs with q | q | q; exact absurd q h0; exact absurd q h1; exact q
      have hp2 := hp h2
      have heq : m.getD 0 0 = w.r1 ↔ k = c := by
        constructor
        · intro e
          rw [hS.head, e1] at e
          have g1 := head_C (c := c) htop.1 (by omega)
          have g2 := head_C (c := k) e3 (by omega)
          rw [e, g2] at g1
          omega
        · intro e
          rw [hS.head, e1, e5 e, e]
      have hkc : k ≤ 1000000 := by omega
      have hset0 : ∀ (v : Int) y, y ≠ 0 → (m.set 0 v).getD y 0 = m.getD y 0 := fun v y hy => by
        rw [List.getD_eq_getElem?_getD, List.getElem?_set_ne (fun e => hy e.symm), ← List.getD_eq_getElem?_getD]
      have hgot0 : ∀ v : Int, (m.set 0 v).getD 0 0 = v := fun v => by
        rw [List.getD_eq_getElem?_getD, List.getElem?_set, if_pos rfl, if_pos (by omega)]; rfl
      -- who has read an older head goes back
      have hback : ∀ new : Int, WdI new → accW 0 w = (3, 0, w.r1, new) → k ≠ c → ∃ m' u F' c', stepW 0 m w = (m', u, 0) ∧ CrowdI n c' m' F' (l.set T u) E ∧ StepI n c c' F F' w u := by
        intro new hnew hy hkc2
        have hsw := doA_swap (m := m) (old := w.r1) (new := new) (by omega) (by omega) hnew
        rw [if_pos (fun e => hkc2 (heq.1 e))] at hsw
        have hs := stepW_of hy hsw
        have hb : behW w (m.getD 0 0) false = { w with pc := 0 } := by unfold behW; rw [if_neg h0, if_neg h1, if_pos rfl]
        rw [hb] at hs
        obtain ⟨a, b, hl, hset, _⟩ := hsplit { w with pc := 0 }
        refine ⟨m, _, F, c, hs, crowd_make hset hS (all_same (w := w) (by rw [← hl]; exact h.all) (hown _ rfl rfl hd)) ⟨hI.job, .inl rfl, hI.r0, hI.r1, hI.r2, hI.out, hI.push, hI.room, .inr (.inl rfl)⟩ (fun z hz => h.wks z (hoth hl z hz)), ⟨rfl, rfl, .inl ⟨rfl, rfl, fun e => ?_, gW_back h2 hd hd rfl (by rw [hC]; omega)⟩⟩⟩
        have e2 : w.done = true := e
        rw [hd] at e2; cases e2
      by_cases hjob1 : w.job = 1
      · rw [if_pos hjob1] at hp2
        have ht1 := hj hjob1
        have hy : accW 0 w = (3, 0, w.r1, (k + 1) * 1048576 + w.r2) := by unfold accW; rw [if_neg h0, if_pos hjob1, if_neg h1, hC]
        have hnew : WdI (((k : Int) + 1) * 1048576 + w.r2) := by unfold WdI; omega
        by_cases hkc2 : k = c
        · subst hkc2
          have hF := e5 rfl
          cases hFe : F with
          | nil => rw [hFe] at hF; rw [hF] at ht1; exact absurd ht1 (by decide)
          | cons x r =>
            have htx : t = (x : Int) + 1 := by rw [hF, hFe]; rfl
            have hsw := doA_swap (m := m) (old := w.r1) (new := ((k : Int) + 1) * 1048576 + w.r2) (by omega) (by omega) hnew
            rw [if_neg (by rw [heq.2 rfl]; simp)] at hsw
            have hs := stepW_of hy hsw
            have hb : behW w (m.getD 0 0) true = { w with done := true, out := t - 1 } := by unfold behW; rw [if_neg h0, if_neg h1, if_neg (by decide), if_pos hjob1, hH]
            rw [hb] at hs
            obtain ⟨a, b, hl, hset, _⟩ := hsplit { w with done := true, out := t - 1 }
            have hch := hS.chain
            have hlt := hS.lt
            have hall := h.all
            rw [hl] at hall
            rw [hFe] at hch hlt hall
            have hr2 : w.r2 = topF r := by rw [hp2.2.2 rfl, show t.toNat = x + 1 by omega]; exact hch.1
            have hS' : Stk n (k + 1) (m.set 0 (((k : Int) + 1) * 1048576 + w.r2)) r := by
              refine ⟨by rw [List.length_set]; exact hlen, by rw [hgot0, hr2]; rw [show ((k + 1 : Nat) : Int) = (k : Int) + 1 by omega], fun y hy => by rw [hset0 _ y (by omega)]; exact hS.links y hy, chain_set hch.2 _ _ (fun z _ => by omega), fun z hz => hlt z (List.mem_cons_of_mem _ hz)⟩
            have hxn := hlt x (by simp)
            refine ⟨_, _, r, k + 1, hs, crowd_make hset hS' ?_ ⟨hI.job, hI.pcs, hI.r0, hI.r1, hI.r2, ⟨by show -1 ≤ t - 1; omega, by show t - 1 ≤ (n : Int); omega⟩, fun e => absurd (hjob1.symm.trans e) (by decide), hI.room, .inl rfl⟩ (fun z hz => ?_), ⟨rfl, rfl, .inr ⟨rfl, rfl, by show 0 ≤ t - 1; omega, fun _ => ⟨by simp, by simp⟩⟩⟩⟩
            · unfold AllN at hall ⊢
              rw [ownL_app] at hall ⊢
              have o1 : ownN w = [] := by unfold ownN; rw [if_neg (by rw [hjob1]; decide), hd]; simp
              have o2 : ownN { w with done := true, out := t - 1 } = [x] := by
                unfold ownN
                simp only [hjob1]
                rw [if_neg (by decide), if_pos ⟨trivial, by omega⟩]
                congr 1
                omega
              rw [o1] at hall
              rw [o2]
              refine List.Perm.trans ?_ hall
              simp only [List.nil_append, List.append_assoc, List.cons_append]
              exact (List.perm_middle (l₁ := r ++ ownL a)).trans (by simp) |>.trans (List.Perm.refl _) |> fun q => by simpa using q
            · exact (h.wks z (hoth hl z hz)).again (by omega) (fun e => absurd e (by omega)) (fun _ _ _ => hset0 _ _ (by omega)) (fun e => absurd e (by omega))
        · exact hback _ hnew hy hkc2
      · have hjob2 : w.job = 2 := by rcases hjob with q | q; exact absurd q hjob1; exact q
        rw [if_neg hjob1] at hp2
        have hrm := hI.room hjob2
        have hy : accW 0 w = (3, 0, w.r1, (k + 1) * 1048576 + (w.r0 + 1)) := by unfold accW; rw [if_neg h0, if_neg hjob1, if_neg h1, hC]
        have hnew : WdI (((k : Int) + 1) * 1048576 + (w.r0 + 1)) := by unfold WdI; omega
        by_cases hkc2 : k = c
        · subst hkc2
          have hF := e5 rfl
          have hsw := doA_swap (m := m) (old := w.r1) (new := ((k : Int) + 1) * 1048576 + (w.r0 + 1)) (by omega) (by omega) hnew
          rw [if_neg (by rw [heq.2 rfl]; simp)] at hsw
          have hs := stepW_of hy hsw
          have hb : behW w (m.getD 0 0) true = { w with done := true, out := w.r0 } := by unfold behW; rw [if_neg h0, if_neg h1, if_neg (by decide), if_neg hjob1]
          rw [hb] at hs
          obtain ⟨a, b, hl, hset, _⟩ := hsplit { w with done := true, out := w.r0 }
          have hall := h.all
          rw [hl] at hall
          have hS' : Stk n (k + 1) (m.set 0 (((k : Int) + 1) * 1048576 + (w.r0 + 1))) (w.r0.toNat :: F) := by
            refine ⟨by rw [List.length_set]; exact hlen, ?_, fun y hy => by rw [hset0 _ y (by omega)]; exact hS.links y hy, ⟨?_, chain_set hS.chain _ _ (fun z _ => by omega)⟩, fun z hz => ?_⟩
            · rw [hgot0]
              show _ = ((k + 1 : Nat) : Int) * 1048576 + ((w.r0.toNat : Int) + 1)
              omega
            · rw [hset0 _ _ (by omega), hp2, hF]
            · rcases List.mem_cons.1 hz with rfl | hz
              · omega
              · exact hS.lt z hz
          refine ⟨_, _, w.r0.toNat :: F, k + 1, hs, crowd_make hset hS' ?_ ⟨hI.job, hI.pcs, hI.r0, hI.r1, hI.r2, ⟨by show -1 ≤ w.r0; omega, by show w.r0 ≤ (n : Int); omega⟩, fun _ _ => rfl, hI.room, .inl rfl⟩ (fun z hz => ?_), ⟨rfl, rfl, .inr ⟨rfl, rfl, by show 0 ≤ w.r0; omega, fun e => absurd (hjob2.symm.trans e) (by decide)⟩⟩⟩
          · unfold AllN at hall ⊢
            rw [ownL_app] at hall ⊢
            have o1 : ownN w = [w.r0.toNat] := by unfold ownN; rw [if_pos hjob2, hd]; simp
            have o2 : ownN { w with done := true, out := w.r0 } = [] := by unfold ownN; simp [hjob2]
            rw [o1] at hall
            rw [o2]
            refine List.Perm.trans ?_ hall
            have q := (List.perm_middle (a := w.r0.toNat) (l₁ := F ++ ownL a) (l₂ := ownL b ++ E)).symm
            simpa using q
          · exact (h.wks z (hoth hl z hz)).again (by omega) (fun e => absurd e (by omega)) (fun _ _ _ => hset0 _ _ (by omega)) (fun e => absurd e (by omega))
        · exact hback _ hnew hy hkc2
end Go.Proofs.Ytohnhcjpdohddaa
