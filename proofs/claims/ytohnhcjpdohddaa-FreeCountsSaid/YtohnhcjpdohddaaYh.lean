/-
  Plain maths of a crowd at a free list: what is kept at each step, and that all steps come to an end.
-/
import Derived.Test.YtohnhcjpdohddaaB10
namespace Go.Proofs.Ytohnhcjpdohddaa
set_option linter.unusedVariables false
set_option linter.unusedSimpArgs false

def topF : List Nat → Int
  | [] => 0
  | x :: _ => (x : Int) + 1
/-- nodes behind each other, as words tell them -/
def ChainF (m : List Int) : List Nat → Prop
  | [] => True
  | x :: r => m.getD (x + 1) 0 = topF r ∧ ChainF m r
theorem chain_set {m : List Int} {F : List Nat} (h : ChainF m F) (y : Nat) (v : Int) (hy : ∀ x ∈ F, x + 1 ≠ y) : ChainF (m.set y v) F := by
  induction F with
  | nil => trivial
  | cons x r ih =>
    refine ⟨?_, ih h.2 (fun z hz => hy z (List.mem_cons_of_mem _ hz))⟩
    rw [List.getD_eq_getElem?_getD, List.getElem?_set_ne (fun e => hy x (by simp) e.symm), ← List.getD_eq_getElem?_getD]
    exact h.1
/-- words that tell a free list: how often it was changed, the nodes -/
structure Stk (n c : Nat) (m : List Int) (F : List Nat) : Prop where
  len : m.length = n + 1
  head : m.getD 0 0 = (c : Int) * 1048576 + topF F
  links : ∀ k, 0 < k → 0 ≤ m.getD k 0 ∧ m.getD k 0 ≤ n
  chain : ChainF m F
  lt : ∀ x ∈ F, x < n
theorem topF_bd {n : Nat} {F : List Nat} (h : ∀ x ∈ F, x < n) : 0 ≤ topF F ∧ topF F ≤ n := by
  cases F with
  | nil => exact ⟨Int.le_refl 0, (show (0 : Int) ≤ n by omega)⟩
  | cons x r =>
    have := h x (by simp)
    show 0 ≤ (x : Int) + 1 ∧ (x : Int) + 1 ≤ n
    omega
theorem head_H {c : Nat} {t : Int} (h0 : 0 ≤ t) (h1 : t ≤ 1000) : hdH ((c : Int) * 1048576 + t) = t := by
  unfold hdH; rw [if_neg (by omega)]; omega
theorem head_C {c : Nat} {t : Int} (h0 : 0 ≤ t) (h1 : t ≤ 1000) : hdC ((c : Int) * 1048576 + t) = c := by
  unfold hdC; rw [if_neg (by omega)]; omega
/-- what a worker has read of the head -/
def ReadH (n c : Nat) (F : List Nat) (r : Int) (k : Nat) (t : Int) : Prop := r = (k : Int) * 1048576 + t ∧ k ≤ c ∧ 0 ≤ t ∧ t ≤ n ∧ (k = c → t = topF F)
/-- a worker at a free list -/
structure WkI (n c : Nat) (m : List Int) (F : List Nat) (w : Wk) : Prop where
  job : w.job = 1 ∨ w.job = 2
  pcs : w.pc = 0 ∨ w.pc = 1 ∨ w.pc = 2
  r0 : 0 ≤ w.r0 ∧ w.r0 ≤ n
  r1 : WdI w.r1
  r2 : WdI w.r2
  out : -1 ≤ w.out ∧ w.out ≤ n
  push : w.job = 2 → w.done = true → w.out = w.r0
  room : w.job = 2 → w.r0 < n
  stage : w.done = true ∨ w.pc = 0 ∨ (∃ k t, ReadH n c F w.r1 k t ∧ (w.job = 1 → 1 ≤ t) ∧ (w.pc = 2 → if w.job = 1 then 0 ≤ w.r2 ∧ w.r2 ≤ n ∧ (k = c → w.r2 = m.getD t.toNat 0) else m.getD (w.r0.toNat + 1) 0 = t))
theorem WkI.fit {n c : Nat} {m : List Int} {F : List Nat} {w : Wk} (h : WkI n c m F w) (hn : n ≤ 1000) : FitW w :=
  ⟨h.job, h.pcs, ⟨h.r0.1, by have := h.r0.2; omega⟩, h.r1, h.r2, by have := h.out; unfold WdI; omega⟩
/-- the nodes that a worker has -/
def ownN (w : Wk) : List Nat := if w.job = 2 then (if w.done then [] else [w.r0.toNat]) else (if w.done ∧ 0 ≤ w.out then [w.out.toNat] else [])
def ownL (l : List Wk) : List Nat := l.flatMap ownN
theorem ownL_split {l : List Wk} {T : Nat} (h : T < l.length) (u : Wk) : ∃ a b, l = a ++ l.getD T deadW :: b ∧ l.set T u = a ++ u :: b ∧ a.length = T := by
  refine ⟨l.take T, l.drop (T + 1), ?_, ?_, by rw [List.length_take]; omega⟩
  · rw [List.getD_eq_getElem?_getD, List.getElem?_eq_getElem h]
    simp
  · rw [List.set_eq_take_append_cons_drop, if_pos h]
theorem ownL_app (a b : List Wk) (x : Wk) : ownL (a ++ x :: b) = ownL a ++ (ownN x ++ ownL b) := by unfold ownL; simp
/-- all nodes are somewhere, each once -/
def AllN (n : Nat) (F : List Nat) (l : List Wk) (E : List Nat) : Prop := List.Perm (F ++ (ownL l ++ E)) (List.range n)
theorem AllN.nodup {n : Nat} {F : List Nat} {l : List Wk} {E : List Nat} (h : AllN n F l E) : (F ++ (ownL l ++ E)).Nodup := h.nodup_iff.2 List.nodup_range
/-- a node that a worker has is neither free nor another worker's -/
theorem own_apart {n : Nat} {F : List Nat} {a b : List Wk} {x : Wk} {E : List Nat} (h : AllN n F (a ++ x :: b) E) {y : Nat} (hy : y ∈ ownN x) : y ∉ F ∧ (∀ z ∈ a, y ∉ ownN z) ∧ (∀ z ∈ b, y ∉ ownN z) := by
  have hd := h.nodup
  rw [ownL_app] at hd
  simp only [List.nodup_append, List.mem_append, List.append_assoc] at hd
  refine ⟨fun hF => ?_, fun z hz hyz => ?_, fun z hz hyz => ?_⟩
  · exact hd.2.2 y hF y (.inr (.inl hy)) rfl
  · have : y ∈ ownL a := by unfold ownL; exact List.mem_flatMap.2 ⟨z, hz, hyz⟩
    exact hd.2.1.2.2 y this y (.inl hy) rfl
  · have : y ∈ ownL b := by unfold ownL; exact List.mem_flatMap.2 ⟨z, hz, hyz⟩
    exact hd.2.1.2.1.2.2 y hy y (.inl this) rfl
theorem doA_write {m : List Int} {a v : Int} (h0 : 0 ≤ a) (h1 : a < m.length) (hl : m.length ≤ 100000) (hv : WdI v) : doA m (2, a, 0, v) = (m.set a.toNat v, m.getD a.toNat 0, true, 0) := by
  have e : ∀ x, toA (2, a, 0, v) x = v := fun x => by unfold toA; rw [if_neg (by simp)]
  unfold doA
  rw [if_neg (by simp [knownA]; omega), if_neg (by simp only; omega), if_neg (by simp)]
  simp only [e]
  rw [if_neg (by rw [wdI_may.1 hv]; decide), if_neg (by rintro ⟨h2, _⟩; exact absurd h2 (by decide))]
/-! ### one step -/
/-- how a worker stands when words and nodes change, but not what it has read -/
theorem WkI.again {n c c' : Nat} {m m' : List Int} {F F' : List Nat} {w : Wk} (h : WkI n c m F w) (hc : c ≤ c') (hF : c' = c → F' = F) (hm : w.done = false → w.pc = 2 → w.job = 2 → m'.getD (w.r0.toNat + 1) 0 = m.getD (w.r0.toNat + 1) 0)
    (ht : c' = c → ∀ x ∈ F, m'.getD (x + 1) 0 = m.getD (x + 1) 0) : WkI n c' m' F' w := by
  refine ⟨h.job, h.pcs, h.r0, h.r1, h.r2, h.out, h.push, h.room, ?_⟩
  cases hd : w.done with
  | true => exact .inl rfl
  | false =>
    rcases h.stage with h1 | h1 | ⟨k, t, ⟨e1, e2, e3, e4, e5⟩, hj, hp⟩
    · rw [hd] at h1; cases h1
    · exact .inr (.inl h1)
    · refine .inr (.inr ⟨k, t, ⟨e1, by omega, e3, e4, fun e => ?_⟩, hj, fun h2 => ?_⟩)
      · have : c' = c := by omega
        rw [hF this]
        exact e5 (by omega)
      · have hp2 := hp h2
        by_cases hjob : w.job = 1
        · rw [if_pos hjob] at hp2 ⊢
          refine ⟨hp2.1, hp2.2.1, fun e => ?_⟩
          have hcc : c' = c := by omega
          have hk : k = c := by omega
          rw [hp2.2.2 hk]
          have ht1 := hj hjob
          have htF := e5 hk
          cases F with
          | nil => rw [htF] at ht1; exact absurd ht1 (by decide)
          | cons x r =>
            have : t.toNat = x + 1 := by rw [htF]; show ((x : Int) + 1).toNat = x + 1; omega
            rw [this]
            exact (ht hcc x (by simp)).symm
        · rw [if_neg hjob] at hp2 ⊢
          have hj2 : w.job = 2 := by rcases h.job with h1 | h1; exact absurd h1 hjob; exact h1
          rw [hm hd h2 hj2]
          exact hp2
/-- what is kept by all -/
structure CrowdI (n c : Nat) (m : List Int) (F : List Nat) (l : List Wk) (E : List Nat) : Prop where
  stk : Stk n c m F
  all : AllN n F l E
  wks : ∀ w ∈ l, WkI n c m F w
def succN (l : List Wk) : Nat := (l.filter fun w => w.done && decide (0 ≤ w.out)).length
theorem succN_app (a b : List Wk) (x : Wk) : succN (a ++ x :: b) = succN a + (if x.done && decide (0 ≤ x.out) then 1 else 0) + succN b := by
  unfold succN
  rw [List.filter_append, List.length_append, List.filter_cons]
  split <;> simp <;> omega
end Go.Proofs.Ytohnhcjpdohddaa
