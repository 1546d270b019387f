/-
  Maps whose keys are cells and whose elements tell whether a cell is alive and how many neighbours it has: how keys and elements read; what a map says behind some counts.
-/
import Derived.Test.YtcmdhochofoohaaDm
import Derived.Test.YtcmdhochofoohaaB15
import Derived.Maps.RangeWalk
import Derived.Maps.Views
import Derived.DeepKeys4
namespace Go.Proofs.Ytcmdhochofoohaa.Cel
set_option linter.unusedVariables false
set_option linter.unusedSimpArgs false
open Go.RowKit Go.Sort Go.ChangeShapes Go.WideShapes Go.ChangeAt
open Go.Maps (Keyed)

theorem cellKeyed : Keyed Try.prog 63 :=
  Keyed.of_law (deep_law_laid laidOut (m := 2) (by omega) (of_decide_eq_true (by kernel_rfl)) (by kernel_rfl) (by rw [Try.underlying63]))

/-- what a cell reads as, as a key -/
def kl (p : Int × Int) : Lit := .string (keyBytes [.int .i64 p.1, .int .i64 p.2])
theorem wf_of_i64 {a : Int} (h : I64 a) : (Lit.int .i64 a).wf = true := by
  unfold I64 at h
  simp only [Lit.wf, IntKind.min, IntKind.max, IntKind.signed, IntKind.bits]
  simp
  omega
theorem keyOf_cell {p : Int × Int} (h1 : I64 p.1) (h2 : I64 p.2) : keyOf Try.prog 63 (.agg #[.int .i64 p.1, .int .i64 p.2]) = some (kl p) := by
  have hkt : Try.prog.keyType 63 = true := by kernel_rfl
  have hsz : ∃ m, Try.prog.types.size = m + 1 := ⟨Try.prog.types.size - 1, by have : 0 < Try.prog.types.size := of_decide_eq_true (by kernel_rfl); omega⟩
  have hc2 : Try.prog.cellsOf 63 = 2 := by kernel_rfl
  have hc1 : Try.prog.cellsOf 3 = 1 := by kernel_rfl
  obtain ⟨m, hm⟩ := hsz
  have w1 := wf_of_i64 h1
  have w2 := wf_of_i64 h2
  unfold keyOf
  simp only [Try.underlying63]
  rw [if_pos (by simp [hkt, Value.formed, Try.underlying63, hc2]), hm]
  unfold Program.keyLits
  simp only [Try.underlying63, Value.cells]
  rw [if_pos (by rw [hc2]; simp)]
  simp [hc1, Program.keyLits, Try.underlying3, w1, w2, kl]

theorem key_cell {v : Value} {l : Lit} (h : keyOf Try.prog 63 v = some l) : ∃ p : Int × Int, I64 p.1 ∧ I64 p.2 ∧ v = .agg #[.int .i64 p.1, .int .i64 p.2] ∧ l = kl p := by
  obtain ⟨xs, L, rfl, hl, rfl⟩ := keyOf_top (by rw [Try.underlying63]) h
  have hsz : ∃ m, Try.prog.types.size = m + 1 := ⟨Try.prog.types.size - 1, by have : 0 < Try.prog.types.size := of_decide_eq_true (by kernel_rfl); omega⟩
  have hc2 : Try.prog.cellsOf 63 = 2 := by kernel_rfl
  have hc1 : Try.prog.cellsOf 3 = 1 := by kernel_rfl
  obtain ⟨m, hm⟩ := hsz
  rw [hm] at hl
  unfold Program.keyLits at hl
  simp only [Try.underlying63, hc2, hc1] at hl
  split at hl
  · rename_i hlen
    obtain ⟨xs⟩ := xs
    simp only at hlen hl
    clear h hm
    rcases xs with _ | ⟨a, _ | ⟨b, _ | ⟨c, xs⟩⟩⟩
    · simp at hlen
    · simp at hlen
    · simp [Program.keyLits, Try.underlying3, List.mapM_cons, hc1] at hl
      cases a <;> cases b <;> (try simp [Option.bind_eq_some_iff] at hl)
      rename_i q1 n1 q2 n2
      obtain ⟨_, ⟨⟨rfl, w1⟩, rfl⟩, _, ⟨_, ⟨⟨rfl, w2⟩, rfl⟩, rfl⟩, rfl⟩ := hl
      exact ⟨(n1, n2), i64_of_wf w1, i64_of_wf w2, rfl, rfl⟩
    · simp at hlen
  · cases hl

theorem kl_inj {p q : Int × Int} (hp1 : I64 p.1) (hp2 : I64 p.2) (hq1 : I64 q.1) (hq2 : I64 q.2) (h : kl p = kl q) : p = q := by
  have h1 := keyOf_cell hp1 hp2
  have h2 := keyOf_cell hq1 hq2
  rw [← h] at h2
  have := cellKeyed.inj h1 h2
  obtain ⟨a, b⟩ := p
  obtain ⟨c, d⟩ := q
  simpa using this

/-- How an element reads: as one number, twice the neighbours and one if it is alive. -/
def nearR (v : Value) : Option (DataW Unit × List MemPlace) :=
  match v with
  | .agg cs => (match cs.toList with | [.bool b, .int .i64 n] => some (.lit (.int .i64 (2 * n + if b then 1 else 0)), []) | _ => none)
  | _ => none
theorem nearR_mk (b : Bool) (n : Int) : nearR (.agg #[.bool b, .int .i64 n]) = some (.lit (.int .i64 (2 * n + if b then 1 else 0)), []) := rfl
theorem nearR_inv {v : Value} {y : DataW Unit × List MemPlace} (h : nearR v = some y) : ∃ p : Bool × Int, v = .agg #[.bool p.1, .int .i64 p.2] ∧ y = (.lit (.int .i64 (2 * p.2 + if p.1 then 1 else 0)), []) := by
  unfold nearR at h
  split at h
  · rename_i cs
    split at h
    · rename_i b n e
      obtain ⟨l⟩ := cs
      simp only at e
      subst e
      injection h with h
      exact ⟨(b, n), rfl, h.symm⟩
    · cases h
  · cases h
theorem code_inj {b c : Bool} {n m : Int} (h : (DataW.lit (.int .i64 (2 * n + if b then 1 else 0)) : DataW Unit) = .lit (.int .i64 (2 * m + if c then 1 else 0))) : b = c ∧ n = m := by
  have h' : (2 * n + if b then (1 : Int) else 0) = 2 * m + if c then 1 else 0 := by simpa using h
  cases b <;> cases c <;> simp at h' ⊢ <;> omega

/-- so many counts, in the order in which they come: where; whether of the cell itself -/
abbrev Evs := List ((Int × Int) × Bool)
def aliveE (E : Evs) (p : Int × Int) : Bool := E.any fun e => decide (e.1 = p) && e.2
def countE (E : Evs) (p : Int × Int) : Nat := E.countP fun e => decide (e.1 = p) && !e.2
def zeroD : DataW Unit := .lit (.int .i64 0)
/-- What a map says behind some counts. -/
def Tells (D : DataW Unit) (E : Evs) : Prop := Maps.IsMap D ∧ ∀ p : Int × Int, I64 p.1 → I64 p.2 →
  (Maps.has D (kl p) = E.any fun e => decide (e.1 = p)) ∧ D.atKey (kl p) zeroD = .lit (.int .i64 (2 * (countE E p : Int) + if aliveE E p then 1 else 0))
theorem tells_nil : Tells (.map []) [] := ⟨Maps.isMap_empty, fun p _ _ => ⟨rfl, rfl⟩⟩
theorem tells_put {D : DataW Unit} {E : Evs} {p : Int × Int} {b : Bool} {d : DataW Unit} (h : Tells D E) (h1 : I64 p.1) (h2 : I64 p.2)
    (hd : d = .lit (.int .i64 (2 * (countE (E ++ [(p, b)]) p : Int) + if aliveE (E ++ [(p, b)]) p then 1 else 0))) : Tells (D.put (kl p) d) (E ++ [(p, b)]) := by
  refine ⟨h.1.put _ _, fun q g1 g2 => ?_⟩
  have hk : WideAt.IsKeyLit (kl p) := cellKeyed.key (keyOf_cell h1 h2)
  by_cases e : q = p
  · subst e
    exact ⟨by rw [Maps.has_put_same h.1 hk]; simp, by rw [Maps.atKey_put_same h.1 hk, hd]⟩
  · have hne : kl q ≠ kl p := fun e' => e (kl_inj g1 g2 h1 h2 e')
    have e' : ¬ p = q := fun x => e x.symm
    obtain ⟨k1, k2⟩ := h.2 q g1 g2
    refine ⟨by rw [Maps.has_put_other hne, k1]; simp [e'], ?_⟩
    rw [Maps.atKey_put_other hne, k2]
    simp [aliveE, countE, List.countP_append, List.any_append, e']
theorem code_on (E : Evs) (p : Int × Int) : (2 * (countE E p : Int) + if (true : Bool) then (1 : Int) else 0) = 2 * (countE (E ++ [(p, true)]) p : Int) + if aliveE (E ++ [(p, true)]) p then 1 else 0 := by
  simp [aliveE, countE, List.countP_append, List.any_append]
theorem code_off (E : Evs) (p : Int × Int) : (2 * ((countE E p : Int) + 1) + if aliveE E p then (1 : Int) else 0) = 2 * (countE (E ++ [(p, false)]) p : Int) + if aliveE (E ++ [(p, false)]) p then 1 else 0 := by
  simp [aliveE, countE, List.countP_append, List.any_append]

/-! ### the counts of a set -/
/-- the counts about one cell -/
def nineE (c : Int × Int) : Evs := (nine c).map fun p => (p, decide (p = c))
def evs (l : List (Int × Int)) : Evs := l.flatMap nineE
theorem evs_any (l : List (Int × Int)) (p : Int × Int) : ((evs l).any fun e => decide (e.1 = p)) = true ↔ p ∈ cand l := by
  unfold evs nineE cand
  rw [List.any_eq_true]
  constructor
  · rintro ⟨e, he, h⟩
    obtain ⟨c, hc, h2⟩ := List.mem_flatMap.1 he
    obtain ⟨q, hq, rfl⟩ := List.mem_map.1 h2
    simp only [decide_eq_true_eq] at h
    subst h
    exact List.mem_flatMap.2 ⟨c, hc, hq⟩
  · intro h
    obtain ⟨c, hc, hq⟩ := List.mem_flatMap.1 h
    exact ⟨(p, decide (p = c)), List.mem_flatMap.2 ⟨c, hc, List.mem_map.2 ⟨p, hq, rfl⟩⟩, by simp⟩
theorem alive_evs (l : List (Int × Int)) (p : Int × Int) : aliveE (evs l) p = decide (p ∈ l) := by
  rw [Bool.eq_iff_iff, decide_eq_true_eq]
  unfold aliveE evs nineE
  rw [List.any_eq_true]
  constructor
  · rintro ⟨e, he, h⟩
    obtain ⟨c, hc, h2⟩ := List.mem_flatMap.1 he
    obtain ⟨q, hq, rfl⟩ := List.mem_map.1 h2
    simp only [Bool.and_eq_true, decide_eq_true_eq] at h
    obtain ⟨rfl, rfl⟩ := h
    exact hc
  · intro h
    exact ⟨(p, decide (p = p)), List.mem_flatMap.2 ⟨p, h, List.mem_map.2 ⟨p, (mem_nine p p).2 (by omega), rfl⟩⟩, by simp⟩
theorem count_nineE (c p : Int × Int) : countE (nineE c) p = if nbB c p then 1 else 0 := by
  obtain ⟨a, b⟩ := c
  obtain ⟨x, y⟩ := p
  by_cases h : nbB (a, b) (x, y) = true
  · rw [if_pos h]
    simp only [nbB, decide_eq_true_eq, ne_eq, Prod.mk.injEq] at h
    have hx : x = a - 1 ∨ x = a ∨ x = a + 1 := by omega
    have hy : y = b - 1 ∨ y = b ∨ y = b + 1 := by omega
    rcases hx with rfl | rfl | rfl <;> rcases hy with rfl | rfl | rfl <;> simp [countE, nineE, nine, List.countP_cons] <;> (repeat' split) <;> omega
  · rw [if_neg h]
    simp only [nbB, decide_eq_true_eq, ne_eq, Prod.mk.injEq] at h
    unfold countE
    rw [List.countP_eq_zero]
    intro e he
    obtain ⟨q, hq, rfl⟩ := List.mem_map.1 he
    have := (mem_nine _ _).1 hq
    simp only [Bool.and_eq_true, decide_eq_true_eq, Bool.not_eq_true', decide_eq_false_iff_not, not_and, Decidable.not_not]
    rintro rfl
    simp only at this
    simp only [Prod.mk.injEq]
    omega
theorem count_evs (l : List (Int × Int)) (p : Int × Int) : countE (evs l) p = nbr l p := by
  unfold nbr
  induction l with
  | nil => rfl
  | cons c l ih =>
    have : countE (evs (c :: l)) p = countE (nineE c) p + countE (evs l) p := by
      unfold countE evs
      rw [List.flatMap_cons, List.countP_append]
    rw [this, ih, count_nineE, List.countP_cons]
    omega

/-- the counts of the first k cells, and of the next one's first t -/
def evTo (l : List (Int × Int)) (k t : Nat) : Evs := evs (l.take k) ++ (nineE (l.getD k (0, 0))).take t
theorem evTo_zero (l : List (Int × Int)) : evTo l 0 0 = [] := rfl
theorem evTo_nine {l : List (Int × Int)} {k : Nat} (hk : k < l.length) : evTo l k 9 = evTo l (k + 1) 0 := by
  unfold evTo
  rw [take_snoc hk]
  simp [evs, List.flatMap_append, nineE, nine]
theorem evTo_end (l : List (Int × Int)) : evTo l l.length 0 = evs l := by simp [evTo]
theorem evTo_step {l : List (Int × Int)} {k t : Nat} {x y : Int} (hxy : (x, y) = l.getD k (0, 0)) (i j : Nat) (hi : i < 3) (hj : j < 3) (ht : t = 3 * j + i) :
    evTo l k (t + 1) = evTo l k t ++ [((x + ((i : Int) - 1), y + ((j : Int) - 1)), decide (i = 1 ∧ j = 1))] := by
  unfold evTo
  rw [← hxy, List.append_assoc]
  congr 1
  subst ht
  have : i = 0 ∨ i = 1 ∨ i = 2 := by omega
  have : j = 0 ∨ j = 1 ∨ j = 2 := by omega
  rcases ‹i = 0 ∨ i = 1 ∨ i = 2› with rfl | rfl | rfl <;> rcases ‹j = 0 ∨ j = 1 ∨ j = 2› with rfl | rfl | rfl <;>
    simp [nineE, nine] <;> omega
theorem evTo_on {l : List (Int × Int)} {k : Nat} {x y : Int} (hxy : (x, y) = l.getD k (0, 0)) {v z : Int} (hv : -1 ≤ v ∧ v ≤ 1) (hz : -1 ≤ z ∧ z ≤ 1) :
    evTo l k (3 * (z + 1).toNat + (v + 1).toNat + 1) = evTo l k (3 * (z + 1).toNat + (v + 1).toNat) ++ [((x + v, y + z), decide (v = 0 ∧ z = 0))] := by
  have h := evTo_step hxy (v + 1).toNat (z + 1).toNat (by omega) (by omega) (t := 3 * (z + 1).toNat + (v + 1).toNat) rfl
  have e1 : (((v + 1).toNat : Nat) : Int) - 1 = v := by omega
  have e2 : (((z + 1).toNat : Nat) : Int) - 1 = z := by omega
  have e3 : decide ((v + 1).toNat = 1 ∧ (z + 1).toNat = 1) = decide (v = 0 ∧ z = 0) := by
    rw [Bool.eq_iff_iff, decide_eq_true_eq, decide_eq_true_eq]; omega
  rw [e1, e2, e3] at h
  exact h
theorem length_evTo (l : List (Int × Int)) (k t : Nat) : (evTo l k t).length ≤ 9 * k + t := by
  unfold evTo evs nineE nine
  simp only [List.length_append, List.length_flatMap, List.length_map, List.length_take, List.length_cons, List.length_nil]
  have : ((l.take k).map fun _ => 9).sum ≤ 9 * k := by
    induction k generalizing l with
    | zero => simp
    | succ k ih =>
      cases l with
      | nil => simp
      | cons a l => simp only [List.take_succ_cons, List.map_cons, List.sum_cons]; have := ih l; omega
  have h2 := this
  simp only [Nat.zero_add, Nat.reduceAdd]
  omega

end Go.Proofs.Ytcmdhochofoohaa.Cel
