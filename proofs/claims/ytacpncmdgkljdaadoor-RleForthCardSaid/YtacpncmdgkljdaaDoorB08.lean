/-
  Texts that the claims of this seat share, part 8.
-/
import Derived.Test.YtacpncmdgkljdaaDoorB07
import Derived.Maps.RangeWalk
import Derived.Maps.Views
import Derived.DeepKeys4
import Derived.Outline
import Derived.Deep.DeepFit
import Derived.Test.YtacpncmdgkljdaaDoorB04
import Derived.Test.YtacpncmdgkljdaaDoorB02
set_option linter.unusedVariables false
set_option linter.unusedSimpArgs false
namespace Go.Proofs.YtacpncmdgkljdaaDoor.Cel
open Go.RowKit Go.Sort Go.ChangeShapes Go.WideShapes Go.ChangeAt
open Go.Maps (Keyed)

theorem cellKeyed : Keyed Tryd.prog 49 :=
  Keyed.of_law (deep_law_laid laidOut (m := 2) (by omega) (of_decide_eq_true (by kernel_rfl)) (by kernel_rfl) (by rw [Tryd.underlying49]))

/-- what a cell reads as, as a key -/
def kl (p : Int × Int) : Lit := .string (keyBytes [.int .i64 p.1, .int .i64 p.2])
theorem wf_of_i64 {a : Int} (h : I64 a) : (Lit.int .i64 a).wf = true := by
  unfold I64 at h
  simp only [Lit.wf, IntKind.min, IntKind.max, IntKind.signed, IntKind.bits]
  simp
  omega
theorem keyOf_cell {p : Int × Int} (h1 : I64 p.1) (h2 : I64 p.2) : keyOf Tryd.prog 49 (.agg #[.int .i64 p.1, .int .i64 p.2]) = some (kl p) := by
  have hkt : Tryd.prog.keyType 49 = true := by kernel_rfl
  have hsz : ∃ m, Tryd.prog.types.size = m + 1 := ⟨Tryd.prog.types.size - 1, by have : 0 < Tryd.prog.types.size := of_decide_eq_true (by kernel_rfl); omega⟩
  have hc2 : Tryd.prog.cellsOf 49 = 2 := by kernel_rfl
  have hc1 : Tryd.prog.cellsOf 3 = 1 := by kernel_rfl
  obtain ⟨m, hm⟩ := hsz
  have w1 := wf_of_i64 h1
  have w2 := wf_of_i64 h2
  unfold keyOf
  simp only [Tryd.underlying49]
  rw [if_pos (by simp [hkt, Value.formed, Tryd.underlying49, hc2]), hm]
  unfold Program.keyLits
  simp only [Tryd.underlying49, Value.cells]
  rw [if_pos (by rw [hc2]; simp)]
  simp [hc1, Program.keyLits, Tryd.underlying3, w1, w2, kl]

theorem key_cell {v : Value} {l : Lit} (h : keyOf Tryd.prog 49 v = some l) : ∃ p : Int × Int, I64 p.1 ∧ I64 p.2 ∧ v = .agg #[.int .i64 p.1, .int .i64 p.2] ∧ l = kl p := by
  obtain ⟨xs, L, rfl, hl, rfl⟩ := keyOf_top (by rw [Tryd.underlying49]) h
  have hsz : ∃ m, Tryd.prog.types.size = m + 1 := ⟨Tryd.prog.types.size - 1, by have : 0 < Tryd.prog.types.size := of_decide_eq_true (by kernel_rfl); omega⟩
  have hc2 : Tryd.prog.cellsOf 49 = 2 := by kernel_rfl
  have hc1 : Tryd.prog.cellsOf 3 = 1 := by kernel_rfl
  obtain ⟨m, hm⟩ := hsz
  rw [hm] at hl
  unfold Program.keyLits at hl
  simp only [Tryd.underlying49, hc2, hc1] at hl
  split at hl
  · rename_i hlen
    obtain ⟨xs⟩ := xs
    simp only at hlen hl
    clear h hm
    rcases xs with _ | ⟨a, _ | ⟨b, _ | ⟨c, xs⟩⟩⟩
    · simp at hlen
    · simp at hlen
    · simp [Program.keyLits, Tryd.underlying3, List.mapM_cons, hc1] at hl
      cases a <;> cases b <;> (try simp [Option.bind_eq_some_iff] at hl)
      rename_i q1 n1 q2 n2
      obtain ⟨_, ⟨⟨rfl, w1⟩, rfl⟩, _, ⟨_, ⟨⟨rfl, w2⟩, rfl⟩, rfl⟩, rfl⟩ := hl
      exact ⟨(n1, n2), i64_of_wf w1, i64_of_wf w2, rfl, rfl⟩
    · simp at hlen
  · cases hl

theorem kl_inj {p q : Int × Int} (hp1 : I64 p.1) (hp2 : I64 p.2) (hq1 : I64 q.1) (hq2 : I64 q.2) (h : kl p = kl q) : p = q := by
  have h1 := keyOf_cell hp1 hp2
  have h2 := keyOf_cell hq1 hq2
  rw [← h] at h2
  have := cellKeyed.inj h1 h2
  obtain ⟨a, b⟩ := p
  obtain ⟨c, d⟩ := q
  simpa using this

/-- How an element reads: as one number, twice the neighbours and one if it is alive. -/
def nearR (v : Value) : Option (DataW Unit × List MemPlace) :=
  match v with
  | .agg cs => (match cs.toList with | [.bool b, .int .i64 n] => some (.lit (.int .i64 (2 * n + if b then 1 else 0)), []) | _ => none)
  | _ => none
theorem nearR_mk (b : Bool) (n : Int) : nearR (.agg #[.bool b, .int .i64 n]) = some (.lit (.int .i64 (2 * n + if b then 1 else 0)), []) := rfl
theorem nearR_inv {v : Value} {y : DataW Unit × List MemPlace} (h : nearR v = some y) : ∃ p : Bool × Int, v = .agg #[.bool p.1, .int .i64 p.2] ∧ y = (.lit (.int .i64 (2 * p.2 + if p.1 then 1 else 0)), []) := by
  unfold nearR at h
  split at h
  · rename_i cs
    split at h
    · rename_i b n e
      obtain ⟨l⟩ := cs
      simp only at e
      subst e
      injection h with h
      exact ⟨(b, n), rfl, h.symm⟩
    · cases h
  · cases h
theorem code_inj {b c : Bool} {n m : Int} (h : (DataW.lit (.int .i64 (2 * n + if b then 1 else 0)) : DataW Unit) = .lit (.int .i64 (2 * m + if c then 1 else 0))) : b = c ∧ n = m := by
  have h' : (2 * n + if b then (1 : Int) else 0) = 2 * m + if c then 1 else 0 := by simpa using h
  cases b <;> cases c <;> simp at h' ⊢ <;> omega

/-- so many counts, in the order in which they come: where; whether of the cell itself -/
abbrev Evs := List ((Int × Int) × Bool)
def aliveE (E : Evs) (p : Int × Int) : Bool := E.any fun e => decide (e.1 = p) && e.2
def countE (E : Evs) (p : Int × Int) : Nat := E.countP fun e => decide (e.1 = p) && !e.2
def zeroD : DataW Unit := .lit (.int .i64 0)
/-- What a map says behind some counts. -/
def Tells (D : DataW Unit) (E : Evs) : Prop := Maps.IsMap D ∧ ∀ p : Int × Int, I64 p.1 → I64 p.2 →
  (Maps.has D (kl p) = E.any fun e => decide (e.1 = p)) ∧ D.atKey (kl p) zeroD = .lit (.int .i64 (2 * (countE E p : Int) + if aliveE E p then 1 else 0))
theorem tells_nil : Tells (.map []) [] := ⟨Maps.isMap_empty, fun p _ _ => ⟨rfl, rfl⟩⟩
theorem tells_put {D : DataW Unit} {E : Evs} {p : Int × Int} {b : Bool} {d : DataW Unit} (h : Tells D E) (h1 : I64 p.1) (h2 : I64 p.2)
    (hd : d = .lit (.int .i64 (2 * (countE (E ++ [(p, b)]) p : Int) + if aliveE (E ++ [(p, b)]) p then 1 else 0))) : Tells (D.put (kl p) d) (E ++ [(p, b)]) := by
  refine ⟨h.1.put _ _, fun q g1 g2 => ?_⟩
  have hk : WideAt.IsKeyLit (kl p) := cellKeyed.key (keyOf_cell h1 h2)
  by_cases e : q = p
  · subst e
    exact ⟨by rw [Maps.has_put_same h.1 hk]; simp, by rw [Maps.atKey_put_same h.1 hk, hd]⟩
  · have hne : kl q ≠ kl p := fun e' => e (kl_inj g1 g2 h1 h2 e')
    have e' : ¬ p = q := fun x => e x.symm
    obtain ⟨k1, k2⟩ := h.2 q g1 g2
    refine ⟨by rw [Maps.has_put_other hne, k1]; simp [e'], ?_⟩
    rw [Maps.atKey_put_other hne, k2]
    simp [aliveE, countE, List.countP_append, List.any_append, e']
theorem code_on (E : Evs) (p : Int × Int) : (2 * (countE E p : Int) + if (true : Bool) then (1 : Int) else 0) = 2 * (countE (E ++ [(p, true)]) p : Int) + if aliveE (E ++ [(p, true)]) p then 1 else 0 := by
  simp [aliveE, countE, List.countP_append, List.any_append]
theorem code_off (E : Evs) (p : Int × Int) : (2 * ((countE E p : Int) + 1) + if aliveE E p then (1 : Int) else 0) = 2 * (countE (E ++ [(p, false)]) p : Int) + if aliveE (E ++ [(p, false)]) p then 1 else 0 := by
  simp [aliveE, countE, List.countP_append, List.any_append]

/-! ### the counts of a set -/
/-- the counts about one cell -/
def nineE (c : Int × Int) : Evs := (nine c).map fun p => (p, decide (p = c))
def evs (l : List (Int × Int)) : Evs := l.flatMap nineE
theorem evs_any (l : List (Int × Int)) (p : Int × Int) : ((evs l).any fun e => decide (e.1 = p)) = true ↔ p ∈ cand l := by
  unfold evs nineE cand
  rw [List.any_eq_true]
  constructor
  · rintro ⟨e, he, h⟩
    obtain ⟨c, hc, h2⟩ := List.mem_flatMap.1 he
    obtain ⟨q, hq, rfl⟩ := List.mem_map.1 h2
    simp only [decide_eq_true_eq] at h
    subst h
    exact List.mem_flatMap.2 ⟨c, hc, hq⟩
  · intro h
    obtain ⟨c, hc, hq⟩ := List.mem_flatMap.1 h
    exact ⟨(p, decide (p = c)), List.mem_flatMap.2 ⟨c, hc, List.mem_map.2 ⟨p, hq, rfl⟩⟩, by simp⟩
theorem alive_evs (l : List (Int × Int)) (p : Int × Int) : aliveE (evs l) p = decide (p ∈ l) := by
  rw [Bool.eq_iff_iff, decide_eq_true_eq]
  unfold aliveE evs nineE
  rw [List.any_eq_true]
  constructor
  · rintro ⟨e, he, h⟩
    obtain ⟨c, hc, h2⟩ := List.mem_flatMap.1 he
    obtain ⟨q, hq, rfl⟩ := List.mem_map.1 h2
    simp only [Bool.and_eq_true, decide_eq_true_eq] at h
    obtain ⟨rfl, rfl⟩ := h
    exact hc
  · intro h
    exact ⟨(p, decide (p = p)), List.mem_flatMap.2 ⟨p, h, List.mem_map.2 ⟨p, (mem_nine p p).2 (by omega), rfl⟩⟩, by simp⟩
theorem count_nineE (c p : Int × Int) : countE (nineE c) p = if nbB c p then 1 else 0 := by
  obtain ⟨a, b⟩ := c
  obtain ⟨x, y⟩ := p
  by_cases h : nbB (a, b) (x, y) = true
  · rw [if_pos h]
    simp only [nbB, decide_eq_true_eq, ne_eq, Prod.mk.injEq] at h
    have hx : x = a - 1 ∨ x = a ∨ x = a + 1 := by omega
    have hy : y = b - 1 ∨ y = b ∨ y = b + 1 := by omega
    rcases hx with rfl | rfl | rfl <;> rcases hy with rfl | rfl | rfl <;> simp [countE, nineE, nine, List.countP_cons] <;> (repeat' split) <;> omega
  · rw [if_neg h]
    simp only [nbB, decide_eq_true_eq, ne_eq, Prod.mk.injEq] at h
    unfold countE
    rw [List.countP_eq_zero]
    intro e he
    obtain ⟨q, hq, rfl⟩ := List.mem_map.1 he
    have := (mem_nine _ _).1 hq
    simp only [Bool.and_eq_true, decide_eq_true_eq, Bool.not_eq_true', decide_eq_false_iff_not, not_and, Decidable.not_not]
    rintro rfl
    simp only at this
    simp only [Prod.mk.injEq]
    omega
theorem count_evs (l : List (Int × Int)) (p : Int × Int) : countE (evs l) p = nbr l p := by
  unfold nbr
  induction l with
  | nil => rfl
  | cons c l ih =>
    have : countE (evs (c :: l)) p = countE (nineE c) p + countE (evs l) p := by
      unfold countE evs
      rw [List.flatMap_cons, List.countP_append]
    rw [this, ih, count_nineE, List.countP_cons]
    omega

/-- the counts of the first k cells, and of the next one's first t -/
def evTo (l : List (Int × Int)) (k t : Nat) : Evs := evs (l.take k) ++ (nineE (l.getD k (0, 0))).take t
theorem evTo_zero (l : List (Int × Int)) : evTo l 0 0 = [] := rfl
theorem evTo_nine {l : List (Int × Int)} {k : Nat} (hk : k < l.length) : evTo l k 9 = evTo l (k + 1) 0 := by
  unfold evTo
  rw [take_snoc hk]
  simp [evs, List.flatMap_append, nineE, nine]
theorem evTo_end (l : List (Int × Int)) : evTo l l.length 0 = evs l := by simp [evTo]
theorem evTo_step {l : List (Int × Int)} {k t : Nat} {x y : Int} (hxy : (x, y) = l.getD k (0, 0)) (i j : Nat) (hi : i < 3) (hj : j < 3) (ht : t = 3 * j + i) :
    evTo l k (t + 1) = evTo l k t ++ [((x + ((i : Int) - 1), y + ((j : Int) - 1)), decide (i = 1 ∧ j = 1))] := by
  unfold evTo
  rw [← hxy, List.append_assoc]
  congr 1
  subst ht
  have : i = 0 ∨ i = 1 ∨ i = 2 := by omega
  have : j = 0 ∨ j = 1 ∨ j = 2 := by omega
  rcases ‹i = 0 ∨ i = 1 ∨ i = 2› with rfl | rfl | rfl <;> rcases ‹j = 0 ∨ j = 1 ∨ j = 2› with rfl | rfl | rfl <;>
    simp [nineE, nine] <;> omega
theorem evTo_on {l : List (Int × Int)} {k : Nat} {x y : Int} (hxy : (x, y) = l.getD k (0, 0)) {v z : Int} (hv : -1 ≤ v ∧ v ≤ 1) (hz : -1 ≤ z ∧ z ≤ 1) :
    evTo l k (3 * (z + 1).toNat + (v + 1).toNat + 1) = evTo l k (3 * (z + 1).toNat + (v + 1).toNat) ++ [((x + v, y + z), decide (v = 0 ∧ z = 0))] := by
  have h := evTo_step hxy (v + 1).toNat (z + 1).toNat (by omega) (by omega) (t := 3 * (z + 1).toNat + (v + 1).toNat) rfl
  have e1 : (((v + 1).toNat : Nat) : Int) - 1 = v := by omega
  have e2 : (((z + 1).toNat : Nat) : Int) - 1 = z := by omega
  have e3 : decide ((v + 1).toNat = 1 ∧ (z + 1).toNat = 1) = decide (v = 0 ∧ z = 0) := by
    rw [Bool.eq_iff_iff, decide_eq_true_eq, decide_eq_true_eq]; omega
  rw [e1, e2, e3] at h
  exact h
theorem length_evTo (l : List (Int × Int)) (k t : Nat) : (evTo l k t).length ≤ 9 * k + t := by
  unfold evTo evs nineE nine
  simp only [List.length_append, List.length_flatMap, List.length_map, List.length_take, List.length_cons, List.length_nil]
  have : ((l.take k).map fun _ => 9).sum ≤ 9 * k := by
    induction k generalizing l with
    | zero => simp
    | succ k ih =>
      cases l with
      | nil => simp
      | cons a l => simp only [List.take_succ_cons, List.map_cons, List.sum_cons]; have := ih l; omega
  have h2 := this
  simp only [Nat.zero_add, Nat.reduceAdd]
  omega

end Go.Proofs.YtacpncmdgkljdaaDoor.Cel
namespace Go.Proofs.YtacpncmdgkljdaaDoor.Cel
open Go.RowKit Go.Sort
open Go.Maps (Keyed)

/-- 'm[k]' at such a map, for the walk. -/
theorem wpList_lookup_near {P : Program} (w : World) {ops : Array Oper} {rest : List Oper} {o : Oper} {a : Act} {Q : Exit → Act → World → Prop}
    (hg : o.guard = none) (m x : Operand) (t : TypeId) (hop : o.op = Op.lookup t m x false)
    (k e : TypeId) (K : Keyed P k) (ht : P.underlying t = some (.map k e)) (hz : (zeroValue e).run P w = .ok (.agg #[.bool false, .int .i64 0]) w) (b n : Nat) (D : DataW Unit)
    (hm : a.eval m = .map (some b)) (hown : w.ownsMap P k nearR b n D) (key : Value) (kl : Lit) (hx : a.eval x = key) (hkey : keyOf P k key = some kl)
    (hK : ∀ (al : Bool) (c : Int), D.atKey kl zeroD = .lit (.int .i64 (2 * c + if al then 1 else 0)) → wpList P ops Q rest (a.put o.dst (.agg #[.bool al, .int .i64 c])) w) :
    wpList P ops Q (o :: rest) a w := by
  refine wpList_plain hg fun K' hK' => ?_
  obtain ⟨v, ps, hrun, hv⟩ := hown.lookup K ht hz (nearR_mk false 0) hkey
  obtain ⟨⟨al, c⟩, rfl, hy⟩ := nearR_inv hv
  unfold Oper.wp
  simp [execOp, hop, hm, hx, hrun, Result.andThen]
  exact hK' _ _ (hK al c (by injection hy))

theorem around_turn {w wr w1 : World} {o1 o2 : Obj} {bc : Nat} {u v : Value} (hb : Below w.heap.size w wr) (hlt : w.heap.size < bc) (hbc : bc < wr.heap.size) (d0 : wr.cell? ⟨bc, 0, none⟩ = some u) (d1 : wr.cell? ⟨bc, 1, none⟩ = some v)
    (hg : ((wr.alloc o1).alloc o2).grownBy w1 (some w.heap.size)) : w1.cell? ⟨bc, 0, none⟩ = some u ∧ w1.cell? ⟨bc, 1, none⟩ = some v ∧ Below w.heap.size w w1 ∧ bc < w1.heap.size := by
  have hal : ∀ a u, wr.cell? a = some u → ((wr.alloc o1).alloc o2).cell? a = some u := fun a u h =>
    (World.cell?_alloc_lt _ _ _ (by have := block_lt_of_cell h; simp; omega)).trans ((World.cell?_alloc_lt _ _ _ (block_lt_of_cell h)).trans h)
  have hne : ∀ o : Nat, some (⟨bc, o, none⟩ : Addr).block ≠ some w.heap.size := fun o e => by injection e with e; simp only at e; omega
  refine ⟨grown_cell hg (hal _ _ d0) (hne 0), grown_cell hg (hal _ _ d1) (hne 1), ((hb.alloc hb.size _).alloc (by have := hb.size; simp; omega) _).grown hg (by have := hb.size; simp; omega) (fun k e => by injection e with e; omega), ?_⟩
  have := hg.size
  simp at this
  omega

/-- what was found, in the proof's words -/
theorem near_found {D : DataW Unit} {E : Evs} {p : Int × Int} {al : Bool} {cn : Int} (h : Tells D E) (h1 : I64 p.1) (h2 : I64 p.2) (hat : D.atKey (kl p) zeroD = .lit (.int .i64 (2 * cn + if al = true then 1 else 0))) : al = aliveE E p ∧ cn = countE E p := by
  have e := (h.2 p h1 h2).2
  rw [hat] at e
  exact code_inj e
theorem countE_le (E : Evs) (p : Int × Int) : countE E p ≤ E.length := List.countP_le_length

theorem near_small {D : DataW Unit} {E : Evs} {p : Int × Int} {al : Bool} {cn : Int} (h : Tells D E) (h1 : I64 p.1) (h2 : I64 p.2) (hat : D.atKey (kl p) zeroD = .lit (.int .i64 (2 * cn + if al = true then 1 else 0))) (hl : E.length ≤ 100000) : 0 ≤ cn ∧ cn ≤ 100000 := by
  have e := (near_found h h1 h2 hat).2
  have := countE_le E p
  omega

theorem near_on {w1 : World} {B n t k : Nat} {l : List (Int × Int)} {D : DataW Unit} {d d' : DataW Unit} {p : Int × Int} {b : Bool} (hT : Tells D (evTo l k t)) (h1 : I64 p.1) (h2 : I64 p.2) (he : evTo l k (t + 1) = evTo l k t ++ [(p, b)])
    (hO : w1.ownsMap Tryd.prog 49 nearR B n (D.put (kl p) d)) (hd : d = d') (hd' : d' = .lit (.int .i64 (2 * (countE (evTo l k t ++ [(p, b)]) p : Int) + if aliveE (evTo l k t ++ [(p, b)]) p then 1 else 0))) {n' t' : Nat} (hn : n ≤ n') (ht : t' = t + 1) :
    ∃ D', Aside (w1.ownsMap Tryd.prog 49 nearR B n' D' ∧ Tells D' (evTo l k t')) := by
  subst hd ht
  rw [he]
  exact ⟨_, hO.mono hn, tells_put hT h1 h2 hd'⟩

/-- what comes of it: a map at a block of its own that tells the counts -/
def Around (l : List (Int × Int)) (w : World) (e : Ending) (w' : World) : Prop :=
  ∃ D, e = .returned (.map (some w.heap.size)) ∧ w'.ownsMap Tryd.prog 49 nearR w.heap.size (9 * l.length) D ∧ Hid (Tells D (evs l)) ∧ Below w.heap.size w w'

end Go.Proofs.YtacpncmdgkljdaaDoor.Cel
namespace Go.Proofs.YtacpncmdgkljdaaDoor.Cel
open Go.RowKit Go.Sort
open Go.Maps (Keyed)

/-- an answer of a list and an error's number -/
def Ans (w : World) (r : Int × List (Int × Int)) (e : Ending) (w' : World) : Prop := ∃ v, e = .returned (.tuple #[v, .int .i64 r.1]) ∧ Reads w' v r.2 ∧ Below w.heap.size w w'

theorem Ans.nil {w w' : World} (n : Int) (hb : Below w.heap.size w w') : Ans w (n, []) (.returned (.tuple #[.slice none 0 0, .int .i64 n])) w' :=
  ⟨_, rfl, ⟨none, 0, rfl, Nat.le_refl _, Rd.nil _ _ _⟩, hb⟩
theorem Ans.after {w w1 w' : World} {r : Int × List (Int × Int)} {e : Ending} (h : Ans w1 r e w') (hb : Below w.heap.size w w1) : Ans w r e w' := by
  obtain ⟨v, he, hr, hb'⟩ := h
  exact ⟨v, he, hr, Qt.more hb hb.size hb'⟩

/-- what has come out of the map so far -/
def Came (l : List (Int × Int)) (D : DataW Unit) (left : Lit → Bool) (out : List (Int × Int)) : Prop :=
  (∀ p ∈ out, aliveB l p = true) ∧ (∀ p : Int × Int, I64 p.1 → I64 p.2 → Maps.has D (kl p) = true → left (kl p) = false → aliveB l p = true → p ∈ out) ∧ ∀ z, left z = true → Maps.has D z = true

theorem came_end {l out : List (Int × Int)} {D : DataW Unit} {left : Lit → Bool} (h : Came l D left out) (hT : Tells D (evs l)) (hin : ∀ p ∈ l, inB p = true) (hleft : ∀ z, left z = false) : ∀ p, p ∈ out ↔ p ∈ nextL l := by
  intro p
  rw [mem_nextL]
  refine ⟨h.1 p, fun ha => ?_⟩
  have hc := alive_cand ha
  obtain ⟨q, hq, hn⟩ := (mem_cand l p).1 hc
  have hb := inB_bd (hin q hq)
  have i1 : I64 p.1 := ⟨by omega, by omega⟩
  have i2 : I64 p.2 := ⟨by omega, by omega⟩
  exact h.2.1 p i1 i2 (by rw [(hT.2 p i1 i2).1]; exact (evs_any l p).2 hc) (hleft _) ha
theorem came_start (l : List (Int × Int)) (D : DataW Unit) : Came l D (Maps.has D) [] :=
  ⟨fun p hp => absurd hp (by simp), fun p _ _ h1 h2 => (by rw [h1] at h2; cases h2), fun _ h => h⟩
theorem near_lives {l : List (Int × Int)} {D : DataW Unit} (hT : Tells D (evs l)) {x : Int × Int} {c : Bool × Int} {y : DataW Unit × List MemPlace} (i1 : I64 x.1) (i2 : I64 x.2) (hv : nearR (.agg #[.bool c.1, .int .i64 c.2]) = some y) (hat : ∀ zd, D.atKey (kl x) zd = y.1) :
    livesB c.1 c.2 = aliveB l x := by
  rw [nearR_mk] at hv
  injection hv with hv
  have e := hat zeroD
  rw [← hv] at e
  obtain ⟨ha, hc⟩ := near_found hT i1 i2 e
  rw [ha, hc, alive_evs, count_evs]
  rfl
theorem came_on {l out : List (Int × Int)} {D : DataW Unit} {left : Lit → Bool} {x : Int × Int} (h : Came l D left out) (i1 : I64 x.1) (i2 : I64 x.2) (b : Bool) (hb : aliveB l x = b) : Came l D (fun z => left z && !z.sameKey (kl x)) (if b then out ++ [x] else out) := by
  refine ⟨fun p hp => ?_, fun p j1 j2 hh hl ha => ?_, fun z hz => h.2.2 z (by simp only [Bool.and_eq_true] at hz; exact hz.1)⟩
  · cases b
    · exact h.1 p hp
    · simp only [if_true, List.mem_append, List.mem_singleton] at hp
      rcases hp with hp | rfl
      · exact h.1 p hp
      · exact hb
  · by_cases e : p = x
    · subst e
      rw [ha] at hb
      subst hb
      simp
    · have hne : (kl p).sameKey (kl x) = false := Maps.sameKey_ne fun e' => e (kl_inj j1 j2 i1 i2 e')
      simp only [hne, Bool.not_false, Bool.and_true] at hl
      have := h.2.1 p j1 j2 hh hl ha
      cases b <;> simp [this]

/-- the map's next entry, for the walk -/
theorem next_near {P : Program} (w : World) {ops : Array Oper} {rest : List Oper} {o : Oper} {a : Act} {Q : Exit → Act → World → Prop} (hg : o.guard = none) (it : Operand) (hop : o.op = Op.next it false) (hP : P = Tryd.prog) (b r n : Nat) (D : DataW Unit) (left : Lit → Bool) (cnt : Nat)
    (hit : a.eval it = .pointer (some ⟨r, 0, none⟩)) (h : w.ranges P 49 nearR b r n D left cnt)
    (hDone : cnt = 0 → (∀ kl, left kl = false) → wpList P ops Q rest (a.put o.dst (.tuple #[.bool false])) w)
    (hMore : ∀ (x : Int × Int) (c : Bool × Int) (y : DataW Unit × List MemPlace) (w' : World) (cnt' : Nat), I64 x.1 ∧ I64 x.2 ∧ nearR (.agg #[.bool c.1, .int .i64 c.2]) = some y ∧ (∀ zd, D.atKey (kl x) zd = y.1) → w'.ranges P 49 nearR b r n D (fun z => left z && !z.sameKey (kl x)) cnt' → cnt' < cnt →
      w.grownBy w' (some r) → w'.heap.size = w.heap.size → (Instr.entry (.pointer (some ⟨r, 0, none⟩))).run P w' = .ok (.tuple #[.agg #[.int .i64 x.1, .int .i64 x.2], .agg #[.bool c.1, .int .i64 c.2]]) w' → wpList P ops Q rest (a.put o.dst (.tuple #[.bool true, .agg #[.int .i64 x.1, .int .i64 x.2], .agg #[.bool c.1, .int .i64 c.2]])) w') :
    wpList P ops Q (o :: rest) a w := by
  subst hP
  refine wpList_next_ranges w hg it hop 49 cellKeyed nearR (fun x : Int × Int => .agg #[.int .i64 x.1, .int .i64 x.2]) (fun c : Bool × Int => .agg #[.bool c.1, .int .i64 c.2])
    (fun key kl' h => by obtain ⟨p, _, _, e, _⟩ := key_cell h; exact ⟨p, e⟩) (fun v y h => by obtain ⟨p, e, _⟩ := nearR_inv h; exact ⟨p, e⟩) b r n D left cnt hit h hDone ?_
  intro x c kl' y w' cnt' hkey hlk hv hat hrg hlt hgr hsz hen
  obtain ⟨p, i1, i2, e, rfl⟩ := key_cell hkey
  have : x = p := by
    obtain ⟨a, b⟩ := x
    obtain ⟨c, d⟩ := p
    simpa using e
  subst this
  exact hMore x c y w' cnt' ⟨i1, i2, hv, hat⟩ hrg hlt hgr hsz hen

/-- what stands beside an append's row stays -/
theorem came_push {w0 w w3 : World} {o1 o2 o3 : Obj} {b r n : Nat} {D : DataW Unit} {left : Lit → Bool} {cnt : Nat} {v v' : Value} {out : List (Int × Int)} {x : Int × Int} (hb : Below w0.heap.size w0 w) (hbr : b < r ∧ r < w.heap.size) (hw0 : w0.heap.size ≤ b) (h : w.ranges Tryd.prog 49 nearR b r n D left cnt)
    (hown : Own w (r + 1) 49 v out) (h3 : w3.ownsRow (r + 1) 49 2 v' (out.length + 1) (fl out ++ [.int .i64 x.1, .int .i64 x.2])) (hg : (((w.alloc o1).alloc o2).alloc o3).grownBy w3 v.ownBlock) :
    Own w3 (r + 1) 49 v' (out ++ [x]) ∧ w3.ranges Tryd.prog 49 nearR b r n D left cnt ∧ Below w0.heap.size w0 w3 ∧ r < w3.heap.size := by
  have hne : ∀ g, v.ownBlock = some g → r + 1 ≤ g := fun g e => (World.ownsRow.lt hown _ e).1
  have hsz := hb.size
  refine ⟨own_push h3, (((h.alloc _).alloc _).alloc _).kept hg (fun e => ?_) (fun e => ?_), (((hb.alloc hsz _).alloc (by simp; omega) _).alloc (by simp; omega) _).grown hg (by simp; omega) (fun k e => ?_), ?_⟩
  · have := hne _ e.symm; omega
  · have := hne _ e.symm; omega
  · have := hne _ e; omega
  · have := hg.size; simp at this; omega

theorem one_new2 {w : World} {o1 o2 : Obj} {T : Nat} {x y : Int} : ∀ j u, ([.int .i64 x, .int .i64 y] : List Value)[j]? = some u → (((w.alloc o1).alloc o2).alloc (.cells #[.int .i64 x, .int .i64 y] T)).cell? ((⟨w.heap.size + 1 + 1, 0, none⟩ : Addr).add j) = some u := by
  have h := @one_new ((w.alloc o1).alloc o2) T x y
  simpa using h

/-- nothing has come of this entry -/
theorem came_skip {w0 w : World} {o1 o2 : Obj} {b r n : Nat} {D : DataW Unit} {left : Lit → Bool} {cnt : Nat} {v : Value} {out : List (Int × Int)} (hb : Below w0.heap.size w0 w) (hbr : b < r ∧ r < w.heap.size) (h : w.ranges Tryd.prog 49 nearR b r n D left cnt)
    (hown : Own w (r + 1) 49 v out) :
    Own ((w.alloc o1).alloc o2) (r + 1) 49 v out ∧ ((w.alloc o1).alloc o2).ranges Tryd.prog 49 nearR b r n D left cnt ∧ Below w0.heap.size w0 ((w.alloc o1).alloc o2) ∧ r < ((w.alloc o1).alloc o2).heap.size :=
  have hsz := hb.size
  ⟨World.ownsRow.alloc (World.ownsRow.alloc hown _) _, (h.alloc _).alloc _, (hb.alloc hsz _).alloc (by simp; omega) _, by simp; omega⟩

end Go.Proofs.YtacpncmdgkljdaaDoor.Cel
namespace Go.Proofs.YtacpncmdgkljdaaDoor.Cel
open Go.RowKit Go.Sort

theorem ofR_out {l : List (Int × Int)} {k : Nat} (hk : k < l.length) (h : inB (l.getD k (0, 0)) = false) : ofR l = (2, []) := by
  unfold ofR
  rw [if_pos]
  exact List.any_eq_true.2 ⟨_, getD_mem hk, by rw [h]; rfl⟩
theorem ofR_in {l : List (Int × Int)} (h : ∀ j, j < l.length → inB (l.getD j (0, 0)) = true) : ofR l = if 2000 < (setL l).length then (3, []) else (0, setL l) := by
  unfold ofR
  rw [if_neg]
  rw [List.any_eq_true]
  rintro ⟨p, hp, e⟩
  obtain ⟨j, hj, he⟩ := List.getElem_of_mem hp
  have := h j hj
  rw [List.getD_eq_getElem?_getD, List.getElem?_eq_getElem hj, Option.getD_some, he] at this
  rw [this] at e
  cases e

end Go.Proofs.YtacpncmdgkljdaaDoor.Cel
namespace Go.Proofs.YtacpncmdgkljdaaDoor.Cel
open Go.RowKit Go.Sort

/-- what Shift answers -/
def shiftR (l : List (Int × Int)) (dx dy : Int) : Int × List (Int × Int) :=
  if rightB l = true then (if (shL dx dy l).all inB = true then (0, shL dx dy l) else (2, [])) else (1, [])

theorem push_one {w0 w2 w3 : World} {B T : Nat} {v v' : Value} {out : List (Int × Int)} {x y : Int} (hB : B ≤ w2.heap.size) (hb : Below B w0 w2) (hown : Own w2 B T v out) {o : Obj}
    (h3 : w3.ownsRow B T 2 v' (out.length + 1) (fl out ++ [.int .i64 x, .int .i64 y])) (hg : (w2.alloc o).grownBy w3 v.ownBlock) : Own w3 B T v' (out ++ [(x, y)]) ∧ Below B w0 w3 :=
  ⟨own_push h3, (hb.alloc hB _).grown hg (by simp; omega) (fun k e => (World.ownsRow.lt hown k e).1)⟩

/-- so many cells shifted -/
def shTo (dx dy : Int) (l : List (Int × Int)) (k : Nat) : List (Int × Int) := shL dx dy (l.take k)
theorem shTo_succ {dx dy : Int} {l : List (Int × Int)} {k : Nat} (hk : k < l.length) : shTo dx dy l (k + 1) = shTo dx dy l k ++ [((l.getD k (0, 0)).1 + dx, (l.getD k (0, 0)).2 + dy)] := by
  unfold shTo shL; rw [take_snoc hk, List.map_append]; rfl
theorem length_shTo (dx dy : Int) (l : List (Int × Int)) (k : Nat) : (shTo dx dy l k).length ≤ k := by
  unfold shTo; rw [length_shL, List.length_take]; omega
theorem sh_out {dx dy : Int} {l : List (Int × Int)} {k : Nat} {x y : Int} (hk : k < l.length) (hxy : (x, y) = l.getD k (0, 0)) (h : inB (x + dx, y + dy) = false) : (shL dx dy l).all inB = false := by
  rw [List.all_eq_false]
  refine ⟨(x + dx, y + dy), ?_, by rw [h]; exact Bool.false_ne_true⟩
  unfold shL
  exact List.mem_map.2 ⟨(x, y), by rw [hxy]; exact getD_mem hk, rfl⟩
theorem sh_in {dx dy : Int} {l : List (Int × Int)} (h : ∀ j, j < l.length → inB ((l.getD j (0, 0)).1 + dx, (l.getD j (0, 0)).2 + dy) = true) : (shL dx dy l).all inB = true := by
  rw [List.all_eq_true]
  intro p hp
  unfold shL at hp
  obtain ⟨q, hq, rfl⟩ := List.mem_map.1 hp
  obtain ⟨j, hj, he⟩ := List.getElem_of_mem hq
  have := h j hj
  rwa [List.getD_eq_getElem?_getD, List.getElem?_eq_getElem hj, Option.getD_some, he] at this
theorem inB_far {x y dx dy : Int} (h : inB (x, y) = true) (hf : dx < -2199023255552 ∨ 2199023255552 < dx ∨ dy < -2199023255552 ∨ 2199023255552 < dy) : inB (x + dx, y + dy) = false := by
  have := inB_bd h
  rw [Bool.eq_false_iff]
  intro h2
  have := inB_bd h2
  simp only at *
  omega

theorem refShift_bad (A : Option Addr) (l : List (Int × Int)) (c : Nat) (dx dy : Int) (w : World) (hR : Rd w w.heap.size A l) (hl : l.length ≤ 1000000) (hc : l.length ≤ c) (hr : rightB l = false) :
    Calls Tryd.prog 11 #[.slice A l.length c, .int .i64 dx, .int .i64 dy] w (Ans w (1, [])) := by
  have h := refRight_any A l c w hR hl hc
  rw [hr] at h
  clear hr
  go_enter Tryd.func11, Tryd.ntmps11
  go_wp2_with (go_at_call 16; refine h.mono ?_; rintro e w1 ⟨rfl, hb1⟩)
  go_ret2
  exact Ans.nil 1 hb1

set_option maxHeartbeats 2000000 in
set_option maxRecDepth 100000 in
theorem refShift_good (A : Option Addr) (l : List (Int × Int)) (c : Nat) (dx dy : Int) (w : World) (hR : Rd w w.heap.size A l) (hc : l.length ≤ c) (hr : rightB l = true) (hdx : I64 dx) (hdy : I64 dy) :
    Calls Tryd.prog 11 #[.slice A l.length c, .int .i64 dx, .int .i64 dy] w (Ans w (if (shL dx dy l).all inB = true then (0, shL dx dy l) else (2, []))) := by
  obtain ⟨i0, hi, hz0, hz1, hz2⟩ := info_parts infoCell
  obtain ⟨h2000, hin, -⟩ := (rightB_iff l).1 hr
  have HIN := Lib.hid hin
  have h := refRight_any A l c w hR (by omega) hc
  rw [hr] at h
  obtain ⟨r, hr2⟩ : ∃ r, r = (if (shL dx dy l).all inB = true then ((0 : Int), shL dx dy l) else (2, [])) := ⟨_, rfl⟩
  rw [← hr2]
  have HR := Lib.hid hr2
  have hd1 := hdx.1
  have hd2 := hdx.2
  have hd3 := hdy.1
  have hd4 := hdy.2
  clear hr hr2 hin hdx hdy
  go_enter Tryd.func11, Tryd.ntmps11
  go_wp2_with (go_at_call 16; refine h.mono ?_; rintro e w1 ⟨rfl, hb1⟩)
  have HB1 := Lib.hid hb1
  clear hb1 h
  go_loopw [9, 10] (fun v i wr => ∃ k : Nat, k ≤ l.length ∧ i = .int .i64 k ∧ Aside (Own wr w.heap.size 49 v (shTo dx dy l k) ∧ (∀ j, j < k → inB ((l.getD j (0, 0)).1 + dx, (l.getD j (0, 0)).2 + dy) = true)) ∧ Below w.heap.size w wr) (fun _ i _ => l.length - (intOf i).toNat)
  case atStart => exact ⟨0, Nat.zero_le _, rfl, ⟨World.ownsRow_nil _ _ _ _, fun j hj => absurd hj (Nat.not_lt_zero j)⟩, HB1.out⟩
  case round =>
    obtain ⟨k, hk, rfl, HK, hb⟩ := hrel
    by_cases hlt : k < l.length
    · have hltz : (k : Int) < (l.length : Int) := by omega
      obtain ⟨b, off, rfl, hbB, hcell⟩ := hR.at_ (by omega)
      obtain ⟨⟨x, y⟩, hxy⟩ : ∃ p, p = l.getD k (0, 0) := ⟨_, rfl⟩
      have a0 := (hcell k hlt).1
      have a1 := (hcell k hlt).2
      rw [← hxy] at a0 a1
      simp only at a0 a1
      have c0 := Qt.keep hb a0
      have c1 := Qt.keep hb a1
      have k0 := Qt.cell_in c0
      have k1 := Qt.cell_in c1
      have hin := HIN.out (x, y) (by rw [hxy]; exact getD_mem hlt)
      have hbd := inB_bd hin
      simp only at hbd
      obtain ⟨x1, x2, y1, y2⟩ := hbd
      have HXY := Lib.hid hxy
      have HI := Lib.hid hin
      clear hxy a0 a1 hcell hin
      by_cases hfar : dx < -2199023255552 ∨ 2199023255552 < dx ∨ dy < -2199023255552 ∨ 2199023255552 < dy
      · have E : Hid (r = (2, [])) := (show r = (2, []) from by rw [HR.out, sh_out hlt HXY.out (inB_far HI.out hfar)]; rfl)
        have hcases : (decide (dx < -2199023255552) = true) ∨ (decide (dx < -2199023255552) = false ∧ decide (2199023255552 < dx) = true) ∨ (decide (dx < -2199023255552) = false ∧ decide (2199023255552 < dx) = false ∧ decide (dy < -2199023255552) = true) ∨ (decide (dx < -2199023255552) = false ∧ decide (2199023255552 < dx) = false ∧ decide (dy < -2199023255552) = false ∧ decide (2199023255552 < dy) = true) := by
          simp only [decide_eq_true_eq, decide_eq_false_iff_not]; omega
        clear hfar
        rcases hcases with g1 | ⟨g1, g2⟩ | ⟨g1, g2, g3⟩ | ⟨g1, g2, g3, g4⟩
        all_goals
          go_wp2
          refine Qt.below_all (by kernel_rfl) (by kernel_rfl) ?_
          repeat (go_big_quiet_step (fail))
          refine wpQuiet_nil ?_
          intro w2 hb2
          clear k0 k1
          go_wp2
          go_ret2
          rw [E.out]
          exact Ans.nil 2 (Qt.more hb hb.size hb2)
      · have g1 : -2199023255552 ≤ dx ∧ dx ≤ 2199023255552 ∧ -2199023255552 ≤ dy ∧ dy ≤ 2199023255552 := by omega
        have f1 : decide (dx < -2199023255552) = false := by simp only [decide_eq_false_iff_not]; omega
        have f2 : decide (2199023255552 < dx) = false := by simp only [decide_eq_false_iff_not]; omega
        have f3 : decide (dy < -2199023255552) = false := by simp only [decide_eq_false_iff_not]; omega
        have f4 : decide (2199023255552 < dy) = false := by simp only [decide_eq_false_iff_not]; omega
        have t1 : -9223372036854775808 ≤ x + dx ∧ x + dx ≤ 9223372036854775807 := by omega
        have t2 : -9223372036854775808 ≤ y + dy ∧ y + dy ≤ 9223372036854775807 := by omega
        have s1 : IntKind.i64.wrap (x + dx) = x + dx := IntWalk.i64_in _ t1
        have s2 : IntKind.i64.wrap (y + dy) = y + dy := IntWalk.i64_in _ t2
        clear hfar
        cases hnew : inB (x + dx, y + dy)
        · have E : Hid (r = (2, [])) := (show r = (2, []) from by rw [HR.out, sh_out hlt HXY.out hnew]; rfl)
          go_wp2
          refine Qt.below_all (by kernel_rfl) (by kernel_rfl) ?_
          repeat (go_big_quiet_step (first | (go_at_call 20; exact Qt.at_call (refIn_no (x + dx, y + dy) hnew))))
          refine wpQuiet_nil ?_
          intro w2 hb2
          clear k0 k1
          go_wp2
          go_ret2
          rw [E.out]
          exact Ans.nil 2 (Qt.more hb hb.size hb2)
        · obtain ⟨A2, c2, rfl, hc2, -⟩ := Own.rd HK.out.1
          have hlen := length_shTo dx dy l k
          go_wp2
          refine Qt.below_all (by kernel_rfl) (by kernel_rfl) ?_
          repeat (go_big_quiet_step (first | (go_at_call 20; exact Qt.at_call (refIn_yes (x + dx, y + dy) hnew))))
          refine wpQuiet_nil ?_
          intro w2 hb2
          clear k0 k1
          have d0 := Qt.cell_in (Qt.keep hb2 c0)
          have d1 := Qt.cell_in (Qt.keep hb2 c1)
          go_wp2
          refine Qt.region_late (v := .slice A2 (shTo dx dy l k).length c2) 16 (by decide) (by kernel_rfl) (by kernel_rfl) rfl ⟨rfl, fun _ => rfl⟩ ?_
          simp only [List.take_succ_cons, List.take_zero, List.drop_succ_cons, List.drop_zero, Act.put, List.setIfInBounds_toArray, List.set_cons_succ, List.set_cons_zero]
          repeat (go_big_quiet_step (fail))
          refine wpQuiet_nil ?_
          intro w3 hb3
          have B3 := Qt.more (Qt.more hb hb.size hb2) (Nat.le_trans hb.size hb2.size) hb3
          have hown := (HK.out.1.below hb2).below hb3
          have hsz3 : w.heap.size ≤ w3.heap.size := B3.size
          have HK2 := Lib.hid HK.out.2
          clear hb2 hb3 hb HK s1 s2
          go_wp2_with (at_builtin; refine wpList_append_own _ rfl (.tmp 59) (.tmp 75) 24 rfl w.heap.size 49 i0 (.agg #[.int .i64 0, .int .i64 0]) 2 16 Tryd.underlying24 hi hz0 hz1 hz2 rfl (by decide) _ _ _ rfl (World.ownsRow.alloc hown _) ⟨w3.heap.size, 0, none⟩ 1 1 [.int .i64 (x + dx), .int .i64 (y + dy)] rfl rfl one_new one_cell (by unfold maxLen; omega) (by omega) (by simp; omega) ?_; intro v4 w4 hown4 hgrow4 _)
          have HP := Lib.hid (push_one (v := .slice A2 (shTo dx dy l k).length c2) hsz3 B3 hown hown4 hgrow4)
          have hset : shTo dx dy l k ++ [(x + dx, y + dy)] = shTo dx dy l (k + 1) := by rw [shTo_succ hlt, ← HXY.out]
          rw [hset] at HP
          clear hown4 hgrow4 hown hset d0 d1 c0 c1
          refine ⟨rfl, ?_⟩
          go_wp2
          go_roundw
          case measure => simp [intOf]; omega
          case rel =>
            refine ⟨k + 1, by omega, by go_num, ⟨HP.out.1, fun j hj => ?_⟩, HP.out.2⟩
            by_cases hjk : j = k
            · subst hjk; rw [← HXY.out]; exact hnew
            · exact HK2.out j (by omega)
    · have hltz : ¬ (k : Int) < (l.length : Int) := by omega
      obtain rfl : k = l.length := by omega
      have E : Hid (r = (0, shL dx dy l)) := (show r = (0, shL dx dy l) from by rw [HR.out, if_pos (sh_in HK.out.2)])
      obtain ⟨A2, c2, rfl, hc2, hr2⟩ := Own.rd HK.out.1
      go_wp2
      go_ret2
      rw [E.out]
      have e : shTo dx dy l l.length = shL dx dy l := by unfold shTo; rw [List.take_length]
      rw [e] at hr2 hc2 ⊢
      exact ⟨_, rfl, ⟨A2, c2, rfl, hc2, hr2⟩, hb⟩

theorem refShift_any (A : Option Addr) (l : List (Int × Int)) (c : Nat) (dx dy : Int) (w : World) (hR : Rd w w.heap.size A l) (hl : l.length ≤ 1000000) (hc : l.length ≤ c) (hdx : I64 dx) (hdy : I64 dy) :
    Calls Tryd.prog 11 #[.slice A l.length c, .int .i64 dx, .int .i64 dy] w (Ans w (shiftR l dx dy)) := by
  unfold shiftR
  cases hr : rightB l
  · exact refShift_bad A l c dx dy w hR hl hc hr
  · rw [if_pos rfl]
    exact refShift_good A l c dx dy w hR hc hr hdx hdy

end Go.Proofs.YtacpncmdgkljdaaDoor.Cel
