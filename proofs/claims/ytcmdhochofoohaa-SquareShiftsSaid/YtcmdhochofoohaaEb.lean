/-
  How many neighbours each cell about a set has: the map that the program counts them in.
-/
import Derived.Test.YtcmdhochofoohaaEa
import Derived.Outline
import Derived.Deep.DeepFit
namespace Go.Proofs.Ytcmdhochofoohaa.Cel
set_option linter.unusedVariables false
set_option linter.unusedSimpArgs false
open Go.RowKit Go.Sort
open Go.Maps (Keyed)

/-- 'm[k]' at such a map, for the walk. -/
theorem wpList_lookup_near {P : Program} (w : World) {ops : Array Oper} {rest : List Oper} {o : Oper} {a : Act} {Q : Exit → Act → World → Prop}
    (hg : o.guard = none) (m x : Operand) (t : TypeId) (hop : o.op = Op.lookup t m x false)
    (k e : TypeId) (K : Keyed P k) (ht : P.underlying t = some (.map k e)) (hz : (zeroValue e).run P w = .ok (.agg #[.bool false, .int .i64 0]) w) (b n : Nat) (D : DataW Unit)
    (hm : a.eval m = .map (some b)) (hown : w.ownsMap P k nearR b n D) (key : Value) (kl : Lit) (hx : a.eval x = key) (hkey : keyOf P k key = some kl)
    (hK : ∀ (al : Bool) (c : Int), D.atKey kl zeroD = .lit (.int .i64 (2 * c + if al then 1 else 0)) → wpList P ops Q rest (a.put o.dst (.agg #[.bool al, .int .i64 c])) w) :
    wpList P ops Q (o :: rest) a w := by
  refine wpList_plain hg fun K' hK' => ?_
  obtain ⟨v, ps, hrun, hv⟩ := hown.lookup K ht hz (nearR_mk false 0) hkey
  obtain ⟨⟨al, c⟩, rfl, hy⟩ := nearR_inv hv
  unfold Oper.wp
  simp [execOp, hop, hm, hx, hrun, Result.andThen]
  exact hK' _ _ (hK al c (by injection hy))

theorem around_turn {w wr w1 : World} {o1 o2 : Obj} {bc : Nat} {u v : Value} (hb : Below w.heap.size w wr) (hlt : w.heap.size < bc) (hbc : bc < wr.heap.size) (d0 : wr.cell? ⟨bc, 0, none⟩ = some u) (d1 : wr.cell? ⟨bc, 1, none⟩ = some v)
    (hg : ((wr.alloc o1).alloc o2).grownBy w1 (some w.heap.size)) : w1.cell? ⟨bc, 0, none⟩ = some u ∧ w1.cell? ⟨bc, 1, none⟩ = some v ∧ Below w.heap.size w w1 ∧ bc < w1.heap.size := by
  have hal : ∀ a u, wr.cell? a = some u → ((wr.alloc o1).alloc o2).cell? a = some u := fun a u h =>
    (World.cell?_alloc_lt _ _ _ (by have := block_lt_of_cell h; simp; omega)).trans ((World.cell?_alloc_lt _ _ _ (block_lt_of_cell h)).trans h)
  have hne : ∀ o : Nat, some (⟨bc, o, none⟩ : Addr).block ≠ some w.heap.size := fun o e => by injection e with e; simp only at e; omega
  refine ⟨grown_cell hg (hal _ _ d0) (hne 0), grown_cell hg (hal _ _ d1) (hne 1), ((hb.alloc hb.size _).alloc (by have := hb.size; simp; omega) _).grown hg (by have := hb.size; simp; omega) (fun k e => by injection e with e; omega), ?_⟩
  have := hg.size
  simp at this
  omega

/-- what was found, in the proof's words -/
theorem near_found {D : DataW Unit} {E : Evs} {p : Int × Int} {al : Bool} {cn : Int} (h : Tells D E) (h1 : I64 p.1) (h2 : I64 p.2) (hat : D.atKey (kl p) zeroD = .lit (.int .i64 (2 * cn + if al = true then 1 else 0))) : al = aliveE E p ∧ cn = countE E p := by
  have e := (h.2 p h1 h2).2
  rw [hat] at e
  exact code_inj e
theorem countE_le (E : Evs) (p : Int × Int) : countE E p ≤ E.length := List.countP_le_length

theorem near_small {D : DataW Unit} {E : Evs} {p : Int × Int} {al : Bool} {cn : Int} (h : Tells D E) (h1 : I64 p.1) (h2 : I64 p.2) (hat : D.atKey (kl p) zeroD = .lit (.int .i64 (2 * cn + if al = true then 1 else 0))) (hl : E.length ≤ 100000) : 0 ≤ cn ∧ cn ≤ 100000 := by
  have e := (near_found h h1 h2 hat).2
  have := countE_le E p
  omega

theorem near_on {w1 : World} {B n t k : Nat} {l : List (Int × Int)} {D : DataW Unit} {d d' : DataW Unit} {p : Int × Int} {b : Bool} (hT : Tells D (evTo l k t)) (h1 : I64 p.1) (h2 : I64 p.2) (he : evTo l k (t + 1) = evTo l k t ++ [(p, b)])
    (hO : w1.ownsMap Try.prog 63 nearR B n (D.put (kl p) d)) (hd : d = d') (hd' : d' = .lit (.int .i64 (2 * (countE (evTo l k t ++ [(p, b)]) p : Int) + if aliveE (evTo l k t ++ [(p, b)]) p then 1 else 0))) {n' t' : Nat} (hn : n ≤ n') (ht : t' = t + 1) :
    ∃ D', Aside (w1.ownsMap Try.prog 63 nearR B n' D' ∧ Tells D' (evTo l k t')) := by
  subst hd ht
  rw [he]
  exact ⟨_, hO.mono hn, tells_put hT h1 h2 hd'⟩

/-- what comes of it: a map at a block of its own that tells the counts -/
def Around (l : List (Int × Int)) (w : World) (e : Ending) (w' : World) : Prop :=
  ∃ D, e = .returned (.map (some w.heap.size)) ∧ w'.ownsMap Try.prog 63 nearR w.heap.size (9 * l.length) D ∧ Hid (Tells D (evs l)) ∧ Below w.heap.size w w'

end Go.Proofs.Ytcmdhochofoohaa.Cel
