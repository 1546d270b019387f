/-
  Texts that the claims of this seat share, part 13.
-/
import Derived.Test.YtocepdhjkhhpfaaB12
import Derived.Test.YtocepdhjkhhpfaaB03
import Derived.Laws.Rows
set_option linter.unusedVariables false
set_option linter.unusedSimpArgs false
namespace Go.Proofs.Ytocepdhjkhhpfaa
set_option linter.unusedVariables false
set_option linter.unusedSimpArgs false
open Go.RowKit Go.Sort

section
variable {w wr w' : World} {A : Option Addr} {n c : Nat} {room : Int} {x : Nd}
end
theorem fits_no {l : List Nd} {n i : Nat} (hi : i < 4) (h : kidB l n ((l.getD n deadN).1 - 1) (kd (l.getD n deadN).2.1 i) = false) : fits6 l n = false := by
  rw [Bool.eq_false_iff]
  intro hf
  unfold fits6 at hf
  simp only [Bool.and_eq_true] at hf
  have := kidsB_iff.1 hf.1.1.1.1 i hi
  rw [h] at this
  cases this
/-- what is left to ask, where the kids are right -/
def lastB (l : List Nd) (n : Nat) : Bool := decide (1 ≤ (l.getD n deadN).1) && decide ((l.getD n deadN).1 ≤ 42) && decide ((l.getD n deadN).2.2 = popTo l (l.getD n deadN).2.1 4) && decide (at6 l (l.getD n deadN).2.1 = some n)
theorem fits_last {l : List Nd} {n : Nat} (h : ∀ i, i < 4 → kidB l n ((l.getD n deadN).1 - 1) (kd (l.getD n deadN).2.1 i) = true) : fits6 l n = lastB l n := by
  unfold fits6 lastB
  rw [kidsB_iff.2 h, Bool.true_and]

end Go.Proofs.Ytocepdhjkhhpfaa
namespace Go.Proofs.Ytocepdhjkhhpfaa
set_option linter.unusedVariables false
set_option linter.unusedSimpArgs false
open Go.RowKit Go.Sort

theorem nd_eq (x y : Nd) : (x.1 == y.1 && (decide (x.2.1 = y.2.1) && x.2.2 == y.2.2)) = decide (x = y) := by
  obtain ⟨a, b, c⟩ := x
  obtain ⟨a', b', c'⟩ := y
  rw [Bool.eq_iff_iff]
  simp
/-- levels and cells are within bounds, as far as nodes fit -/
theorem bd_to {l : List Nd} (hd : l.getD 0 deadN = deadN) (hv : l.getD 1 deadN = liveN) (j : Nat) (hf : ∀ i, 2 ≤ i → i < j → fits6 l i = true) : ∀ n, n < j → 0 ≤ (l.getD n deadN).1 ∧ (l.getD n deadN).1 ≤ 42 ∧ 0 ≤ (l.getD n deadN).2.2 ∧ (l.getD n deadN).2.2 ≤ 4611686018427387903 := by
  intro n
  induction n using Nat.strongRecOn with
  | ind n ih =>
    intro hn
    by_cases h2 : n < 2
    · rcases (by omega : n = 0 ∨ n = 1) with rfl | rfl
      · rw [hd]; decide
      · rw [hv]; decide
    · have hft := fits_iff.1 (hf n (by omega) hn)
      have := popTo_bd (l := l) (k := (l.getD n deadN).2.1) (fun i hi => by
        obtain ⟨k1, k2, _⟩ := hft.kid i hi
        have := ih (kd (l.getD n deadN).2.1 i).toNat (by omega) (by omega)
        exact this.2.2.1) 4 (Nat.le_refl _)
      rw [← hft.pop] at this
      exact ⟨by have := hft.lo; omega, hft.hi, this.1, this.2⟩
section
variable {w wr w' : World} {A : Option Addr} {n c : Nat} {room : Int}
end
theorem right_no {l : List Nd} {room : Int} (h : headB6 l room = false) : right6 l room = false := by unfold right6; rw [h]; rfl
theorem right_nofit {l : List Nd} {room : Int} {j : Nat} (h2 : 2 ≤ j) (hj : j < l.length) (h : fits6 l j = false) : right6 l room = false := by
  rw [Bool.eq_false_iff]
  intro hr
  have := (right_iff.1 hr).fits j h2 hj
  rw [h] at this
  cases this

end Go.Proofs.Ytocepdhjkhhpfaa
namespace Go.Proofs.Ytocepdhjkhhpfaa
set_option linter.unusedVariables false
set_option linter.unusedSimpArgs false
open Go.RowKit Go.Sort

/-- three results, the first of which lies in a cell -/
theorem results_cell3 {P : Program} {fn : Func} {p u v : Tmp} {ty : TypeId} (h : fn.results = #[.cell p ty, .tmp u, .tmp v]) (tmps : Array Value) (w : World) (g : Nat) (t : TypeId) (cs : Array Value) (fr : Nat × Nat) (d : TypeDesc)
    (hp : tmps.getD p undef = .pointer (some ⟨g, 0, none⟩)) (hg : w.heap[g]? = some (.cells cs t fr))
    (hu : P.underlying ty = some d) (hd : (match d with | .struct _ | .array _ _ => true | _ => false) = true) (hi : (P.info? ty).map (·.size) = some cs.size) :
    (results fn tmps).run P w = .ok (.tuple #[.agg cs, tmps.getD u undef, tmps.getD v undef]) w := by
  have hp' : tmps[p]?.getD undef = .pointer (some ⟨g, 0, none⟩) := by simpa using hp
  simp [results, h, hp', asAddr, run_loadVar_row w g t ty cs fr d hg hu hd hi]
section
variable {w wr w' : World} {A : Option Addr} {n c : Nat} {room : Int} {k : Kd}
end
theorem put_no {l : List Nd} {room : Int} {k : Kd} {i : Nat} (hi : i < 4) (h : kidB l l.length (ndAt l k.1).1 (kd k i) = false) : put6 l room k = (l, 0, 1) := by
  unfold put6
  rw [if_pos]
  rw [Bool.eq_false_iff]
  intro hk
  have := kidsB_iff.1 hk i hi
  rw [h] at this
  cases this
theorem put_yes {l : List Nd} {room : Int} {k : Kd} (h : ∀ i, i < 4 → kidB l l.length (ndAt l k.1).1 (kd k i) = true) :
    (42 < (ndAt l k.1).1 + 1 → put6 l room k = (l, 0, 1)) ∧ (¬ 42 < (ndAt l k.1).1 + 1 → (∀ n, at6 l k = some n → put6 l room k = (l, (n : Int), 0)) ∧ (at6 l k = none → (room ≤ l.length → put6 l room k = (l, 0, 40)) ∧ (¬ room ≤ l.length → put6 l room k = (l ++ [((ndAt l k.1).1 + 1, k, popTo l k 4)], (l.length : Int), 0)))) := by
  have hk := kidsB_iff.2 h
  unfold put6
  rw [if_neg (by rw [hk]; decide)]
  refine ⟨fun h1 => by rw [if_pos h1], fun h1 => ?_⟩
  rw [if_neg h1]
  refine ⟨fun n hn => by rw [hn], fun hn => ?_⟩
  rw [hn]
  exact ⟨fun h2 => by simp only; rw [if_pos h2], fun h2 => by simp only; rw [if_neg h2]⟩
/-- What Put answers. -/
def PutR (p : List Nd × Int × Int) (room : Int) (w : World) (e : Ending) (w' : World) : Prop :=
  ∃ v, e = .returned (.tuple #[.agg #[v, .int .i64 room], .int .i64 p.2.1, .int .i64 p.2.2]) ∧ ReadsN w' v p.1 ∧ Below w.heap.size w w'

end Go.Proofs.Ytocepdhjkhhpfaa
namespace Go.Proofs.Ytocepdhjkhhpfaa
set_option linter.unusedVariables false
set_option linter.unusedSimpArgs false
open Go.RowKit Go.Sort

theorem but_set {b : Nat} {w : World} (j : Nat) (u : Value) : w.grownBy (w.setCell ⟨b, j, none⟩ u) (some b) := by
  have h := (Below.refl b w).setCell (p := ⟨b, j, none⟩) (Nat.le_refl _) u
  refine ⟨h.os, h.tape, h.output, h.size, fun k hk hne => ?_⟩
  have hkb : k ≠ b := fun e => hne (by rw [e])
  simp [World.setCell, Array.getElem?_modify, Ne.symm hkb]

theorem below_drewN6 (w : World) : Below w.heap.size w w.drew := (Below.refl _ _).drew
theorem ownN_kind {w : World} {B T s : Nat} {v : Value} {n : Nat} {xs : List Value} (h : w.ownsRow B T s v n xs) : ∀ k, v.ownBlock = some k → B ≤ k ∧ k < w.heap.size ∧ ∃ c fz, w.heap[k]? = some (.cells c T fz) := by
  intro k hk
  have hl := World.ownsRow.lt h k hk
  rcases h.2 with ⟨rfl, h0⟩ | ⟨g, cap, cur, rfl, hB, hg, _⟩
  · simp [Value.ownBlock] at hk
  · simp [Value.ownBlock] at hk
    subst hk
    exact ⟨hl.1, hl.2, _, _, hg⟩
theorem set_row {w : World} {g T : Nat} {a b u v : Value} (h : w.heap[g]? = some (.cells #[a, b] T (0, 0))) : ((w.setCell ⟨g, 0, none⟩ u).setCell ⟨g, 1, none⟩ v).heap[g]? = some (.cells #[u, v] T (0, 0)) := by
  simp [World.setCell, Array.getElem?_modify, h]
/-- A region that draws its order, by a script, to what is known at its end. -/
theorem region_tree_to {P : Program} {id : Nat} {Q : Exit → Act → World → Prop} {a : Act} {w : World} {l : List Oper} (R : Act → Act → World → Prop) (s : Qt.Scr) (hm : P.follows .mixedOrders = true) (hsel : Region.noSelect l.toArray = true)
    (hB : Qt.treeB .any l.toArray s (Array.replicate l.toArray.size false) = true) (hlen : s.len = l.length)
    (h : Qt.treeW P l.toArray (R a) s a w.drew) (hQ : ∀ a' w', R a a' w' → Q .normal a' w') : (Code.region id l.toArray true).wp P Q a w := by
  refine wp_region_any hm ?_
  have := Qt.any_tree (P := P) (md := .any) (Kf := R a) hsel s _ a w.drew hB h
  rw [hlen] at this
  have e := Qt.any_qn hQ _ _ _ _ this
  simpa using e
end Go.Proofs.Ytocepdhjkhhpfaa
namespace Go.Proofs.Ytocepdhjkhhpfaa
set_option linter.unusedVariables false
set_option linter.unusedSimpArgs false
open Go.RowKit Go.Sort

/-- nodes do not lie in a row that is too short -/
theorem rdN_ne {w : World} {B q T : Nat} {A : Option Addr} {l : List Nd} {cs : Array Value} {fz : Nat × Nat} (h : RdN w B A l) (hrow : w.heap[q]? = some (.cells cs T fz)) (hsz : cs.size ≤ 5) : ∀ j, j < l.length → ∃ b off, A = some ⟨b, off, none⟩ ∧ b ≠ q ∧ b < B ∧ NdAt w b (off + j * 6) (l.getD j deadN) := by
  intro j hj
  obtain ⟨b, off, e, hlt, h0⟩ := h j hj
  refine ⟨b, off, e, ?_, hlt, h0⟩
  rintro rfl
  obtain ⟨_, _, _, _, _, h5⟩ := h0
  rw [Lib.cell_of_heap hrow (off + j * 6 + 5), Array.getElem?_eq_none (by omega)] at h5
  cases h5
theorem rdN_told {w : World} {B q T : Nat} {A : Option Addr} {l : List Nd} {x y u v : Value} (h : RdN w B A l) (hrow : w.heap[q]? = some (.cells #[x, y] T (0, 0))) : RdN ((w.setCell ⟨q, 0, none⟩ u).setCell ⟨q, 1, none⟩ v) B A l := by
  intro j hj
  obtain ⟨b, off, e, hne, hlt, h0, h1, h2, h3, h4, h5⟩ := rdN_ne h hrow (Nat.le_of_ble_eq_true rfl) j hj
  have hb : ((w.setCell ⟨q, 0, none⟩ u).setCell ⟨q, 1, none⟩ v).heap[b]? = w.heap[b]? := (Below.heap_setCell _ _ _ _ hne).trans (Below.heap_setCell _ _ _ _ hne)
  have hc : ∀ o, ((w.setCell ⟨q, 0, none⟩ u).setCell ⟨q, 1, none⟩ v).cell? ⟨b, o, none⟩ = w.cell? ⟨b, o, none⟩ := fun o => World.cell?_of_block (w := w) hb
  exact ⟨b, off, e, hlt, (hc _).trans h0, (hc _).trans h1, (hc _).trans h2, (hc _).trans h3, (hc _).trans h4, (hc _).trans h5⟩

end Go.Proofs.Ytocepdhjkhhpfaa
namespace Go.Proofs.Ytocepdhjkhhpfaa
set_option linter.unusedVariables false
set_option linter.unusedSimpArgs false
open Go.RowKit Go.Sort

theorem emptyTo_right {l : List Nd} {room : Int} (h : Right6 l room) : ∀ j, Right6 (emptyTo l room j).1 room
  | 0 => h
  | j + 1 => by
    rw [emptyTo]
    split
    · exact put_right (emptyTo_right h j) _
    · exact emptyTo_right h j
theorem emptyTo_stop {l : List Nd} {room : Int} {j : Nat} (h : ¬ (emptyTo l room j).2.2 = 0) : ∀ d, emptyTo l room (j + d) = emptyTo l room j
  | 0 => rfl
  | d + 1 => by
    have := emptyTo_stop h d
    rw [← Nat.add_assoc, emptyTo, this, if_neg h]
theorem empty_bad {l : List Nd} {room lev : Int} (h : right6 l room = false ∨ lev < 0 ∨ 42 < lev) : empty6 l room lev = (l, 0, 1) := by
  unfold empty6
  rw [if_neg]
  intro hh
  simp only [Bool.and_eq_true, decide_eq_true_eq] at hh
  obtain ⟨⟨h1, h2⟩, h3⟩ := hh
  rcases h with h | h | h
  · rw [h] at h1; cases h1
  · omega
  · omega
theorem empty_good {l : List Nd} {room : Int} {L : Nat} (h : right6 l room = true) (hL : L ≤ 42) : empty6 l room L = (if (emptyTo l room L).2.2 = 0 then emptyTo l room L else (l, 0, (emptyTo l room L).2.2)) := by
  unfold empty6
  rw [if_pos (by rw [h, decide_eq_true (by omega), decide_eq_true (by omega)]; rfl), Int.toNat_natCast]

section
variable {w wr w' : World} {A : Option Addr} {n c : Nat} {room : Int}
end
end Go.Proofs.Ytocepdhjkhhpfaa
namespace Go.Proofs.Ytocepdhjkhhpfaa
set_option linter.unusedVariables false
set_option linter.unusedSimpArgs false
open Go.RowKit Go.Sort

theorem results_cell1 {P : Program} {fn : Func} {p : Tmp} {ty : TypeId} (h : fn.results = #[.cell p ty]) (tmps : Array Value) (w : World) (g : Nat) (t : TypeId) (cs : Array Value) (fr : Nat × Nat) (d : TypeDesc)
    (hp : tmps.getD p undef = .pointer (some ⟨g, 0, none⟩)) (hg : w.heap[g]? = some (.cells cs t fr))
    (hu : P.underlying ty = some d) (hd : (match d with | .struct _ | .array _ _ => true | _ => false) = true) (hi : (P.info? ty).map (·.size) = some cs.size) :
    (results fn tmps).run P w = .ok (.agg cs) w := by
  have hp' : tmps[p]?.getD undef = .pointer (some ⟨g, 0, none⟩) := by simpa using hp
  simp [results, h, hp', asAddr, run_loadVar_row w g t ty cs fr d hg hu hd hi]

/-- A store, as a value. -/
def StoreR (l : List Nd) (room : Int) (w : World) (e : Ending) (w' : World) : Prop :=
  ∃ v, e = .returned (.agg #[v, .int .i64 room]) ∧ ReadsN w' v l ∧ Below w.heap.size w w'
def newL (room : Int) : List Nd := if 2 ≤ room ∧ room ≤ 100000 then new6 else []
def newRoom (room : Int) : Int := if 2 ≤ room ∧ room ≤ 100000 then room else 0

end Go.Proofs.Ytocepdhjkhhpfaa
namespace Go.Proofs.Ytocepdhjkhhpfaa
set_option linter.unusedVariables false
set_option linter.unusedSimpArgs false
open Go.RowKit Go.Sort

section
variable {w wr w' : World} {A B : Option Addr} {n c m d : Nat} {room ro : Int}
end
theorem ext_nd {l m : List Nd} (h : l.length = m.length) (hq : ∀ q, q < l.length → l.getD q deadN = m.getD q deadN) : l = m := by
  refine List.ext_getElem h fun i h1 h2 => ?_
  have := hq i h1
  simpa [List.getD, h1, h2] using this

end Go.Proofs.Ytocepdhjkhhpfaa
