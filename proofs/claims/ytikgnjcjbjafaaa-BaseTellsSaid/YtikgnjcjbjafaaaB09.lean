/-
  Texts that the claims of this seat share, part 9.
-/
import Derived.Test.YtikgnjcjbjafaaaB08
import Derived.Test.YtikgnjcjbjafaaaB06
set_option linter.unusedVariables false
set_option linter.unusedSimpArgs false
namespace Go.Proofs.Ytikgnjcjbjafaaa
set_option maxRecDepth 100000
set_option linter.unusedVariables false
set_option linter.unusedSimpArgs false
open Go.RowKit Go.Sort

/-- an int in a box -/
def LR (w : World) (b : Nat) (x : Int) : Prop := w.heap[b]? = some (.cells #[.int .i64 x] 3 (0, 0))
theorem LR.kp {w w' : World} {b : Nat} {x : Int} (h : LR w b x) (hk : Kp w w') : LR w' b x := hk _ _ _ _ h ⟨.inl (by decide), by decide⟩
theorem LR.c {w : World} {b : Nat} {x : Int} (h : LR w b x) : w.cell? ⟨b, 0, none⟩ = some (.int .i64 x) := by rw [Lib.cell_of_heap h]; rfl
theorem LR.below {w w' : World} {b : Nat} {x : Int} (h : LR w b x) (hb : Below w.heap.size w w') : LR w' b x := (hb.block _ (lt_heap6 h)).trans h
theorem MR.below {w w' : World} {b g : Nat} (h : MR w b g) (hb : Below w.heap.size w w') : MR w' b g := (hb.block _ (lt_heap6 h)).trans h
/-- What is known in the loop over cells. -/
structure DrAt (w wr : World) (g : Nat) (k : Nat) (S : List (Int × Int)) (j : Nat) (vs : Nat → Value) : Prop where
  mkr : MR wr w.heap.size g
  lev : LR wr (w.heap.size + 1) ((k : Int) + 1)
  qs : QsB (w.heap.size + 3) wr (w.heap.size + 1 + 1) vs (fun i => (S.take j).filter fun c => decide (q7 k c = i))
  bel : Below w.heap.size w wr
  size : w.heap.size + 3 ≤ wr.heap.size
theorem DrAt.below {w wr w' : World} {g k j : Nat} {S : List (Int × Int)} {vs : Nat → Value} (h : DrAt w wr g k S j vs) (hb : Below wr.heap.size wr w') : DrAt w w' g k S j vs :=
  ⟨h.mkr.below hb, h.lev.below hb, h.qs.below hb, Qt.more h.bel h.bel.size hb, Nat.le_trans h.size hb.size⟩
theorem filter_next {k : Nat} {S : List (Int × Int)} {j : Nat} (hj : j < S.length) (i : Nat) : (S.take (j + 1)).filter (fun c => decide (q7 k c = i)) = if i = q7 k (S.getD j (0, 0)) then (S.take j).filter (fun c => decide (q7 k c = i)) ++ [S.getD j (0, 0)] else (S.take j).filter fun c => decide (q7 k c = i) := by
  rw [List.take_succ_eq_append_getElem hj, List.filter_append, List.getD_eq_getElem?_getD, List.getElem?_eq_getElem hj]
  simp only [Option.getD_some, List.filter_cons, List.filter_nil]
  by_cases h : i = q7 k S[j]
  · rw [if_pos h, if_pos (by rw [decide_eq_true_eq]; exact h.symm)]
  · rw [if_neg h, if_neg (by rw [decide_eq_true_eq]; exact fun e => h e.symm), List.append_nil]
theorem DrAt.pushed {w w6 w4 : World} {g k j : Nat} {S : List (Int × Int)} {vs : Nat → Value} {v' : Value} {o : Obj} (h : DrAt w w6 g k S j vs) (hj : j < S.length) {q : Nat} (hq : q = q7 k (S.getD j (0, 0))) {c : Int × Int} (hc : c = S.getD j (0, 0))
    (ho : OwnC w4 (w.heap.size + 3) v' ((S.take j).filter (fun c => decide (q7 k c = q)) ++ [c])) (hg : (w6.alloc o).grownBy w4 (vs q).ownBlock) (hw : v'.ownBlock = (vs q).ownBlock ∨ v'.ownBlock = some (w6.heap.size + 1)) :
    w4.heap[w.heap.size + 1 + 1]? = some (.cells #[vs 0, vs 1, vs 2, vs 3] 140 (0, 0)) ∧ DrAt w (w4.setCell ⟨w.heap.size + 1 + 1, q, none⟩ v') g k S (j + 1) (fun i => if i = q then v' else vs i) := by
  have hq4 : q < 4 := by rw [hq]; exact q7_lt k _
  obtain ⟨h1, h2⟩ := h.qs.push hq4 ho hg hw
  have hS : (fun i => (S.take (j + 1)).filter fun c => decide (q7 k c = i)) = fun i => if i = q then (S.take j).filter (fun c => decide (q7 k c = q)) ++ [c] else (S.take j).filter fun c => decide (q7 k c = i) := by
    funext i
    rw [filter_next hj i, ← hq, hc]
    by_cases hi : i = q
    · rw [if_pos hi, if_pos hi, hi]
    · rw [if_neg hi, if_neg hi]
  have hlow : ∀ {i T : Nat} {cs : Array Value}, i < w.heap.size + 1 + 1 → w6.heap[i]? = some (.cells cs T (0, 0)) → (w4.setCell ⟨w.heap.size + 1 + 1, q, none⟩ v').heap[i]? = some (.cells cs T (0, 0)) := by
    intro i T cs hi he
    have hlt := lt_heap6 he
    rw [Below.heap_setCell _ _ _ _ (by show i ≠ w.heap.size + 1 + 1; omega), hg.block i (by simp; omega) (fun e => by have := (World.ownsRow.lt (h.qs.own q hq4) i e.symm).1; omega), Lib.alloc_old _ _ _ hlt]
    exact he
  have hsz := h.size
  have hgs := hg.size
  simp at hgs
  refine ⟨h1, ⟨hlow (by omega) h.mkr, hlow (by omega) h.lev, by rw [hS]; exact h2, ?_, ?_⟩⟩
  · refine ((h.bel.alloc h.bel.size o).grown hg (by simp; omega) (fun r e => ?_)).setCell (by show w.heap.size ≤ w.heap.size + 1 + 1; omega) _
    have := (World.ownsRow.lt (h.qs.own q hq4) r e).1
    omega
  · simp [World.setCell]
    omega

end Go.Proofs.Ytikgnjcjbjafaaa
namespace Go.Proofs.Ytikgnjcjbjafaaa
set_option maxRecDepth 100000
set_option linter.unusedVariables false
set_option linter.unusedSimpArgs false
open Go.RowKit Go.Sort

/-- what Maker.Make answers -/
def makeZ (room : Int) (l : List Nd) (S : List (Int × Int)) (lev : Int) : List Nd × Int × Int :=
  if (decide (1 ≤ lev) && decide (lev ≤ 42) && Cel.rightB S) = true then
    (if (S.all fun c => insideB (lev.toNat - 1) c) = true then buildC room lev.toNat l (S.map (inwardC (lev.toNat - 1))) else (l, 0, 2))
  else (l, 0, 1)
theorem makeZ_arg {room : Int} {l : List Nd} {S : List (Int × Int)} {lev : Int} (h : ¬ (1 ≤ lev ∧ lev ≤ 42 ∧ Cel.rightB S = true)) : makeZ room l S lev = (l, 0, 1) := by
  unfold makeZ
  rw [if_neg]
  simpa [and_assoc] using h
/-- What is known in the loop over cells. -/
structure MkAt (w wr : World) (g q e : Nat) (S : List (Int × Int)) (j : Nat) : Prop where
  mkr : MR wr w.heap.size g
  row : Cel.Row wr q 32 q S.length S.length (Cel.filled (S.map (inwardC e)) j)
  bel : Below w.heap.size w wr
  all : ∀ i, i < j → insideB e (S.getD i (0, 0)) = true
  hq : w.heap.size < q
theorem MkAt.below {w wr w' : World} {g q e : Nat} {S : List (Int × Int)} {j : Nat} (h : MkAt w wr g q e S j) (hb : Below wr.heap.size wr w') : MkAt w w' g q e S j :=
  ⟨h.mkr.below hb, h.row.below hb, Qt.more h.bel h.bel.size hb, h.all, h.hq⟩
theorem MkAt.next {w wr : World} {g q e : Nat} {S : List (Int × Int)} {j : Nat} (h : MkAt w wr g q e S j) (hj : j < S.length) {c : Int × Int} (hc : c = S.getD j (0, 0)) (hin : insideB e c = true) :
    MkAt w ((wr.setCell ⟨q, j * 2, none⟩ (.int .i64 (inwardC e c).1)).setCell ⟨q, j * 2 + 1, none⟩ (.int .i64 (inwardC e c).2)) g q e S (j + 1) := by
  have hl : (S.map (inwardC e)).length = S.length := List.length_map ..
  have hst := h.row.store j (inwardC e c).1 (inwardC e c).2
  have hg : (S.map (inwardC e)).getD j (0, 0) = inwardC e c := by
    rw [List.getD_eq_getElem?_getD, List.getElem?_map, List.getElem?_eq_getElem hj, hc, List.getD_eq_getElem?_getD, List.getElem?_eq_getElem hj]
    rfl
  have hf := Cel.filled_step (l := S.map (inwardC e)) (k := j) (by rw [hl]; exact hj)
  rw [hg] at hf
  rw [show ((inwardC e c).1, (inwardC e c).2) = inwardC e c from rfl, hf] at hst
  have hq := h.hq
  refine ⟨?_, hst, (h.bel.setCell (by show w.heap.size ≤ q; omega) _).setCell (by show w.heap.size ≤ q; omega) _, fun i hi => ?_, hq⟩
  · have := h.mkr
    unfold MR at this ⊢
    rw [Below.heap_setCell _ _ _ _ (by show w.heap.size ≠ q; omega), Below.heap_setCell _ _ _ _ (by show w.heap.size ≠ q; omega)]
    exact this
  · rcases (by omega : i < j ∨ i = j) with h1 | rfl
    · exact h.all i h1
    · rw [← hc]; exact hin
end Go.Proofs.Ytikgnjcjbjafaaa
