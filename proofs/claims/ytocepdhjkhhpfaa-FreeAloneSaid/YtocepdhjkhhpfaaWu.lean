/-
  Plain maths of one worker alone at a free list: of up to twenty nodes, looked through.
-/
import Derived.Test.YtocepdhjkhhpfaaB11
namespace Go.Proofs.Ytocepdhjkhhpfaa
set_option maxRecDepth 100000
set_option linter.unusedVariables false
set_option linter.unusedSimpArgs false

def nxN (n t : Nat) : Int := (makeL n).getD (t + 1) 0
def s1A (n t : Nat) : Wk := ⟨1, 1, 0, hdN n t, 0, false, 0⟩
def s2A (n t : Nat) : Wk := ⟨2, 1, 0, hdN n t, nxN n t, false, 0⟩
def s3A (n t : Nat) : Wk := ⟨2, 1, 0, hdN n t, nxN n t, true, t⟩
def p3A (n t : Nat) : Wk := ⟨2, 2, t, hdN n (t + 1), 0, true, t⟩
def bL (n t : Nat) : List Int := (wds n t).set 0 (hdN n t + 2097152)
def restL (n t : Nat) : List Int := (List.range (n - t)).map fun i => ((t + i : Nat) : Int)
def eqW (a b : Wk) : Bool := a.pc == b.pc && a.job == b.job && a.r0 == b.r0 && a.r1 == b.r1 && a.r2 == b.r2 && a.done == b.done && a.out == b.out
theorem eqW_eq {a b : Wk} (h : eqW a b = true) : a = b := by
  obtain ⟨a1, a2, a3, a4, a5, a6, a7⟩ := a
  obtain ⟨b1, b2, b3, b4, b5, b6, b7⟩ := b
  simp only [eqW, Bool.and_eq_true, beq_iff_eq] at h
  obtain ⟨⟨⟨⟨⟨⟨rfl, rfl⟩, rfl⟩, rfl⟩, rfl⟩, rfl⟩, rfl⟩ := h
  rfl
def eqD (d : List Int × List Wk × Int) (m : List Int) (x : Wk) : Bool := d.1 == m && (match d.2.1 with | [y] => eqW y x | _ => false) && d.2.2 == 0
theorem eqD_eq {d : List Int × List Wk × Int} {m : List Int} {x : Wk} (h : eqD d m x = true) : d = (m, [x], 0) := by
  obtain ⟨d1, d2, d3⟩ := d
  unfold eqD at h
  simp only [Bool.and_eq_true, beq_iff_eq] at h
  obtain ⟨⟨rfl, h2⟩, rfl⟩ := h
  match d2, h2 with
  | [y], h2 => rw [eqW_eq h2]
def eqS (d : List Int × Wk × Int) (m : List Int) (x : Wk) : Bool := d.1 == m && eqW d.2.1 x && d.2.2 == 0
theorem eqS_eq {d : List Int × Wk × Int} {m : List Int} {x : Wk} (h : eqS d m x = true) : d = (m, x, 0) := by
  obtain ⟨d1, d2, d3⟩ := d
  unfold eqS at h
  simp only [Bool.and_eq_true, beq_iff_eq] at h
  obtain ⟨⟨rfl, h2⟩, rfl⟩ := h
  rw [eqW_eq h2]
def chkA (n t : Nat) : Bool :=
  eqD (runW 0 [] (wds n t) [popW]) (wds n (t + 1)) (s3A n t) && eqD (runW 0 [] (wds n (t + 1)) [pushW t]) (bL n t) (p3A n t) &&
  freeL (wds n t) == restL n t && freeL (wds n (t + 1)) == restL n (t + 1) && freeL (bL n t) == restL n t &&
  eqS (stepW 0 (wds n t) popW) (wds n t) (s1A n t) && eqS (stepW 0 (wds n t) (s1A n t)) (wds n t) (s2A n t) && eqS (stepW 0 (wds n t) (s2A n t)) (wds n (t + 1)) (s3A n t)
theorem chk_all : ((List.range 21).all fun n => (List.range n).all fun t => chkA n t) = true := by decide +kernel
structure Alone (n t : Nat) : Prop where
  pop : runW 0 [] (wds n t) [popW] = (wds n (t + 1), [s3A n t], 0)
  push : runW 0 [] (wds n (t + 1)) [pushW t] = (bL n t, [p3A n t], 0)
  was : freeL (wds n t) = restL n t
  less : freeL (wds n (t + 1)) = restL n (t + 1)
  back : freeL (bL n t) = restL n t
  q1 : stepW 0 (wds n t) popW = (wds n t, s1A n t, 0)
  q2 : stepW 0 (wds n t) (s1A n t) = (wds n t, s2A n t, 0)
  q3 : stepW 0 (wds n t) (s2A n t) = (wds n (t + 1), s3A n t, 0)
theorem alone {n t : Nat} (hn : n ≤ 20) (ht : t < n) : Alone n t := by
  have h1 := List.all_eq_true.1 chk_all n (List.mem_range.2 (by omega))
  have h := List.all_eq_true.1 h1 t (List.mem_range.2 ht)
  unfold chkA at h
  simp only [Bool.and_eq_true, beq_iff_eq] at h
  obtain ⟨⟨⟨⟨⟨⟨⟨a1, a2⟩, a3⟩, a4⟩, a5⟩, a6⟩, a7⟩, a8⟩ := h
  exact ⟨eqD_eq a1, eqD_eq a2, a3, a4, a5, eqS_eq a6, eqS_eq a7, eqS_eq a8⟩
theorem restL_len (n t : Nat) : (restL n t).length = n - t := by unfold restL; simp
theorem restL_get {n t : Nat} (h : t < n) : (restL n t).getD 0 0 = t := by
  unfold restL
  simp [List.getD_eq_getElem?_getD, List.getElem?_map, List.getElem?_range (show 0 < n - t by omega)]
theorem restL_drop {n t : Nat} (h : t < n) : (restL n t).drop 1 = restL n (t + 1) := by
  unfold restL
  refine List.ext_getElem? fun j => ?_
  rw [List.getElem?_drop, List.getElem?_map, List.getElem?_map]
  by_cases hj : j < n - (t + 1)
  · rw [List.getElem?_range (by omega), List.getElem?_range hj]
    simp only [Option.map_some]
    congr 2
    omega
  · rw [List.getElem?_eq_none (by simp; omega), List.getElem?_eq_none (by simp; omega)]
    rfl
theorem bL_len (n t : Nat) : (bL n t).length = n + 1 := by unfold bL; rw [List.length_set, wds_len]
theorem bL_get (n t : Nat) : (bL n t).getD 0 0 = hdN n t + 2097152 := by
  have := wds_len n t
  unfold bL
  rw [List.getD_eq_getElem?_getD, List.getElem?_set, if_pos rfl, if_pos (by omega)]
  rfl
theorem bL_wd {n t : Nat} (hn : n ≤ 1000) (ht : t ≤ 1000) : ∀ x ∈ bL n t, WdI x := by
  intro x hx
  rcases List.mem_or_eq_of_mem_set hx with h | rfl
  · exact wds_wd hn (by omega) x h
  · unfold WdI hdN; split <;> omega
end Go.Proofs.Ytocepdhjkhhpfaa
