/-
  Texts that the claims of this seat share, part 6.
-/
import Derived.Test.YtocepdhjkhhpfaaB05
import Derived.Test.YtocepdhjkhhpfaaB04
import Derived.Test.YtocepdhjkhhpfaaB03
import Derived.Test.YtocepdhjkhhpfaaB02
set_option linter.unusedVariables false
set_option linter.unusedSimpArgs false
namespace Go.Proofs.Ytocepdhjkhhpfaa
set_option maxRecDepth 100000
set_option linter.unusedVariables false
set_option linter.unusedSimpArgs false
open Go.RowKit Go.Sort

/-- four numbers lie here -/
def A4At (w : World) (b o : Nat) (y : Ac) : Prop := w.cell? ⟨b, o, none⟩ = some (.int .i64 y.1) ∧ w.cell? ⟨b, o + 1, none⟩ = some (.int .i64 y.2.1) ∧ w.cell? ⟨b, o + 2, none⟩ = some (.int .i64 y.2.2.1) ∧ w.cell? ⟨b, o + 3, none⟩ = some (.int .i64 y.2.2.2)
theorem A4At.below {w w' : World} {b o B : Nat} {y : Ac} (h : A4At w b o y) (hb : Below B w w') (hx : b < B) : A4At w' b o y := by
  obtain ⟨h0, h1, h2, h3⟩ := h
  exact ⟨(hb.cell (p := ⟨b, o, none⟩) hx).trans h0, (hb.cell (p := ⟨b, o + 1, none⟩) hx).trans h1, (hb.cell (p := ⟨b, o + 2, none⟩) hx).trans h2, (hb.cell (p := ⟨b, o + 3, none⟩) hx).trans h3⟩
/-- The slice at A reads as four numbers each. -/
def RdA (w : World) (B : Nat) (A : Option Addr) (l : List Ac) : Prop :=
  ∀ j, j < l.length → ∃ b off, A = some ⟨b, off, none⟩ ∧ b < B ∧ A4At w b (off + j * 4) (l.getD j deadA)
theorem RdA.below {w w' : World} {B B' : Nat} {A : Option Addr} {l : List Ac} (h : RdA w B A l) (hb : Below B' w w') (hB : B ≤ B') : RdA w' B A l := fun j hj => by
  obtain ⟨b, off, e, hlt, h0⟩ := h j hj
  exact ⟨b, off, e, hlt, h0.below hb (Nat.lt_of_lt_of_le hlt hB)⟩
theorem RdA.more {w : World} {B B' : Nat} {A : Option Addr} {l : List Ac} (h : RdA w B A l) (hB : B ≤ B') : RdA w B' A l := fun j hj => by
  obtain ⟨b, off, e, hlt, h0⟩ := h j hj
  exact ⟨b, off, e, by omega, h0⟩
abbrev NowA (w : World) (A : Option Addr) (l : List Ac) : Prop := RdA w w.heap.size A l
theorem RdA.now {w w' : World} {A : Option Addr} {l : List Ac} (h : NowA w A l) (hb : Below w.heap.size w w') : NowA w' A l := (RdA.below h hb (Nat.le_refl _)).more hb.size
/-- what Play answers -/
abbrev PlT := List Int × List Int × Int
def PlAns (d : PlT) (w : World) (r : Ending) (w' : World) : Prop := ∃ A c A2 c2, r = .returned (.tuple #[.slice A d.1.length c, .slice A2 d.2.1.length c2, .int .i64 d.2.2]) ∧ d.1.length ≤ c ∧ Now w' A d.1 ∧ d.2.1.length ≤ c2 ∧ Now w' A2 d.2.1 ∧ Below w.heap.size w w'
theorem drop_get {l : List Ac} {k : Nat} (h : k < l.length) : l.drop k = l.getD k deadA :: l.drop (k + 1) := by
  rw [List.drop_eq_getElem_cons h, List.getD_eq_getElem?_getD, List.getElem?_eq_getElem h]; rfl
theorem playA_bad {m0 : List Int} {y : Ac} {r : List Ac} {m f : List Int} (h : (doA m y).2.2.2 ≠ 0) : playA m0 (y :: r) m f = (m0, [], (doA m y).2.2.2) := by rw [playA_cons, if_neg h]
theorem playA_ok {m0 : List Int} {y : Ac} {r : List Ac} {m f : List Int} (h : (doA m y).2.2.2 = 0) : playA m0 (y :: r) m f = playA m0 r (doA m y).1 (f ++ [(doA m y).2.1]) := by rw [playA_cons, if_pos h]

end Go.Proofs.Ytocepdhjkhhpfaa
namespace Go.Proofs.Ytocepdhjkhhpfaa
set_option maxRecDepth 100000
set_option linter.unusedVariables false
set_option linter.unusedSimpArgs false
open Go.RowKit Go.Sort

theorem makeW (n : Nat) (hn : n ≤ 17592186044416) (u : World) : ∃ u', (Instr.makeSlice 23 (.int .i64 (n : Int)) (.int .i64 (n : Int))).run Try.prog u = .ok (.slice (some ⟨u.heap.size, 0, none⟩) n n) u' ∧
    Own u' u.heap.size (.slice (some ⟨u.heap.size, 0, none⟩) n n) (List.replicate n 0) ∧ u.grownBy u' none := by
  obtain ⟨i0, hi, hz0, hz1, hz2⟩ := info_parts info_int
  obtain ⟨u', h1, h2, h3⟩ := run_make_full (P := Try.prog) u u.heap.size 23 3 i0 _ 1 Try.underlying23 hi hz0 hz1 .i64 .i64 n (by rw [hz2]; omega) (by unfold maxLen; omega) (Nat.le_refl _)
  refine ⟨u', h1, ?_, h3⟩
  have e : (madeCells (Value.int .i64 0).cells (n * 1)).toList = (List.replicate n (0 : Int)).map (Value.int .i64) := by
    rw [Nat.mul_one]
    show (madeCells #[Value.int .i64 0] n).toList = _
    rw [toList_madeCells_one, List.map_replicate]
  rw [e] at h2
  show World.ownsRow _ _ _ _ _ _ _
  rw [List.length_replicate]
  exact h2
theorem found_set {ff : List Int} {n k : Nat} (h : ff.length = k) (hk : k < n) (x : Int) : (ff ++ List.replicate (n - k) 0).set k x = (ff ++ [x]) ++ List.replicate (n - (k + 1)) 0 := by
  obtain ⟨j, rfl⟩ : ∃ j, n = k + 1 + j := ⟨n - k - 1, by omega⟩
  rw [show k + 1 + j - k = j + 1 by omega, show k + 1 + j - (k + 1) = j by omega, List.replicate_succ, List.set_append_right _ _ (by omega), h, Nat.sub_self, List.set_cons_zero, List.append_assoc]
  rfl
end Go.Proofs.Ytocepdhjkhhpfaa
namespace Go.Proofs.Ytocepdhjkhhpfaa
set_option maxRecDepth 100000
set_option linter.unusedVariables false
set_option linter.unusedSimpArgs false
open Go.RowKit Go.Sort

def jobN (q : Nat) : Int := match q with | 0 => 1 | 1 => 1 | 2 => 1 | _ => 2
def pcN (q : Nat) : Int := match q with | 0 => 0 | 1 => 1 | 2 => 2 | 3 => 0 | 4 => 1 | _ => 2
def faN (q : Nat) : Nat := match q with
  | 0 => 75 | 1 => 77 | 2 => 79
  | 3 => 75 | 4 => 82 | _ => 84
def ftN (q : Nat) : Nat := match q with
  | 0 => 76 | 1 => 78 | 2 => 80
  | 3 => 81 | 4 => 83 | _ => 85
theorem stage_of {w0 : Wk} (h : FineW w0) : ∃ q, q < 6 ∧ w0.job = jobN q ∧ w0.pc = pcN q := by
  rcases h.job with h1 | h1 <;> rcases h.pc with h2 | h2 | h2
  · exact ⟨0, by decide, h1, h2⟩
  · exact ⟨1, by decide, h1, h2⟩
  · exact ⟨2, by decide, h1, h2⟩
  · exact ⟨3, by decide, h1, h2⟩
  · exact ⟨4, by decide, h1, h2⟩
  · exact ⟨5, by decide, h1, h2⟩
theorem acc_all (q : Nat) (hq : q < 6) (w0 : Wk) (at0 : Int) (h : FineW w0) (h1 : w0.job = jobN q) (h2 : w0.pc = pcN q) (ha1 : 0 ≤ at0) (ha2 : at0 ≤ 1099511627776) (w : World) :
    Calls Try.prog (faN q) #[haV w0 at0] w (ValR (acV (accW at0 w0)) w) := by
  rcases (show q = 0 ∨ q = 1 ∨ q = 2 ∨ q = 3 ∨ q = 4 ∨ q = 5 by omega) with rfl | rfl | rfl | rfl | rfl | rfl
  · rw [show accW at0 w0 = (1, at0, 0, 0) by unfold accW; rw [h2]; rfl]
    exact loadHead_any w0 at0 w
  · rw [show accW at0 w0 = (1, at0 + hdH w0.r1, 0, 0) by unfold accW; rw [h1, h2]; rfl]
    exact loadBehind_any w0 at0 w h.r1 ha1 ha2
  · rw [show accW at0 w0 = (3, at0, w0.r1, (hdC w0.r1 + 1) * 1048576 + w0.r2) by unfold accW; rw [h1, h2]; rfl]
    exact swapOut_any w0 at0 w h.r1 ha1 ha2 h.r2
  · rw [show accW at0 w0 = (1, at0, 0, 0) by unfold accW; rw [h2]; rfl]
    exact loadHead_any w0 at0 w
  · rw [show accW at0 w0 = (2, at0 + 1 + w0.r0, 0, hdH w0.r1) by unfold accW; rw [h1, h2]; rfl]
    exact writeBehind_any w0 at0 w h.r1 ha1 ha2 h.r0.1 h.r0.2
  · rw [show accW at0 w0 = (3, at0, w0.r1, (hdC w0.r1 + 1) * 1048576 + (w0.r0 + 1)) by unfold accW; rw [h1, h2]; rfl]
    exact swapIn_any w0 at0 w h.r1 ha1 ha2 h.r0.1 h.r0.2
theorem then_all (q : Nat) (hq : q < 6) (w0 : Wk) (at0 x : Int) (b : Bool) (h : FineW w0) (h1 : w0.job = jobN q) (h2 : w0.pc = pcN q) (hx : WdI x) (w : World) :
    Calls Try.prog (ftN q) #[haV w0 at0, .int .i64 x, .bool b] w (ValR (wkV (behW w0 x b)) w) := by
  rcases (show q = 0 ∨ q = 1 ∨ q = 2 ∨ q = 3 ∨ q = 4 ∨ q = 5 by omega) with rfl | rfl | rfl | rfl | rfl | rfl
  · have e : behW w0 x b = if hdH x = 0 then { w0 with r1 := x, done := true, out := -1 } else { w0 with r1 := x, pc := 1 } := by
      unfold behW; rw [h2, h1]; simp [jobN, pcN]
    rw [e]
    exact popLoaded_any w0 at0 x b w hx.i64
  · rw [show behW w0 x b = { w0 with r2 := x, pc := 2 } by unfold behW; rw [h2, h1]; rfl]
    exact popBehind_any w0 at0 x b w
  · have e : behW w0 x b = if b = false then { w0 with pc := 0 } else { w0 with done := true, out := hdH w0.r1 - 1 } := by
      unfold behW; rw [h2, h1]; rfl
    rw [e]
    exact popSwapped_any w0 at0 x b w h.r1.i64
  · have e : behW w0 x b = { w0 with r1 := x, pc := 1 } := by
      unfold behW; rw [h2, h1]; simp [jobN, pcN]
    rw [e]
    exact pushLoaded_any w0 at0 x b w
  · rw [show behW w0 x b = { w0 with pc := 2 } by unfold behW; rw [h2, h1]; rfl]
    exact pushWritten_any w0 at0 x b w
  · have e : behW w0 x b = if b = false then { w0 with pc := 0 } else { w0 with done := true, out := w0.r0 } := by
      unfold behW; rw [h2, h1]; rfl
    rw [e]
    exact pushSwapped_any w0 at0 x b w
theorem accW_fine {w0 : Wk} (at0 : Int) (h : FineW w0) (ha1 : 0 ≤ at0) (ha2 : at0 ≤ 1099511627776) : Fine4A (accW at0 w0) := by
  have hh := hdH_bd w0.r1
  have hc := hdC_bd h.r1.2
  have h0 := h.r0
  have h1 := h.r1
  have h2 := h.r2
  unfold WdI at h1 h2
  unfold accW Fine4A
  repeat' split
  all_goals (unfold I64; simp only; omega)
theorem mapOk_below {w w' : World} {b : Nat} (h : MapOk w b) (hb : Below w.heap.size w w') : MapOk w' b := by
  obtain ⟨es, c, h1, h2⟩ := h
  exact ⟨es, c, (hb.block _ (lt_heap6' h1)).trans h1, h2⟩
/-- what a step tells -/
def StepR (B : Nat) (v : Value) (d : List Int × Wk × Int) (w : World) (r : Ending) (w' : World) : Prop := r = .returned (.tuple #[wkV d.2.1, .int .i64 d.2.2]) ∧ Own w' B v d.1 ∧ w.grownBy w' v.ownBlock
abbrev liV (A : Option Addr) (n c : Nat) (at0 : Int) (b : Nat) : Value := .agg #[.slice A n c, .int .i64 at0, .map (some b)]
theorem five_allocs (w : World) (a b c d e : Obj) : ∃ v, ((((w.alloc a).alloc b).alloc c).alloc d).alloc e = v ∧ v.heap.size = w.heap.size + 5 ∧ v.heap[w.heap.size]? = some a ∧ v.heap[w.heap.size + 1]? = some b ∧ v.heap[w.heap.size + 2]? = some c ∧ v.heap[w.heap.size + 3]? = some d ∧ v.heap[w.heap.size + 4]? = some e ∧ Below w.heap.size w v := by
  have h1 := heap_alloc_new w a
  have h2 := heap_alloc_new (w.alloc a) b
  have h3 := heap_alloc_new ((w.alloc a).alloc b) c
  have h4 := heap_alloc_new (((w.alloc a).alloc b).alloc c) d
  have h5 := heap_alloc_new ((((w.alloc a).alloc b).alloc c).alloc d) e
  rw [show (w.alloc a).heap.size = w.heap.size + 1 by simp] at h2
  rw [show ((w.alloc a).alloc b).heap.size = w.heap.size + 2 by simp] at h3
  rw [show (((w.alloc a).alloc b).alloc c).heap.size = w.heap.size + 3 by simp] at h4
  rw [show ((((w.alloc a).alloc b).alloc c).alloc d).heap.size = w.heap.size + 4 by simp] at h5
  refine ⟨_, rfl, by simp, ?_, ?_, ?_, ?_, h5, (below4 w a b c d).alloc (by simp; omega) _⟩
  · exact (Lib.alloc_old _ _ _ (by simp <;> omega)).trans ((Lib.alloc_old _ _ _ (by simp <;> omega)).trans ((Lib.alloc_old _ _ _ (by simp <;> omega)).trans ((Lib.alloc_old _ _ _ (by simp)).trans h1)))
  · exact (Lib.alloc_old _ _ _ (by simp <;> omega)).trans ((Lib.alloc_old _ _ _ (by simp <;> omega)).trans ((Lib.alloc_old _ _ _ (by simp)).trans h2))
  · exact (Lib.alloc_old _ _ _ (by simp <;> omega)).trans ((Lib.alloc_old _ _ _ (by simp)).trans h3)
  · exact (Lib.alloc_old _ _ _ (by simp)).trans h4
theorem results_cellT {P : Program} {fn : Func} {p u : Tmp} {ty : TypeId} (h : fn.results = #[.cell p ty, .tmp u]) (tmps : Array Value) (w : World) (g : Nat) (t : TypeId) (cs : Array Value) (fr : Nat × Nat) (d : TypeDesc)
    (hp : tmps.getD p undef = .pointer (some ⟨g, 0, none⟩)) (hg : w.heap[g]? = some (.cells cs t fr))
    (hu : P.underlying ty = some d) (hd : (match d with | .struct _ | .array _ _ => true | _ => false) = true) (hi : (P.info? ty).map (·.size) = some cs.size) :
    (results fn tmps).run P w = .ok (.tuple #[.agg cs, tmps.getD u undef]) w := by
  have hp' : tmps[p]?.getD undef = .pointer (some ⟨g, 0, none⟩) := by simpa using hp
  simp [results, h, hp', asAddr, run_loadVar_row w g t ty cs fr d hg hu hd hi]
theorem grown_setCell (w : World) (g j : Nat) (v : Value) : w.grownBy (w.setCell ⟨g, j, none⟩ v) (some g) := by
  refine ⟨rfl, rfl, rfl, ?_, fun k hk hne => ?_⟩
  · simp [World.setCell]
  · have : ¬ g = k := fun e => hne (by rw [e])
    simp [World.setCell, Array.getElem?_modify, this]
theorem set12 (w : World) (g : Nat) (z u : Wk) (t : TypeId) (f : Nat × Nat) (h : w.heap[g]? = some (.cells (wkA z) t f)) :
    ∃ w', ((((((((((((w.setCell ⟨g, 0, none⟩ (.int .i64 u.pc)).setCell ⟨g, 1, none⟩ (.int .i64 u.job)).setCell ⟨g, 2, none⟩ (.int .i64 u.r0)).setCell ⟨g, 3, none⟩ (.int .i64 u.r1)).setCell ⟨g, 4, none⟩ (.int .i64 u.r2)).setCell ⟨g, 5, none⟩ (.int .i64 0)).setCell ⟨g, 6, none⟩ (.int .i64 0)).setCell ⟨g, 7, none⟩ (.int .i64 0)).setCell ⟨g, 8, none⟩ (.int .i64 0)).setCell ⟨g, 9, none⟩ (.int .i64 0)).setCell ⟨g, 10, none⟩ (.bool u.done)).setCell ⟨g, 11, none⟩ (.int .i64 u.out)) = w' ∧ w'.heap[g]? = some (.cells (wkA u) t f) ∧ w.grownBy w' (some g) := by
  refine ⟨_, rfl, ?_, ?_⟩
  · simp [World.setCell, Array.getElem?_modify, h]
  · exact ((((((((((((World.grownBy.refl w _).trans (grown_setCell _ _ _ _)).trans (grown_setCell _ _ _ _)).trans (grown_setCell _ _ _ _)).trans (grown_setCell _ _ _ _)).trans (grown_setCell _ _ _ _)).trans (grown_setCell _ _ _ _)).trans (grown_setCell _ _ _ _)).trans (grown_setCell _ _ _ _)).trans (grown_setCell _ _ _ _)).trans (grown_setCell _ _ _ _)).trans (grown_setCell _ _ _ _)).trans (grown_setCell _ _ _ _)
theorem grown_far {w w1 w2 : World} {r : Option Nat} {g : Nat} (h : w.grownBy w1 r) (h2 : w1.grownBy w2 (some g)) (hg : w.heap.size ≤ g) : w.grownBy w2 r :=
  ⟨h2.os.trans h.os, h2.tape.trans h.tape, h2.output.trans h.output, Nat.le_trans h.size h2.size, fun k hk hne => (h2.block k (Nat.lt_of_lt_of_le hk h.size) (fun e => by injection e with e; omega)).trans (h.block k hk hne)⟩
theorem step_end {B : Nat} {v : Value} {m : List Int} {d : List Int × Wk × Int} {w w1 w2 : World} {g : Nat} {r : Ending} (hr : r = .returned (.tuple #[wkV d.2.1, .int .i64 d.2.2])) (h0 : Own w B v m) (h1 : Own w1 B v d.1) (hg : w.grownBy w1 v.ownBlock) (h2 : w1.grownBy w2 (some g)) (hlt : w.heap.size ≤ g) : StepR B v d w r w2 :=
  ⟨hr, World.ownsRow.kept h1 h2 (.inr (fun e => by have := (World.ownsRow.lt h0 g e).2; omega)), grown_far hg h2 hlt⟩
end Go.Proofs.Ytocepdhjkhhpfaa
namespace Go.Proofs.Ytocepdhjkhhpfaa
set_option maxRecDepth 100000
set_option linter.unusedVariables false
set_option linter.unusedSimpArgs false
open Go.RowKit Go.Sort

def wkL (w : Wk) : List Value := [.int .i64 w.pc, .int .i64 w.job, .int .i64 w.r0, .int .i64 w.r1, .int .i64 w.r2, .int .i64 0, .int .i64 0, .int .i64 0, .int .i64 0, .int .i64 0, .bool w.done, .int .i64 w.out]
def flW (l : List Wk) : List Value := l.flatMap wkL
theorem flW_append (l m : List Wk) : flW (l ++ m) = flW l ++ flW m := by unfold flW; simp
theorem flW_cons (x : Wk) (l : List Wk) : flW (x :: l) = wkL x ++ flW l := rfl
theorem wkL_len (x : Wk) : (wkL x).length = 12 := rfl
theorem length_flW (l : List Wk) : (flW l).length = l.length * 12 := by
  induction l with
  | nil => rfl
  | cons x l ih => rw [flW_cons, List.length_append, wkL_len, ih, List.length_cons]; omega
theorem flW_get (l : List Wk) : ∀ j k, j < l.length → k < 12 → (flW l)[j * 12 + k]? = (wkL (l.getD j deadW))[k]? := by
  induction l with
  | nil => intro j k h; exact absurd h (Nat.not_lt_zero j)
  | cons x l ih =>
    intro j k h hk
    rw [flW_cons]
    cases j with
    | zero => rw [Nat.zero_mul, Nat.zero_add, List.getElem?_append_left (by rw [wkL_len]; exact hk)]; rfl
    | succ j =>
      rw [List.getElem?_append_right (by rw [wkL_len]; omega), wkL_len, show (j + 1) * 12 + k - 12 = j * 12 + k by omega]
      exact ih j k (by simpa using h) hk
theorem flW_cell1 (m : List Wk) : ∀ u ∈ flW m, u.oneCell' = true := by
  intro u hu
  obtain ⟨x, _, hx⟩ := List.mem_flatMap.1 hu
  simp only [wkL, List.mem_cons, List.not_mem_nil, or_false] at hx
  rcases hx with rfl | rfl | rfl | rfl | rfl | rfl | rfl | rfl | rfl | rfl | rfl | rfl <;> rfl
theorem flW_set (l : List Wk) : ∀ j u, j < l.length → flW (l.set j u) = ((((((((((((flW l).set (j * 12) (.int .i64 u.pc)).set (j * 12 + 1) (.int .i64 u.job)).set (j * 12 + 2) (.int .i64 u.r0)).set (j * 12 + 3) (.int .i64 u.r1)).set (j * 12 + 4) (.int .i64 u.r2)).set (j * 12 + 5) (.int .i64 0)).set (j * 12 + 6) (.int .i64 0)).set (j * 12 + 7) (.int .i64 0)).set (j * 12 + 8) (.int .i64 0)).set (j * 12 + 9) (.int .i64 0)).set (j * 12 + 10) (.bool u.done)).set (j * 12 + 11) (.int .i64 u.out) := by
  induction l with
  | nil => intro j u h; exact absurd h (Nat.not_lt_zero j)
  | cons x l ih =>
    intro j u h
    cases j with
    | zero => simp [flW_cons, wkL]
    | succ j =>
      have e := ih j u (by simpa using h)
      rw [List.set_cons_succ, flW_cons, flW_cons, e]
      have hs : ∀ (y : List Value) (n : Nat) (v : Value), ((wkL x ++ y).set ((j + 1) * 12 + n) v) = wkL x ++ y.set (j * 12 + n) v := fun y n v => by
        rw [List.set_append, if_neg (by rw [wkL_len]; omega), wkL_len, show (j + 1) * 12 + n - 12 = j * 12 + n by omega]
      have hs0 : ∀ (y : List Value) (v : Value), ((wkL x ++ y).set ((j + 1) * 12) v) = wkL x ++ y.set (j * 12) v := fun y v => hs y 0 v
      rw [hs0, hs, hs, hs, hs, hs, hs, hs, hs, hs, hs, hs]
/-- a worker in memory -/
structure WAt (w : World) (b o : Nat) (x : Wk) : Prop where
  c0 : w.cell? ⟨b, o, none⟩ = some (.int .i64 x.pc)
  c1 : w.cell? ⟨b, o + 1, none⟩ = some (.int .i64 x.job)
  c2 : w.cell? ⟨b, o + 2, none⟩ = some (.int .i64 x.r0)
  c3 : w.cell? ⟨b, o + 3, none⟩ = some (.int .i64 x.r1)
  c4 : w.cell? ⟨b, o + 4, none⟩ = some (.int .i64 x.r2)
  c5 : w.cell? ⟨b, o + 5, none⟩ = some (.int .i64 0)
  c6 : w.cell? ⟨b, o + 6, none⟩ = some (.int .i64 0)
  c7 : w.cell? ⟨b, o + 7, none⟩ = some (.int .i64 0)
  c8 : w.cell? ⟨b, o + 8, none⟩ = some (.int .i64 0)
  c9 : w.cell? ⟨b, o + 9, none⟩ = some (.int .i64 0)
  c10 : w.cell? ⟨b, o + 10, none⟩ = some (.bool x.done)
  c11 : w.cell? ⟨b, o + 11, none⟩ = some (.int .i64 x.out)
theorem wAt_of {w : World} {b o : Nat} {x : Wk} (h : ∀ k, k < 12 → w.cell? ⟨b, o + k, none⟩ = (wkL x)[k]?) : WAt w b o x :=
  ⟨h 0 (by decide), h 1 (by decide), h 2 (by decide), h 3 (by decide), h 4 (by decide), h 5 (by decide), h 6 (by decide), h 7 (by decide), h 8 (by decide), h 9 (by decide), h 10 (by decide), h 11 (by decide)⟩
theorem WAt.all {w : World} {b o : Nat} {x : Wk} (h : WAt w b o x) : ∀ k, k < 12 → w.cell? ⟨b, o + k, none⟩ = (wkL x)[k]? := by
  intro k hk
  match k, hk with
  | 0, _ => exact h.c0 | 1, _ => exact h.c1 | 2, _ => exact h.c2 | 3, _ => exact h.c3 | 4, _ => exact h.c4 | 5, _ => exact h.c5
  | 6, _ => exact h.c6 | 7, _ => exact h.c7 | 8, _ => exact h.c8 | 9, _ => exact h.c9 | 10, _ => exact h.c10 | 11, _ => exact h.c11
theorem WAt.below {w w' : World} {b o : Nat} {x : Wk} (h : WAt w b o x) (hb : w'.heap[b]? = w.heap[b]?) : WAt w' b o x :=
  wAt_of fun k hk => by
    rw [← h.all k hk]
    simp [World.cell?, hb]
/-- workers that came in -/
def NowWk (w : World) (A : Option Addr) (l : List Wk) : Prop := ∀ j, j < l.length → ∃ b off, A = some ⟨b, off, none⟩ ∧ b < w.heap.size ∧ WAt w b (off + j * 12) (l.getD j deadW)
theorem NowWk.below {w w' : World} {A : Option Addr} {l : List Wk} (h : NowWk w A l) (hb : Below w.heap.size w w') : NowWk w' A l := fun j hj => by
  obtain ⟨b, off, e, hlt, hc⟩ := h j hj
  exact ⟨b, off, e, Nat.lt_of_lt_of_le hlt hb.size, hc.below (hb.block b hlt)⟩
theorem nowWk_row {w : World} {A : Option Addr} {l : List Wk} (h : NowWk w A l) (hn : 0 < l.length) : ∃ b off, A = some ⟨b, off, none⟩ ∧ b < w.heap.size ∧ ∀ j, j < l.length → WAt w b (off + j * 12) (l.getD j deadW) := by
  obtain ⟨b, off, e, hlt, _⟩ := h 0 hn
  refine ⟨b, off, e, hlt, fun j hj => ?_⟩
  obtain ⟨b', off', e', _, h0⟩ := h j hj
  rw [e] at e'
  injection e' with e'
  injection e' with e1 e2
  subst e1 e2
  exact h0
theorem nowWk_none {w : World} {l : List Wk} (h : NowWk w none l) : l = [] := by
  cases l with
  | nil => rfl
  | cons x r => obtain ⟨b, off, e, _⟩ := h 0 (by simp); cases e
abbrev OwnWk (w : World) (B : Nat) (v : Value) (l : List Wk) : Prop := w.ownsRow B 39 12 v l.length (flW l)
theorem OwnWk.row {w : World} {B : Nat} {A : Option Addr} {c : Nat} {l : List Wk} (h : OwnWk w B (.slice A l.length c) l) (hl : 0 < l.length) : ∃ g, A = some ⟨g, 0, none⟩ ∧ B ≤ g ∧ g < w.heap.size ∧ (∀ j, w.frozen? ⟨g, j, none⟩ = false) ∧ ∀ j, j < l.length → WAt w g (j * 12) (l.getD j deadW) := by
  rcases h.2 with ⟨_, h0⟩ | ⟨g, cap, cur, hv, _⟩
  · omega
  · injection hv with e1 e2 e3
    subst e1 e3
    have hlt := World.ownsRow.lt h g rfl
    refine ⟨g, rfl, hlt.1, hlt.2, fun j => World.ownsRow.frozenAt h j, fun j hj => wAt_of fun k hk => ?_⟩
    rw [World.ownsRow.cellAt h (j * 12 + k) (by omega), flW_get l j k hj hk]
theorem OwnWk.slice {w : World} {B : Nat} {v : Value} {l : List Wk} (h : OwnWk w B v l) : ∃ A c, v = .slice A l.length c ∧ l.length ≤ c ∧ NowWk w A l := by
  rcases h.2 with ⟨rfl, h0⟩ | ⟨g, cap, cur, rfl, hb, hh, hn, hcap, hsz, htake⟩
  · have : l = [] := by simpa using h0
    subst this
    exact ⟨none, 0, rfl, Nat.le_refl _, fun j hj => absurd hj (Nat.not_lt_zero j)⟩
  · refine ⟨some ⟨g, 0, none⟩, cap, rfl, hn, fun j hj => ?_⟩
    obtain ⟨g', e, _, hlt, _, hc⟩ := OwnWk.row (A := some ⟨g, 0, none⟩) (c := cap) h (by omega)
    injection e with e
    injection e with e
    subst e
    exact ⟨g, 0, rfl, hlt, by rw [Nat.zero_add]; exact hc j hj⟩
theorem OwnWk.next {w w' : World} {B : Nat} {v : Value} {l : List Wk} (h : OwnWk w B v l) (hb : Below w.heap.size w w') : OwnWk w' B v l :=
  World.ownsRow.kept h (row := none) ⟨hb.os, hb.tape, hb.output, hb.size, fun k hk _ => hb.block k hk⟩ (by cases v.ownBlock <;> simp)
/-- one worker set anew -/
theorem OwnWk.set {w : World} {B g c : Nat} {l : List Wk} (h : OwnWk w B (.slice (some ⟨g, 0, none⟩) l.length c) l) (j : Nat) (hj : j < l.length) (u : Wk) :
    ∃ w', ((((((((((((w.setCell ⟨g, j * 12, none⟩ (.int .i64 u.pc)).setCell ⟨g, j * 12 + 1, none⟩ (.int .i64 u.job)).setCell ⟨g, j * 12 + 2, none⟩ (.int .i64 u.r0)).setCell ⟨g, j * 12 + 3, none⟩ (.int .i64 u.r1)).setCell ⟨g, j * 12 + 4, none⟩ (.int .i64 u.r2)).setCell ⟨g, j * 12 + 5, none⟩ (.int .i64 0)).setCell ⟨g, j * 12 + 6, none⟩ (.int .i64 0)).setCell ⟨g, j * 12 + 7, none⟩ (.int .i64 0)).setCell ⟨g, j * 12 + 8, none⟩ (.int .i64 0)).setCell ⟨g, j * 12 + 9, none⟩ (.int .i64 0)).setCell ⟨g, j * 12 + 10, none⟩ (.bool u.done)).setCell ⟨g, j * 12 + 11, none⟩ (.int .i64 u.out)) = w' ∧
      OwnWk w' B (.slice (some ⟨g, 0, none⟩) l.length c) (l.set j u) ∧ w.grownBy w' (some g) := by
  obtain ⟨a0, b0⟩ := World.ownsRow.stored h (j * 12) (.int .i64 u.pc)
  obtain ⟨a1, b1⟩ := World.ownsRow.stored a0 (j * 12 + 1) (.int .i64 u.job)
  obtain ⟨a2, b2⟩ := World.ownsRow.stored a1 (j * 12 + 2) (.int .i64 u.r0)
  obtain ⟨a3, b3⟩ := World.ownsRow.stored a2 (j * 12 + 3) (.int .i64 u.r1)
  obtain ⟨a4, b4⟩ := World.ownsRow.stored a3 (j * 12 + 4) (.int .i64 u.r2)
  obtain ⟨a5, b5⟩ := World.ownsRow.stored a4 (j * 12 + 5) (.int .i64 0)
  obtain ⟨a6, b6⟩ := World.ownsRow.stored a5 (j * 12 + 6) (.int .i64 0)
  obtain ⟨a7, b7⟩ := World.ownsRow.stored a6 (j * 12 + 7) (.int .i64 0)
  obtain ⟨a8, b8⟩ := World.ownsRow.stored a7 (j * 12 + 8) (.int .i64 0)
  obtain ⟨a9, b9⟩ := World.ownsRow.stored a8 (j * 12 + 9) (.int .i64 0)
  obtain ⟨a10, b10⟩ := World.ownsRow.stored a9 (j * 12 + 10) (.bool u.done)
  obtain ⟨a11, b11⟩ := World.ownsRow.stored a10 (j * 12 + 11) (.int .i64 u.out)
  refine ⟨_, rfl, ?_, ((((((((((b0.trans b1).trans b2).trans b3).trans b4).trans b5).trans b6).trans b7).trans b8).trans b9).trans b10).trans b11⟩
  show World.ownsRow _ _ _ _ _ _ _
  rw [List.length_set, flW_set l j u hj]
  exact a11
theorem info_wk : (Try.prog.info? 39).map (fun i => (i.zero, i.size, i.bytes)) = some (some (wkV deadW), 12, 96) := by kernel_rfl
end Go.Proofs.Ytocepdhjkhhpfaa
namespace Go.Proofs.Ytocepdhjkhhpfaa
set_option maxRecDepth 100000
set_option linter.unusedVariables false
set_option linter.unusedSimpArgs false
open Go.RowKit Go.Sort

theorem nowWk_at {w : World} {m : List Wk} {b off : Nat} (h : ∀ j, j < m.length → WAt w b (off + j * 12) (m.getD j deadW)) :
    ∀ j u, (flW m)[j]? = some u → w.cell? ((⟨b, off, none⟩ : Addr).add j) = some u := by
  intro j u hu
  rw [Addr.add_lit]
  have hj : j < m.length * 12 := by
    rcases Nat.lt_or_ge j (m.length * 12) with h1 | h1
    · exact h1
    · rw [List.getElem?_eq_none (by rw [length_flW]; exact h1)] at hu; cases hu
  have e : j = j / 12 * 12 + j % 12 := by omega
  have hg := flW_get m (j / 12) (j % 12) (by omega) (by omega)
  rw [← e, hu] at hg
  have hc := (h (j / 12) (by omega)).all (j % 12) (by omega)
  rw [hg, ← hc, Nat.add_assoc, ← e]
theorem appendWk_none {w : World} {B : Nat} {v : Value} {out : List Wk} (c : Nat) (ho : OwnWk w B v out) :
    (Builtin.append_ #[27, 27] 27 #[v, .slice none 0 c]).run Try.prog w = .ok v w := by
  obtain ⟨i0, hi, hz0, hz1, hz2⟩ := info_parts info_wk
  rcases ho.2 with ⟨rfl, _⟩ | ⟨g, cap, cur, rfl, _, _, hnc, _⟩
  · simp [Builtin.append_, run_underlying Try.underlying27, sizeOf, typeInfo, hi, Builtin.lenOf, Builtin.firstCells]
  · simp [Builtin.append_, run_underlying Try.underlying27, sizeOf, typeInfo, hi, Builtin.lenOf, Builtin.firstCells, storeCells, hnc]
theorem appWk_any {w : World} {B : Nat} {v : Value} {out m : List Wk} {A : Option Addr} (c : Nat) (hB : B ≤ w.heap.size) (ho : OwnWk w B v out) (hm : NowWk w A m) (hl : out.length + m.length ≤ 1000000) :
    ∃ v' w', (Builtin.append_ #[27, 27] 27 #[v, .slice A m.length c]).run Try.prog w = .ok v' w' ∧ OwnWk w' B v' (out ++ m) ∧ w.grownBy w' v.ownBlock := by
  obtain ⟨i0, hi, hz0, hz1, hz2⟩ := info_parts info_wk
  by_cases h0 : m.length = 0
  · have : m = [] := List.eq_nil_of_length_eq_zero h0
    subst this
    cases A with
    | none => exact ⟨v, w, appendWk_none c ho, by rw [List.append_nil]; exact ho, ⟨rfl, rfl, rfl, Nat.le_refl _, fun _ _ _ => rfl⟩⟩
    | some a =>
      obtain ⟨v', w', hr, h2, h3, _⟩ := run_append_own (P := Try.prog) (w := w) B 27 27 39 i0 (wkV deadW) 12 96 Try.underlying27 hi hz0 hz1 hz2 rfl (by decide) v out.length (flW out) ho a 0 c [] rfl (fun j u h => by simp at h) (fun u h => by cases h) (by unfold maxLen; omega) (by omega) hB
      exact ⟨v', w', hr, by rw [List.append_nil] at h2 ⊢; exact h2, h3⟩
  · obtain ⟨b, off, rfl, _, hcell⟩ := nowWk_row hm (by omega)
    obtain ⟨v', w', hr, h2, h3, _⟩ := run_append_own (P := Try.prog) (w := w) B 27 27 39 i0 (wkV deadW) 12 96 Try.underlying27 hi hz0 hz1 hz2 rfl (by decide) v out.length (flW out) ho ⟨b, off, none⟩ m.length c (flW m) (length_flW m) (nowWk_at hcell) (flW_cell1 m) (by unfold maxLen; omega) (by omega) hB
    refine ⟨v', w', hr, ?_, h3⟩
    show World.ownsRow _ _ _ _ _ _ (flW (out ++ m))
    rw [flW_append, List.length_append]
    exact h2
theorem eql_nilWk (A : Option Addr) (n c : Nat) (w : World) : (binOp .eql 27 (.slice A n c) (.slice none 0 0)).run Try.prog w = .ok (.bool A.isNone) w := by
  have h := run_neq_slice_nil_any (P := Try.prog) w 27 39 A n c 0 0 Try.underlying27
  simp only [binOp] at h ⊢
  cases A <;> simp_all [Op.equal, Op.maxDepth, Lib.run_equalIn_slice_nil w 9999 27 39 _ n c 0 0 Try.underlying27]
theorem nowWk_new (w : World) (y : Wk) : NowWk (w.alloc (.cells (wkA y) 39)) (some ⟨w.heap.size, 0, none⟩) [y] := fun j hj => by
  have hj1 : j = 0 := by simp at hj; omega
  subst hj1
  have hh := heap_alloc_new w (.cells (wkA y) 39)
  refine ⟨w.heap.size, 0, rfl, by simp, wAt_of fun k hk => ?_⟩
  rw [Lib.cell_of_heap hh]
  match k, hk with
  | 0, _ => rfl | 1, _ => rfl | 2, _ => rfl | 3, _ => rfl | 4, _ => rfl | 5, _ => rfl | 6, _ => rfl | 7, _ => rfl | 8, _ => rfl | 9, _ => rfl | 10, _ => rfl | 11, _ => rfl
/-- one worker more, that lies in a new block -/
theorem pushWk_any {w : World} {B : Nat} {v : Value} {out : List Wk} (y : Wk) (hB : B ≤ w.heap.size) (ho : OwnWk w B v out) (hl : out.length ≤ 999999) :
    ∃ v' w', (Builtin.append_ #[27, 27] 27 #[v, .slice (some ⟨w.heap.size, 0, none⟩) 1 1]).run Try.prog (w.alloc (.cells (wkA y) 39)) = .ok v' w' ∧ OwnWk w' B v' (out ++ [y]) ∧ w.grownBy w' v.ownBlock ∧ Below B w w' := by
  have ho' : OwnWk (w.alloc (.cells (wkA y) 39)) B v out := World.ownsRow.alloc ho _
  obtain ⟨v', w', hr, h1, h2⟩ := appWk_any (m := [y]) 1 (by simp; omega) ho' (nowWk_new w y) (by simp; omega)
  exact ⟨v', w', hr, h1, (World.grownBy_alloc w _ _).trans h2, Below.grown ((Below.refl _ _).alloc hB _) h2 (by simp; omega) (fun k e => (World.ownsRow.lt ho' k e).1)⟩
def CloneWkR (l : List Wk) (w : World) (r : Ending) (w' : World) : Prop := ∃ v, r = .returned v ∧ OwnWk w' w.heap.size v l ∧ Below w.heap.size w w'
set_option maxHeartbeats 1000000 in
theorem cloneWk_any (A : Option Addr) (l : List Wk) (c : Nat) (w : World) (hR : NowWk w A l) (hl : l.length ≤ 1000000) :
    Calls Try.prog 59 #[.slice A l.length c] w (CloneWkR l w) := by
  have heq := eql_nilWk A l.length c
  cases A with
  | none =>
    have h0 := nowWk_none hR
    subst h0
    go_enter Try.func59, Try.ntmps59
    simp only [List.length_nil, Option.isNone_none] at heq
    go_wp2
    go_ret
    exact ⟨_, rfl, World.ownsRow_nil _ _ _ _, Below.refl _ _⟩
  | some a =>
    have hB0 : Below w.heap.size w (w.alloc (.cells #[] 39)) := (Below.refl _ w).alloc (Nat.le_refl _) _
    have ho : OwnWk (w.alloc (.cells #[] 39)) w.heap.size (.slice (some ⟨w.heap.size, 0, none⟩) 0 0) [] := World.ownsRow_lit (size := 12) w #[] 0 (Nat.le_refl _) (by unfold maxLen; omega) (by simp)
    obtain ⟨v', w', hrun, hown, hgr⟩ := appWk_any c (by simp) ho (NowWk.below hR hB0) (by simp; omega)
    have HO := Lib.hid hown
    have HB : Hid (Below w.heap.size w w') := hB0.grown hgr (by simp) (fun k e => by simp [Value.ownBlock] at e; omega)
    clear hown hgr ho hB0
    simp only [Option.isNone_some] at heq
    go_enter Try.func59, Try.ntmps59
    go_wp2_with (at_builtin; refine Lib.wpList_append_run _ rfl (.tmp 5) (.tmp 6) 27 27 rfl _ _ rfl rfl _ _ hrun ?_)
    go_ret
    exact ⟨_, rfl, HO.out, HB.out⟩
theorem popF_any (w : World) : Calls Try.prog 23 #[] w (ValR (wkV popW) w) := by
  go_enter Try.func23, Try.ntmps23
  go_wp2
  exact bodyPost_ret (results_cellW rfl _ _ (w.heap.size) _ _ _ _ rfl (heap_alloc_new _ _) Try.underlying39 rfl (by kernel_rfl)) rfl ⟨rfl, (Below.refl _ _).alloc (Nat.le_refl _) _⟩
theorem pushF_any (n : Int) (w : World) : Calls Try.prog 24 #[.int .i64 n] w (ValR (wkV (pushW n)) w) := by
  go_enter Try.func24, Try.ntmps24
  go_wp2
  exact bodyPost_ret (results_cellW rfl _ _ (w.heap.size) _ _ _ _ rfl (heap_alloc_new _ _) Try.underlying39 rfl (by kernel_rfl)) rfl ⟨rfl, (Below.refl _ _).alloc (Nat.le_refl _) _⟩
/-- a free list at work, as it comes out -/
def LiR (m : List Int) (at0 : Int) (w : World) (r : Ending) (w' : World) : Prop := ∃ A c b, r = .returned (liV A m.length c at0 b) ∧ Own w' w.heap.size (.slice A m.length c) m ∧ MapOk w' b ∧ w.heap.size ≤ b ∧ Below w.heap.size w w'
set_option maxHeartbeats 4000000 in
theorem listOf_any (m : List Int) (A : Option Addr) (c : Nat) (at0 : Int) (w : World) (hR : Now w A m) (hl : m.length ≤ 1000000) :
    Calls Try.prog 39 #[.slice A m.length c, .int .i64 at0] w (LiR m at0 w) := by
  have hb0 := (Below.refl w.heap.size w).alloc (Nat.le_refl _) (.cells #[.slice none 0 0, .int .i64 0, .map none] 68)
  have hcl := clone_any A m c _ (Now.below hR hb0) (by omega)
  have hrow := heap_alloc_new w (.cells #[.slice none 0 0, .int .i64 0, .map none] 68)
  have hsz : (w.alloc (.cells #[.slice none 0 0, .int .i64 0, .map none] 68)).heap.size = w.heap.size + 1 := by simp
  have HB0 := Lib.hid hb0
  have HROW := Lib.hid hrow
  clear hR hrow hb0
  go_enter Try.func39, Try.ntmps39
  go_wp2_with fail
  generalize w.alloc (.cells #[.slice none 0 0, .int .i64 0, .map none] 68) = w0 at *
  refine hcl.mono ?_
  rintro e w1 ⟨v, rfl, ho, hb1⟩
  obtain ⟨A1, c1, rfl, hc1, _⟩ := own_slice ho
  have HO1 := Lib.hid ho
  have HB1 := Lib.hid hb1
  clear hcl ho hb1
  go_wp2_with fail
  refine (deeds_any w1).mono ?_
  rintro e w2 ⟨rfl, hM, hb2⟩
  have hs1 := HB1.out.size
  have r2 := (hb2.block w.heap.size (by omega)).trans ((HB1.out.block w.heap.size (by omega)).trans HROW.out)
  have HR2 := Lib.hid r2
  have HO2 := Lib.hid (own_next HO1.out hb2)
  have HM := Lib.hid hM
  have HB2 := Lib.hid (Qt.more (Qt.more HB0.out (by omega) HB1.out) (by omega) hb2)
  have d0 : w2.cell? ⟨w.heap.size, 0, none⟩ = some (.slice none 0 0) := by rw [Lib.cell_of_heap r2]; rfl
  have d1 : w2.cell? ⟨w.heap.size, 1, none⟩ = some (.int .i64 0) := by rw [Lib.cell_of_heap r2]; rfl
  have d2 : w2.cell? ⟨w.heap.size, 2, none⟩ = some (.map none) := by rw [Lib.cell_of_heap r2]; rfl
  have fz : ∀ j, w2.frozen? ⟨w.heap.size, j, none⟩ = false := fun j => Lib.frozen_of_heap r2 j
  clear r2 hM hb2
  go_wp2_with fail
  clear d0 d1 d2 fz
  have hfin : ((((w2.setCell ⟨w.heap.size, 0, none⟩ (.slice A1 m.length c1)).setCell ⟨w.heap.size, 1, none⟩ (.int .i64 at0)).setCell ⟨w.heap.size, 2, none⟩ (.map (some w1.heap.size))).heap[w.heap.size]? = some (.cells #[.slice A1 m.length c1, .int .i64 at0, .map (some w1.heap.size)] 68 (0, 0))) := by
    simp [World.setCell, Array.getElem?_modify, HR2.out]
  have hgr := ((grown_setCell w2 w.heap.size 0 (.slice A1 m.length c1)).trans (grown_setCell _ w.heap.size 1 (.int .i64 at0))).trans (grown_setCell _ w.heap.size 2 (.map (some w1.heap.size)))
  have hs2 := HB2.out.size
  generalize (((w2.setCell ⟨w.heap.size, 0, none⟩ (.slice A1 m.length c1)).setCell ⟨w.heap.size, 1, none⟩ (.int .i64 at0)).setCell ⟨w.heap.size, 2, none⟩ (.map (some w1.heap.size))) = w3 at *
  refine bodyPost_ret (results_cellW rfl _ _ (w.heap.size) _ _ _ _ rfl hfin Try.underlying68 rfl (by kernel_rfl)) rfl ?_
  obtain ⟨es, ck, hm1, hm2⟩ := HM.out
  have ho3 : Own w3 w0.heap.size (.slice A1 m.length c1) m := World.ownsRow.kept HO2.out hgr (.inr (fun e => by have := (World.ownsRow.lt HO2.out w.heap.size e).1; omega))
  exact ⟨A1, c1, w1.heap.size, rfl, own_mono ho3 (by omega), ⟨es, ck, (hgr.block _ (lt_heap6' hm1) (fun e => by injection e with e; omega)).trans hm1, hm2⟩, by omega, HB2.out.grown hgr (by omega) (fun k e => by injection e with e; omega)⟩
end Go.Proofs.Ytocepdhjkhhpfaa
