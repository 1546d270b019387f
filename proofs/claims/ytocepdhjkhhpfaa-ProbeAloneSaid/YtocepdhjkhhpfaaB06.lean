/-
  Texts that the claims of this seat share, part 6.
-/
import Derived.Test.YtocepdhjkhhpfaaB05
import Derived.Test.YtocepdhjkhhpfaaB04
import Derived.Test.YtocepdhjkhhpfaaB00
import Derived.Test.YtocepdhjkhhpfaaB01
import Derived.Test.YtocepdhjkhhpfaaB03
set_option linter.unusedVariables false
set_option linter.unusedSimpArgs false
namespace Go.Proofs.Ytocepdhjkhhpfaa
set_option maxRecDepth 100000
set_option linter.unusedVariables false
set_option linter.unusedSimpArgs false
open Go.RowKit Go.Sort

/-- four numbers lie here -/
def A4At (w : World) (b o : Nat) (y : Ac) : Prop := w.cell? ⟨b, o, none⟩ = some (.int .i64 y.1) ∧ w.cell? ⟨b, o + 1, none⟩ = some (.int .i64 y.2.1) ∧ w.cell? ⟨b, o + 2, none⟩ = some (.int .i64 y.2.2.1) ∧ w.cell? ⟨b, o + 3, none⟩ = some (.int .i64 y.2.2.2)
theorem A4At.below {w w' : World} {b o B : Nat} {y : Ac} (h : A4At w b o y) (hb : Below B w w') (hx : b < B) : A4At w' b o y := by
  obtain ⟨h0, h1, h2, h3⟩ := h
  exact ⟨(hb.cell (p := ⟨b, o, none⟩) hx).trans h0, (hb.cell (p := ⟨b, o + 1, none⟩) hx).trans h1, (hb.cell (p := ⟨b, o + 2, none⟩) hx).trans h2, (hb.cell (p := ⟨b, o + 3, none⟩) hx).trans h3⟩
/-- The slice at A reads as four numbers each. -/
def RdA (w : World) (B : Nat) (A : Option Addr) (l : List Ac) : Prop :=
  ∀ j, j < l.length → ∃ b off, A = some ⟨b, off, none⟩ ∧ b < B ∧ A4At w b (off + j * 4) (l.getD j deadA)
theorem RdA.below {w w' : World} {B B' : Nat} {A : Option Addr} {l : List Ac} (h : RdA w B A l) (hb : Below B' w w') (hB : B ≤ B') : RdA w' B A l := fun j hj => by
  obtain ⟨b, off, e, hlt, h0⟩ := h j hj
  exact ⟨b, off, e, hlt, h0.below hb (Nat.lt_of_lt_of_le hlt hB)⟩
theorem RdA.more {w : World} {B B' : Nat} {A : Option Addr} {l : List Ac} (h : RdA w B A l) (hB : B ≤ B') : RdA w B' A l := fun j hj => by
  obtain ⟨b, off, e, hlt, h0⟩ := h j hj
  exact ⟨b, off, e, by omega, h0⟩
abbrev NowA (w : World) (A : Option Addr) (l : List Ac) : Prop := RdA w w.heap.size A l
theorem RdA.now {w w' : World} {A : Option Addr} {l : List Ac} (h : NowA w A l) (hb : Below w.heap.size w w') : NowA w' A l := (RdA.below h hb (Nat.le_refl _)).more hb.size
end Go.Proofs.Ytocepdhjkhhpfaa
namespace Go.Proofs.Ytocepdhjkhhpfaa
set_option maxRecDepth 100000
set_option linter.unusedVariables false
set_option linter.unusedSimpArgs false
open Go.RowKit Go.Sort

theorem makeW (n : Nat) (hn : n ≤ 17592186044416) (u : World) : ∃ u', (Instr.makeSlice 23 (.int .i64 (n : Int)) (.int .i64 (n : Int))).run Try.prog u = .ok (.slice (some ⟨u.heap.size, 0, none⟩) n n) u' ∧
    Own u' u.heap.size (.slice (some ⟨u.heap.size, 0, none⟩) n n) (List.replicate n 0) ∧ u.grownBy u' none := by
  obtain ⟨i0, hi, hz0, hz1, hz2⟩ := info_parts info_int
  obtain ⟨u', h1, h2, h3⟩ := run_make_full (P := Try.prog) u u.heap.size 23 3 i0 _ 1 Try.underlying23 hi hz0 hz1 .i64 .i64 n (by rw [hz2]; omega) (by unfold maxLen; omega) (Nat.le_refl _)
  refine ⟨u', h1, ?_, h3⟩
  have e : (madeCells (Value.int .i64 0).cells (n * 1)).toList = (List.replicate n (0 : Int)).map (Value.int .i64) := by
    rw [Nat.mul_one]
    show (madeCells #[Value.int .i64 0] n).toList = _
    rw [toList_madeCells_one, List.map_replicate]
  rw [e] at h2
  show World.ownsRow _ _ _ _ _ _ _
  rw [List.length_replicate]
  exact h2
end Go.Proofs.Ytocepdhjkhhpfaa
namespace Go.Proofs.Ytocepdhjkhhpfaa
set_option maxRecDepth 100000
set_option linter.unusedVariables false
set_option linter.unusedSimpArgs false
open Go.RowKit Go.Sort

theorem results_cellT {P : Program} {fn : Func} {p u : Tmp} {ty : TypeId} (h : fn.results = #[.cell p ty, .tmp u]) (tmps : Array Value) (w : World) (g : Nat) (t : TypeId) (cs : Array Value) (fr : Nat × Nat) (d : TypeDesc)
    (hp : tmps.getD p undef = .pointer (some ⟨g, 0, none⟩)) (hg : w.heap[g]? = some (.cells cs t fr))
    (hu : P.underlying ty = some d) (hd : (match d with | .struct _ | .array _ _ => true | _ => false) = true) (hi : (P.info? ty).map (·.size) = some cs.size) :
    (results fn tmps).run P w = .ok (.tuple #[.agg cs, tmps.getD u undef]) w := by
  have hp' : tmps[p]?.getD undef = .pointer (some ⟨g, 0, none⟩) := by simpa using hp
  simp [results, h, hp', asAddr, run_loadVar_row w g t ty cs fr d hg hu hd hi]
theorem grown_setCell (w : World) (g j : Nat) (v : Value) : w.grownBy (w.setCell ⟨g, j, none⟩ v) (some g) := by
  refine ⟨rfl, rfl, rfl, ?_, fun k hk hne => ?_⟩
  · simp [World.setCell]
  · have : ¬ g = k := fun e => hne (by rw [e])
    simp [World.setCell, Array.getElem?_modify, this]
end Go.Proofs.Ytocepdhjkhhpfaa
namespace Go.Proofs.Ytocepdhjkhhpfaa
set_option maxRecDepth 100000
set_option linter.unusedVariables false
set_option linter.unusedSimpArgs false
open Go.RowKit Go.Sort

def wkL (w : Wk) : List Value := [.int .i64 w.pc, .int .i64 w.job, .int .i64 w.r0, .int .i64 w.r1, .int .i64 w.r2, .int .i64 0, .int .i64 0, .int .i64 0, .int .i64 0, .int .i64 0, .bool w.done, .int .i64 w.out]
def flW (l : List Wk) : List Value := l.flatMap wkL
theorem flW_cons (x : Wk) (l : List Wk) : flW (x :: l) = wkL x ++ flW l := rfl
theorem wkL_len (x : Wk) : (wkL x).length = 12 := rfl
theorem flW_get (l : List Wk) : ∀ j k, j < l.length → k < 12 → (flW l)[j * 12 + k]? = (wkL (l.getD j deadW))[k]? := by
  induction l with
  | nil => intro j k h; exact absurd h (Nat.not_lt_zero j)
  | cons x l ih =>
    intro j k h hk
    rw [flW_cons]
    cases j with
    | zero => rw [Nat.zero_mul, Nat.zero_add, List.getElem?_append_left (by rw [wkL_len]; exact hk)]; rfl
    | succ j =>
      rw [List.getElem?_append_right (by rw [wkL_len]; omega), wkL_len, show (j + 1) * 12 + k - 12 = j * 12 + k by omega]
      exact ih j k (by simpa using h) hk
theorem flW_set (l : List Wk) : ∀ j u, j < l.length → flW (l.set j u) = ((((((((((((flW l).set (j * 12) (.int .i64 u.pc)).set (j * 12 + 1) (.int .i64 u.job)).set (j * 12 + 2) (.int .i64 u.r0)).set (j * 12 + 3) (.int .i64 u.r1)).set (j * 12 + 4) (.int .i64 u.r2)).set (j * 12 + 5) (.int .i64 0)).set (j * 12 + 6) (.int .i64 0)).set (j * 12 + 7) (.int .i64 0)).set (j * 12 + 8) (.int .i64 0)).set (j * 12 + 9) (.int .i64 0)).set (j * 12 + 10) (.bool u.done)).set (j * 12 + 11) (.int .i64 u.out) := by
  induction l with
  | nil => intro j u h; exact absurd h (Nat.not_lt_zero j)
  | cons x l ih =>
    intro j u h
    cases j with
    | zero => simp [flW_cons, wkL]
    | succ j =>
      have e := ih j u (by simpa using h)
      rw [List.set_cons_succ, flW_cons, flW_cons, e]
      have hs : ∀ (y : List Value) (n : Nat) (v : Value), ((wkL x ++ y).set ((j + 1) * 12 + n) v) = wkL x ++ y.set (j * 12 + n) v := fun y n v => by
        rw [List.set_append, if_neg (by rw [wkL_len]; omega), wkL_len, show (j + 1) * 12 + n - 12 = j * 12 + n by omega]
      have hs0 : ∀ (y : List Value) (v : Value), ((wkL x ++ y).set ((j + 1) * 12) v) = wkL x ++ y.set (j * 12) v := fun y v => hs y 0 v
      rw [hs0, hs, hs, hs, hs, hs, hs, hs, hs, hs, hs, hs]
/-- a worker in memory -/
structure WAt (w : World) (b o : Nat) (x : Wk) : Prop where
  c0 : w.cell? ⟨b, o, none⟩ = some (.int .i64 x.pc)
  c1 : w.cell? ⟨b, o + 1, none⟩ = some (.int .i64 x.job)
  c2 : w.cell? ⟨b, o + 2, none⟩ = some (.int .i64 x.r0)
  c3 : w.cell? ⟨b, o + 3, none⟩ = some (.int .i64 x.r1)
  c4 : w.cell? ⟨b, o + 4, none⟩ = some (.int .i64 x.r2)
  c5 : w.cell? ⟨b, o + 5, none⟩ = some (.int .i64 0)
  c6 : w.cell? ⟨b, o + 6, none⟩ = some (.int .i64 0)
  c7 : w.cell? ⟨b, o + 7, none⟩ = some (.int .i64 0)
  c8 : w.cell? ⟨b, o + 8, none⟩ = some (.int .i64 0)
  c9 : w.cell? ⟨b, o + 9, none⟩ = some (.int .i64 0)
  c10 : w.cell? ⟨b, o + 10, none⟩ = some (.bool x.done)
  c11 : w.cell? ⟨b, o + 11, none⟩ = some (.int .i64 x.out)
theorem wAt_of {w : World} {b o : Nat} {x : Wk} (h : ∀ k, k < 12 → w.cell? ⟨b, o + k, none⟩ = (wkL x)[k]?) : WAt w b o x :=
  ⟨h 0 (by decide), h 1 (by decide), h 2 (by decide), h 3 (by decide), h 4 (by decide), h 5 (by decide), h 6 (by decide), h 7 (by decide), h 8 (by decide), h 9 (by decide), h 10 (by decide), h 11 (by decide)⟩
theorem WAt.all {w : World} {b o : Nat} {x : Wk} (h : WAt w b o x) : ∀ k, k < 12 → w.cell? ⟨b, o + k, none⟩ = (wkL x)[k]? := by
  intro k hk
  match k, hk with
  | 0, _ => exact h.c0 | 1, _ => exact h.c1 | 2, _ => exact h.c2 | 3, _ => exact h.c3 | 4, _ => exact h.c4 | 5, _ => exact h.c5
  | 6, _ => exact h.c6 | 7, _ => exact h.c7 | 8, _ => exact h.c8 | 9, _ => exact h.c9 | 10, _ => exact h.c10 | 11, _ => exact h.c11
theorem WAt.below {w w' : World} {b o : Nat} {x : Wk} (h : WAt w b o x) (hb : w'.heap[b]? = w.heap[b]?) : WAt w' b o x :=
  wAt_of fun k hk => by
    rw [← h.all k hk]
    simp [World.cell?, hb]
/-- workers that came in -/
def NowWk (w : World) (A : Option Addr) (l : List Wk) : Prop := ∀ j, j < l.length → ∃ b off, A = some ⟨b, off, none⟩ ∧ b < w.heap.size ∧ WAt w b (off + j * 12) (l.getD j deadW)
theorem NowWk.below {w w' : World} {A : Option Addr} {l : List Wk} (h : NowWk w A l) (hb : Below w.heap.size w w') : NowWk w' A l := fun j hj => by
  obtain ⟨b, off, e, hlt, hc⟩ := h j hj
  exact ⟨b, off, e, Nat.lt_of_lt_of_le hlt hb.size, hc.below (hb.block b hlt)⟩
abbrev OwnWk (w : World) (B : Nat) (v : Value) (l : List Wk) : Prop := w.ownsRow B 39 12 v l.length (flW l)
theorem OwnWk.row {w : World} {B : Nat} {A : Option Addr} {c : Nat} {l : List Wk} (h : OwnWk w B (.slice A l.length c) l) (hl : 0 < l.length) : ∃ g, A = some ⟨g, 0, none⟩ ∧ B ≤ g ∧ g < w.heap.size ∧ (∀ j, w.frozen? ⟨g, j, none⟩ = false) ∧ ∀ j, j < l.length → WAt w g (j * 12) (l.getD j deadW) := by
  rcases h.2 with ⟨_, h0⟩ | ⟨g, cap, cur, hv, _⟩
  · omega
  · injection hv with e1 e2 e3
    subst e1 e3
    have hlt := World.ownsRow.lt h g rfl
    refine ⟨g, rfl, hlt.1, hlt.2, fun j => World.ownsRow.frozenAt h j, fun j hj => wAt_of fun k hk => ?_⟩
    rw [World.ownsRow.cellAt h (j * 12 + k) (by omega), flW_get l j k hj hk]
theorem OwnWk.slice {w : World} {B : Nat} {v : Value} {l : List Wk} (h : OwnWk w B v l) : ∃ A c, v = .slice A l.length c ∧ l.length ≤ c ∧ NowWk w A l := by
  rcases h.2 with ⟨rfl, h0⟩ | ⟨g, cap, cur, rfl, hb, hh, hn, hcap, hsz, htake⟩
  · have : l = [] := by simpa using h0
    subst this
    exact ⟨none, 0, rfl, Nat.le_refl _, fun j hj => absurd hj (Nat.not_lt_zero j)⟩
  · refine ⟨some ⟨g, 0, none⟩, cap, rfl, hn, fun j hj => ?_⟩
    obtain ⟨g', e, _, hlt, _, hc⟩ := OwnWk.row (A := some ⟨g, 0, none⟩) (c := cap) h (by omega)
    injection e with e
    injection e with e
    subst e
    exact ⟨g, 0, rfl, hlt, by rw [Nat.zero_add]; exact hc j hj⟩
theorem OwnWk.next {w w' : World} {B : Nat} {v : Value} {l : List Wk} (h : OwnWk w B v l) (hb : Below w.heap.size w w') : OwnWk w' B v l :=
  World.ownsRow.kept h (row := none) ⟨hb.os, hb.tape, hb.output, hb.size, fun k hk _ => hb.block k hk⟩ (by cases v.ownBlock <;> simp)
/-- one worker set anew -/
theorem OwnWk.set {w : World} {B g c : Nat} {l : List Wk} (h : OwnWk w B (.slice (some ⟨g, 0, none⟩) l.length c) l) (j : Nat) (hj : j < l.length) (u : Wk) :
    ∃ w', ((((((((((((w.setCell ⟨g, j * 12, none⟩ (.int .i64 u.pc)).setCell ⟨g, j * 12 + 1, none⟩ (.int .i64 u.job)).setCell ⟨g, j * 12 + 2, none⟩ (.int .i64 u.r0)).setCell ⟨g, j * 12 + 3, none⟩ (.int .i64 u.r1)).setCell ⟨g, j * 12 + 4, none⟩ (.int .i64 u.r2)).setCell ⟨g, j * 12 + 5, none⟩ (.int .i64 0)).setCell ⟨g, j * 12 + 6, none⟩ (.int .i64 0)).setCell ⟨g, j * 12 + 7, none⟩ (.int .i64 0)).setCell ⟨g, j * 12 + 8, none⟩ (.int .i64 0)).setCell ⟨g, j * 12 + 9, none⟩ (.int .i64 0)).setCell ⟨g, j * 12 + 10, none⟩ (.bool u.done)).setCell ⟨g, j * 12 + 11, none⟩ (.int .i64 u.out)) = w' ∧
      OwnWk w' B (.slice (some ⟨g, 0, none⟩) l.length c) (l.set j u) ∧ w.grownBy w' (some g) := by
  obtain ⟨a0, b0⟩ := World.ownsRow.stored h (j * 12) (.int .i64 u.pc)
  obtain ⟨a1, b1⟩ := World.ownsRow.stored a0 (j * 12 + 1) (.int .i64 u.job)
  obtain ⟨a2, b2⟩ := World.ownsRow.stored a1 (j * 12 + 2) (.int .i64 u.r0)
  obtain ⟨a3, b3⟩ := World.ownsRow.stored a2 (j * 12 + 3) (.int .i64 u.r1)
  obtain ⟨a4, b4⟩ := World.ownsRow.stored a3 (j * 12 + 4) (.int .i64 u.r2)
  obtain ⟨a5, b5⟩ := World.ownsRow.stored a4 (j * 12 + 5) (.int .i64 0)
  obtain ⟨a6, b6⟩ := World.ownsRow.stored a5 (j * 12 + 6) (.int .i64 0)
  obtain ⟨a7, b7⟩ := World.ownsRow.stored a6 (j * 12 + 7) (.int .i64 0)
  obtain ⟨a8, b8⟩ := World.ownsRow.stored a7 (j * 12 + 8) (.int .i64 0)
  obtain ⟨a9, b9⟩ := World.ownsRow.stored a8 (j * 12 + 9) (.int .i64 0)
  obtain ⟨a10, b10⟩ := World.ownsRow.stored a9 (j * 12 + 10) (.bool u.done)
  obtain ⟨a11, b11⟩ := World.ownsRow.stored a10 (j * 12 + 11) (.int .i64 u.out)
  refine ⟨_, rfl, ?_, ((((((((((b0.trans b1).trans b2).trans b3).trans b4).trans b5).trans b6).trans b7).trans b8).trans b9).trans b10).trans b11⟩
  show World.ownsRow _ _ _ _ _ _ _
  rw [List.length_set, flW_set l j u hj]
  exact a11
end Go.Proofs.Ytocepdhjkhhpfaa
namespace Go.Proofs.Ytocepdhjkhhpfaa
set_option maxRecDepth 100000
set_option linter.unusedVariables false
set_option linter.unusedSimpArgs false
open Go.RowKit Go.Sort

/-- numbers that a call makes -/
def NumsR (l : List Int) (w : World) (r : Ending) (w' : World) : Prop := ∃ v, r = .returned v ∧ Own w' w.heap.size v l ∧ Below w.heap.size w w'
def makeTo (n k : Nat) : List Int := (List.range k).map (fun i => ((i : Nat) : Int) + 1) ++ List.replicate (n + 1 - k) 0
def makeL (n : Nat) : List Int := makeTo n n
theorem makeTo_len {n k : Nat} (h : k ≤ n + 1) : (makeTo n k).length = n + 1 := by unfold makeTo; simp; omega
theorem makeL_len (n : Nat) : (makeL n).length = n + 1 := makeTo_len (by omega)
theorem makeTo_zero (n : Nat) : makeTo n 0 = List.replicate (n + 1) 0 := by simp [makeTo]
theorem makeTo_succ {n k : Nat} (h : k < n) : makeTo n (k + 1) = (makeTo n k).set k ((k : Int) + 1) := by
  unfold makeTo
  have hl : ((List.range k).map (fun i => ((i : Nat) : Int) + 1)).length = k := by simp
  rw [List.range_succ, List.map_append, List.set_append_right _ _ (by omega), hl, Nat.sub_self, show n + 1 - k = (n + 1 - (k + 1)) + 1 by omega, List.replicate_succ, List.set_cons_zero]
  simp
theorem makeTo_get {n k j : Nat} (h : j < k) : (makeTo n k).getD j 0 = (j : Int) + 1 := by
  unfold makeTo
  simp [List.getD_eq_getElem?_getD, List.getElem?_append, List.getElem?_map, List.getElem?_range, h]
theorem makeTo_last {n : Nat} : (makeTo n n).getD n 0 = 0 := by
  unfold makeTo
  simp [List.getD_eq_getElem?_getD, List.getElem?_append]
def lenV : Value → Nat | .slice _ n _ => n | _ => 0
set_option maxHeartbeats 4000000 in
theorem makeF_any (n : Nat) (hn : n ≤ 1000) (w : World) : Calls Try.prog 21 #[.int .i64 n] w (NumsR (makeL n) w) := by
  obtain ⟨w1, hmk, hof, hg⟩ := makeW (n + 1) (by omega) w
  have h0 : ¬ (n : Int) < 0 := by omega
  have h1 : ¬ (1000 : Int) < (n : Int) := by omega
  have hB := (Below.refl w.heap.size w).grown hg (Nat.le_refl _) (fun k e => by cases e)
  have HO := Lib.hid hof
  have HB := Lib.hid hB
  have hc : ((n + 1 : Nat) : Int) = (n : Int) + 1 := by omega
  rw [hc] at hmk
  clear hof hg hB hc
  go_enter Try.func21, Try.ntmps21
  go_wp2_with fail
  clear hmk
  go_loopw [15] (fun i wr => ∃ k : Nat, k ≤ n ∧ i = .int .i64 k ∧ Hid (Own wr w.heap.size (.slice (some ⟨w.heap.size, 0, none⟩) (n + 1) (n + 1)) (makeTo n k) ∧ Below w.heap.size w wr)) (fun i _ => n - (intOf i).toNat)
  case atStart => exact ⟨0, Nat.zero_le _, rfl, (show Hid _ from ⟨by rw [makeTo_zero]; exact HO.out, HB.out⟩)⟩
  case round =>
    obtain ⟨k, hk, rfl, HH⟩ := hrel
    have hlen := makeTo_len (n := n) (k := k) (by omega)
    by_cases hlt : k < n
    · have hltz : (k : Int) < (n : Int) := by omega
      obtain ⟨h2, h3⟩ := HH.out
      obtain ⟨g', hg', -, -, hfz, hce⟩ := own_row (l := makeTo n k) (A := some ⟨w.heap.size, 0, none⟩) (c := n + 1) (by rw [hlen]; exact h2) (by omega)
      injection hg' with hg'
      injection hg' with hg'
      subst hg'
      have z0 := hce k (by omega)
      have z1 := hfz k
      obtain ⟨old, hold⟩ : ∃ old, old = (makeTo n k).getD k 0 := ⟨_, rfl⟩
      rw [← hold] at z0
      have HLn := Lib.hid hlen
      clear h2 h3 hfz hce hold hlen
      go_wp2_with fail
      go_roundw
      case measure => simp [intOf]; omega
      case rel =>
        refine ⟨k + 1, by omega, by go_num, (show Hid _ from ?_)⟩
        obtain ⟨h2, h3⟩ := HH.out
        obtain ⟨s1, s2⟩ := own_set (l := makeTo n k) (c := n + 1) (by rw [HLn.out]; exact h2) k ((k : Int) + 1)
        rw [HLn.out] at s1
        rw [makeTo_succ hlt]
        exact ⟨s1, h3.grown s2 h3.size (fun q e => by injection e with e; omega)⟩
    · obtain rfl : k = n := by omega
      have hltz : ¬ (k : Int) < (k : Int) := by omega
      clear hlen
      go_wp2
      go_ret
      exact ⟨_, rfl, HH.out.1, HH.out.2⟩
end Go.Proofs.Ytocepdhjkhhpfaa
namespace Go.Proofs.Ytocepdhjkhhpfaa
set_option linter.unusedVariables false
set_option linter.unusedSimpArgs false

def hdN (n f : Nat) : Int := (f : Int) * 1048576 + (if f < n then (f : Int) + 1 else 0)
theorem makeL_get {n k : Nat} (h : k < n) : (makeL n).getD k 0 = (k : Int) + 1 := makeTo_get h
theorem makeL_last (n : Nat) : (makeL n).getD n 0 = 0 := makeTo_last
theorem doA_load {m : List Int} {a : Int} (h0 : 0 ≤ a) (h1 : a < m.length) (hl : m.length ≤ 100000) : doA m (1, a, 0, 0) = (m, m.getD a.toNat 0, true, 0) := by
  unfold doA
  rw [if_neg (by simp [knownA]; omega), if_neg (by simp only; omega), if_pos rfl]
/-- a worker that takes, behind so many that were taken -/
structure PopI (n f : Nat) (w : Wk) : Prop where
  job : w.job = 1
  pcs : w.pc = 0 ∨ w.pc = 1 ∨ w.pc = 2
  r0 : w.r0 = 0
  r1 : WdI w.r1
  r2 : WdI w.r2
  out : WdI w.out
  stage : w.done = true ∨ w.pc = 0 ∨ (w.pc = 1 ∧ ∃ j, j < n ∧ j ≤ f ∧ w.r1 = hdN n j) ∨ (w.pc = 2 ∧ ∃ j, j < n ∧ j ≤ f ∧ w.r1 = hdN n j ∧ w.r2 = (makeL n).getD (j + 1) 0)
theorem PopI.fit {n f : Nat} {w : Wk} (h : PopI n f w) : FitW w := ⟨.inl h.job, h.pcs, by rw [h.r0]; exact ⟨by decide, by decide⟩, h.r1, h.r2, h.out⟩
theorem PopI.mono {n f g : Nat} {w : Wk} (h : PopI n f w) (hg : f ≤ g) : PopI n g w := by
  refine ⟨h.job, h.pcs, h.r0, h.r1, h.r2, h.out, ?_⟩
  rcases h.stage with h1 | h1 | ⟨h1, j, h2, h3, h4⟩ | ⟨h1, j, h2, h3, h4⟩
  · exact .inl h1
  · exact .inr (.inl h1)
  · exact .inr (.inr (.inl ⟨h1, j, h2, by omega, h4⟩))
  · exact .inr (.inr (.inr ⟨h1, j, h2, by omega, h4⟩))
end Go.Proofs.Ytocepdhjkhhpfaa
namespace Go.Proofs.Ytocepdhjkhhpfaa
set_option linter.unusedVariables false
set_option linter.unusedSimpArgs false

def topF : List Nat → Int
  | [] => 0
  | x :: _ => (x : Int) + 1
/-- nodes behind each other, as words tell them -/
def ChainF (m : List Int) : List Nat → Prop
  | [] => True
  | x :: r => m.getD (x + 1) 0 = topF r ∧ ChainF m r
/-- words that tell a free list: how often it was changed, the nodes -/
structure Stk (n c : Nat) (m : List Int) (F : List Nat) : Prop where
  len : m.length = n + 1
  head : m.getD 0 0 = (c : Int) * 1048576 + topF F
  links : ∀ k, 0 < k → 0 ≤ m.getD k 0 ∧ m.getD k 0 ≤ n
  chain : ChainF m F
  lt : ∀ x ∈ F, x < n
theorem topF_bd {n : Nat} {F : List Nat} (h : ∀ x ∈ F, x < n) : 0 ≤ topF F ∧ topF F ≤ n := by
  cases F with
  | nil => exact ⟨Int.le_refl 0, (show (0 : Int) ≤ n by omega)⟩
  | cons x r =>
    have := h x (by simp)
    show 0 ≤ (x : Int) + 1 ∧ (x : Int) + 1 ≤ n
    omega
theorem head_H {c : Nat} {t : Int} (h0 : 0 ≤ t) (h1 : t ≤ 1000) : hdH ((c : Int) * 1048576 + t) = t := by
  unfold hdH; rw [if_neg (by omega)]; omega
theorem head_C {c : Nat} {t : Int} (h0 : 0 ≤ t) (h1 : t ≤ 1000) : hdC ((c : Int) * 1048576 + t) = c := by
  unfold hdC; rw [if_neg (by omega)]; omega
/-- what a worker has read of the head -/
def ReadH (n c : Nat) (F : List Nat) (r : Int) (k : Nat) (t : Int) : Prop := r = (k : Int) * 1048576 + t ∧ k ≤ c ∧ 0 ≤ t ∧ t ≤ n ∧ (k = c → t = topF F)
/-- a worker at a free list -/
structure WkI (n c : Nat) (m : List Int) (F : List Nat) (w : Wk) : Prop where
  job : w.job = 1 ∨ w.job = 2
  pcs : w.pc = 0 ∨ w.pc = 1 ∨ w.pc = 2
  r0 : 0 ≤ w.r0 ∧ w.r0 ≤ n
  r1 : WdI w.r1
  r2 : WdI w.r2
  out : -1 ≤ w.out ∧ w.out ≤ n
  push : w.job = 2 → w.done = true → w.out = w.r0
  room : w.job = 2 → w.r0 < n
  stage : w.done = true ∨ w.pc = 0 ∨ (∃ k t, ReadH n c F w.r1 k t ∧ (w.job = 1 → 1 ≤ t) ∧ (w.pc = 2 → if w.job = 1 then 0 ≤ w.r2 ∧ w.r2 ≤ n ∧ (k = c → w.r2 = m.getD t.toNat 0) else m.getD (w.r0.toNat + 1) 0 = t))
theorem WkI.fit {n c : Nat} {m : List Int} {F : List Nat} {w : Wk} (h : WkI n c m F w) (hn : n ≤ 1000) : FitW w :=
  ⟨h.job, h.pcs, ⟨h.r0.1, by have := h.r0.2; omega⟩, h.r1, h.r2, by have := h.out; unfold WdI; omega⟩
/-- the nodes that a worker has -/
def ownN (w : Wk) : List Nat := if w.job = 2 then (if w.done then [] else [w.r0.toNat]) else (if w.done ∧ 0 ≤ w.out then [w.out.toNat] else [])
def ownL (l : List Wk) : List Nat := l.flatMap ownN
/-- all nodes are somewhere, each once -/
def AllN (n : Nat) (F : List Nat) (l : List Wk) (E : List Nat) : Prop := List.Perm (F ++ (ownL l ++ E)) (List.range n)
theorem AllN.nodup {n : Nat} {F : List Nat} {l : List Wk} {E : List Nat} (h : AllN n F l E) : (F ++ (ownL l ++ E)).Nodup := h.nodup_iff.2 List.nodup_range
theorem doA_write {m : List Int} {a v : Int} (h0 : 0 ≤ a) (h1 : a < m.length) (hl : m.length ≤ 100000) (hv : WdI v) : doA m (2, a, 0, v) = (m.set a.toNat v, m.getD a.toNat 0, true, 0) := by
  have e : ∀ x, toA (2, a, 0, v) x = v := fun x => by unfold toA; rw [if_neg (by simp)]
  unfold doA
  rw [if_neg (by simp [knownA]; omega), if_neg (by simp only; omega), if_neg (by simp)]
  simp only [e]
  rw [if_neg (by rw [wdI_may.1 hv]; decide), if_neg (by rintro ⟨h2, _⟩; exact absurd h2 (by decide))]
/-! ### one step -/
/-- how a worker stands when words and nodes change, but not what it has read -/
theorem WkI.again {n c c' : Nat} {m m' : List Int} {F F' : List Nat} {w : Wk} (h : WkI n c m F w) (hc : c ≤ c') (hF : c' = c → F' = F) (hm : w.done = false → w.pc = 2 → w.job = 2 → m'.getD (w.r0.toNat + 1) 0 = m.getD (w.r0.toNat + 1) 0)
    (ht : c' = c → ∀ x ∈ F, m'.getD (x + 1) 0 = m.getD (x + 1) 0) : WkI n c' m' F' w := by
  refine ⟨h.job, h.pcs, h.r0, h.r1, h.r2, h.out, h.push, h.room, ?_⟩
  cases hd : w.done with
  | true => exact .inl rfl
  | false =>
    rcases h.stage with h1 | h1 | ⟨k, t, ⟨e1, e2, e3, e4, e5⟩, hj, hp⟩
    · rw [hd] at h1; cases h1
    · exact .inr (.inl h1)
    · refine .inr (.inr ⟨k, t, ⟨e1, by omega, e3, e4, fun e => ?_⟩, hj, fun h2 => ?_⟩)
      · have : c' = c := by omega
        rw [hF this]
        exact e5 (by omega)
      · have hp2 := hp h2
        by_cases hjob : w.job = 1
        · rw [if_pos hjob] at hp2 ⊢
          refine ⟨hp2.1, hp2.2.1, fun e => ?_⟩
          have hcc : c' = c := by omega
          have hk : k = c := by omega
          rw [hp2.2.2 hk]
          have ht1 := hj hjob
          have htF := e5 hk
          cases F with
          | nil => rw [htF] at ht1; exact absurd ht1 (by decide)
          | cons x r =>
            have : t.toNat = x + 1 := by rw [htF]; show ((x : Int) + 1).toNat = x + 1; omega
            rw [this]
            exact (ht hcc x (by simp)).symm
        · rw [if_neg hjob] at hp2 ⊢
          have hj2 : w.job = 2 := by rcases h.job with h1 | h1; exact absurd h1 hjob; exact h1
          rw [hm hd h2 hj2]
          exact hp2
def succN (l : List Wk) : Nat := (l.filter fun w => w.done && decide (0 ≤ w.out)).length
end Go.Proofs.Ytocepdhjkhhpfaa
namespace Go.Proofs.Ytocepdhjkhhpfaa
set_option linter.unusedVariables false
set_option linter.unusedSimpArgs false

/-- what became of a crowd -/
structure Went (c : Nat) (F : List Nat) (l : List Wk) (c' : Nat) (F' : List Nat) (l' : List Wk) : Prop where
  len : l'.length = l.length
  same : ∀ j, j < l.length → (l'.getD j deadW).job = (l.getD j deadW).job ∧ (l'.getD j deadW).r0 = (l.getD j deadW).r0
  cnt : c' + succN l = c + succN l'
  pops : (∀ j, j < l.length → (l.getD j deadW).job = 1) → (∀ w ∈ l, w.done = true → w.out = -1 → F = []) → (∀ w ∈ l', w.done = true → w.out = -1 → F' = []) ∧ F.length + c = F'.length + c'
theorem Went.refl (c : Nat) (F : List Nat) (l : List Wk) : Went c F l c F l := ⟨rfl, fun _ _ => ⟨rfl, rfl⟩, rfl, fun _ h => ⟨h, rfl⟩⟩
theorem Went.trans {c c1 c2 : Nat} {F F1 F2 : List Nat} {l l1 l2 : List Wk} (h : Went c F l c1 F1 l1) (g : Went c1 F1 l1 c2 F2 l2) : Went c F l c2 F2 l2 := by
  refine ⟨g.len.trans h.len, fun j hj => ?_, by have := h.cnt; have := g.cnt; omega, fun hj hF => ?_⟩
  · obtain ⟨a1, a2⟩ := h.same j hj
    obtain ⟨b1, b2⟩ := g.same j (by rw [h.len]; exact hj)
    exact ⟨b1.trans a1, b2.trans a2⟩
  · obtain ⟨a1, a2⟩ := h.pops hj hF
    obtain ⟨b1, b2⟩ := g.pops (fun j hj1 => by rw [h.len] at hj1; rw [(h.same j hj1).1]; exact hj j hj1) a1
    exact ⟨b1, by omega⟩
end Go.Proofs.Ytocepdhjkhhpfaa
namespace Go.Proofs.Ytocepdhjkhhpfaa
set_option linter.unusedVariables false
set_option linter.unusedSimpArgs false

theorem chain_range (n : Nat) : ∀ k t, t + k = n → ChainF (makeL n) (List.range' t k) := by
  intro k
  induction k with
  | zero => intro t _; trivial
  | succ k ih =>
    intro t h
    refine ⟨?_, ih (t + 1) (by omega)⟩
    cases k with
    | zero => rw [show t + 1 = n by omega]; exact makeL_last n
    | succ k => rw [makeL_get (by omega)]; rfl
theorem stk_new (n : Nat) : Stk n 0 (makeL n) (List.range n) := by
  have hl := makeL_len n
  refine ⟨hl, ?_, fun k hk => ?_, ?_, fun x hx => List.mem_range.1 hx⟩
  · by_cases h : n = 0
    · subst h; rfl
    · rw [makeL_get (by omega)]
      cases n with
      | zero => exact absurd rfl h
      | succ n => rw [List.range_succ_eq_map]; rfl
  · by_cases h : k < n
    · rw [makeL_get h]; omega
    · by_cases h2 : k = n
      · rw [h2, makeL_last]; omega
      · rw [List.getD_eq_getElem?_getD, List.getElem?_eq_none (by omega)]; simp
  · rw [List.range_eq_range']
    exact chain_range n n 0 (by omega)
end Go.Proofs.Ytocepdhjkhhpfaa
namespace Go.Proofs.Ytocepdhjkhhpfaa
set_option maxRecDepth 100000
set_option linter.unusedVariables false
set_option linter.unusedSimpArgs false

structure W8 where
  pc : Int
  job : Int
  r0 : Int
  r1 : Int
  r2 : Int
  r3 : Int
  r4 : Int
  r5 : Int
  r6 : Int
  r7 : Int
  done : Bool
  out : Int
def kdW8 (w : W8) : Kd := (w.r0, w.r1, w.r2, w.r3)
def internW (k : Kd) : W8 := ⟨0, 3, k.1, k.2.1, k.2.2.1, k.2.2.2, 0, 0, 0, 0, false, 0⟩
def slotP (S : Int) (w : W8) : Int := slotH (ofH (kdW8 w)) w.r4 S
def kidP (S N n k : Int) : Int := if n < 0 ∨ N ≤ n then -1 else S + 4 * n + k
def insP (a b c : Int) : Int := if a < b ∨ c < a then -1 else a
/-- what a worker does next -/
def accP (S N : Int) (w : W8) : Ac :=
  if w.pc = 0 then (1, slotP S w, 0, 0)
  else if w.pc = 1 then (1, kidP S N w.r6 w.r7, 0, 0)
  else if w.pc = 10 ∨ w.pc = 30 then (1, S + 4 * N, 0, 0)
  else if w.pc = 11 then (1, S + 4 * N + hdH w.r6, 0, 0)
  else if w.pc = 12 then (3, S + 4 * N, w.r6, (hdC w.r6 + 1) * 1048576 + w.r7)
  else if w.pc = 13 then (2, kidP S N (w.r5 - 1) w.r7, 0, kdH (kdW8 w) w.r7.toNat)
  else if w.pc = 20 then (3, slotP S w, 0, w.r5)
  else if w.pc = 31 then (2, insP (S + 4 * N + w.r5) (S + 4 * N + 1) (S + 4 * N + N), 0, hdH w.r6)
  else (3, S + 4 * N, w.r6, (hdC w.r6 + 1) * 1048576 + w.r5)
def endP (w : W8) (n : Int) : W8 := if w.r5 = 0 then { w with out := n, done := true } else { w with out := n, pc := 30 }
/-- what a worker is behind its access -/
def behP (S : Int) (w : W8) (x : Int) (dn : Bool) : W8 :=
  if w.pc = 0 then if x < 1 then if w.r5 = 0 then { w with pc := 10 } else { w with pc := 20 } else { w with r6 := x - 1, r7 := 0, pc := 1 }
  else if w.pc = 1 then
    if x = kdH (kdW8 w) w.r7.toNat then if w.r7 + 1 = 4 then endP { w with r7 := w.r7 + 1 } w.r6 else { w with r7 := w.r7 + 1 }
    else if w.r4 + 1 = S then endP { w with r4 := w.r4 + 1 } (-1) else { w with r4 := w.r4 + 1, pc := 0 }
  else if w.pc = 10 then if hdH x = 0 then endP { w with r6 := x } (-1) else { w with r6 := x, pc := 11 }
  else if w.pc = 11 then { w with r7 := x, pc := 12 }
  else if w.pc = 12 then if dn = true then { w with r5 := hdH w.r6, r7 := 0, pc := 13 } else { w with pc := 10 }
  else if w.pc = 13 then if w.r7 + 1 = 4 then { w with r7 := w.r7 + 1, pc := 20 } else { w with r7 := w.r7 + 1 }
  else if w.pc = 20 then if dn = true then { w with done := true, out := w.r5 - 1 } else { w with pc := 0 }
  else if w.pc = 30 then { w with r6 := x, pc := 31 }
  else if w.pc = 31 then { w with pc := 32 }
  else if dn = true then { w with pc := 32, r5 := 0, done := true } else { w with pc := 30 }
def stepP (S N : Int) (m : List Int) (w : W8) : List Int × W8 × Int :=
  if (doA m (accP S N w)).2.2.2 = 0 then ((doA m (accP S N w)).1, behP S w (doA m (accP S N w)).2.1 (doA m (accP S N w)).2.2.1, 0) else (m, w, (doA m (accP S N w)).2.2.2)
/-- one alone, so many steps -/
inductive Alone8 (S N : Int) : List Int → W8 → Nat → List Int → W8 → Prop where
  | nil (m w) : Alone8 S N m w 0 m w
  | step {m w m1 w1 q m2 w2} : w.done = false → stepP S N m w = (m1, w1, 0) → Alone8 S N m1 w1 q m2 w2 → Alone8 S N m w (q + 1) m2 w2
theorem Alone8.trans {S N : Int} {m m1 m2 : List Int} {w w1 w2 : W8} {p q : Nat} (h : Alone8 S N m w p m1 w1) (k : Alone8 S N m1 w1 q m2 w2) : Alone8 S N m w (p + q) m2 w2 := by
  induction h with
  | nil => rw [Nat.zero_add]; exact k
  | step h1 h2 _ ih => rw [show ∀ a b : Nat, a + 1 + b = a + b + 1 by omega]; exact .step h1 h2 (ih k)

/-! ### looking along a path -/
def kdAt (S : Nat) (m : List Int) (n : Nat) : Kd := (m.getD (S + 4 * n) 0, m.getD (S + 4 * n + 1) 0, m.getD (S + 4 * n + 2) 0, m.getD (S + 4 * n + 3) 0)
theorem kdAt_get (S : Nat) (m : List Int) (n : Nat) {j : Nat} (hj : j < 4) : m.getD (S + 4 * n + j) 0 = kdH (kdAt S m n) j := by
  match j, hj with
  | 0, _ => rfl
  | 1, _ => rfl
  | 2, _ => rfl
  | 3, _ => rfl
theorem kd_ext8 {a b : Kd} (h : ∀ i, i < 4 → kdH a i = kdH b i) : a = b := Prod.ext (h 0 (by decide)) (Prod.ext (h 1 (by decide)) (Prod.ext (h 2 (by decide)) (h 3 (by decide))))
/-- a table's words, as far as looking asks for them -/
structure TabL (S N : Nat) (m : List Int) : Prop where
  s1 : 1 ≤ S
  s2 : S ≤ 4000
  n2 : N ≤ 1000
  len : m.length = S + 5 * N + 1
  slots : ∀ i, i < S → 0 ≤ m.getD i 0 ∧ m.getD i 0 ≤ N
/-- a worker that looks for kids at the place p of their path -/
structure LookW (k : Kd) (p : Nat) (w : W8) : Prop where
  kd : kdW8 w = k
  r4 : w.r4 = p
  r5 : w.r5 = 0
  pc : w.pc = 0
  done : w.done = false
/-- .. that compares the kids of the node n, from the j-th on -/
structure CmpW (k : Kd) (p n j : Nat) (w : W8) : Prop where
  kd : kdW8 w = k
  r4 : w.r4 = p
  r5 : w.r5 = 0
  r6 : w.r6 = n
  r7 : w.r7 = j
  pc : w.pc = 1
  done : w.done = false
/-- .. that has ended -/
structure EndW (k : Kd) (o : Int) (w : W8) : Prop where
  kd : kdW8 w = k
  out : w.out = o
  r5 : w.r5 = 0
  done : w.done = true
theorem stepP_load {S N : Int} {m : List Int} {w : W8} {a : Nat} (h : accP S N w = (1, (a : Int), 0, 0)) (ha : a < m.length) (hl : m.length ≤ 100000) : stepP S N m w = (m, behP S w (m.getD a 0) true, 0) := by
  have e := doA_load (m := m) (a := (a : Int)) (by omega) (by omega) hl
  unfold stepP
  rw [h, e, Int.toNat_natCast]
  rfl
/-- how many compares tell two kids apart, or the same -/
def cmpN (a k : Kd) : Nat := if a.1 ≠ k.1 then 1 else if a.2.1 ≠ k.2.1 then 2 else if a.2.2.1 ≠ k.2.2.1 then 3 else 4
theorem cmpN_le (a k : Kd) : cmpN a k ≤ 4 := by unfold cmpN; split; omega; split; omega; split; omega; exact Nat.le_refl _
theorem cmpN_self (k : Kd) : cmpN k k = 4 := by unfold cmpN; simp
theorem cmpN_at {a k : Kd} {j : Nat} (hj : j < 4) (hlo : ∀ i, i < j → kdH a i = kdH k i) (h : kdH a j ≠ kdH k j) : cmpN a k = j + 1 := by
  have e : cmpN a k = if kdH a 0 ≠ kdH k 0 then 1 else if kdH a 1 ≠ kdH k 1 then 2 else if kdH a 2 ≠ kdH k 2 then 3 else 4 := rfl
  rw [e]
  match j, hj with
  | 0, _ => rw [if_pos h]
  | 1, _ => rw [if_neg (fun c => c (hlo 0 (by decide))), if_pos h]
  | 2, _ => rw [if_neg (fun c => c (hlo 0 (by decide))), if_neg (fun c => c (hlo 1 (by decide))), if_pos h]
  | 3, _ => rw [if_neg (fun c => c (hlo 0 (by decide))), if_neg (fun c => c (hlo 1 (by decide))), if_neg (fun c => c (hlo 2 (by decide)))]
theorem cmp_run {S N : Nat} {m : List Int} (h : TabL S N m) {k : Kd} {p n : Nat} (hp : p < S) (hn : n < N) : ∀ (d j : Nat) (w : W8), j + d = 4 → j < 4 → CmpW k p n j w → (∀ i, i < j → kdH (kdAt S m n) i = kdH k i) →
    (kdAt S m n = k ∧ ∃ q w', q + j = cmpN (kdAt S m n) k ∧ Alone8 S N m w q m w' ∧ EndW k n w') ∨ (kdAt S m n ≠ k ∧ p + 1 < S ∧ ∃ q w', q + j = cmpN (kdAt S m n) k ∧ Alone8 S N m w q m w' ∧ LookW k (p + 1) w') ∨ (kdAt S m n ≠ k ∧ p + 1 = S ∧ ∃ q w', q + j = cmpN (kdAt S m n) k ∧ Alone8 S N m w q m w' ∧ EndW k (-1) w') := by
  intro d
  induction d with
  | zero => intro j w hd hj; omega
  | succ d ih =>
    intro j w hd hj hw hlo
    have hl := h.len
    have hs2 := h.s2
    have hn2 := h.n2
    have hacc : accP S N w = (1, ((S + 4 * n + j : Nat) : Int), 0, 0) := by
      unfold accP kidP
      rw [if_neg (by rw [hw.pc]; decide), if_pos hw.pc, hw.r6, hw.r7, if_neg (by omega)]
      have : ((S : Int) + 4 * (n : Int) + (j : Int)) = ((S + 4 * n + j : Nat) : Int) := by omega
      rw [this]
    have hst := stepP_load hacc (m := m) (by omega) (by omega)
    rw [kdAt_get S m n hj] at hst
    have hpc0 : ¬ w.pc = 0 := by rw [hw.pc]; decide
    have hr7 : w.r7.toNat = j := by rw [hw.r7]; exact Int.toNat_natCast j
    have hb : behP S w (kdH (kdAt S m n) j) true = if kdH (kdAt S m n) j = kdH k j then if (j : Int) + 1 = 4 then endP { w with r7 := w.r7 + 1 } w.r6 else { w with r7 := w.r7 + 1 }
        else if (p : Int) + 1 = S then endP { w with r4 := w.r4 + 1 } (-1) else { w with r4 := w.r4 + 1, pc := 0 } := by
      unfold behP
      rw [if_neg hpc0, if_pos hw.pc, hr7, hw.kd, hw.r7, hw.r4]
    rw [hb] at hst
    by_cases hk : kdH (kdAt S m n) j = kdH k j
    · rw [if_pos hk] at hst
      have hlo' : ∀ i, i < j + 1 → kdH (kdAt S m n) i = kdH k i := fun i hi => by
        by_cases hij : i < j
        · exact hlo i hij
        · rw [show i = j by omega]; exact hk
      by_cases hj4 : j + 1 = 4
      · rw [if_pos (by omega)] at hst
        have hke : kdAt S m n = k := kd_ext8 fun i hi => hlo' i (by omega)
        refine .inl ⟨hke, 1, _, by rw [hke, cmpN_self]; omega, .step hw.done hst (.nil _ _), ?_⟩
        unfold endP
        rw [if_pos (show ({ w with r7 := w.r7 + 1 } : W8).r5 = 0 from hw.r5)]
        exact ⟨hw.kd, hw.r6, hw.r5, rfl⟩
      · rw [if_neg (by omega)] at hst
        have hw' : CmpW k p n (j + 1) { w with r7 := w.r7 + 1 } := ⟨hw.kd, hw.r4, hw.r5, hw.r6, (by show w.r7 + 1 = _; rw [hw.r7]; omega), hw.pc, hw.done⟩
        rcases ih (j + 1) _ (by omega) (by omega) hw' hlo' with ⟨h1, q, w', h2, h3, h4⟩ | ⟨h1, h5, q, w', h2, h3, h4⟩ | ⟨h1, h5, q, w', h2, h3, h4⟩
        · exact .inl ⟨h1, q + 1, w', by omega, .step hw.done hst h3, h4⟩
        · exact .inr (.inl ⟨h1, h5, q + 1, w', by omega, .step hw.done hst h3, h4⟩)
        · exact .inr (.inr ⟨h1, h5, q + 1, w', by omega, .step hw.done hst h3, h4⟩)
    · rw [if_neg hk] at hst
      have hne : kdAt S m n ≠ k := fun e => hk (by rw [e])
      have hcn := cmpN_at hj hlo hk
      by_cases hps : p + 1 = S
      · rw [if_pos (by omega)] at hst
        refine .inr (.inr ⟨hne, hps, 1, _, by omega, .step hw.done hst (.nil _ _), ?_⟩)
        unfold endP
        rw [if_pos (show ({ w with r4 := w.r4 + 1 } : W8).r5 = 0 from hw.r5)]
        exact ⟨hw.kd, rfl, hw.r5, rfl⟩
      · rw [if_neg (by omega)] at hst
        exact .inr (.inl ⟨hne, by omega, 1, _, by omega, .step hw.done hst (.nil _ _), hw.kd, (by show w.r4 + 1 = _; rw [hw.r4]; omega), hw.r5, rfl, hw.done⟩)
/-- the slot of a path -/
def atP (S : Nat) (k : Kd) (p : Nat) : Nat := (ofH k + p) % S
/-- a slot that is taken by other kids -/
def OtherP (S : Nat) (m : List Int) (k : Kd) (p : Nat) : Prop := 0 < m.getD (atP S k p) 0 ∧ kdAt S m (m.getD (atP S k p) 0 - 1).toNat ≠ k
/-- the steps along the taken slots of a path -/
def costP (S : Nat) (m : List Int) (k : Kd) : Nat → Nat
  | 0 => 0
  | p + 1 => costP S m k p + 1 + cmpN (kdAt S m (m.getD (atP S k p) 0 - 1).toNat) k
theorem costP_le (S : Nat) (m : List Int) (k : Kd) (p : Nat) : costP S m k p ≤ 5 * p := by
  induction p with
  | zero => exact Nat.le_refl _
  | succ p ih =>
    have := cmpN_le (kdAt S m (m.getD (atP S k p) 0 - 1).toNat) k
    show costP S m k p + 1 + _ ≤ _
    omega
theorem costP_congr {S : Nat} {m m' : List Int} {k : Kd} {p : Nat} (h : ∀ i, i < p → m'.getD (atP S k i) 0 = m.getD (atP S k i) 0 ∧ kdAt S m' (m.getD (atP S k i) 0 - 1).toNat = kdAt S m (m.getD (atP S k i) 0 - 1).toNat) : costP S m' k p = costP S m k p := by
  induction p with
  | zero => rfl
  | succ p ih =>
    obtain ⟨e1, e2⟩ := h p (by omega)
    show costP S m' k p + 1 + _ = costP S m k p + 1 + _
    rw [ih (fun i hi => h i (by omega)), e1, e2]
/-- .. a free one has been come to -/
structure FreeW (k : Kd) (p : Nat) (w : W8) : Prop where
  kd : kdW8 w = k
  r4 : w.r4 = p
  r5 : w.r5 = 0
  pc : w.pc = 10
  done : w.done = false
theorem look_run {S N : Nat} {m : List Int} (h : TabL S N m) {k : Kd} : ∀ (d p : Nat) (w : W8), p + d = S → p < S → LookW k p w → (∀ i, i < p → OtherP S m k i) →
    (∃ i q w', i < S ∧ (∀ i', i' < i → OtherP S m k i') ∧ 0 < m.getD (atP S k i) 0 ∧ kdAt S m (m.getD (atP S k i) 0 - 1).toNat = k ∧ q + costP S m k p = costP S m k (i + 1) ∧ Alone8 S N m w q m w' ∧ EndW k (m.getD (atP S k i) 0 - 1) w') ∨
    (∃ i q w', p ≤ i ∧ i < S ∧ (∀ i', i' < i → OtherP S m k i') ∧ m.getD (atP S k i) 0 = 0 ∧ q + costP S m k p = costP S m k i + 1 ∧ Alone8 S N m w q m w' ∧ FreeW k i w') ∨
    ((∀ i', i' < S → OtherP S m k i') ∧ ∃ q w', q + costP S m k p = costP S m k S ∧ Alone8 S N m w q m w' ∧ EndW k (-1) w') := by
  intro d
  induction d with
  | zero => intro p w hd hp; omega
  | succ d ih =>
    intro p w hd hp hw hlo
    have hl := h.len
    have hs1 := h.s1
    have hs2 := h.s2
    have hn2 := h.n2
    have hat : atP S k p < S := Nat.mod_lt _ (by omega)
    obtain ⟨b1, b2⟩ := h.slots _ hat
    have hof := ofH_lt k
    have hacc : accP S N w = (1, ((atP S k p : Nat) : Int), 0, 0) := by
      unfold accP slotP slotH
      rw [if_pos hw.pc, hw.kd, hw.r4, if_neg (by omega)]
      unfold atP
      rw [Int.natCast_emod, Int.natCast_add]
    have hst := stepP_load hacc (m := m) (by omega) (by omega)
    have hb : behP S w (m.getD (atP S k p) 0) true = if m.getD (atP S k p) 0 < 1 then { w with pc := 10 } else { w with r6 := m.getD (atP S k p) 0 - 1, r7 := 0, pc := 1 } := by
      unfold behP
      rw [if_pos hw.pc, if_pos hw.r5]
    rw [hb] at hst
    by_cases hz : m.getD (atP S k p) 0 < 1
    · rw [if_pos hz] at hst
      exact .inr (.inl ⟨p, 1, _, Nat.le_refl _, hp, hlo, by omega, by omega, .step hw.done hst (.nil _ _), hw.kd, hw.r4, hw.r5, rfl, hw.done⟩)
    · rw [if_neg hz] at hst
      obtain ⟨n, hn⟩ : ∃ n : Nat, m.getD (atP S k p) 0 - 1 = n := ⟨(m.getD (atP S k p) 0 - 1).toNat, by omega⟩
      have hcw : CmpW k p n 0 { w with r6 := m.getD (atP S k p) 0 - 1, r7 := 0, pc := 1 } := ⟨hw.kd, hw.r4, hw.r5, hn, rfl, rfl, hw.done⟩
      have hnt : (m.getD (atP S k p) 0 - 1).toNat = n := by rw [hn]; exact Int.toNat_natCast n
      have hcs : costP S m k (p + 1) = costP S m k p + 1 + cmpN (kdAt S m n) k := by rw [← hnt]; rfl
      rcases cmp_run h hp (show n < N by omega) 4 0 _ rfl (by omega) hcw (fun i hi => absurd hi (Nat.not_lt_zero i)) with ⟨h1, q, w', h2, h3, h4⟩ | ⟨h1, h5, q, w', h2, h3, h4⟩ | ⟨h1, h5, q, w', h2, h3, h4⟩
      · exact .inl ⟨p, q + 1, w', hp, hlo, by omega, by rw [hnt]; exact h1, by omega, .step hw.done hst h3, by rw [hn]; exact h4⟩
      · have hlo' : ∀ i, i < p + 1 → OtherP S m k i := fun i hi => by
          by_cases hip : i < p
          · exact hlo i hip
          · rw [show i = p by omega]
            exact ⟨by omega, by rw [hnt]; exact h1⟩
        rcases ih (p + 1) w' (by omega) h5 h4 hlo' with ⟨i, q2, w2, g1, g2, g3, g4, g5, g6, g7⟩ | ⟨i, q2, w2, g1, g2, g3, g4, g5, g6, g7⟩ | ⟨g1, q2, w2, g5, g6, g7⟩
        · exact .inl ⟨i, q + 1 + q2, w2, g1, g2, g3, g4, by omega, (Alone8.step hw.done hst h3).trans g6, g7⟩
        · exact .inr (.inl ⟨i, q + 1 + q2, w2, by omega, g2, g3, g4, by omega, (Alone8.step hw.done hst h3).trans g6, g7⟩)
        · exact .inr (.inr ⟨g1, q + 1 + q2, w2, by omega, (Alone8.step hw.done hst h3).trans g6, g7⟩)
      · rw [h5] at hcs
        refine .inr (.inr ⟨fun i hi => ?_, q + 1, w', by omega, .step hw.done hst h3, h4⟩)
        by_cases hip : i < p
        · exact hlo i hip
        · rw [show i = p by omega]
          exact ⟨by omega, by rw [hnt]; exact h1⟩
end Go.Proofs.Ytocepdhjkhhpfaa
namespace Go.Proofs.Ytocepdhjkhhpfaa
set_option maxRecDepth 100000
set_option linter.unusedVariables false
set_option linter.unusedSimpArgs false
open Go.RowKit Go.Sort

abbrev plV (S N : Int) : Value := .agg #[.int .i64 S, .int .i64 N]
/-- a table's numbers -/
structure TabS (S N : Int) : Prop where
  s1 : 1 ≤ S
  s2 : S ≤ 4000
  n1 : 0 ≤ N
  n2 : N ≤ 1000
theorem pHead_any {S N : Int} (w : World) (h : TabS S N) : Calls Try.prog 49 #[plV S N] w fun e w' => e = .returned (.int .i64 (S + 4 * N)) ∧ Below w.heap.size w w' := by
  obtain ⟨h1, h2, h3, h4⟩ := h
  go_enter Try.func49, Try.ntmps49
  go_wp2
  go_ret
  exact ⟨rfl, (Below.refl _ _).alloc (Nat.le_refl _) _⟩
theorem pEnd_any {S N : Int} (w : World) (h : TabS S N) : Calls Try.prog 69 #[plV S N] w fun e w' => e = .returned (.int .i64 (S + 5 * N + 1)) ∧ Below w.heap.size w w' := by
  have hh := fun W => pHead_any W h
  obtain ⟨h1, h2, h3, h4⟩ := h
  have e : S + 4 * N + 1 + N = S + 5 * N + 1 := by omega
  have hb := (Below.refl w.heap.size w).alloc (Nat.le_refl _) (.cells #[.int .i64 S, .int .i64 N] 82)
  have c0 : (w.alloc (.cells #[.int .i64 S, .int .i64 N] 82)).cell? ⟨w.heap.size, 0, none⟩ = some (.int .i64 S) := by rw [Lib.cell_of_heap (heap_alloc_new w _)]; rfl
  have c1 : (w.alloc (.cells #[.int .i64 S, .int .i64 N] 82)).cell? ⟨w.heap.size, 1, none⟩ = some (.int .i64 N) := by rw [Lib.cell_of_heap (heap_alloc_new w _)]; rfl
  have k0 := Qt.cell_in c0
  have k1 := Qt.cell_in c1
  clear c0 c1
  go_enter Try.func69, Try.ntmps69
  go_wp2
  refine Qt.below_all (by kernel_rfl) (by kernel_rfl) ?_
  iterate 8 (go_big_quiet_step (first | (go_at_call 49; exact Qt.at_call' fun W _ => hh W)))
  refine wpQuiet_nil ?_
  intro w1 hb1
  go_wp2
  go_ret
  exact ⟨rfl, Qt.more hb (by simp) hb1⟩
theorem pHas_any {S N n : Int} (w : World) (h : TabS S N) : Calls Try.prog 51 #[plV S N, .int .i64 n] w fun e w' => e = .returned (.bool (decide (0 ≤ n) && decide (n < N))) ∧ Below w.heap.size w w' := by
  obtain ⟨h1, h2, h3, h4⟩ := h
  by_cases h0 : 0 ≤ n
  · have d : decide (0 ≤ n) = true := decide_eq_true h0
    rw [d, Bool.true_and]
    go_enter Try.func51, Try.ntmps51
    go_wp2
    go_ret
    exact ⟨rfl, (Below.refl _ _).alloc (Nat.le_refl _) _⟩
  · have d : decide (0 ≤ n) = false := decide_eq_false h0
    rw [d, Bool.false_and]
    go_enter Try.func51, Try.ntmps51
    go_wp2
    go_ret
    exact ⟨rfl, (Below.refl _ _).alloc (Nat.le_refl _) _⟩
theorem pKid_any {S N n k : Int} (w : World) (h : TabS S N) (h0 : 0 ≤ n) (hn : n < N) (hk0 : 0 ≤ k) (hk : k ≤ 3) : Calls Try.prog 52 #[plV S N, .int .i64 n, .int .i64 k] w fun e w' => e = .returned (.int .i64 (S + 4 * n + k)) ∧ Below w.heap.size w w' := by
  have hh := fun W => pHas_any (n := n) W h
  rw [decide_eq_true h0, decide_eq_true hn, Bool.true_and] at hh
  obtain ⟨h1, h2, h3, h4⟩ := h
  have hb := (Below.refl w.heap.size w).alloc (Nat.le_refl _) (.cells #[.int .i64 S, .int .i64 N] 82)
  have c0 : (w.alloc (.cells #[.int .i64 S, .int .i64 N] 82)).cell? ⟨w.heap.size, 0, none⟩ = some (.int .i64 S) := by rw [Lib.cell_of_heap (heap_alloc_new w _)]; rfl
  go_enter Try.func52, Try.ntmps52
  go_wp2_with fail
  refine (hh _).mono ?_
  rintro e w1 ⟨rfl, hb1⟩
  have d0 := Qt.keep hb1 c0
  clear c0
  go_wp2
  go_ret
  exact ⟨rfl, Qt.more hb (by simp) hb1⟩
theorem pPlace_any {S N n : Int} (w : World) (h : TabS S N) (h0 : 0 ≤ n) (hn : n < N) : Calls Try.prog 123 #[plV S N, .int .i64 n] w fun e w' => e = .returned (.int .i64 (S + 4 * N + 1 + n)) ∧ Below w.heap.size w w' := by
  have hh := fun W => pHas_any (n := n) W h
  have hd := fun W => pHead_any W h
  rw [decide_eq_true h0, decide_eq_true hn, Bool.true_and] at hh
  obtain ⟨h1, h2, h3, h4⟩ := h
  have hb := (Below.refl w.heap.size w).alloc (Nat.le_refl _) (.cells #[.int .i64 S, .int .i64 N] 82)
  have c0 : (w.alloc (.cells #[.int .i64 S, .int .i64 N] 82)).cell? ⟨w.heap.size, 0, none⟩ = some (.int .i64 S) := by rw [Lib.cell_of_heap (heap_alloc_new w _)]; rfl
  have c1 : (w.alloc (.cells #[.int .i64 S, .int .i64 N] 82)).cell? ⟨w.heap.size, 1, none⟩ = some (.int .i64 N) := by rw [Lib.cell_of_heap (heap_alloc_new w _)]; rfl
  go_enter Try.func123, Try.ntmps123
  go_wp2_with fail
  refine (hh _).mono ?_
  rintro e w1 ⟨rfl, hb1⟩
  have d0 := Qt.keep hb1 c0
  have d1 := Qt.keep hb1 c1
  clear c0 c1
  go_wp2_with fail
  refine (hd _).mono ?_
  rintro e w2 ⟨rfl, hb2⟩
  go_wp2
  go_ret
  exact ⟨rfl, Qt.more (Qt.more hb (by simp) hb1) (Nat.le_trans (by simp) hb1.size) hb2⟩
end Go.Proofs.Ytocepdhjkhhpfaa
