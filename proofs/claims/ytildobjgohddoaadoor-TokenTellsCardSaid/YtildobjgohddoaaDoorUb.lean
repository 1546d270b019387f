/-
  Slices of items read as lists; appends of items; the parts of a text.
-/
import Derived.Test.YtildobjgohddoaaDoorUa
import Derived.Test.YtildobjgohddoaaDoorNc
import Derived.Lib.AppendZerosOnto
namespace Go.Proofs.YtildobjgohddoaaDoor
set_option linter.unusedVariables false
set_option linter.unusedSimpArgs false
open Go.RowKit Go.Sort

/-- the three cells of an item -/
def cellsE (x : Ite) : List Value := [.int .u8 x.1.toNat, .int .i64 x.2.1, .int .i64 x.2.2]
def flE (l : List Ite) : List Value := l.flatMap cellsE
theorem flE_append (l m : List Ite) : flE (l ++ m) = flE l ++ flE m := by unfold flE; simp
theorem flE_one (x : Ite) : flE [x] = cellsE x := by simp [flE]
theorem length_flE (l : List Ite) : (flE l).length = l.length * 3 := by
  induction l with
  | nil => rfl
  | cons x l ih => simp only [flE, cellsE, List.flatMap_cons, List.length_append, List.length_cons, List.length_nil] at ih ⊢; omega
theorem flE_get (l : List Ite) (j : Nat) (h : j < l.length) : (flE l)[j * 3]? = some (.int .u8 (l.getD j noE).1.toNat) ∧ (flE l)[j * 3 + 1]? = some (.int .i64 (l.getD j noE).2.1) ∧ (flE l)[j * 3 + 2]? = some (.int .i64 (l.getD j noE).2.2) := by
  induction l generalizing j with
  | nil => exact absurd h (Nat.not_lt_zero j)
  | cons x l ih =>
    cases j with
    | zero => simp [flE, cellsE]
    | succ j =>
      have := ih j (by simpa using h)
      have e1 : (j + 1) * 3 = j * 3 + 1 + 1 + 1 := by omega
      have e2 : flE (x :: l) = .int .u8 x.1.toNat :: .int .i64 x.2.1 :: .int .i64 x.2.2 :: flE l := rfl
      rw [e1, e2]
      simpa using this
theorem flE_cell1 (m : List Ite) : ∀ u ∈ flE m, u.oneCell' = true := by
  intro u hu
  obtain ⟨x, _, hx⟩ := List.mem_flatMap.1 hu
  simp only [cellsE, List.mem_cons, List.not_mem_nil, or_false] at hx
  rcases hx with rfl | rfl | rfl <;> rfl

/-- The slice at A of l.length items reads as l, below block B. -/
def RdE (w : World) (B : Nat) (A : Option Addr) (l : List Ite) : Prop :=
  ∀ j, j < l.length → ∃ b off, A = some ⟨b, off, none⟩ ∧ b < B ∧ w.cell? ⟨b, off + j * 3, none⟩ = some (.int .u8 (l.getD j noE).1.toNat) ∧ w.cell? ⟨b, off + j * 3 + 1, none⟩ = some (.int .i64 (l.getD j noE).2.1) ∧ w.cell? ⟨b, off + j * 3 + 2, none⟩ = some (.int .i64 (l.getD j noE).2.2)
theorem RdE.below {w w' : World} {B B' : Nat} {A : Option Addr} {l : List Ite} (h : RdE w B A l) (hb : Below B' w w') (hB : B ≤ B') : RdE w' B A l := fun j hj => by
  obtain ⟨b, off, e, hlt, h0, h1, h2⟩ := h j hj
  have hx : b < B' := Nat.lt_of_lt_of_le hlt hB
  exact ⟨b, off, e, hlt, (hb.cell (p := ⟨b, off + j * 3, none⟩) hx).trans h0, (hb.cell (p := ⟨b, off + j * 3 + 1, none⟩) hx).trans h1, (hb.cell (p := ⟨b, off + j * 3 + 2, none⟩) hx).trans h2⟩
theorem RdE.more {w : World} {B B' : Nat} {A : Option Addr} {l : List Ite} (h : RdE w B A l) (hB : B ≤ B') : RdE w B' A l := fun j hj => by
  obtain ⟨b, off, e, hlt, h0⟩ := h j hj
  exact ⟨b, off, e, by omega, h0⟩
theorem RdE.nil (w : World) (B : Nat) (A : Option Addr) : RdE w B A [] := fun j hj => absurd hj (Nat.not_lt_zero j)
theorem RdE.at_ {w : World} {B : Nat} {A : Option Addr} {l : List Ite} (h : RdE w B A l) (hn : 0 < l.length) :
    ∃ b off, A = some ⟨b, off, none⟩ ∧ b < B ∧ ∀ j, j < l.length → w.cell? ⟨b, off + j * 3, none⟩ = some (.int .u8 (l.getD j noE).1.toNat) ∧ w.cell? ⟨b, off + j * 3 + 1, none⟩ = some (.int .i64 (l.getD j noE).2.1) ∧ w.cell? ⟨b, off + j * 3 + 2, none⟩ = some (.int .i64 (l.getD j noE).2.2) := by
  obtain ⟨b, off, e, hlt, _⟩ := h 0 hn
  refine ⟨b, off, e, hlt, fun j hj => ?_⟩
  obtain ⟨b', off', e', _, h0⟩ := h j hj
  rw [e] at e'
  injection e' with e'
  injection e' with e1 e2
  subst e1 e2
  exact h0
def NowE (w : World) (A : Option Addr) (l : List Ite) : Prop := RdE w w.heap.size A l
theorem NowE.below {w w' : World} {A : Option Addr} {l : List Ite} (h : NowE w A l) (hb : Below w.heap.size w w') : NowE w' A l := (RdE.below h hb (Nat.le_refl _)).more hb.size
theorem nowE_nil (w : World) (A : Option Addr) : NowE w A [] := RdE.nil _ _ _

abbrev OwnE (w : World) (B : Nat) (v : Value) (l : List Ite) : Prop := w.ownsRow B 37 3 v l.length (flE l)
/-- It reads as its list. -/
def ReadsE (w : World) (v : Value) (l : List Ite) : Prop := ∃ A c, v = .slice A l.length c ∧ l.length ≤ c ∧ NowE w A l
theorem OwnE.reads {w : World} {B : Nat} {v : Value} {l : List Ite} (h : OwnE w B v l) : ReadsE w v l := by
  rcases h.2 with ⟨rfl, h0⟩ | ⟨g, cap, cur, rfl, hb, hh, hn, hcap, hsz, htake⟩
  · have : l = [] := by simpa using h0
    subst this
    exact ⟨none, 0, rfl, Nat.le_refl _, nowE_nil _ _⟩
  · refine ⟨some ⟨g, 0, none⟩, cap, rfl, hn, fun j hj => ?_⟩
    have hf := flE_get l j hj
    refine ⟨g, 0, rfl, (World.ownsRow.lt h g rfl).2, ?_, ?_, ?_⟩
    · rw [Nat.zero_add]; exact (World.ownsRow.cellAt h (j * 3) (by omega)).trans hf.1
    · rw [Nat.zero_add]; exact (World.ownsRow.cellAt h (j * 3 + 1) (by omega)).trans hf.2.1
    · rw [Nat.zero_add]; exact (World.ownsRow.cellAt h (j * 3 + 2) (by omega)).trans hf.2.2
theorem ReadsE.below {w w' : World} {v : Value} {l : List Ite} (h : ReadsE w v l) (hb : Below w.heap.size w w') : ReadsE w' v l := by
  obtain ⟨A, c, e, hc, hR⟩ := h
  exact ⟨A, c, e, hc, hR.below hb⟩

theorem info_item : (Tryd.prog.info? 37).map (fun i => (i.zero, i.size, i.bytes)) = some (some (.agg #[.int .u8 0, .int .i64 0, .int .i64 0]), 3, 24) := by kernel_rfl

theorem nowE_at {w : World} {m : List Ite} {b off : Nat} (h : ∀ j, j < m.length → w.cell? ⟨b, off + j * 3, none⟩ = some (.int .u8 (m.getD j noE).1.toNat) ∧ w.cell? ⟨b, off + j * 3 + 1, none⟩ = some (.int .i64 (m.getD j noE).2.1) ∧ w.cell? ⟨b, off + j * 3 + 2, none⟩ = some (.int .i64 (m.getD j noE).2.2)) :
    ∀ j u, (flE m)[j]? = some u → w.cell? ((⟨b, off, none⟩ : Addr).add j) = some u := by
  intro j u hu
  rw [Addr.add_lit]
  have hj : j < m.length * 3 := by
    rcases Nat.lt_or_ge j (m.length * 3) with h1 | h1
    · exact h1
    · rw [List.getElem?_eq_none (by rw [length_flE]; exact h1)] at hu; cases hu
  obtain ⟨h0, h1, h2⟩ := h (j / 3) (by omega)
  obtain ⟨f0, f1, f2⟩ := flE_get m (j / 3) (by omega)
  have hc : j % 3 = 0 ∨ j % 3 = 1 ∨ j % 3 = 2 := by omega
  rcases hc with hp | hp | hp
  · have e : j = j / 3 * 3 := by omega
    rw [e] at hu ⊢
    rw [f0] at hu
    rw [← hu]
    exact h0
  · have e : j = j / 3 * 3 + 1 := by omega
    rw [e] at hu ⊢
    rw [f1] at hu
    rw [← hu, ← Nat.add_assoc]
    exact h1
  · have e : j = j / 3 * 3 + 2 := by omega
    rw [e] at hu ⊢
    rw [f2] at hu
    rw [← hu, ← Nat.add_assoc]
    exact h2

theorem appendE_none {w : World} {B : Nat} {v : Value} {out : List Ite} (c : Nat) (ho : OwnE w B v out) :
    (Builtin.append_ #[22, 22] 22 #[v, .slice none 0 c]).run Tryd.prog w = .ok v w := by
  obtain ⟨i0, hi, hz0, hz1, hz2⟩ := info_parts info_item
  rcases ho.2 with ⟨rfl, _⟩ | ⟨g, cap, cur, rfl, _, _, hnc, _⟩
  · simp [Builtin.append_, run_underlying Tryd.underlying22, sizeOf, typeInfo, hi, Builtin.lenOf, Builtin.firstCells]
  · simp [Builtin.append_, run_underlying Tryd.underlying22, sizeOf, typeInfo, hi, Builtin.lenOf, Builtin.firstCells, storeCells, hnc]

theorem appE_any {w : World} {B : Nat} {v : Value} {out m : List Ite} {A : Option Addr} (c : Nat) (hB : B ≤ w.heap.size) (ho : OwnE w B v out) (hm : NowE w A m) (hl : out.length + m.length ≤ 1000000) :
    ∃ v' w', (Builtin.append_ #[22, 22] 22 #[v, .slice A m.length c]).run Tryd.prog w = .ok v' w' ∧ OwnE w' B v' (out ++ m) ∧ w.grownBy w' v.ownBlock := by
  obtain ⟨i0, hi, hz0, hz1, hz2⟩ := info_parts info_item
  by_cases h0 : m.length = 0
  · have : m = [] := List.eq_nil_of_length_eq_zero h0
    subst this
    cases A with
    | none => exact ⟨v, w, appendE_none c ho, by rw [List.append_nil]; exact ho, ⟨rfl, rfl, rfl, Nat.le_refl _, fun _ _ _ => rfl⟩⟩
    | some a =>
      obtain ⟨v', w', hr, h2, h3, _⟩ := run_append_own (P := Tryd.prog) (w := w) B 22 22 37 i0 (.agg #[.int .u8 0, .int .i64 0, .int .i64 0]) 3 24 Tryd.underlying22 hi hz0 hz1 hz2 rfl (by decide) v out.length (flE out) ho a 0 c [] rfl (fun j u h => by simp at h) (fun u h => by cases h) (by unfold maxLen; omega) (by omega) hB
      exact ⟨v', w', hr, by rw [List.append_nil] at h2 ⊢; exact h2, h3⟩
  · obtain ⟨b, off, rfl, _, hcell⟩ := hm.at_ (by omega)
    obtain ⟨v', w', hr, h2, h3, _⟩ := run_append_own (P := Tryd.prog) (w := w) B 22 22 37 i0 (.agg #[.int .u8 0, .int .i64 0, .int .i64 0]) 3 24 Tryd.underlying22 hi hz0 hz1 hz2 rfl (by decide) v out.length (flE out) ho ⟨b, off, none⟩ m.length c (flE m) (length_flE m) (nowE_at hcell) (flE_cell1 m) (by unfold maxLen; omega) (by omega) hB
    refine ⟨v', w', hr, ?_, h3⟩
    show World.ownsRow _ _ _ _ _ _ (flE (out ++ m))
    rw [flE_append, List.length_append]
    exact h2

theorem nowE_new (w : World) (x : Ite) : NowE (w.alloc (.cells #[.int .u8 x.1.toNat, .int .i64 x.2.1, .int .i64 x.2.2] 37)) (some ⟨w.heap.size, 0, none⟩) [x] := fun j hj => by
  have hj1 : j = 0 := by simp at hj; omega
  subst hj1
  exact ⟨w.heap.size, 0, rfl, by simp, by simp, by simp, by simp⟩
/-- one item more, that lies in a new block -/
theorem pushE_any {w : World} {B : Nat} {v : Value} {out : List Ite} (x : Ite) (hB : B ≤ w.heap.size) (ho : OwnE w B v out) (hl : out.length ≤ 999999) :
    ∃ v' w', (Builtin.append_ #[22, 22] 22 #[v, .slice (some ⟨w.heap.size, 0, none⟩) 1 1]).run Tryd.prog (w.alloc (.cells #[.int .u8 x.1.toNat, .int .i64 x.2.1, .int .i64 x.2.2] 37)) = .ok v' w' ∧ OwnE w' B v' (out ++ [x]) ∧ (w.alloc (.cells #[.int .u8 x.1.toNat, .int .i64 x.2.1, .int .i64 x.2.2] 37)).grownBy w' v.ownBlock ∧ Below B w w' := by
  have ho' : OwnE (w.alloc (.cells #[.int .u8 x.1.toNat, .int .i64 x.2.1, .int .i64 x.2.2] 37)) B v out := World.ownsRow.alloc ho _
  obtain ⟨v', w', hr, h1, h2⟩ := appE_any (m := [x]) 1 (by simp; omega) ho' (nowE_new w x) (by simp; omega)
  exact ⟨v', w', hr, h1, h2, Below.grown ((Below.refl _ _).alloc hB _) h2 (by simp; omega) (fun k e => (World.ownsRow.lt ho' k e).1)⟩

/-! ### texts -/
def str (l : List UInt8) : ByteArray := ⟨l.toArray⟩
theorem str_list (s : ByteArray) : str s.data.toList = s := by cases s; rfl
theorem str_data (l : List UInt8) : (str l).data.toList = l := rfl
theorem str_size (l : List UInt8) : (str l).size = l.length := by show l.toArray.size = _; simp
theorem str_append (l m : List UInt8) : str l ++ str m = str (l ++ m) := by
  apply ByteArray.ext
  simp [str]
theorem str_take (l : List UInt8) (k : Nat) : (str l).extract 0 k = str (l.take k) := by
  apply ByteArray.ext
  simp [str]
theorem str_drop (l : List UInt8) (k : Nat) : (str l).extract k l.length = str (l.drop k) := by
  apply ByteArray.ext
  apply Array.ext'
  simp [str]
  exact List.take_of_length_le (by simp)
theorem str_ne {l : List UInt8} (h : l ≠ []) : (str l).toList ≠ [] := by rw [ByteArray.toList_eq]; exact h

end Go.Proofs.YtildobjgohddoaaDoor
