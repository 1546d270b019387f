/-
  Rows of four numbers each that a call owns; appends of them.
-/
import Derived.Test.YtocepdhjkhhpfaaVn
namespace Go.Proofs.Ytocepdhjkhhpfaa
set_option maxRecDepth 100000
set_option linter.unusedVariables false
set_option linter.unusedSimpArgs false
open Go.RowKit Go.Sort

abbrev OwnK (w : World) (B : Nat) (v : Value) (l : List Ac) : Prop := w.ownsRow B 53 4 v l.length (flA l)
theorem OwnK.slice {w : World} {B : Nat} {v : Value} {l : List Ac} (h : OwnK w B v l) : ∃ A c, v = .slice A l.length c ∧ l.length ≤ c ∧ NowA w A l := by
  rcases h.2 with ⟨rfl, h0⟩ | ⟨g, cap, cur, rfl, hb, hh, hn, hcap, hsz, htake⟩
  · have : l = [] := by simpa using h0
    subst this
    exact ⟨none, 0, rfl, Nat.le_refl _, fun j hj => absurd hj (Nat.not_lt_zero j)⟩
  · refine ⟨some ⟨g, 0, none⟩, cap, rfl, hn, fun j hj => ?_⟩
    obtain ⟨f0, f1, f2, f3⟩ := flA_get l j hj
    refine ⟨g, 0, rfl, (World.ownsRow.lt h g rfl).2, ?_⟩
    rw [Nat.zero_add]
    exact ⟨(World.ownsRow.cellAt h (j * 4) (by omega)).trans f0, (World.ownsRow.cellAt h (j * 4 + 1) (by omega)).trans f1, (World.ownsRow.cellAt h (j * 4 + 2) (by omega)).trans f2, (World.ownsRow.cellAt h (j * 4 + 3) (by omega)).trans f3⟩
theorem OwnK.next {w w' : World} {B : Nat} {v : Value} {l : List Ac} (h : OwnK w B v l) (hb : Below w.heap.size w w') : OwnK w' B v l :=
  World.ownsRow.kept h (row := none) ⟨hb.os, hb.tape, hb.output, hb.size, fun k hk _ => hb.block k hk⟩ (by cases v.ownBlock <;> simp)
theorem info_k4 : (Try.prog.info? 53).map (fun i => (i.zero, i.size, i.bytes)) = some (some (.agg #[.int .i64 0, .int .i64 0, .int .i64 0, .int .i64 0]), 4, 32) := by kernel_rfl
theorem nowK_at {w : World} {m : List Ac} {b off : Nat} (h : ∀ j, j < m.length → A4At w b (off + j * 4) (m.getD j deadA)) :
    ∀ j u, (flA m)[j]? = some u → w.cell? ((⟨b, off, none⟩ : Addr).add j) = some u := by
  intro j u hu
  rw [Addr.add_lit]
  have hj : j < m.length * 4 := by
    rcases Nat.lt_or_ge j (m.length * 4) with h1 | h1
    · exact h1
    · rw [List.getElem?_eq_none (by rw [length_flA]; exact h1)] at hu; cases hu
  obtain ⟨h0, h1, h2, h3⟩ := h (j / 4) (by omega)
  obtain ⟨f0, f1, f2, f3⟩ := flA_get m (j / 4) (by omega)
  have hc : j % 4 = 0 ∨ j % 4 = 1 ∨ j % 4 = 2 ∨ j % 4 = 3 := by omega
  rcases hc with hp | hp | hp | hp
  · have e : j = j / 4 * 4 := by omega
    rw [e] at hu ⊢
    rw [f0] at hu
    rw [← hu]
    exact h0
  · have e : j = j / 4 * 4 + 1 := by omega
    rw [e] at hu ⊢
    rw [f1] at hu
    rw [← hu, ← Nat.add_assoc]
    exact h1
  · have e : j = j / 4 * 4 + 2 := by omega
    rw [e] at hu ⊢
    rw [f2] at hu
    rw [← hu, ← Nat.add_assoc]
    exact h2
  · have e : j = j / 4 * 4 + 3 := by omega
    rw [e] at hu ⊢
    rw [f3] at hu
    rw [← hu, ← Nat.add_assoc]
    exact h3
theorem nowK_row {w : World} {A : Option Addr} {l : List Ac} (h : NowA w A l) (hn : 0 < l.length) : ∃ b off, A = some ⟨b, off, none⟩ ∧ b < w.heap.size ∧ ∀ j, j < l.length → A4At w b (off + j * 4) (l.getD j deadA) := by
  obtain ⟨b, off, e, hlt, _⟩ := h 0 hn
  refine ⟨b, off, e, hlt, fun j hj => ?_⟩
  obtain ⟨b', off', e', _, h0⟩ := h j hj
  rw [e] at e'
  injection e' with e'
  injection e' with e1 e2
  subst e1 e2
  exact h0
theorem appendK_none {w : World} {B : Nat} {v : Value} {out : List Ac} (c : Nat) (ho : OwnK w B v out) :
    (Builtin.append_ #[48, 48] 48 #[v, .slice none 0 c]).run Try.prog w = .ok v w := by
  obtain ⟨i0, hi, hz0, hz1, hz2⟩ := info_parts info_k4
  rcases ho.2 with ⟨rfl, _⟩ | ⟨g, cap, cur, rfl, _, _, hnc, _⟩
  · simp [Builtin.append_, run_underlying Try.underlying48, sizeOf, typeInfo, hi, Builtin.lenOf, Builtin.firstCells]
  · simp [Builtin.append_, run_underlying Try.underlying48, sizeOf, typeInfo, hi, Builtin.lenOf, Builtin.firstCells, storeCells, hnc]
theorem appK_any {w : World} {B : Nat} {v : Value} {out m : List Ac} {A : Option Addr} (c : Nat) (hB : B ≤ w.heap.size) (ho : OwnK w B v out) (hm : NowA w A m) (hl : out.length + m.length ≤ 1000000) :
    ∃ v' w', (Builtin.append_ #[48, 48] 48 #[v, .slice A m.length c]).run Try.prog w = .ok v' w' ∧ OwnK w' B v' (out ++ m) ∧ w.grownBy w' v.ownBlock := by
  obtain ⟨i0, hi, hz0, hz1, hz2⟩ := info_parts info_k4
  by_cases h0 : m.length = 0
  · have : m = [] := List.eq_nil_of_length_eq_zero h0
    subst this
    cases A with
    | none => exact ⟨v, w, appendK_none c ho, by rw [List.append_nil]; exact ho, ⟨rfl, rfl, rfl, Nat.le_refl _, fun _ _ _ => rfl⟩⟩
    | some a =>
      obtain ⟨v', w', hr, h2, h3, _⟩ := run_append_own (P := Try.prog) (w := w) B 48 48 53 i0 (.agg #[.int .i64 0, .int .i64 0, .int .i64 0, .int .i64 0]) 4 32 Try.underlying48 hi hz0 hz1 hz2 rfl (by decide) v out.length (flA out) ho a 0 c [] rfl (fun j u h => by simp at h) (fun u h => by cases h) (by unfold maxLen; omega) (by omega) hB
      exact ⟨v', w', hr, by rw [List.append_nil] at h2 ⊢; exact h2, h3⟩
  · obtain ⟨b, off, rfl, _, hcell⟩ := nowK_row hm (by omega)
    obtain ⟨v', w', hr, h2, h3, _⟩ := run_append_own (P := Try.prog) (w := w) B 48 48 53 i0 (.agg #[.int .i64 0, .int .i64 0, .int .i64 0, .int .i64 0]) 4 32 Try.underlying48 hi hz0 hz1 hz2 rfl (by decide) v out.length (flA out) ho ⟨b, off, none⟩ m.length c (flA m) (length_flA m) (nowK_at hcell) (flA_cell1 m) (by unfold maxLen; omega) (by omega) hB
    refine ⟨v', w', hr, ?_, h3⟩
    show World.ownsRow _ _ _ _ _ _ (flA (out ++ m))
    rw [flA_append, List.length_append]
    exact h2
theorem nowK_new (w : World) (y : Ac) : NowA (w.alloc (.cells #[.int .i64 y.1, .int .i64 y.2.1, .int .i64 y.2.2.1, .int .i64 y.2.2.2] 53)) (some ⟨w.heap.size, 0, none⟩) [y] := fun j hj => by
  have hj1 : j = 0 := by simp at hj; omega
  subst hj1
  exact ⟨w.heap.size, 0, rfl, by simp, by simp, by simp, by simp, by simp⟩
/-- one access more, that lies in a new block -/
theorem pushK_any {w : World} {B : Nat} {v : Value} {out : List Ac} (y : Ac) (hB : B ≤ w.heap.size) (ho : OwnK w B v out) (hl : out.length ≤ 999999) :
    ∃ v' w', (Builtin.append_ #[48, 48] 48 #[v, .slice (some ⟨w.heap.size, 0, none⟩) 1 1]).run Try.prog (w.alloc (.cells #[.int .i64 y.1, .int .i64 y.2.1, .int .i64 y.2.2.1, .int .i64 y.2.2.2] 53)) = .ok v' w' ∧ OwnK w' B v' (out ++ [y]) ∧ w.grownBy w' v.ownBlock ∧ Below B w w' := by
  have ho' : OwnK (w.alloc (.cells #[.int .i64 y.1, .int .i64 y.2.1, .int .i64 y.2.2.1, .int .i64 y.2.2.2] 53)) B v out := World.ownsRow.alloc ho _
  obtain ⟨v', w', hr, h1, h2⟩ := appK_any (m := [y]) 1 (by simp; omega) ho' (nowK_new w y) (by simp; omega)
  exact ⟨v', w', hr, h1, (World.grownBy_alloc w _ _).trans h2, Below.grown ((Below.refl _ _).alloc hB _) h2 (by simp; omega) (fun k e => (World.ownsRow.lt ho' k e).1)⟩
end Go.Proofs.Ytocepdhjkhhpfaa
