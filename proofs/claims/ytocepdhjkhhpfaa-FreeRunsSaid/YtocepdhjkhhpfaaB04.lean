/-
  Texts that the claims of this seat share, part 4.
-/
import Derived.Test.YtocepdhjkhhpfaaB02
import Derived.Test.YtocepdhjkhhpfaaB03
import Derived.WideKeyElems
import Derived.Maps.OwnSet
import Derived.Maps.Views
import Derived.DeepKeys4
import Derived.Test.YtocepdhjkhhpfaaB01
set_option linter.unusedVariables false
set_option linter.unusedSimpArgs false
namespace Go.Proofs.Ytocepdhjkhhpfaa
set_option maxRecDepth 100000
set_option linter.unusedVariables false
set_option linter.unusedSimpArgs false
open Go.RowKit Go.Sort
open Go.ChangeMaps (setBlock heap_setBlock_same)
open Go.Maps (Keyed)

abbrev fnK (f : Nat) : Value := .func (.func f) #[] #[]
abbrev keyW (j p : Int) : Value := .agg #[.int .i64 j, .int .i64 p]
abbrev deedV (f g : Nat) : Value := .agg #[fnK f, fnK g]
theorem laidOutW : laidOutB Try.prog = true := by kernel_rfl
theorem stKeyed : Keyed Try.prog 96 :=
  Keyed.of_law (deep_law_laid laidOutW (m := 2) (by omega) (of_decide_eq_true (by kernel_rfl)) (by kernel_rfl) (by rw [Try.underlying96]))
/-- the key, and what is done, of the six places -/
def keyN (q : Nat) : Value := match q with | 0 => keyW 1 0 | 1 => keyW 1 1 | 2 => keyW 1 2 | 3 => keyW 2 0 | 4 => keyW 2 1 | _ => keyW 2 2
def valN (q : Nat) : Value := match q with
  | 0 => deedV 75 76
  | 1 => deedV 77 78
  | 2 => deedV 79 80
  | 3 => deedV 75 81
  | 4 => deedV 82 83
  | _ => deedV 84 85
theorem key_reads {q : Nat} (h : q < 6) : ∃ l, keyOf Try.prog 96 (keyN q) = some l := by
  rcases (show q = 0 ∨ q = 1 ∨ q = 2 ∨ q = 3 ∨ q = 4 ∨ q = 5 by omega) with rfl | rfl | rfl | rfl | rfl | rfl
  all_goals exact Option.isSome_iff_exists.1 (by kernel_rfl)
theorem key_reads0 : ∃ l, keyOf Try.prog 96 (keyW 0 0) = some l := Option.isSome_iff_exists.1 (by kernel_rfl)
theorem keyN_inj {q p : Nat} (hq : q < 6) (hp : p < 6) (h : keyN q = keyN p) : q = p := by
  rcases (show q = 0 ∨ q = 1 ∨ q = 2 ∨ q = 3 ∨ q = 4 ∨ q = 5 by omega) with rfl | rfl | rfl | rfl | rfl | rfl <;>
  rcases (show p = 0 ∨ p = 1 ∨ p = 2 ∨ p = 3 ∨ p = 4 ∨ p = 5 by omega) with rfl | rfl | rfl | rfl | rfl | rfl <;> first | rfl | (simp [keyN] at h)
theorem keyN_zero {q : Nat} (hq : q < 6) : keyN q ≠ keyW 0 0 := by
  rcases (show q = 0 ∨ q = 1 ∨ q = 2 ∨ q = 3 ∨ q = 4 ∨ q = 5 by omega) with rfl | rfl | rfl | rfl | rfl | rfl <;> simp [keyN]
/-- what a map holds while some are left to be put -/
structure EsOk (m : Nat) (es : Array MapEntry) : Prop where
  all : ∀ y ∈ es.toList, ∃ q, q < 6 ∧ m.testBit q = false ∧ y.key = keyN q ∧ y.val = valN q
  has : ∀ q, q < 6 → m.testBit q = false → ∃ y ∈ es.toList, y.key = keyN q
theorem esOk_new : EsOk 63 #[] := ⟨fun y hy => by simp at hy, fun q hq h => by
  rcases (show q = 0 ∨ q = 1 ∨ q = 2 ∨ q = 3 ∨ q = 4 ∨ q = 5 by omega) with rfl | rfl | rfl | rfl | rfl | rfl <;> simp [Nat.testBit] at h⟩
theorem EsOk.reads {m : Nat} {es : Array MapEntry} (h : EsOk m es) : ∀ e ∈ es.toList, ∃ l, keyOf Try.prog 96 e.key = some l := by
  intro e he
  obtain ⟨q, hq, _, hk, _⟩ := h.all e he
  rw [hk]
  exact key_reads hq
theorem EsOk.no {m q : Nat} {es : Array MapEntry} (h : EsOk m es) (hq : q < 6) (hm : m.testBit q = true) (w : World) : (Instr.findKey 96 (keyN q) es.toList).run Try.prog w = .ok none w := by
  obtain ⟨l, hl⟩ := key_reads hq
  rcases stKeyed.find w hl es.toList h.reads with ⟨h1, _⟩ | ⟨j, e, h1, h2, h3⟩
  · exact h1
  · obtain ⟨p, hp, hb, hk, _⟩ := h.all e (List.mem_of_getElem? h2)
    rw [hk] at h3
    have := keyN_inj hp hq h3
    subst this
    rw [hm] at hb
    cases hb
theorem EsOk.zero {m : Nat} {es : Array MapEntry} (h : EsOk m es) (w : World) : (Instr.findKey 96 (keyW 0 0) es.toList).run Try.prog w = .ok none w := by
  obtain ⟨l, hl⟩ := key_reads0
  rcases stKeyed.find w hl es.toList h.reads with ⟨h1, _⟩ | ⟨j, e, h1, h2, h3⟩
  · exact h1
  · obtain ⟨p, hp, hb, hk, _⟩ := h.all e (List.mem_of_getElem? h2)
    rw [hk] at h3
    exact absurd h3 (keyN_zero hp)
theorem EsOk.yes {m q : Nat} {es : Array MapEntry} (h : EsOk m es) (hq : q < 6) (hm : m.testBit q = false) (w : World) : ∃ j, (Instr.findKey 96 (keyN q) es.toList).run Try.prog w = .ok (some (j, valN q)) w := by
  obtain ⟨l, hl⟩ := key_reads hq
  rcases stKeyed.find w hl es.toList h.reads with ⟨_, h1⟩ | ⟨j, e, h1, h2, h3⟩
  · obtain ⟨y, hy, hk⟩ := h.has q hq hm
    exact absurd hk (h1 y hy)
  · obtain ⟨p, hp, hb, hk, hv⟩ := h.all e (List.mem_of_getElem? h2)
    rw [hk] at h3
    have := keyN_inj hp hq h3
    subst this
    exact ⟨j, by rw [h1, hv]⟩
theorem testBit_sub {m q p : Nat} (hm : m < 64) (hq : q < 6) (hp : p < 6) (h : m.testBit q = true) : (m - 2 ^ q).testBit p = if p = q then false else m.testBit p := by
  have : ∀ m : Fin 64, ∀ q : Fin 6, ∀ p : Fin 6, (m : Nat).testBit q = true → ((m : Nat) - 2 ^ (q : Nat)).testBit p = if (p : Nat) = (q : Nat) then false else (m : Nat).testBit p := by decide +kernel
  exact this ⟨m, hm⟩ ⟨q, hq⟩ ⟨p, hp⟩ h
theorem EsOk.put {m q : Nat} {es : Array MapEntry} (h : EsOk m es) (hm : m < 64) (hq : q < 6) (hb : m.testBit q = true) (c : Nat) : EsOk (m - 2 ^ q) (es.push ⟨keyN q, valN q, c⟩) := by
  refine ⟨fun y hy => ?_, fun p hp hpb => ?_⟩
  · rw [Array.toList_push] at hy
    rcases List.mem_append.1 hy with hy | hy
    · obtain ⟨p, hp, h1, h2, h3⟩ := h.all y hy
      refine ⟨p, hp, ?_, h2, h3⟩
      rw [testBit_sub hm hq hp hb]
      split
      · rfl
      · exact h1
    · obtain rfl : y = ⟨keyN q, valN q, c⟩ := by simpa using hy
      exact ⟨q, hq, by rw [testBit_sub hm hq hq hb, if_pos rfl], rfl, rfl⟩
  · rw [testBit_sub hm hq hp hb] at hpb
    by_cases e : p = q
    · subst e
      exact ⟨⟨keyN p, valN p, c⟩, by simp, rfl⟩
    · rw [if_neg e] at hpb
      obtain ⟨y, hy, hk⟩ := h.has p hp hpb
      exact ⟨y, by simp [hy], hk⟩
theorem mapW_put {W : World} {b m q : Nat} {es : Array MapEntry} {clock : Nat} (hb : W.heap[b]? = some (.map es clock)) (h : EsOk m es) (hq : q < 6) (hm : m.testBit q = true) :
    (Instr.mapUpdate 66 (.map (some b)) (keyN q) (valN q)).run Try.prog W = .ok () (setBlock W b (.map (es.push ⟨keyN q, valN q, clock⟩) (clock + 1))) := by
  obtain ⟨l, hl⟩ := key_reads hq
  simp [Instr.mapUpdate, run_underlying Try.underlying66, MapKept.run_getObj_map hb, stKeyed.check W false hl, h.no hq hm W, MapKept.run_setObj_map _ hb, Result.andThen, setBlock]
/-- the map, whole -/
def MapOk (w : World) (b : Nat) : Prop := ∃ es clock, w.heap[b]? = some (.map es clock) ∧ EsOk 0 es
theorem MapOk.get {w : World} {b q : Nat} (h : MapOk w b) (hq : q < 6) : (Instr.lookup 66 (.map (some b)) (keyN q) true).run Try.prog w = .ok (.tuple #[valN q, .bool true]) w := by
  obtain ⟨es, clock, hb, hE⟩ := h
  obtain ⟨l, hl⟩ := key_reads hq
  obtain ⟨j, hf⟩ := hE.yes hq (by simp) w
  simp [Instr.lookup, run_underlying Try.underlying66, MapKept.run_getObj_map hb, stKeyed.check w _ hl, hf, Result.andThen]
theorem MapOk.get0 {w : World} {b : Nat} (h : MapOk w b) : (Instr.lookup 66 (.map (some b)) (keyW 0 0) true).run Try.prog w = 
    .ok (.tuple #[.agg #[.nilFunc, .nilFunc], .bool false]) w := by
  obtain ⟨es, clock, hb, hE⟩ := h
  obtain ⟨l, hl⟩ := key_reads0
  have hf := hE.zero w
  have hz : (zeroValue 93).run Try.prog w = .ok (.agg #[.nilFunc, .nilFunc]) w := by kernel_rfl
  simp [Instr.lookup, run_underlying Try.underlying66, MapKept.run_getObj_map hb, stKeyed.check w _ hl, hf, hz, Result.andThen]
theorem belowW_setBlock {B b : Nat} {w0 w : World} (h : Below B w0 w) (hB : B ≤ b) (o : Obj) : Below B w0 (setBlock w b o) := by
  refine ⟨h.os, h.tape, h.output, ?_, fun k hk => ?_⟩
  · show _ ≤ (w.heap.setIfInBounds b o).size
    rw [Array.size_setIfInBounds]
    exact h.size
  · show (w.heap.setIfInBounds b o)[k]? = _
    rw [Array.getElem?_setIfInBounds, if_neg (by omega)]
    exact h.block k hk
def lstW (m : Nat) : Array Bool := (Array.range 21).map fun i => decide (i < 19) && !(i % 3 == 0 && decide (3 ≤ i) && m.testBit (i / 3 - 1))
def cntW (m : Nat) : Nat := ((List.range 6).filter fun q => m.testBit q).length
theorem below_drewW (w : World) : Below w.heap.size w w.drew := ⟨rfl, rfl, rfl, Nat.le_refl _, fun k _ => rfl⟩
theorem map_new (W : World) {b : Nat} (h : W.heap.size = b) : ∃ es clock, (W.alloc (.map #[] 0)).heap[b]? = some (.map es clock) ∧ EsOk 63 es := by
  subst h
  exact ⟨_, _, heap_alloc_new W _, esOk_new⟩
theorem map_next {W : World} {b m q : Nat} (hE : ∃ es clock, W.heap[b]? = some (.map es clock) ∧ EsOk m es) (hm : m < 64) (hq : q < 6) (hb : m.testBit q = true) :
    ∃ W', (Instr.mapUpdate 66 (.map (some b)) (keyN q) (valN q)).run Try.prog W = .ok () W' ∧ (∃ es clock, W'.heap[b]? = some (.map es clock) ∧ EsOk (m - 2 ^ q) es) ∧ ∀ {w : World}, Below b w W → Below b w W' := by
  obtain ⟨es, clock, h1, h2⟩ := hE
  exact ⟨_, mapW_put h1 h2 hq hb, ⟨_, _, heap_setBlock_same h1 _, h2.put hm hq hb _⟩, fun hB => belowW_setBlock hB (Nat.le_refl _) _⟩
def DeedsR (w : World) (r : Ending) (w' : World) : Prop := r = .returned (.map (some w.heap.size)) ∧ MapOk w' w.heap.size ∧ Below w.heap.size w w'
set_option maxHeartbeats 4000000 in
theorem deeds_any (w : World) : Calls Try.prog 58 #[] w (DeedsR w) := by
  have hmm := @run_makeMap Try.prog
  go_enter Try.func58, Try.ntmps58
  go_wp2_with fail
  refine Qt.region_set (fun W => Below w.heap.size w W) (fun (a9 : Act) (w9 : World) => a9 = ⟨#[.map (some w.heap.size), .map (some w.heap.size), keyN 0, valN 0, keyN 1, valN 1, keyN 2, valN 2, keyN 3, valN 3, keyN 4, valN 4, keyN 5, valN 5, .map (some w.heap.size)], []⟩ ∧ MapOk w9 w.heap.size ∧ Below w.heap.size w w9)
    [(true, 1), (true, 2), (true, 4), (true, 5), (true, 7), (true, 8), (true, 10), (true, 11), (true, 13), (true, 14), (true, 16), (true, 17), (false, 0)] [(false, 19), (false, 20)] lstW (fun q => 3 * q + 3) cntW
    (fun m a W => a = ⟨#[.map none, .map (some w.heap.size), keyN 0, valN 0, keyN 1, valN 1, keyN 2, valN 2, keyN 3, valN 3, keyN 4, valN 4, keyN 5, valN 5, undef], []⟩ ∧ ∃ es clock, W.heap[w.heap.size]? = some (.map es clock) ∧ EsOk m es)
    (by kernel_rfl) (by kernel_rfl) (by kernel_rfl) (by kernel_rfl) (by kernel_rfl) (by kernel_rfl) (by kernel_rfl) (by kernel_rfl) (by rfl) (below_drewW _) ?_ ?_ ?_ ?_
  · skip
    refine ⟨_, _, keyN 0, rfl, rfl, ⟨rfl, fun W hW => by first | exact ⟨rfl, rfl⟩ | (simp only [Act.eval, execOp]; go_simp; try rfl)⟩, ?_⟩
    simp only [Act.put, List.setIfInBounds_toArray, List.set_cons_succ, List.set_cons_zero]
    refine ⟨_, _, valN 0, rfl, rfl, ⟨rfl, fun W hW => by first | exact ⟨rfl, rfl⟩ | (simp only [Act.eval, execOp]; go_simp; try rfl)⟩, ?_⟩
    simp only [Act.put, List.setIfInBounds_toArray, List.set_cons_succ, List.set_cons_zero]
    refine ⟨_, _, keyN 1, rfl, rfl, ⟨rfl, fun W hW => by first | exact ⟨rfl, rfl⟩ | (simp only [Act.eval, execOp]; go_simp; try rfl)⟩, ?_⟩
    simp only [Act.put, List.setIfInBounds_toArray, List.set_cons_succ, List.set_cons_zero]
    refine ⟨_, _, valN 1, rfl, rfl, ⟨rfl, fun W hW => by first | exact ⟨rfl, rfl⟩ | (simp only [Act.eval, execOp]; go_simp; try rfl)⟩, ?_⟩
    simp only [Act.put, List.setIfInBounds_toArray, List.set_cons_succ, List.set_cons_zero]
    refine ⟨_, _, keyN 2, rfl, rfl, ⟨rfl, fun W hW => by first | exact ⟨rfl, rfl⟩ | (simp only [Act.eval, execOp]; go_simp; try rfl)⟩, ?_⟩
    simp only [Act.put, List.setIfInBounds_toArray, List.set_cons_succ, List.set_cons_zero]
    refine ⟨_, _, valN 2, rfl, rfl, ⟨rfl, fun W hW => by first | exact ⟨rfl, rfl⟩ | (simp only [Act.eval, execOp]; go_simp; try rfl)⟩, ?_⟩
    simp only [Act.put, List.setIfInBounds_toArray, List.set_cons_succ, List.set_cons_zero]
    refine ⟨_, _, keyN 3, rfl, rfl, ⟨rfl, fun W hW => by first | exact ⟨rfl, rfl⟩ | (simp only [Act.eval, execOp]; go_simp; try rfl)⟩, ?_⟩
    simp only [Act.put, List.setIfInBounds_toArray, List.set_cons_succ, List.set_cons_zero]
    refine ⟨_, _, valN 3, rfl, rfl, ⟨rfl, fun W hW => by first | exact ⟨rfl, rfl⟩ | (simp only [Act.eval, execOp]; go_simp; try rfl)⟩, ?_⟩
    simp only [Act.put, List.setIfInBounds_toArray, List.set_cons_succ, List.set_cons_zero]
    refine ⟨_, _, keyN 4, rfl, rfl, ⟨rfl, fun W hW => by first | exact ⟨rfl, rfl⟩ | (simp only [Act.eval, execOp]; go_simp; try rfl)⟩, ?_⟩
    simp only [Act.put, List.setIfInBounds_toArray, List.set_cons_succ, List.set_cons_zero]
    refine ⟨_, _, valN 4, rfl, rfl, ⟨rfl, fun W hW => by first | exact ⟨rfl, rfl⟩ | (simp only [Act.eval, execOp]; go_simp; try rfl)⟩, ?_⟩
    simp only [Act.put, List.setIfInBounds_toArray, List.set_cons_succ, List.set_cons_zero]
    refine ⟨_, _, keyN 5, rfl, rfl, ⟨rfl, fun W hW => by first | exact ⟨rfl, rfl⟩ | (simp only [Act.eval, execOp]; go_simp; try rfl)⟩, ?_⟩
    simp only [Act.put, List.setIfInBounds_toArray, List.set_cons_succ, List.set_cons_zero]
    refine ⟨_, _, valN 5, rfl, rfl, ⟨rfl, fun W hW => by first | exact ⟨rfl, rfl⟩ | (simp only [Act.eval, execOp]; go_simp; try rfl)⟩, ?_⟩
    simp only [Act.put, List.setIfInBounds_toArray, List.set_cons_succ, List.set_cons_zero]
    refine ⟨_, rfl, ?_⟩
    have hmn := map_new w.drew (b := w.heap.size) rfl
    have hbn := (below_drewW w).alloc (Nat.le_refl _) (.map #[] 0)
    go_wp2_with fail
    obtain ⟨es, c, g1, g2⟩ := hmn
    exact ⟨rfl, hbn, rfl, es, ⟨c, g1⟩, g2⟩
  · rintro m q a W hq hm hb hB ⟨rfl, hE⟩
    obtain ⟨W', hrun, hE', hB'⟩ := map_next hE hm hq hb
    have hB2 := hB' hB
    clear hB' hE
    rcases (show q = 0 ∨ q = 1 ∨ q = 2 ∨ q = 3 ∨ q = 4 ∨ q = 5 by omega) with rfl | rfl | rfl | rfl | rfl | rfl
    all_goals
      refine ⟨_, rfl, ?_⟩
      go_wp2_with fail
      exact ⟨rfl, hB2, rfl, hE'⟩
  · rintro a W hB ⟨rfl, hE⟩
    refine ⟨_, rfl, ?_⟩
    go_wp2_with fail
    refine ⟨rfl, hB, _, rfl, ?_⟩
    go_wp2_with fail
    exact ⟨rfl, hB, rfl, hE, hB⟩
  · rintro a W ⟨rfl, hM, hB⟩
    go_wp2
    go_ret
    exact ⟨rfl, hM, hB⟩
end Go.Proofs.Ytocepdhjkhhpfaa
namespace Go.Proofs.Ytocepdhjkhhpfaa
set_option maxRecDepth 100000
set_option linter.unusedVariables false
set_option linter.unusedSimpArgs false
open Go.RowKit Go.Sort

theorem appW_any {w : World} {B : Nat} {v : Value} {out m : List Int} {A : Option Addr} (c : Nat) (hB : B ≤ w.heap.size) (ho : Own w B v out) (hm : Now w A m) (hl : out.length + m.length ≤ 17592186044416) :
    ∃ v' w', (Builtin.append_ #[23, 23] 23 #[v, .slice A m.length c]).run Try.prog w = .ok v' w' ∧ Own w' B v' (out ++ m) ∧ w.grownBy w' v.ownBlock := by
  obtain ⟨i0, hi, hz0, hz1, hz2⟩ := info_parts info_int
  by_cases h0 : m.length = 0
  · have : m = [] := List.eq_nil_of_length_eq_zero h0
    subst this
    cases A with
    | none => exact ⟨v, w, append_none c ho, by rw [List.append_nil]; exact ho, ⟨rfl, rfl, rfl, Nat.le_refl _, fun _ _ _ => rfl⟩⟩
    | some a =>
      obtain ⟨v', w', hr, h2, h3, _⟩ := run_append_own (P := Try.prog) (w := w) B 23 23 3 i0 (.int .i64 0) 1 8 Try.underlying23 hi hz0 hz1 hz2 rfl (by decide) v out.length (fl out) ho a 0 c [] rfl (fun j u h => by simp at h) (fun u h => by cases h) (by unfold maxLen; omega) (by omega) hB
      exact ⟨v', w', hr, by rw [List.append_nil] at h2 ⊢; exact h2, h3⟩
  · obtain ⟨b, off, rfl, _, hcell⟩ := hm.at_ (by omega)
    obtain ⟨v', w', hr, h2, h3, _⟩ := run_append_own (P := Try.prog) (w := w) B 23 23 3 i0 (.int .i64 0) 1 8 Try.underlying23 hi hz0 hz1 hz2 rfl (by decide) v out.length (fl out) ho ⟨b, off, none⟩ m.length c (fl m) (length_fl m) (fl_at hcell) (fl_cell1 m) (by unfold maxLen; omega) (by omega) hB
    refine ⟨v', w', hr, ?_, h3⟩
    show World.ownsRow _ _ _ _ _ _ (fl (out ++ m))
    rw [fl_append, List.length_append]
    exact h2
/-- one number more, that lies in a new block -/
theorem pushW_any {w : World} {B : Nat} {v : Value} {out : List Int} (x : Int) (hB : B ≤ w.heap.size) (ho : Own w B v out) (hl : out.length < 17592186044416) :
    ∃ v' w', (Builtin.append_ #[23, 23] 23 #[v, .slice (some ⟨w.heap.size, 0, none⟩) 1 1]).run Try.prog (w.alloc (.cells #[.int .i64 x] 3)) = .ok v' w' ∧ Own w' B v' (out ++ [x]) ∧ w.grownBy w' v.ownBlock := by
  have hm : Now (w.alloc (.cells #[.int .i64 x] 3)) (some ⟨w.heap.size, 0, none⟩) [x] := fun j hj => by
    have hj1 : j = 0 := by simp at hj; omega
    subst hj1
    exact ⟨w.heap.size, 0, rfl, by simp, by simp⟩
  have ho' : Own (w.alloc (.cells #[.int .i64 x] 3)) B v out := World.ownsRow.alloc ho _
  obtain ⟨v', w', hr, h1, h2⟩ := appW_any (m := [x]) 1 (by simp; omega) ho' hm (by simp; omega)
  exact ⟨v', w', hr, h1, (World.grownBy_alloc w _ _).trans h2⟩
def CloneR (l : List Int) (w : World) (r : Ending) (w' : World) : Prop := ∃ v, r = .returned v ∧ Own w' w.heap.size v l ∧ Below w.heap.size w w'
theorem eql_nil10 (A : Option Addr) (n c : Nat) (w : World) : (binOp .eql 23 (.slice A n c) (.slice none 0 0)).run Try.prog w = .ok (.bool A.isNone) w := by
  have h := run_neq_slice_nil_any (P := Try.prog) w 23 3 A n c 0 0 Try.underlying23
  simp only [binOp] at h ⊢
  cases A <;> simp_all [Op.equal, Op.maxDepth, Lib.run_equalIn_slice_nil w 9999 23 3 _ n c 0 0 Try.underlying23]
theorem now_none {w : World} {l : List Int} (h : Now w none l) : l = [] := by
  cases l with
  | nil => rfl
  | cons x r => obtain ⟨b, off, e, _⟩ := h 0 (by simp); cases e
set_option maxHeartbeats 1000000 in
theorem clone_any (A : Option Addr) (l : List Int) (c : Nat) (w : World) (hR : Now w A l) (hl : l.length ≤ 17592186044416) :
    Calls Try.prog 57 #[.slice A l.length c] w (CloneR l w) := by
  have heq := eql_nil10 A l.length c
  cases A with
  | none =>
    have h0 := now_none hR
    subst h0
    go_enter Try.func57, Try.ntmps57
    simp only [List.length_nil, Option.isNone_none] at heq
    go_wp2
    go_ret
    exact ⟨_, rfl, World.ownsRow_nil _ _ _ _, Below.refl _ _⟩
  | some a =>
    have hB0 : Below w.heap.size w (w.alloc (.cells #[] 3)) := (Below.refl _ w).alloc (Nat.le_refl _) _
    have ho : Own (w.alloc (.cells #[] 3)) w.heap.size (.slice (some ⟨w.heap.size, 0, none⟩) 0 0) [] := World.ownsRow_lit (size := 1) w #[] 0 (Nat.le_refl _) (by unfold maxLen; omega) (by simp)
    obtain ⟨v', w', hrun, hown, hgr⟩ := appW_any c (by simp) ho (Now.below hR hB0) (by simp; omega)
    have HO := Lib.hid hown
    have HB : Hid (Below w.heap.size w w') := hB0.grown hgr (by simp) (fun k e => by simp [Value.ownBlock] at e; omega)
    clear hown hgr ho hB0
    simp only [Option.isNone_some] at heq
    go_enter Try.func57, Try.ntmps57
    go_wp2_with (at_builtin; refine Lib.wpList_append_run _ rfl (.tmp 5) (.tmp 6) 23 23 rfl _ _ rfl rfl _ _ hrun ?_)
    go_ret
    exact ⟨_, rfl, HO.out, HB.out⟩
theorem results_tmp4 {fn : Func} {t u v x : Tmp} (h : fn.results = #[.tmp t, .tmp u, .tmp v, .tmp x]) (tmps : Array Value) (P : Program) (w : World) :
    (results fn tmps).run P w = .ok (.tuple #[tmps.getD t undef, tmps.getD u undef, tmps.getD v undef, tmps.getD x undef]) w := by
  simp [results, h]
/-- what Do answers -/
def DoAns (d : DoT) (w : World) (r : Ending) (w' : World) : Prop := ∃ A c, r = .returned (.tuple #[.slice A d.1.length c, .int .i64 d.2.1, .bool d.2.2.1, .int .i64 d.2.2.2]) ∧ d.1.length ≤ c ∧ Now w' A d.1 ∧ Below w.heap.size w w'
theorem own_slice {w : World} {B : Nat} {v : Value} {l : List Int} (h : Own w B v l) : ∃ A c, v = .slice A l.length c ∧ l.length ≤ c ∧ Now w A l := h.reads
end Go.Proofs.Ytocepdhjkhhpfaa
