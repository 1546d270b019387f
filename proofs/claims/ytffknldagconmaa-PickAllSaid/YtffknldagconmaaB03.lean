/-
  Texts that the claims of this seat share, part 3.
-/
import Derived.Test.YtffknldagconmaaB01
import Derived.Test.YtffknldagconmaaB02
import Derived.Laws.Rows
set_option linter.unusedVariables false
set_option linter.unusedSimpArgs false
namespace Go.Proofs.Ytffknldagconmaa
set_option maxRecDepth 100000
set_option linter.unusedVariables false
set_option linter.unusedSimpArgs false
open Go.RowKit Go.Sort

/-- up to where a place of the tree tells, so many workers seen -/
def hiN (k m : Nat) : Nat := if m ≤ k then m else (List.range (k + 1)).foldl (fun a c => if 1 ≤ c ∧ c + lowN c = m then c else a) (m - lowN m)
theorem hi_fin : ∀ k : Fin 11, hiN k.1 (k.1 + 1) = k.1 ∧ (k.1 + 1 + lowN (k.1 + 1) < 12 → hiN k.1 (k.1 + 1 + lowN (k.1 + 1)) = k.1 + 1 - lowN (k.1 + 1) ∧ hiN (k.1 + 1) (k.1 + 1 + lowN (k.1 + 1)) = k.1 + 1) ∧ ∀ m : Fin 12, m.1 ≠ k.1 + 1 → m.1 ≠ k.1 + 1 + lowN (k.1 + 1) → hiN (k.1 + 1) m.1 = hiN k.1 m.1 := by decide +kernel
theorem hi_zero : ∀ m : Fin 12, hiN 0 m.1 = m.1 - lowN m.1 := by decide +kernel
theorem hi_all {k : Nat} (hk : k < 11) : hiN k (k + 1) = k ∧ (k + 1 + lowN (k + 1) < 12 → hiN k (k + 1 + lowN (k + 1)) = k + 1 - lowN (k + 1) ∧ hiN (k + 1) (k + 1 + lowN (k + 1)) = k + 1) ∧ ∀ m, m < 12 → m ≠ k + 1 → m ≠ k + 1 + lowN (k + 1) → hiN (k + 1) m = hiN k m := by
  obtain ⟨h1, h2, h3⟩ := hi_fin ⟨k, hk⟩
  exact ⟨h1, h2, fun m hm => h3 ⟨m, hm⟩⟩
/-- the tree, so many workers seen -/
def fenC (l : List Int) (k : Nat) : List Int := rowF (l.length + 1) fun m => (cntP l (hiN k m) : Int) - (cntP l (m - lowN m) : Int)
theorem fenC_len (l : List Int) (k : Nat) : (fenC l k).length = l.length + 1 := rowF_len _ _
theorem fenC_zero {l : List Int} (h : l.length ≤ 11) : fenC l 0 = List.replicate (l.length + 1) 0 := by
  refine List.ext_getElem? fun i => ?_
  unfold fenC rowF
  by_cases hi : i < l.length + 1
  · rw [List.getElem?_map, List.getElem?_range hi, List.getElem?_replicate, if_pos hi]
    have := hi_zero ⟨i, by omega⟩
    simp only at this
    simp [this]
  · rw [List.getElem?_eq_none (by simp; omega), List.getElem?_eq_none (by simp; omega)]
theorem fenC_all (l : List Int) : fenC l l.length = fenL l := by
  unfold fenC fenL
  refine rowF_congr fun m hm => ?_
  unfold fenA hiN
  rw [if_pos (by omega)]
theorem fenC_get (l : List Int) {k : Nat} (h : l.length ≤ 11) (hk : k < l.length) : (fenC l k).getD (k + 1) 0 = (cntP l k : Int) - (cntP l (k + 1 - lowN (k + 1)) : Int) := by
  unfold fenC
  rw [rowF_get _ (by omega), (hi_all (k := k) (by omega)).1]
/-- one worker seen: the tree at its own place -/
def fenD (l : List Int) (k : Nat) : List Int := (fenC l k).set (k + 1) (fenA l (k + 1))
theorem fenD_len (l : List Int) (k : Nat) : (fenD l k).length = l.length + 1 := by unfold fenD; rw [List.length_set, fenC_len]
theorem fenD_own (l : List Int) {k : Nat} (hk : k < l.length) : (fenD l k).getD (k + 1) 0 = fenA l (k + 1) := by
  have : k + 1 < (fenC l k).length := by rw [fenC_len]; omega
  unfold fenD
  simp [List.getD_eq_getElem?_getD, List.getElem?_set, this]
theorem fenD_yes (l : List Int) {k : Nat} (h : l.length ≤ 11) (hk : k < l.length) (hx : 0 < l.getD k 0) : (fenC l k).set (k + 1) ((fenC l k).getD (k + 1) 0 + 1) = fenD l k := by
  unfold fenD
  rw [fenC_get l h hk]
  congr 1
  have := live_cnt hx
  unfold fenA
  omega
theorem fenD_no (l : List Int) {k : Nat} (h : l.length ≤ 11) (hk : k < l.length) (hx : ¬ 0 < l.getD k 0) : fenC l k = fenD l k := by
  unfold fenD
  have e : fenA l (k + 1) = (fenC l k).getD (k + 1) 0 := by
    rw [fenC_get l h hk]
    have e1 := cntP_succ l k
    rw [livI_no hx] at e1
    unfold fenA
    omega
  rw [e]
  refine List.ext_getElem? fun i => ?_
  rw [List.getElem?_set]
  split
  · rename_i h1
    subst h1
    have hl : k + 1 < (fenC l k).length := by rw [fenC_len]; omega
    rw [if_pos hl, List.getD_eq_getElem?_getD, List.getElem?_eq_getElem hl]; rfl
  · rfl
theorem fenD_up (l : List Int) {k : Nat} (h : l.length ≤ 11) (hk : k < l.length) (hu : k + 1 + lowN (k + 1) ≤ l.length) : (fenD l k).getD (k + 1 + lowN (k + 1)) 0 = (cntP l (k + 1 - lowN (k + 1)) : Int) - (cntP l (k + 1 + lowN (k + 1) - lowN (k + 1 + lowN (k + 1))) : Int) := by
  have hlo := lowN_bd (n := k + 1) (by omega)
  have h2 := ((hi_all (k := k) (by omega)).2.1 (by omega)).1
  have hne : ¬ k + 1 = k + 1 + lowN (k + 1) := by omega
  have e : (fenD l k).getD (k + 1 + lowN (k + 1)) 0 = (fenC l k).getD (k + 1 + lowN (k + 1)) 0 := by
    unfold fenD
    rw [List.getD_eq_getElem?_getD, List.getD_eq_getElem?_getD, List.getElem?_set, if_neg hne]
  rw [e]
  unfold fenC
  rw [rowF_get _ (by omega), h2]
theorem fenD_set (l : List Int) {k : Nat} (h : l.length ≤ 11) (hk : k < l.length) (hu : k + 1 + lowN (k + 1) ≤ l.length) : (fenD l k).set (k + 1 + lowN (k + 1)) ((fenD l k).getD (k + 1 + lowN (k + 1)) 0 + fenA l (k + 1)) = fenC l (k + 1) := by
  rw [fenD_up l h hk hu]
  have hlo := lowN_bd (n := k + 1) (by omega)
  obtain ⟨_, h2, h3⟩ := hi_all (k := k) (by omega)
  have h4 := (h2 (by omega)).2
  unfold fenD fenC
  rw [rowF_set, rowF_set]
  refine rowF_congr fun m hm => ?_
  by_cases hm1 : m = k + 1 + lowN (k + 1)
  · rw [if_pos hm1, hm1, h4]
    unfold fenA
    omega
  · rw [if_neg hm1]
    by_cases hm2 : m = k + 1
    · rw [if_pos hm2, hm2]
      unfold hiN fenA
      rw [if_pos (Nat.le_refl _)]
    · rw [if_neg hm2, h3 m (by omega) hm2 hm1]
theorem fenD_end (l : List Int) {k : Nat} (h : l.length ≤ 11) (hk : k < l.length) (hu : ¬ k + 1 + lowN (k + 1) ≤ l.length) : fenD l k = fenC l (k + 1) := by
  obtain ⟨_, _, h3⟩ := hi_all (k := k) (by omega)
  unfold fenD fenC
  rw [rowF_set]
  refine rowF_congr fun m hm => ?_
  by_cases hm2 : m = k + 1
  · rw [if_pos hm2, hm2]
    unfold hiN fenA
    rw [if_pos (Nat.le_refl _)]
  · rw [if_neg hm2, h3 m (by omega) hm2 (by omega)]
/-- while the crew is made -/
structure Making (w1 wr : World) (C : Nat) (AS : Option Addr) (cS D : Nat) (l cs : List Int) (m : Nat) : Prop where
  box : wr.heap[C]? = some (.cells #[.slice AS l.length cS, .slice (some ⟨D, 0, none⟩) (l.length + 1) (l.length + 1), .int .i64 (m : Int)] 43 (0, 0))
  steps : Own wr w1.heap.size (.slice AS l.length cS) l
  counts : Own wr w1.heap.size (.slice (some ⟨D, 0, none⟩) (l.length + 1) (l.length + 1)) cs
  cb : w1.heap.size ≤ C
  db : D ≠ C
  sb : ∀ a, AS = some a → a.block ≠ C ∧ a.block ≠ D
  bel : Below w1.heap.size w1 wr
theorem own_bounds {w : World} {B n c : Nat} {A : Option Addr} {l : List Int} (h : Own w B (.slice A n c) l) : ∀ a, A = some a → B ≤ a.block ∧ a.block < w.heap.size := fun a ha => World.ownsRow.lt h a.block (by rw [ha]; rfl)
theorem own_more {w : World} {B B' : Nat} {v : Value} {l : List Int} (h : Own w B v l) (hB : B' ≤ B) : Own w B' v l := by
  refine ⟨h.1, ?_⟩
  rcases h.2 with h0 | ⟨g, cap, cur, hv, hb, rest⟩
  · exact .inl h0
  · exact .inr ⟨g, cap, cur, hv, by omega, rest⟩
theorem zero_row (w : World) : (w.alloc (.cells #[.slice none 0 0, .slice none 0 0, .int .i64 0] 43)).heap[w.heap.size]? = some (.cells #[.slice none 0 0, .slice none 0 0, .int .i64 0] 43 (0, 0)) := heap_alloc_new w _
theorem stored {w1 x : World} {C D cS : Nat} {AS : Option Addr} {l cs : List Int} (hb : Below w1.heap.size w1 x) (hS : Own x w1.heap.size (.slice AS l.length cS) l) (hD : Own x w1.heap.size (.slice (some ⟨D, 0, none⟩) (l.length + 1) (l.length + 1)) cs)
    (hC : x.heap[C]? = some (.cells #[.slice none 0 0, .slice none 0 0, .int .i64 0] 43 (0, 0))) (hCn : w1.heap.size ≤ C) (hDC : D ≠ C) (hSC : ∀ a, AS = some a → a.block ≠ C) (hSD : ∀ a, AS = some a → a.block ≠ D) :
    Making w1 (((x.setCell ⟨C, 0, none⟩ (.slice AS l.length cS)).setCell ⟨C, 1, none⟩ (.slice (some ⟨D, 0, none⟩) (l.length + 1) (l.length + 1))).setCell ⟨C, 2, none⟩ (.int .i64 0)) C AS cS D l cs 0 := by
  have hk : ∀ k, k ≠ C → (((x.setCell ⟨C, 0, none⟩ (.slice AS l.length cS)).setCell ⟨C, 1, none⟩ (.slice (some ⟨D, 0, none⟩) (l.length + 1) (l.length + 1))).setCell ⟨C, 2, none⟩ (.int .i64 0)).heap[k]? = x.heap[k]? := fun k hk => by
    rw [heap_other (Ne.symm hk), heap_other (Ne.symm hk), heap_other (Ne.symm hk)]
  refine ⟨?_, own_keeps hS fun g hg => hk g ?_, own_keeps hD fun g hg => hk g ?_, hCn, hDC, fun a ha => ⟨hSC a ha, hSD a ha⟩, ((hb.setCell hCn _).setCell hCn _).setCell hCn _⟩
  · simp [World.setCell, Array.getElem?_modify, hC]
  · cases AS with
    | none => cases hg
    | some a => have := hSC a rfl; simp [Value.ownBlock] at hg; omega
  · simp [Value.ownBlock] at hg; omega
section
variable {w1 wr : World} {C D cS : Nat} {AS : Option Addr} {l cs : List Int} {m : Nat}
theorem Making.c1 (h : Making w1 wr C AS cS D l cs m) : wr.cell? ⟨C, 1, none⟩ = some (.slice (some ⟨D, 0, none⟩) (l.length + 1) (l.length + 1)) := by rw [Lib.cell_of_heap h.box]; rfl
theorem Making.c2 (h : Making w1 wr C AS cS D l cs m) : wr.cell? ⟨C, 2, none⟩ = some (.int .i64 (m : Int)) := by rw [Lib.cell_of_heap h.box]; rfl
theorem Making.cf (h : Making w1 wr C AS cS D l cs m) (i : Nat) : wr.frozen? ⟨C, i, none⟩ = false := Lib.frozen_of_heap h.box i
theorem Making.at_ (h : Making w1 wr C AS cS D l cs m) (hl : cs.length = l.length + 1) (j : Nat) (hj : j ≤ l.length) : wr.cell? ⟨D, j, none⟩ = some (.int .i64 (cs.getD j 0)) ∧ wr.frozen? ⟨D, j, none⟩ = false := by
  obtain ⟨h1, h2⟩ := own_at h.counts hl.symm (by omega)
  exact ⟨h2 j (by omega), h1 j⟩
theorem Making.put (h : Making w1 wr C AS cS D l cs m) (hl : cs.length = l.length + 1) (j : Nat) (x : Int) : Making w1 (wr.setCell ⟨D, j, none⟩ (.int .i64 x)) C AS cS D l (cs.set j x) m := by
  have hD := (own_bounds h.counts _ rfl).1
  refine ⟨(heap_other h.db).trans h.box, own_keeps h.steps fun g hg => heap_other ?_, own_put h.counts hl.symm j x, h.cb, h.db, h.sb, h.bel.setCell (p := ⟨D, j, none⟩) hD _⟩
  cases AS with
  | none => cases hg
  | some a => have := (h.sb a rfl).2; simp [Value.ownBlock] at hg; omega
theorem Making.more (h : Making w1 wr C AS cS D l cs m) (m2 : Nat) : Making w1 (wr.setCell ⟨C, 2, none⟩ (.int .i64 (m2 : Int))) C AS cS D l cs m2 := by
  have hDC := h.db
  refine ⟨?_, own_keeps h.steps fun g hg => heap_other ?_, own_keeps h.counts fun g hg => heap_other ?_, h.cb, h.db, h.sb, h.bel.setCell (p := ⟨C, 2, none⟩) h.cb _⟩
  · have := h.box
    simp [World.setCell, Array.getElem?_modify, this]
  · cases AS with
    | none => cases hg
    | some a => have := (h.sb a rfl).1; simp [Value.ownBlock] at hg; omega
  · simp [Value.ownBlock] at hg; omega
theorem Making.now (h : Making w1 wr C AS cS D l cs m) {w' : World} (hb : Below wr.heap.size wr w') : Making w1 w' C AS cS D l cs m :=
  ⟨(hb.block C (lt_heap6' h.box)).trans h.box, own_next h.steps hb, own_next h.counts hb, h.cb, h.db, h.sb, Qt.more h.bel h.bel.size hb⟩
end
/-- what crewOf answers -/
def CrewR (l : List Int) (w : World) (r : Ending) (w' : World) : Prop := ∃ AS cS D, r = .returned (.agg #[.slice AS l.length cS, .slice (some ⟨D, 0, none⟩) (l.length + 1) (l.length + 1), .int .i64 (manyP l : Int)]) ∧ Own w' w.heap.size (.slice AS l.length cS) l ∧
  Own w' w.heap.size (.slice (some ⟨D, 0, none⟩) (l.length + 1) (l.length + 1)) (fenL l) ∧ (∀ a, AS = some a → a.block ≠ D) ∧ Below w.heap.size w w'
set_option maxHeartbeats 16000000 in
theorem crewOf_any (A : Option Addr) (l : List Int) (c : Nat) (w : World) (hR : Now w A l) (hl : l.length ≤ 11) :
    Calls Try.prog 21 #[.slice A l.length c] w (CrewR l w) := by
  have HB : Hid (Below w.heap.size w (w.alloc (.cells #[.slice none 0 0, .slice none 0 0, .int .i64 0] 43))) := (Below.refl _ _).alloc (Nat.le_refl _) _
  have HZ := Lib.hid (zero_row w)
  have HR := Lib.hid (hR.below HB.out)
  have hlt : Hid (w.heap.size < (w.alloc (.cells #[.slice none 0 0, .slice none 0 0, .int .i64 0] 43)).heap.size) := lt_heap6' HZ.out
  have hwr : IntKind.i64.wrap ((l.length : Int) + 1) = (l.length : Int) + 1 := by rw [IntKind.wrap_i64]; omega
  clear hR
  go_enter Try.func21, Try.ntmps21
  go_wp2_with fail
  generalize w.alloc (.cells #[.slice none 0 0, .slice none 0 0, .int .i64 0] 43) = w1 at *
  refine region_calm_to (fun W => Below w1.heap.size w1 W) (fun (a0 a9 : Act) (w9 : World) => ∃ (AS : Option Addr) (cS D C : Nat), a9 = ((((((((a0.put (some 8) (.slice A l.length c)).put (some 9) (.slice AS l.length cS)).put (some 10) (.slice A l.length c)).put (some 11) (.int .i64 (l.length : Int))).put (some 12) (.int .i64 ((l.length : Int) + 1))).put (some 13) (.slice (some ⟨D, 0, none⟩) (l.length + 1) (l.length + 1))).put (some 14) (.agg #[.slice AS l.length cS, .slice (some ⟨D, 0, none⟩) (l.length + 1) (l.length + 1), .int .i64 0])).put (some 3) (.pointer (some ⟨C, 0, none⟩))) ∧ l.length ≤ cS ∧ Making w1 w9 C AS cS D l (List.replicate (l.length + 1) 0) 0) (.calm 0 (.calm 2 (.calm 3 (.calm 4 (.three 1 5 7 (.two 5 7 (.calm 6 (.only 7 (.only 8 .done))) (.only 5 (.calm 6 (.only 8 .done)))) (.two 1 7 (.calm 6 (.only 7 (.only 8 .done))) (.only 1 (.calm 6 (.only 8 .done)))) (.two 1 5 (.only 5 (.calm 6 (.only 8 .done))) (.only 1 (.calm 6 (.only 8 .done))))))))) (by kernel_rfl) (by kernel_rfl) (by kernel_rfl) (by rfl) (below_drew _) ?_ ?_
  · skip
    refine ⟨_, _, (.slice A l.length c), rfl, rfl, ⟨rfl, fun W hW => by first | exact ⟨rfl, rfl⟩ | (simp only [Act.eval, execOp]; go_simp; try exact ⟨rfl, rfl⟩)⟩, ?_⟩
    simp only [Act.put, List.getElem_toArray, List.getElem_cons_zero, List.getElem_cons_succ, List.setIfInBounds_toArray, List.set_cons_succ, List.set_cons_zero]
    refine ⟨_, _, (.slice A l.length c), rfl, rfl, ⟨rfl, fun W hW => by first | exact ⟨rfl, rfl⟩ | (simp only [Act.eval, execOp]; go_simp; try exact ⟨rfl, rfl⟩)⟩, ?_⟩
    simp only [Act.put, List.getElem_toArray, List.getElem_cons_zero, List.getElem_cons_succ, List.setIfInBounds_toArray, List.set_cons_succ, List.set_cons_zero]
    refine ⟨_, _, (.int .i64 (l.length : Int)), rfl, rfl, ⟨rfl, fun W hW => by first | exact ⟨rfl, rfl⟩ | (simp only [Act.eval, execOp]; go_simp; try exact ⟨rfl, rfl⟩)⟩, ?_⟩
    simp only [Act.put, List.getElem_toArray, List.getElem_cons_zero, List.getElem_cons_succ, List.setIfInBounds_toArray, List.set_cons_succ, List.set_cons_zero]
    refine ⟨_, _, (.int .i64 ((l.length : Int) + 1)), rfl, rfl, ⟨rfl, fun W hW => by first | exact ⟨rfl, rfl⟩ | (simp only [Act.eval, execOp]; go_simp; try exact ⟨rfl, rfl⟩)⟩, ?_⟩
    simp only [Act.put, List.getElem_toArray, List.getElem_cons_zero, List.getElem_cons_succ, List.setIfInBounds_toArray, List.set_cons_succ, List.set_cons_zero]
    have hb0 := below_drew w1
    generalize w1.drew = x0 at *
    refine ⟨?_, ?_, ?_⟩
    · skip
      refine ⟨_, rfl, ?_⟩
      go_wp2_with fail
      refine (clone_any A l c x0 (HR.out.below hb0) (by omega)).mono ?_
      rintro r x1 ⟨v9, rfl, ho, hbx⟩
      obtain ⟨AS, cS, rfl, hcS, _⟩ := own_slice ho
      have hSn := own_bounds ho
      have hS := own_more ho hb0.size
      clear ho
      go_wp2_with fail
      have hb1 := Qt.more hb0 hb0.size hbx
      clear hSn
      clear hbx
      refine ⟨rfl, hb1, ?_⟩
      refine ⟨?_, ?_⟩
      · skip
        have hSl := fun a ha => (own_bounds hS a ha).2
        obtain ⟨x2, hmk, hof, hg⟩ := makeW (l.length + 1) (by omega) x1
        have hbx : Below x1.heap.size x1 x2 := ⟨hg.os, hg.tape, hg.output, hg.size, fun k hk => hg.block k hk (by simp)⟩
        obtain ⟨D, hDD⟩ : ∃ D, D = x1.heap.size := ⟨_, rfl⟩
        rw [show ((l.length + 1 : Nat) : Int) = (l.length : Int) + 1 by simp] at hmk
        have hDx : x1.heap.size ≤ D := by omega
        rw [← hDD] at hmk hof
        have hD := own_more hof (show w1.heap.size ≤ D by rw [hDD]; exact hb1.size)
        clear hof hg hDD
        refine ⟨_, rfl, ?_⟩
        go_wp2_with fail
        clear hmk
        have hb2 := Qt.more hb1 hb1.size hbx
        replace hS := own_next hS hbx
        have hSD : ∀ a, AS = some a → a.block ≠ D := fun a ha => by have := hSl a ha; omega
        clear hbx
        clear hSl
        refine ⟨rfl, hb2, ?_⟩
        refine ⟨_, _, (.agg #[.slice AS l.length cS, .slice (some ⟨D, 0, none⟩) (l.length + 1) (l.length + 1), .int .i64 0]), rfl, rfl, ⟨rfl, fun W hW => by first | exact ⟨rfl, rfl⟩ | (simp only [Act.eval, execOp]; go_simp; try exact ⟨rfl, rfl⟩)⟩, ?_⟩
        simp only [Act.put, List.getElem_toArray, List.getElem_cons_zero, List.getElem_cons_succ, List.setIfInBounds_toArray, List.set_cons_succ, List.set_cons_zero]
        have hDl := (own_bounds hD _ rfl).2
        simp only at hDl
        have hSl := fun a ha => (own_bounds hS a ha).2
        have hCr := zero_row x2
        have hbx := (Below.refl x2.heap.size x2).alloc (Nat.le_refl _) (.cells #[.slice none 0 0, .slice none 0 0, .int .i64 0] 43)
        obtain ⟨C, hCC⟩ : ∃ C, C = x2.heap.size := ⟨_, rfl⟩
        have hCx : x2.heap.size ≤ C := by omega
        rw [← hCC] at hCr
        have hCn : w1.heap.size ≤ C := by rw [hCC]; exact hb2.size
        refine ⟨_, rfl, ?_⟩
        have HCC := Lib.hid hCC
        clear hCC
        go_wp2_with fail
        rw [← HCC.out]
        clear HCC
        generalize x2.alloc (.cells #[.slice none 0 0, .slice none 0 0, .int .i64 0] 43) = x3 at *
        have hb3 := Qt.more hb2 hb2.size hbx
        replace hS := own_next hS hbx
        replace hD := own_next hD hbx
        have hSC : ∀ a, AS = some a → a.block ≠ C := fun a ha => by have := hSl a ha; omega
        have hDC : D ≠ C := by omega
        clear hbx
        clear hSl
        refine ⟨rfl, hb3, ?_⟩
        have q0 : x3.cell? ⟨C, 0, none⟩ = some (.slice none 0 0) := by rw [Lib.cell_of_heap hCr]; rfl
        have q1 : x3.cell? ⟨C, 1, none⟩ = some (.slice none 0 0) := by rw [Lib.cell_of_heap hCr]; rfl
        have q2 : x3.cell? ⟨C, 2, none⟩ = some (.int .i64 0) := by rw [Lib.cell_of_heap hCr]; rfl
        have f0 := Lib.frozen_of_heap hCr 0
        have f1 := Lib.frozen_of_heap hCr 1
        have f2 := Lib.frozen_of_heap hCr 2
        have HE := Lib.hid (stored hb3 hS hD hCr hCn hDC hSC hSD)
        clear hS hD hCr hb3 hSC hSD hDC
        refine ⟨_, rfl, ?_⟩
        go_wp2_with fail
        refine ⟨rfl, HE.out.bel, ?_⟩
        exact ⟨AS, cS, D, C, by first | rfl | simp only [Act.put, List.getElem_toArray, List.getElem_cons_zero, List.getElem_cons_succ, List.setIfInBounds_toArray, List.set_cons_succ, List.set_cons_zero], hcS, HE.out⟩
      · skip
        have hSl := fun a ha => (own_bounds hS a ha).2
        have hCr := zero_row x1
        have hbx := (Below.refl x1.heap.size x1).alloc (Nat.le_refl _) (.cells #[.slice none 0 0, .slice none 0 0, .int .i64 0] 43)
        obtain ⟨C, hCC⟩ : ∃ C, C = x1.heap.size := ⟨_, rfl⟩
        have hCx : x1.heap.size ≤ C := by omega
        rw [← hCC] at hCr
        have hCn : w1.heap.size ≤ C := by rw [hCC]; exact hb1.size
        refine ⟨_, rfl, ?_⟩
        have HCC := Lib.hid hCC
        clear hCC
        go_wp2_with fail
        rw [← HCC.out]
        clear HCC
        generalize x1.alloc (.cells #[.slice none 0 0, .slice none 0 0, .int .i64 0] 43) = x2 at *
        have hb2 := Qt.more hb1 hb1.size hbx
        replace hS := own_next hS hbx
        have hSC : ∀ a, AS = some a → a.block ≠ C := fun a ha => by have := hSl a ha; omega
        clear hbx
        clear hSl
        refine ⟨rfl, hb2, ?_⟩
        have hCl := lt_heap6' hCr
        have hSl := fun a ha => (own_bounds hS a ha).2
        obtain ⟨x3, hmk, hof, hg⟩ := makeW (l.length + 1) (by omega) x2
        have hbx : Below x2.heap.size x2 x3 := ⟨hg.os, hg.tape, hg.output, hg.size, fun k hk => hg.block k hk (by simp)⟩
        obtain ⟨D, hDD⟩ : ∃ D, D = x2.heap.size := ⟨_, rfl⟩
        rw [show ((l.length + 1 : Nat) : Int) = (l.length : Int) + 1 by simp] at hmk
        have hDx : x2.heap.size ≤ D := by omega
        rw [← hDD] at hmk hof
        have hD := own_more hof (show w1.heap.size ≤ D by rw [hDD]; exact hb2.size)
        clear hof hg hDD
        refine ⟨_, rfl, ?_⟩
        go_wp2_with fail
        clear hmk
        have hb3 := Qt.more hb2 hb2.size hbx
        replace hS := own_next hS hbx
        replace hCr := (hbx.block C hCl).trans hCr
        have hSD : ∀ a, AS = some a → a.block ≠ D := fun a ha => by have := hSl a ha; omega
        have hDC : D ≠ C := by omega
        clear hbx
        clear hSl
        refine ⟨rfl, hb3, ?_⟩
        refine ⟨_, _, (.agg #[.slice AS l.length cS, .slice (some ⟨D, 0, none⟩) (l.length + 1) (l.length + 1), .int .i64 0]), rfl, rfl, ⟨rfl, fun W hW => by first | exact ⟨rfl, rfl⟩ | (simp only [Act.eval, execOp]; go_simp; try exact ⟨rfl, rfl⟩)⟩, ?_⟩
        simp only [Act.put, List.getElem_toArray, List.getElem_cons_zero, List.getElem_cons_succ, List.setIfInBounds_toArray, List.set_cons_succ, List.set_cons_zero]
        have q0 : x3.cell? ⟨C, 0, none⟩ = some (.slice none 0 0) := by rw [Lib.cell_of_heap hCr]; rfl
        have q1 : x3.cell? ⟨C, 1, none⟩ = some (.slice none 0 0) := by rw [Lib.cell_of_heap hCr]; rfl
        have q2 : x3.cell? ⟨C, 2, none⟩ = some (.int .i64 0) := by rw [Lib.cell_of_heap hCr]; rfl
        have f0 := Lib.frozen_of_heap hCr 0
        have f1 := Lib.frozen_of_heap hCr 1
        have f2 := Lib.frozen_of_heap hCr 2
        have HE := Lib.hid (stored hb3 hS hD hCr hCn hDC hSC hSD)
        clear hS hD hCr hb3 hSC hSD hDC
        refine ⟨_, rfl, ?_⟩
        go_wp2_with fail
        refine ⟨rfl, HE.out.bel, ?_⟩
        exact ⟨AS, cS, D, C, by first | rfl | simp only [Act.put, List.getElem_toArray, List.getElem_cons_zero, List.getElem_cons_succ, List.setIfInBounds_toArray, List.set_cons_succ, List.set_cons_zero], hcS, HE.out⟩
    · skip
      obtain ⟨x1, hmk, hof, hg⟩ := makeW (l.length + 1) (by omega) x0
      have hbx : Below x0.heap.size x0 x1 := ⟨hg.os, hg.tape, hg.output, hg.size, fun k hk => hg.block k hk (by simp)⟩
      obtain ⟨D, hDD⟩ : ∃ D, D = x0.heap.size := ⟨_, rfl⟩
      rw [show ((l.length + 1 : Nat) : Int) = (l.length : Int) + 1 by simp] at hmk
      have hDx : x0.heap.size ≤ D := by omega
      rw [← hDD] at hmk hof
      have hD := own_more hof (show w1.heap.size ≤ D by rw [hDD]; exact hb0.size)
      clear hof hg hDD
      refine ⟨_, rfl, ?_⟩
      go_wp2_with fail
      clear hmk
      have hb1 := Qt.more hb0 hb0.size hbx
      clear hbx
      refine ⟨rfl, hb1, ?_⟩
      refine ⟨?_, ?_⟩
      · skip
        have hDl := (own_bounds hD _ rfl).2
        simp only at hDl
        refine ⟨_, rfl, ?_⟩
        go_wp2_with fail
        refine (clone_any A l c x1 (HR.out.below hb1) (by omega)).mono ?_
        rintro r x2 ⟨v9, rfl, ho, hbx⟩
        obtain ⟨AS, cS, rfl, hcS, _⟩ := own_slice ho
        have hSn := own_bounds ho
        have hS := own_more ho hb1.size
        clear ho
        go_wp2_with fail
        have hb2 := Qt.more hb1 hb1.size hbx
        replace hD := own_next hD hbx
        have hSD : ∀ a, AS = some a → a.block ≠ D := fun a ha => by have := (hSn a ha).1; omega
        clear hSn
        clear hbx
        refine ⟨rfl, hb2, ?_⟩
        refine ⟨_, _, (.agg #[.slice AS l.length cS, .slice (some ⟨D, 0, none⟩) (l.length + 1) (l.length + 1), .int .i64 0]), rfl, rfl, ⟨rfl, fun W hW => by first | exact ⟨rfl, rfl⟩ | (simp only [Act.eval, execOp]; go_simp; try exact ⟨rfl, rfl⟩)⟩, ?_⟩
        simp only [Act.put, List.getElem_toArray, List.getElem_cons_zero, List.getElem_cons_succ, List.setIfInBounds_toArray, List.set_cons_succ, List.set_cons_zero]
        have hDl := (own_bounds hD _ rfl).2
        simp only at hDl
        have hSl := fun a ha => (own_bounds hS a ha).2
        have hCr := zero_row x2
        have hbx := (Below.refl x2.heap.size x2).alloc (Nat.le_refl _) (.cells #[.slice none 0 0, .slice none 0 0, .int .i64 0] 43)
        obtain ⟨C, hCC⟩ : ∃ C, C = x2.heap.size := ⟨_, rfl⟩
        have hCx : x2.heap.size ≤ C := by omega
        rw [← hCC] at hCr
        have hCn : w1.heap.size ≤ C := by rw [hCC]; exact hb2.size
        refine ⟨_, rfl, ?_⟩
        have HCC := Lib.hid hCC
        clear hCC
        go_wp2_with fail
        rw [← HCC.out]
        clear HCC
        generalize x2.alloc (.cells #[.slice none 0 0, .slice none 0 0, .int .i64 0] 43) = x3 at *
        have hb3 := Qt.more hb2 hb2.size hbx
        replace hS := own_next hS hbx
        replace hD := own_next hD hbx
        have hSC : ∀ a, AS = some a → a.block ≠ C := fun a ha => by have := hSl a ha; omega
        have hDC : D ≠ C := by omega
        clear hbx
        clear hSl
        refine ⟨rfl, hb3, ?_⟩
        have q0 : x3.cell? ⟨C, 0, none⟩ = some (.slice none 0 0) := by rw [Lib.cell_of_heap hCr]; rfl
        have q1 : x3.cell? ⟨C, 1, none⟩ = some (.slice none 0 0) := by rw [Lib.cell_of_heap hCr]; rfl
        have q2 : x3.cell? ⟨C, 2, none⟩ = some (.int .i64 0) := by rw [Lib.cell_of_heap hCr]; rfl
        have f0 := Lib.frozen_of_heap hCr 0
        have f1 := Lib.frozen_of_heap hCr 1
        have f2 := Lib.frozen_of_heap hCr 2
        have HE := Lib.hid (stored hb3 hS hD hCr hCn hDC hSC hSD)
        clear hS hD hCr hb3 hSC hSD hDC
        refine ⟨_, rfl, ?_⟩
        go_wp2_with fail
        refine ⟨rfl, HE.out.bel, ?_⟩
        exact ⟨AS, cS, D, C, by first | rfl | simp only [Act.put, List.getElem_toArray, List.getElem_cons_zero, List.getElem_cons_succ, List.setIfInBounds_toArray, List.set_cons_succ, List.set_cons_zero], hcS, HE.out⟩
      · skip
        have hDl := (own_bounds hD _ rfl).2
        simp only at hDl
        have hCr := zero_row x1
        have hbx := (Below.refl x1.heap.size x1).alloc (Nat.le_refl _) (.cells #[.slice none 0 0, .slice none 0 0, .int .i64 0] 43)
        obtain ⟨C, hCC⟩ : ∃ C, C = x1.heap.size := ⟨_, rfl⟩
        have hCx : x1.heap.size ≤ C := by omega
        rw [← hCC] at hCr
        have hCn : w1.heap.size ≤ C := by rw [hCC]; exact hb1.size
        refine ⟨_, rfl, ?_⟩
        have HCC := Lib.hid hCC
        clear hCC
        go_wp2_with fail
        rw [← HCC.out]
        clear HCC
        generalize x1.alloc (.cells #[.slice none 0 0, .slice none 0 0, .int .i64 0] 43) = x2 at *
        have hb2 := Qt.more hb1 hb1.size hbx
        replace hD := own_next hD hbx
        have hDC : D ≠ C := by omega
        clear hbx
        refine ⟨rfl, hb2, ?_⟩
        have hDl := (own_bounds hD _ rfl).2
        simp only at hDl
        have hCl := lt_heap6' hCr
        refine ⟨_, rfl, ?_⟩
        go_wp2_with fail
        refine (clone_any A l c x2 (HR.out.below hb2) (by omega)).mono ?_
        rintro r x3 ⟨v9, rfl, ho, hbx⟩
        obtain ⟨AS, cS, rfl, hcS, _⟩ := own_slice ho
        have hSn := own_bounds ho
        have hS := own_more ho hb2.size
        clear ho
        go_wp2_with fail
        have hb3 := Qt.more hb2 hb2.size hbx
        replace hD := own_next hD hbx
        replace hCr := (hbx.block C hCl).trans hCr
        have hSD : ∀ a, AS = some a → a.block ≠ D := fun a ha => by have := (hSn a ha).1; omega
        have hSC : ∀ a, AS = some a → a.block ≠ C := fun a ha => by have := (hSn a ha).1; omega
        clear hSn
        clear hbx
        refine ⟨rfl, hb3, ?_⟩
        refine ⟨_, _, (.agg #[.slice AS l.length cS, .slice (some ⟨D, 0, none⟩) (l.length + 1) (l.length + 1), .int .i64 0]), rfl, rfl, ⟨rfl, fun W hW => by first | exact ⟨rfl, rfl⟩ | (simp only [Act.eval, execOp]; go_simp; try exact ⟨rfl, rfl⟩)⟩, ?_⟩
        simp only [Act.put, List.getElem_toArray, List.getElem_cons_zero, List.getElem_cons_succ, List.setIfInBounds_toArray, List.set_cons_succ, List.set_cons_zero]
        have q0 : x3.cell? ⟨C, 0, none⟩ = some (.slice none 0 0) := by rw [Lib.cell_of_heap hCr]; rfl
        have q1 : x3.cell? ⟨C, 1, none⟩ = some (.slice none 0 0) := by rw [Lib.cell_of_heap hCr]; rfl
        have q2 : x3.cell? ⟨C, 2, none⟩ = some (.int .i64 0) := by rw [Lib.cell_of_heap hCr]; rfl
        have f0 := Lib.frozen_of_heap hCr 0
        have f1 := Lib.frozen_of_heap hCr 1
        have f2 := Lib.frozen_of_heap hCr 2
        have HE := Lib.hid (stored hb3 hS hD hCr hCn hDC hSC hSD)
        clear hS hD hCr hb3 hSC hSD hDC
        refine ⟨_, rfl, ?_⟩
        go_wp2_with fail
        refine ⟨rfl, HE.out.bel, ?_⟩
        exact ⟨AS, cS, D, C, by first | rfl | simp only [Act.put, List.getElem_toArray, List.getElem_cons_zero, List.getElem_cons_succ, List.setIfInBounds_toArray, List.set_cons_succ, List.set_cons_zero], hcS, HE.out⟩
    · skip
      have hCr := zero_row x0
      have hbx := (Below.refl x0.heap.size x0).alloc (Nat.le_refl _) (.cells #[.slice none 0 0, .slice none 0 0, .int .i64 0] 43)
      obtain ⟨C, hCC⟩ : ∃ C, C = x0.heap.size := ⟨_, rfl⟩
      have hCx : x0.heap.size ≤ C := by omega
      rw [← hCC] at hCr
      have hCn : w1.heap.size ≤ C := by rw [hCC]; exact hb0.size
      refine ⟨_, rfl, ?_⟩
      have HCC := Lib.hid hCC
      clear hCC
      go_wp2_with fail
      rw [← HCC.out]
      clear HCC
      generalize x0.alloc (.cells #[.slice none 0 0, .slice none 0 0, .int .i64 0] 43) = x1 at *
      have hb1 := Qt.more hb0 hb0.size hbx
      clear hbx
      refine ⟨rfl, hb1, ?_⟩
      refine ⟨?_, ?_⟩
      · skip
        have hCl := lt_heap6' hCr
        refine ⟨_, rfl, ?_⟩
        go_wp2_with fail
        refine (clone_any A l c x1 (HR.out.below hb1) (by omega)).mono ?_
        rintro r x2 ⟨v9, rfl, ho, hbx⟩
        obtain ⟨AS, cS, rfl, hcS, _⟩ := own_slice ho
        have hSn := own_bounds ho
        have hS := own_more ho hb1.size
        clear ho
        go_wp2_with fail
        have hb2 := Qt.more hb1 hb1.size hbx
        replace hCr := (hbx.block C hCl).trans hCr
        have hSC : ∀ a, AS = some a → a.block ≠ C := fun a ha => by have := (hSn a ha).1; omega
        clear hSn
        clear hbx
        refine ⟨rfl, hb2, ?_⟩
        have hCl := lt_heap6' hCr
        have hSl := fun a ha => (own_bounds hS a ha).2
        obtain ⟨x3, hmk, hof, hg⟩ := makeW (l.length + 1) (by omega) x2
        have hbx : Below x2.heap.size x2 x3 := ⟨hg.os, hg.tape, hg.output, hg.size, fun k hk => hg.block k hk (by simp)⟩
        obtain ⟨D, hDD⟩ : ∃ D, D = x2.heap.size := ⟨_, rfl⟩
        rw [show ((l.length + 1 : Nat) : Int) = (l.length : Int) + 1 by simp] at hmk
        have hDx : x2.heap.size ≤ D := by omega
        rw [← hDD] at hmk hof
        have hD := own_more hof (show w1.heap.size ≤ D by rw [hDD]; exact hb2.size)
        clear hof hg hDD
        refine ⟨_, rfl, ?_⟩
        go_wp2_with fail
        clear hmk
        have hb3 := Qt.more hb2 hb2.size hbx
        replace hS := own_next hS hbx
        replace hCr := (hbx.block C hCl).trans hCr
        have hSD : ∀ a, AS = some a → a.block ≠ D := fun a ha => by have := hSl a ha; omega
        have hDC : D ≠ C := by omega
        clear hbx
        clear hSl
        refine ⟨rfl, hb3, ?_⟩
        refine ⟨_, _, (.agg #[.slice AS l.length cS, .slice (some ⟨D, 0, none⟩) (l.length + 1) (l.length + 1), .int .i64 0]), rfl, rfl, ⟨rfl, fun W hW => by first | exact ⟨rfl, rfl⟩ | (simp only [Act.eval, execOp]; go_simp; try exact ⟨rfl, rfl⟩)⟩, ?_⟩
        simp only [Act.put, List.getElem_toArray, List.getElem_cons_zero, List.getElem_cons_succ, List.setIfInBounds_toArray, List.set_cons_succ, List.set_cons_zero]
        have q0 : x3.cell? ⟨C, 0, none⟩ = some (.slice none 0 0) := by rw [Lib.cell_of_heap hCr]; rfl
        have q1 : x3.cell? ⟨C, 1, none⟩ = some (.slice none 0 0) := by rw [Lib.cell_of_heap hCr]; rfl
        have q2 : x3.cell? ⟨C, 2, none⟩ = some (.int .i64 0) := by rw [Lib.cell_of_heap hCr]; rfl
        have f0 := Lib.frozen_of_heap hCr 0
        have f1 := Lib.frozen_of_heap hCr 1
        have f2 := Lib.frozen_of_heap hCr 2
        have HE := Lib.hid (stored hb3 hS hD hCr hCn hDC hSC hSD)
        clear hS hD hCr hb3 hSC hSD hDC
        refine ⟨_, rfl, ?_⟩
        go_wp2_with fail
        refine ⟨rfl, HE.out.bel, ?_⟩
        exact ⟨AS, cS, D, C, by first | rfl | simp only [Act.put, List.getElem_toArray, List.getElem_cons_zero, List.getElem_cons_succ, List.setIfInBounds_toArray, List.set_cons_succ, List.set_cons_zero], hcS, HE.out⟩
      · skip
        have hCl := lt_heap6' hCr
        obtain ⟨x2, hmk, hof, hg⟩ := makeW (l.length + 1) (by omega) x1
        have hbx : Below x1.heap.size x1 x2 := ⟨hg.os, hg.tape, hg.output, hg.size, fun k hk => hg.block k hk (by simp)⟩
        obtain ⟨D, hDD⟩ : ∃ D, D = x1.heap.size := ⟨_, rfl⟩
        rw [show ((l.length + 1 : Nat) : Int) = (l.length : Int) + 1 by simp] at hmk
        have hDx : x1.heap.size ≤ D := by omega
        rw [← hDD] at hmk hof
        have hD := own_more hof (show w1.heap.size ≤ D by rw [hDD]; exact hb1.size)
        clear hof hg hDD
        refine ⟨_, rfl, ?_⟩
        go_wp2_with fail
        clear hmk
        have hb2 := Qt.more hb1 hb1.size hbx
        replace hCr := (hbx.block C hCl).trans hCr
        have hDC : D ≠ C := by omega
        clear hbx
        refine ⟨rfl, hb2, ?_⟩
        have hDl := (own_bounds hD _ rfl).2
        simp only at hDl
        have hCl := lt_heap6' hCr
        refine ⟨_, rfl, ?_⟩
        go_wp2_with fail
        refine (clone_any A l c x2 (HR.out.below hb2) (by omega)).mono ?_
        rintro r x3 ⟨v9, rfl, ho, hbx⟩
        obtain ⟨AS, cS, rfl, hcS, _⟩ := own_slice ho
        have hSn := own_bounds ho
        have hS := own_more ho hb2.size
        clear ho
        go_wp2_with fail
        have hb3 := Qt.more hb2 hb2.size hbx
        replace hD := own_next hD hbx
        replace hCr := (hbx.block C hCl).trans hCr
        have hSD : ∀ a, AS = some a → a.block ≠ D := fun a ha => by have := (hSn a ha).1; omega
        have hSC : ∀ a, AS = some a → a.block ≠ C := fun a ha => by have := (hSn a ha).1; omega
        clear hSn
        clear hbx
        refine ⟨rfl, hb3, ?_⟩
        refine ⟨_, _, (.agg #[.slice AS l.length cS, .slice (some ⟨D, 0, none⟩) (l.length + 1) (l.length + 1), .int .i64 0]), rfl, rfl, ⟨rfl, fun W hW => by first | exact ⟨rfl, rfl⟩ | (simp only [Act.eval, execOp]; go_simp; try exact ⟨rfl, rfl⟩)⟩, ?_⟩
        simp only [Act.put, List.getElem_toArray, List.getElem_cons_zero, List.getElem_cons_succ, List.setIfInBounds_toArray, List.set_cons_succ, List.set_cons_zero]
        have q0 : x3.cell? ⟨C, 0, none⟩ = some (.slice none 0 0) := by rw [Lib.cell_of_heap hCr]; rfl
        have q1 : x3.cell? ⟨C, 1, none⟩ = some (.slice none 0 0) := by rw [Lib.cell_of_heap hCr]; rfl
        have q2 : x3.cell? ⟨C, 2, none⟩ = some (.int .i64 0) := by rw [Lib.cell_of_heap hCr]; rfl
        have f0 := Lib.frozen_of_heap hCr 0
        have f1 := Lib.frozen_of_heap hCr 1
        have f2 := Lib.frozen_of_heap hCr 2
        have HE := Lib.hid (stored hb3 hS hD hCr hCn hDC hSC hSD)
        clear hS hD hCr hb3 hSC hSD hDC
        refine ⟨_, rfl, ?_⟩
        go_wp2_with fail
        refine ⟨rfl, HE.out.bel, ?_⟩
        exact ⟨AS, cS, D, C, by first | rfl | simp only [Act.put, List.getElem_toArray, List.getElem_cons_zero, List.getElem_cons_succ, List.setIfInBounds_toArray, List.set_cons_succ, List.set_cons_zero], hcS, HE.out⟩
  rintro a9 w9 ⟨AS, cS, D, C, rfl, hcS, hM⟩
  simp only [Act.put, List.getElem_toArray, List.getElem_cons_zero, List.getElem_cons_succ, List.setIfInBounds_toArray, List.set_cons_succ, List.set_cons_zero]
  have hmk0 : fenC l 0 = List.replicate (l.length + 1) 0 := fenC_zero hl
  have HM : Hid (Making w1 w9 C AS cS D l (fenC l 0) (cntP l 0)) := by show Making _ _ _ _ _ _ _ _ _; rw [hmk0]; exact hM
  have hcC := hM.cb
  have hw0 := hlt.out
  have HWR := Lib.hid hwr
  clear hM hmk0 hwr
  go_wp2
  go_loopw [17] (fun i wr => ∃ k : Nat, k ≤ l.length ∧ i = .int .i64 k ∧ Hid (Making w1 wr C AS cS D l (fenC l k) (cntP l k))) (fun i _ => l.length - (intOf i).toNat)
  case atStart => exact ⟨0, Nat.zero_le _, rfl, HM.out⟩
  case round =>
    obtain ⟨k, hk, rfl, HK⟩ := hrel
    by_cases hlt2 : k < l.length
    · have hltz : (k : Int) < (l.length : Int) := by omega
      obtain ⟨b, off, rfl, hbB, hcell⟩ := Rd.at_ HR.out (by omega)
      have y0 := (HK.out.bel.cell (p := ⟨b, off + k, none⟩) hbB).trans (hcell k hlt2)
      have hy := @fenD_yes l k hl hlt2
      have hn := @fenD_no l k hl hlt2
      have hlc := @live_cnt l k
      have hnc := cntP_succ l k
      have hcb := cntP_le l k
      obtain ⟨x, hx⟩ : ∃ x, x = l.getD k 0 := ⟨_, rfl⟩
      rw [← hx] at y0 hy hn hlc hnc
      obtain ⟨m, hm⟩ : ∃ m, m = cntP l k := ⟨_, rfl⟩
      have hMm := HK.out
      rw [← hm] at hlc hnc hcb hMm
      have hlb := lowN_bd (n := k + 1) (by omega)
      have hlo := fun W => lowest_any (k + 1) W (by omega) (by omega)
      have hset := fenD_set l hl hlt2
      have hend := fenD_end l hl hlt2
      have hup := fenD_up l hl hlt2
      have hown := fenD_own l hlt2
      have hfb := fenA_bd l (k + 1)
      have hc1 := cntP_le l (k + 1 - lowN (k + 1))
      have hc2 := cntP_le l (k + 1 + lowN (k + 1) - lowN (k + 1 + lowN (k + 1)))
      obtain ⟨z, hz⟩ : ∃ z, z = lowN (k + 1) := ⟨_, rfl⟩
      rw [← hz] at hlb hlo hset hend hup hc1 hc2
      have hk1 : (((k + 1 : Nat)) : Int) = (k : Int) + 1 := by omega
      -- what is left behind the worker's own place
      have hfin : ∀ (wa : World) (m2 : Nat), Making w1 wa C AS cS D l (fenD l k) m2 → m2 = cntP l (k + 1) → ¬ k + 1 + z ≤ l.length → Making w1 wa C AS cS D l (fenC l (k + 1)) (cntP l (k + 1)) := fun wa m2 h e hu => by
        rw [← hend hu, ← e]; exact h
      have hfin2 : ∀ (wa : World) (m2 : Nat), Making w1 wa C AS cS D l (fenD l k) m2 → m2 = cntP l (k + 1) → k + 1 + z ≤ l.length → Making w1 (wa.setCell ⟨D, k + 1 + z, none⟩ (.int .i64 ((fenD l k).getD (k + 1 + z) 0 + fenA l (k + 1)))) C AS cS D l (fenC l (k + 1)) (cntP l (k + 1)) := fun wa m2 h e hu => by
        have := h.put (fenD_len l k) (k + 1 + z) ((fenD l k).getD (k + 1 + z) 0 + fenA l (k + 1))
        rw [hset hu, e] at this
        exact this
      have HF := Lib.hid (And.intro hfin hfin2)
      have HUP := Lib.hid hup
      have HC12 := Lib.hid (And.intro hc1 hc2)
      have HOW := Lib.hid (And.intro hown hfb)
      have HX := Lib.hid (And.intro hx hm)
      clear hcell hset hend hup hown hfb hc1 hc2 hfin hfin2 hx hm HK hz
      by_cases hx0 : 0 < x
      · have hsm := hy hx0
        have hm2 := hlc hx0
        have hget := fenC_get l hl hlt2
        have hcc1 := cntP_le l k
        have hcc2 := cntP_le l (k + 1 - lowN (k + 1))
        obtain ⟨v, hv⟩ : ∃ v, v = (fenC l k).getD (k + 1) 0 := ⟨_, rfl⟩
        rw [← hv] at hsm hget
        have hvb : -20 ≤ v ∧ v ≤ 20 := by omega
        obtain ⟨e1, e2⟩ := hMm.at_ (fenC_len l k) (k + 1) (by omega)
        rw [← hv] at e1
        have y1 := hMm.c1
        have y2 := hMm.c2
        have f2 := hMm.cf 2
        have hM1 := hMm.put (fenC_len l k) (k + 1) (v + 1)
        rw [hsm] at hM1
        have HM2 := Lib.hid (hM1.more (m + 1))
        have hDC := hMm.db
        have HM2E := Lib.hid (show m + 1 = cntP l (k + 1) by omega)
        have hkn : (k : Int) + 1 < (l.length : Int) + 1 := by omega
        have hm12 : m ≤ 11 := by omega
        have hcD : ¬ D = C := hDC
        clear hMm hM1 hsm hm2 hget hcc1 hcc2 hv hy hn hlc hnc
        rw [hk1] at hlo
        rw [show (((m + 1 : Nat)) : Int) = (m : Int) + 1 by omega] at HM2
        go_wp2_with fail
        clear e1 e2 y1 y2 f2 hkn
        generalize ((wr.setCell ⟨D, k + 1, none⟩ (.int .i64 (v + 1))).setCell ⟨C, 2, none⟩ (.int .i64 ((m : Int) + 1))) = wa at *
        refine (hlo _).mono ?_
        rintro e w' ⟨rfl, hw'⟩
        subst hw'
        clear hlo
        have y1 := HM2.out.c1
        by_cases hu : k + 1 + z ≤ l.length
        · obtain ⟨e3, e4⟩ := HM2.out.at_ (fenD_len l k) (k + 1 + z) hu
          obtain ⟨e5, e6⟩ := HM2.out.at_ (fenD_len l k) (k + 1) (by omega)
          have hup := HUP.out hu
          have hc12 := HC12.out
          have hown := HOW.out
          rw [hown.1] at e5
          obtain ⟨v1, hv1⟩ : ∃ v1, v1 = (fenD l k).getD (k + 1 + z) 0 := ⟨_, rfl⟩
          obtain ⟨v2, hv2⟩ : ∃ v2, v2 = fenA l (k + 1) := ⟨_, rfl⟩
          rw [← hv1] at e3 hup
          rw [← hv2] at e5 hown
          have hv1b : -20 ≤ v1 ∧ v1 ≤ 20 := by omega
          have hv2b : 0 ≤ v2 ∧ v2 ≤ 20 := by omega
          have HV := Lib.hid (And.intro hv1 hv2)
          have huz : (k : Int) + 1 + (z : Int) < (l.length : Int) + 1 := by omega
          have hkn : (k : Int) + 1 < (l.length : Int) + 1 := by omega
          clear hup hc12 hown hv1 hv2 e6
          go_wp2_with fail
          have q0 := Qt.cell_in y1
          have q1 := Qt.cell_in e3
          have q2 := Qt.cell_in e5
          have s1 : IntKind.i64.wrap (v1 + v2) = v1 + v2 := by rw [IntKind.wrap_i64]; omega
          refine Qt.below_tail 12 (by kernel_rfl) (by kernel_rfl) ?_
          simp only [List.take_succ_cons, List.take_zero, List.drop_succ_cons, List.drop_zero]
          iterate 12 (go_big_quiet_step (fail))
          refine wpQuiet_nil ?_
          intro w3 hb3
          have hM3 := HM2.out.now hb3
          have hF := HF.out.2 _ _ hM3 HM2E.out hu
          rw [← HV.out.1, ← HV.out.2] at hF
          have HFN := Lib.hid hF
          obtain ⟨r1, r2⟩ := hM3.at_ (fenD_len l k) (k + 1 + z) hu
          rw [← HV.out.1] at r1
          clear q0 q1 q2 s1 y1 e3 e4 e5 hb3 hM3 hF y0
          go_wp2_with fail
          go_roundw
          case measure => simp [intOf]; omega
          case rel => exact ⟨k + 1, by omega, by go_num, HFN.out⟩
        · have huz : ¬ (k : Int) + 1 + (z : Int) < (l.length : Int) + 1 := by omega
          have HFN := Lib.hid (HF.out.1 _ _ HM2.out HM2E.out hu)
          clear y0
          go_wp2_with fail
          go_roundw
          case measure => simp [intOf]; omega
          case rel => exact ⟨k + 1, by omega, by go_num, HFN.out⟩
      · have hsm := hn hx0
        rw [livI_no hx0] at hnc
        have HM2 : Hid (Making w1 wr C AS cS D l (fenD l k) m) := by show Making _ _ _ _ _ _ _ _ _; rw [← hsm]; exact hMm
        have HM2E := Lib.hid (show m = cntP l (k + 1) by omega)
        rw [hk1] at hlo
        clear hMm hsm hy hn hlc hnc
        go_wp2_with fail
        refine (hlo _).mono ?_
        rintro e w' ⟨rfl, hw'⟩
        subst hw'
        clear hlo
        have y1 := HM2.out.c1
        by_cases hu : k + 1 + z ≤ l.length
        · obtain ⟨e3, e4⟩ := HM2.out.at_ (fenD_len l k) (k + 1 + z) hu
          obtain ⟨e5, e6⟩ := HM2.out.at_ (fenD_len l k) (k + 1) (by omega)
          have hup := HUP.out hu
          have hc12 := HC12.out
          have hown := HOW.out
          rw [hown.1] at e5
          obtain ⟨v1, hv1⟩ : ∃ v1, v1 = (fenD l k).getD (k + 1 + z) 0 := ⟨_, rfl⟩
          obtain ⟨v2, hv2⟩ : ∃ v2, v2 = fenA l (k + 1) := ⟨_, rfl⟩
          rw [← hv1] at e3 hup
          rw [← hv2] at e5 hown
          have hv1b : -20 ≤ v1 ∧ v1 ≤ 20 := by omega
          have hv2b : 0 ≤ v2 ∧ v2 ≤ 20 := by omega
          have HV := Lib.hid (And.intro hv1 hv2)
          have huz : (k : Int) + 1 + (z : Int) < (l.length : Int) + 1 := by omega
          have hkn : (k : Int) + 1 < (l.length : Int) + 1 := by omega
          clear hup hc12 hown hv1 hv2 e6
          go_wp2_with fail
          have q0 := Qt.cell_in y1
          have q1 := Qt.cell_in e3
          have q2 := Qt.cell_in e5
          have s1 : IntKind.i64.wrap (v1 + v2) = v1 + v2 := by rw [IntKind.wrap_i64]; omega
          refine Qt.below_tail 12 (by kernel_rfl) (by kernel_rfl) ?_
          simp only [List.take_succ_cons, List.take_zero, List.drop_succ_cons, List.drop_zero]
          iterate 12 (go_big_quiet_step (fail))
          refine wpQuiet_nil ?_
          intro w3 hb3
          have hM3 := HM2.out.now hb3
          have hF := HF.out.2 _ _ hM3 HM2E.out hu
          rw [← HV.out.1, ← HV.out.2] at hF
          have HFN := Lib.hid hF
          obtain ⟨r1, r2⟩ := hM3.at_ (fenD_len l k) (k + 1 + z) hu
          rw [← HV.out.1] at r1
          clear q0 q1 q2 s1 y1 e3 e4 e5 hb3 hM3 hF y0
          go_wp2_with fail
          go_roundw
          case measure => simp [intOf]; omega
          case rel => exact ⟨k + 1, by omega, by go_num, HFN.out⟩
        · have huz : ¬ (k : Int) + 1 + (z : Int) < (l.length : Int) + 1 := by omega
          have HFN := Lib.hid (HF.out.1 _ _ HM2.out HM2E.out hu)
          clear y0
          go_wp2_with fail
          go_roundw
          case measure => simp [intOf]; omega
          case rel => exact ⟨k + 1, by omega, by go_num, HFN.out⟩
    · obtain rfl : k = l.length := by omega
      have hltz : ¬ (l.length : Int) < (l.length : Int) := by omega
      have hM := HK.out
      rw [fenC_all, show cntP l l.length = manyP l from rfl] at hM
      have HM9 := Lib.hid hM
      have hZ := (hM.bel.block _ hw0).trans HZ.out
      have c0 : wr.cell? ⟨C, 0, none⟩ = some (.slice AS l.length cS) := by rw [Lib.cell_of_heap hM.box]; rfl
      have c1 := hM.c1
      have c2 := hM.c2
      have z0 : wr.cell? ⟨w.heap.size, 0, none⟩ = some (.slice none 0 0) := by rw [Lib.cell_of_heap hZ]; rfl
      have z1 : wr.cell? ⟨w.heap.size, 1, none⟩ = some (.slice none 0 0) := by rw [Lib.cell_of_heap hZ]; rfl
      have z2 : wr.cell? ⟨w.heap.size, 2, none⟩ = some (.int .i64 0) := by rw [Lib.cell_of_heap hZ]; rfl
      have g0 := Lib.frozen_of_heap hZ 0
      have g1 := Lib.frozen_of_heap hZ 1
      have g2 := Lib.frozen_of_heap hZ 2
      have HFN : Hid ((((wr.setCell ⟨w.heap.size, 0, none⟩ (.slice AS l.length cS)).setCell ⟨w.heap.size, 1, none⟩ (.slice (some ⟨D, 0, none⟩) (l.length + 1) (l.length + 1))).setCell ⟨w.heap.size, 2, none⟩ (.int .i64 (manyP l : Int))).heap[w.heap.size]? = some (.cells #[.slice AS l.length cS, .slice (some ⟨D, 0, none⟩) (l.length + 1) (l.length + 1), .int .i64 (manyP l : Int)] 43 (0, 0)) ∧
          Own (((wr.setCell ⟨w.heap.size, 0, none⟩ (.slice AS l.length cS)).setCell ⟨w.heap.size, 1, none⟩ (.slice (some ⟨D, 0, none⟩) (l.length + 1) (l.length + 1))).setCell ⟨w.heap.size, 2, none⟩ (.int .i64 (manyP l : Int))) w.heap.size (.slice AS l.length cS) l ∧
          Own (((wr.setCell ⟨w.heap.size, 0, none⟩ (.slice AS l.length cS)).setCell ⟨w.heap.size, 1, none⟩ (.slice (some ⟨D, 0, none⟩) (l.length + 1) (l.length + 1))).setCell ⟨w.heap.size, 2, none⟩ (.int .i64 (manyP l : Int))) w.heap.size (.slice (some ⟨D, 0, none⟩) (l.length + 1) (l.length + 1)) (fenL l) ∧
          (∀ a, AS = some a → a.block ≠ D) ∧
          Below w.heap.size w (((wr.setCell ⟨w.heap.size, 0, none⟩ (.slice AS l.length cS)).setCell ⟨w.heap.size, 1, none⟩ (.slice (some ⟨D, 0, none⟩) (l.length + 1) (l.length + 1))).setCell ⟨w.heap.size, 2, none⟩ (.int .i64 (manyP l : Int)))) := by
        have hk : ∀ k, k ≠ w.heap.size → (((wr.setCell ⟨w.heap.size, 0, none⟩ (.slice AS l.length cS)).setCell ⟨w.heap.size, 1, none⟩ (.slice (some ⟨D, 0, none⟩) (l.length + 1) (l.length + 1))).setCell ⟨w.heap.size, 2, none⟩ (.int .i64 (manyP l : Int))).heap[k]? = wr.heap[k]? := fun k hk => by
          rw [heap_other (Ne.symm hk), heap_other (Ne.symm hk), heap_other (Ne.symm hk)]
        have hb := Qt.more HB.out HB.out.size hM.bel
        refine ⟨?_, own_more (own_keeps hM.steps fun g hg => hk g ?_) (by omega), own_more (own_keeps hM.counts fun g hg => hk g ?_) (by omega), fun a ha => (hM.sb a ha).2, ((hb.setCell (p := ⟨w.heap.size, 0, none⟩) (Nat.le_refl _) _).setCell (p := ⟨w.heap.size, 1, none⟩) (Nat.le_refl _) _).setCell (p := ⟨w.heap.size, 2, none⟩) (Nat.le_refl _) _⟩
        · simp [World.setCell, Array.getElem?_modify, hZ]
        · have := (World.ownsRow.lt hM.steps g hg).1; omega
        · have := (World.ownsRow.lt hM.counts g hg).1; omega
      clear hM hZ HK
      go_wp2_with fail
      generalize ((wr.setCell ⟨w.heap.size, 0, none⟩ (.slice AS l.length cS)).setCell ⟨w.heap.size, 1, none⟩ (.slice (some ⟨D, 0, none⟩) (l.length + 1) (l.length + 1))).setCell ⟨w.heap.size, 2, none⟩ (.int .i64 (manyP l : Int)) = wz at *
      refine bodyPost_ret (results_cell_row rfl _ _ _ _ _ _ _ rfl HFN.out.1 Try.underlying43 rfl (by kernel_rfl)) rfl ?_
      exact ⟨AS, cS, D, rfl, HFN.out.2.1, HFN.out.2.2.1, HFN.out.2.2.2.1, HFN.out.2.2.2.2⟩
end Go.Proofs.Ytffknldagconmaa
