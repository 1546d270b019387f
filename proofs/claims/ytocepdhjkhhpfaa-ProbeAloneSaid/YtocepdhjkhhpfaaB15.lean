/-
  Texts that the claims of this seat share, part 15.
-/
import Derived.Test.YtocepdhjkhhpfaaB12
import Derived.Test.YtocepdhjkhhpfaaB13
import Derived.Test.YtocepdhjkhhpfaaB14
import Derived.Test.YtocepdhjkhhpfaaB04
import Derived.Test.YtocepdhjkhhpfaaB06
import Derived.LoopN
import Derived.Lib.AppendZerosOnto
import Derived.Laws.IdiomCopy
import Derived.Test.YtocepdhjkhhpfaaB09
set_option linter.unusedVariables false
set_option linter.unusedSimpArgs false
namespace Go.Proofs.Ytocepdhjkhhpfaa
set_option maxRecDepth 100000
set_option linter.unusedVariables false
set_option linter.unusedSimpArgs false
open Go.RowKit Go.Sort

theorem hStep_any {w : World} {B b g : Nat} {u0 u : W8} {S N : Int} {m : List Int} {A : Option Addr} {c : Nat} (h : StepIn w B b g u0 u S N m A c) :
    Calls Try.prog 67 #[.pointer (some ⟨b, 0, none⟩), w8V u] w (Step8R B b g S N (.slice A m.length c) (doA m (accP S N u)).1 (behP S u (doA m (accP S N u)).2.1 (doA m (accP S N u)).2.2.1) w) := by
  rcases h.may.pc with e | e | e | e | e | e | e | e | e | e
  · exact hStep0 h e
  · exact hStep1 h e
  · exact hStep2 h e
  · exact hStep3 h e
  · exact hStep4 h e
  · exact hStep5 h e
  · exact hStep6 h e
  · exact hStep7 h e
  · exact hStep8 h e
  · exact hStep9 h e
abbrev tabV (S N : Int) : Value := .agg #[.int .i64 S, .int .i64 N]
def rightT (S N : Int) : Bool := decide (1 ≤ S) && decide (S ≤ 4000) && decide (0 ≤ N) && decide (N ≤ 1000)
theorem rightT_yes {S N : Int} (h : TabS S N) : rightT S N = true := by
  obtain ⟨h1, h2, h3, h4⟩ := h
  unfold rightT
  rw [decide_eq_true h1, decide_eq_true h2, decide_eq_true h3, decide_eq_true h4]
  rfl
theorem pRight_any (S N : Int) (w : World) : Calls Try.prog 47 #[tabV S N] w fun e w' => e = .returned (.bool (rightT S N)) ∧ Below w.heap.size w w' := by
  unfold rightT
  by_cases h1 : 1 ≤ S
  · by_cases h2 : S ≤ 4000
    · by_cases h3 : 0 ≤ N
      · rw [decide_eq_true h1, decide_eq_true h2, decide_eq_true h3]
        simp only [Bool.and_self, Bool.true_and]
        go_enter Try.func47, Try.ntmps47
        go_wp2
        go_ret
        exact ⟨rfl, (Below.refl _ _).alloc (Nat.le_refl _) _⟩
      · rw [decide_eq_true h1, decide_eq_true h2, decide_eq_false h3]
        simp only [Bool.and_self, Bool.true_and, Bool.and_false, Bool.false_and]
        go_enter Try.func47, Try.ntmps47
        go_wp2
        go_ret
        exact ⟨rfl, (Below.refl _ _).alloc (Nat.le_refl _) _⟩
    · rw [decide_eq_true h1, decide_eq_false h2]
      simp only [Bool.and_self, Bool.true_and, Bool.and_false, Bool.false_and]
      go_enter Try.func47, Try.ntmps47
      go_wp2
      go_ret
      exact ⟨rfl, (Below.refl _ _).alloc (Nat.le_refl _) _⟩
  · rw [decide_eq_false h1]
    simp only [Bool.false_and]
    go_enter Try.func47, Try.ntmps47
    go_wp2
    go_ret
    exact ⟨rfl, (Below.refl _ _).alloc (Nat.le_refl _) _⟩
theorem pFit_yes {S N : Int} (A : Option Addr) (n c : Nat) (w : World) (h : TabS S N) (hn : (n : Int) = S + 5 * N + 1) : Calls Try.prog 50 #[tabV S N, .slice A n c] w fun e w' => e = .returned (.bool true) ∧ Below w.heap.size w w' := by
  have hr := fun W => pRight_any S N W
  rw [rightT_yes h] at hr
  have he := fun W => pEnd_any W h
  rw [← hn] at he
  have c0 : (w.alloc (.cells #[.int .i64 S, .int .i64 N] 50)).cell? ⟨w.heap.size, 0, none⟩ = some (.int .i64 S) := by rw [Lib.cell_of_heap (heap_alloc_new w _)]; rfl
  have c1 : (w.alloc (.cells #[.int .i64 S, .int .i64 N] 50)).cell? ⟨w.heap.size, 1, none⟩ = some (.int .i64 N) := by rw [Lib.cell_of_heap (heap_alloc_new w _)]; rfl
  have hb := (Below.refl w.heap.size w).alloc (Nat.le_refl _) (.cells #[.int .i64 S, .int .i64 N] 50)
  clear hn h
  go_enter Try.func50, Try.ntmps50
  go_wp2_with fail
  refine (hr _).mono ?_
  rintro e w1 ⟨rfl, hb1⟩
  have d0 := Qt.keep hb1 c0
  have d1 := Qt.keep hb1 c1
  have HB := Lib.hid (Qt.more hb (by simp) hb1)
  have hs := hb1.size
  clear c0 c1 hb hb1 hr
  go_wp2_with fail
  refine (he _).mono ?_
  rintro e w2 ⟨rfl, hb2⟩
  go_wp2
  go_ret
  exact ⟨rfl, Qt.more HB.out HB.out.size hb2⟩
theorem pFit_none {S N : Int} (w : World) (h : TabS S N) : Calls Try.prog 50 #[tabV S N, (.slice none 0 0)] w fun e w' => e = .returned (.bool false) ∧ Below w.heap.size w w' := by
  have hr := fun W => pRight_any S N W
  rw [rightT_yes h] at hr
  have he := fun W => pEnd_any W h
  have hne : ((0 : Int) == S + 5 * N + 1) = false := beq_eq_false_iff_ne.2 (by have := h.s1; have := h.n1; omega)
  have c0 : (w.alloc (.cells #[.int .i64 S, .int .i64 N] 50)).cell? ⟨w.heap.size, 0, none⟩ = some (.int .i64 S) := by rw [Lib.cell_of_heap (heap_alloc_new w _)]; rfl
  have c1 : (w.alloc (.cells #[.int .i64 S, .int .i64 N] 50)).cell? ⟨w.heap.size, 1, none⟩ = some (.int .i64 N) := by rw [Lib.cell_of_heap (heap_alloc_new w _)]; rfl
  have hb := (Below.refl w.heap.size w).alloc (Nat.le_refl _) (.cells #[.int .i64 S, .int .i64 N] 50)
  have h1 := h.s1
  have h3 := h.n1
  clear h
  go_enter Try.func50, Try.ntmps50
  go_wp2_with fail
  refine (hr _).mono ?_
  rintro e w1 ⟨rfl, hb1⟩
  have d0 := Qt.keep hb1 c0
  have d1 := Qt.keep hb1 c1
  have HB := Lib.hid (Qt.more hb (by simp) hb1)
  have hs := hb1.size
  clear c0 c1 hb hb1 hr
  go_wp2_with fail
  refine (he _).mono ?_
  rintro e w2 ⟨rfl, hb2⟩
  go_wp2
  go_ret
  exact ⟨rfl, Qt.more HB.out HB.out.size hb2⟩
theorem results_tct {P : Program} {fn : Func} {u p v : Tmp} {ty : TypeId} (h : fn.results = #[.tmp u, .cell p ty, .tmp v]) (tmps : Array Value) (w : World) (g : Nat) (t : TypeId) (cs : Array Value) (fr : Nat × Nat) (d : TypeDesc)
    (hp : tmps.getD p undef = .pointer (some ⟨g, 0, none⟩)) (hg : w.heap[g]? = some (.cells cs t fr))
    (hu : P.underlying ty = some d) (hd : (match d with | .struct _ | .array _ _ => true | _ => false) = true) (hi : (P.info? ty).map (·.size) = some cs.size) :
    (results fn tmps).run P w = .ok (.tuple #[tmps.getD u undef, .agg cs, tmps.getD v undef]) w := by
  have hp' : tmps[p]?.getD undef = .pointer (some ⟨g, 0, none⟩) := by simpa using hp
  simp [results, h, hp', asAddr, run_loadVar_row w g t ty cs fr d hg hu hd hi]
/-- what Step answers: words, in new memory, and a worker -/
def PStepR (m1 : List Int) (u1 : W8) (e0 : Int) (w : World) (e : Ending) (w' : World) : Prop := ∃ A c, e = .returned (.tuple #[.slice A m1.length c, w8V u1, .int .i64 e0]) ∧ m1.length ≤ c ∧ Own w' w.heap.size (.slice A m1.length c) m1 ∧ Below w.heap.size w w'
/-- what Step is asked for -/
structure PStepIn (S N : Int) (m : List Int) (u : W8) : Prop where
  tab : TabS S N
  fit : Fit8 S u
  may : May8 S u
  wd : ∀ x ∈ m, WdI x
  len : (m.length : Int) = S + 5 * N + 1
/-- three more blocks -/
theorem three_allocs (w : World) (a b d : Obj) : Below w.heap.size w (((w.alloc a).alloc b).alloc d) ∧ (((w.alloc a).alloc b).alloc d).heap.size = w.heap.size + 1 + 1 + 1 ∧ (((w.alloc a).alloc b).alloc d).heap[w.heap.size]? = some a ∧ (((w.alloc a).alloc b).alloc d).heap[w.heap.size + 1]? = some b ∧ (((w.alloc a).alloc b).alloc d).heap[w.heap.size + 1 + 1]? = some d := by
  have h1 := heap_alloc_new w a
  have h2 := heap_alloc_new (w.alloc a) b
  have h3 := heap_alloc_new ((w.alloc a).alloc b) d
  rw [show (w.alloc a).heap.size = w.heap.size + 1 by simp] at h2
  rw [show ((w.alloc a).alloc b).heap.size = w.heap.size + 1 + 1 by simp] at h3
  exact ⟨below3 w a b d, by simp, (Lib.alloc_old _ _ _ (by simp; omega)).trans ((Lib.alloc_old _ _ _ (by simp)).trans h1), (Lib.alloc_old _ _ _ (by simp)).trans h2, h3⟩
set_option maxHeartbeats 16000000 in
theorem pStep_any {S N : Int} {m m1 : List Int} {u u1 : W8} (A : Option Addr) (c : Nat) (w : World) (h : PStepIn S N m u) (hs : stepP S N m u = (m1, u1, 0)) (hR : Now w A m) (hc : m.length ≤ c) :
    Calls Try.prog 46 #[tabV S N, .slice A m.length c, w8V u] w (PStepR m1 u1 0 w) := by
  obtain ⟨e1, e2, e3⟩ := stepP_parts hs
  have hlen : m.length ≤ 100000 := by have := h.len; have := h.tab.s2; have := h.tab.n2; omega
  have hl1 := stepP_len hs
  have HI := Lib.hid h
  have HOK := Lib.hid (And.intro e1 (okP_of hlen e1))
  have HE := Lib.hid (And.intro e2 (And.intro e3 hl1))
  have HL := Lib.hid (And.intro hlen hc)
  have HR := Lib.hid hR
  have hfit := fun W => pFit_yes A m.length c W h.tab h.len
  clear e1 e2 e3 hs h hlen hc hR hl1
  go_enter Try.func46, Try.ntmps46
  go_wp2_with fail
  refine (hfit _).mono ?_
  rintro e w1 ⟨rfl, hb1⟩
  clear hfit
  go_wp2_with fail
  obtain ⟨t1, t2, t3, t4, t5⟩ := three_allocs w (.cells #[.int .i64 S, .int .i64 N] 50) (.cells (w8A u) 39) (.cells (w8A zeroW8) 39)
  have hs1 : w.heap.size + 1 + 1 + 1 ≤ w1.heap.size := by rw [← t2]; exact hb1.size
  have q0 := (hb1.block w.heap.size (by rw [t2]; omega)).trans t3
  have q1 := (hb1.block (w.heap.size + 1) (by rw [t2]; omega)).trans t4
  have q2 := (hb1.block (w.heap.size + 1 + 1) (by rw [t2]; omega)).trans t5
  have B1 := Lib.hid (Qt.more t1 t1.size hb1)
  have HQ := Lib.hid (And.intro q0 (And.intro q1 (And.intro q2 hs1)))
  have R1 := Lib.hid (HR.out.below B1.out)
  clear t1 t2 t3 t4 t5 hb1 q0 q1 q2 hs1
  have L0 := fun (W : World) (hW : Below w1.heap.size w1 W) => (hW.cell (p := ⟨w.heap.size, 0, none⟩) (by have := HQ.out.2.2.2; show w.heap.size < _; omega)).trans (show w1.cell? ⟨w.heap.size, 0, none⟩ = some (.int .i64 S) by rw [Lib.cell_of_heap HQ.out.1]; rfl)
  have L1 := fun (W : World) (hW : Below w1.heap.size w1 W) => (hW.cell (p := ⟨w.heap.size, 1, none⟩) (by have := HQ.out.2.2.2; show w.heap.size < _; omega)).trans (show w1.cell? ⟨w.heap.size, 1, none⟩ = some (.int .i64 N) by rw [Lib.cell_of_heap HQ.out.1]; rfl)
  refine region_calm_to (fun W => Below w1.heap.size w1 W) (fun (a0 a9 : Act) (w9 : World) => ∃ (A2 : Option Addr) (c2 b g : Nat), a9 = (((((a0.put (some 18) (tabV S N)).put (some 19) (.slice A m.length c)).put (some 20) (.slice A2 m.length c2)).put (some 21) (.pointer (some ⟨b, 0, none⟩))).put (some 9) (.pointer (some ⟨b, 0, none⟩))) ∧ Own w9 w1.heap.size (.slice A2 m.length c2) m ∧ HaAt w9 b zeroW8 S N (.slice A2 m.length c2) (.map (some g)) ∧ Map8 w9 g b ∧ w1.heap.size ≤ b ∧ w1.heap.size ≤ g ∧ Below w1.heap.size w1 w9)
    (.calm 0 (.calm 1 (.only 2 (.only 3 (.only 4 .done))))) (by kernel_rfl) (by kernel_rfl) (by kernel_rfl) (by rfl) (below_drewW _) ?_ ?_
  · skip
    refine ⟨_, _, tabV S N, rfl, rfl, ⟨rfl, fun W hW => by first | exact ⟨rfl, rfl⟩ | (have l0 := L0 W hW; have l1 := L1 W hW; simp only [Act.eval, execOp]; go_simp; try exact ⟨rfl, rfl⟩)⟩, ?_⟩
    simp only [Act.put, List.getElem_toArray, List.getElem_cons_zero, List.getElem_cons_succ, List.setIfInBounds_toArray, List.set_cons_succ, List.set_cons_zero]
    refine ⟨_, _, .slice A m.length c, rfl, rfl, ⟨rfl, fun W hW => by first | exact ⟨rfl, rfl⟩ | (simp only [Act.eval, execOp]; go_simp; try exact ⟨rfl, rfl⟩)⟩, ?_⟩
    simp only [Act.put, List.getElem_toArray, List.getElem_cons_zero, List.getElem_cons_succ, List.setIfInBounds_toArray, List.set_cons_succ, List.set_cons_zero]
    have hsz : w1.drew.heap.size = w1.heap.size := rfl
    have hb0 := below_drewW w1
    clear L0 L1
    generalize w1.drew = x0 at *
    have hcl := clone_any A m c x0 (R1.out.below hb0) (by have := HL.out.1; omega)
    refine ⟨_, rfl, ?_⟩
    go_wp2_with fail
    refine hcl.mono ?_
    rintro e x1 ⟨v, rfl, hO, hbx⟩
    rw [hsz] at hO hbx
    obtain ⟨A2, c2, rfl, -, -⟩ := own_slice hO
    clear hcl
    go_wp2_with fail
    have hb2 := hb0.trans hbx
    have hs2 := hb2.size
    clear hbx hsz
    refine ⟨rfl, hb2, ?_⟩
    refine ⟨_, rfl, ?_⟩
    go_wp2_with fail
    refine (handAt_any S N A2 m.length c2 x1).mono ?_
    rintro e x2 ⟨b, g, rfl, hbg, hxb, hH, hM, hbx⟩
    go_wp2_with fail
    have hb3 := hb2.trans (hbx.mono hs2)
    have hO3 := own_next hO hbx
    refine ⟨rfl, hb3, ?_⟩
    refine ⟨_, rfl, ?_⟩
    go_wp2_with fail
    exact ⟨rfl, hb3, A2, c2, b, rfl, hO3, g, hH, hM, by omega, by omega, hb3⟩
  · rintro a' w5 ⟨A2, c2, b, g, rfl, hO5, hH5, hM5, hbb, hgg, hb5⟩
    simp only [Act.put, List.setIfInBounds_toArray, List.set_cons_succ, List.set_cons_zero]
    obtain ⟨q0, q1, q2, hs1⟩ := HQ.out
    have p1 := (hb5.block _ (by omega)).trans q1
    have p2 := (hb5.block _ (by omega)).trans q2
    have hst := hStep_any (w := w5) (B := w1.heap.size) (b := b) (g := g) (u0 := zeroW8) (u := u) (S := S) (N := N) (m := m) (A := A2) (c := c2) ⟨hH5, hM5, hO5, hbb, hgg, HI.out.tab, HI.out.fit, HI.out.may, HOK.out.1, HOK.out.2, HI.out.wd, HL.out.1⟩
    rw [HE.out.1, HE.out.2.1] at hst
    have c0 : w5.cell? ⟨w.heap.size + 1, 0, none⟩ = some (.int .i64 u.pc) := by rw [Lib.cell_of_heap p1]; rfl
    have c1 : w5.cell? ⟨w.heap.size + 1, 1, none⟩ = some (.int .i64 u.job) := by rw [Lib.cell_of_heap p1]; rfl
    have c2 : w5.cell? ⟨w.heap.size + 1, 2, none⟩ = some (.int .i64 u.r0) := by rw [Lib.cell_of_heap p1]; rfl
    have c3 : w5.cell? ⟨w.heap.size + 1, 3, none⟩ = some (.int .i64 u.r1) := by rw [Lib.cell_of_heap p1]; rfl
    have c4 : w5.cell? ⟨w.heap.size + 1, 4, none⟩ = some (.int .i64 u.r2) := by rw [Lib.cell_of_heap p1]; rfl
    have c5 : w5.cell? ⟨w.heap.size + 1, 5, none⟩ = some (.int .i64 u.r3) := by rw [Lib.cell_of_heap p1]; rfl
    have c6 : w5.cell? ⟨w.heap.size + 1, 6, none⟩ = some (.int .i64 u.r4) := by rw [Lib.cell_of_heap p1]; rfl
    have c7 : w5.cell? ⟨w.heap.size + 1, 7, none⟩ = some (.int .i64 u.r5) := by rw [Lib.cell_of_heap p1]; rfl
    have c8 : w5.cell? ⟨w.heap.size + 1, 8, none⟩ = some (.int .i64 u.r6) := by rw [Lib.cell_of_heap p1]; rfl
    have c9 : w5.cell? ⟨w.heap.size + 1, 9, none⟩ = some (.int .i64 u.r7) := by rw [Lib.cell_of_heap p1]; rfl
    have c10 : w5.cell? ⟨w.heap.size + 1, 10, none⟩ = some (.bool u.done) := by rw [Lib.cell_of_heap p1]; rfl
    have c11 : w5.cell? ⟨w.heap.size + 1, 11, none⟩ = some (.int .i64 u.out) := by rw [Lib.cell_of_heap p1]; rfl
    have HP := Lib.hid (And.intro p2 (And.intro hb5 (And.intro hbb hgg)))
    clear p1 p2 q0 q1 q2 hs1 hO5 hH5 hM5 hb5 hbb hgg L0 L1
    go_wp2_with fail
    refine hst.mono ?_
    rintro e w6 ⟨rfl, hH6, hM6, hO6, hb6⟩
    clear hst c0 c1 c2 c3 c4 c5 c6 c7 c8 c9 c10 c11
    go_wp2_with fail
    have hU7 := heap_alloc_new w6 (.cells (w8A u1) 39)
    have h67 := (Below.refl w6.heap.size w6).alloc (Nat.le_refl _) (.cells (w8A u1) 39)
    have hne7 : w6.heap.size < (w6.alloc (.cells (w8A u1) 39)).heap.size := by simp
    simp only [w8A] at hU7 h67 hne7
    generalize w6.alloc (.cells #[.int .i64 u1.pc, .int .i64 u1.job, .int .i64 u1.r0, .int .i64 u1.r1, .int .i64 u1.r2, .int .i64 u1.r3, .int .i64 u1.r4, .int .i64 u1.r5, .int .i64 u1.r6, .int .i64 u1.r7, .bool u1.done, .int .i64 u1.out] 39) = w7 at *
    obtain ⟨p2, hb5, hbb, hgg⟩ := HP.out
    obtain ⟨q0, q1, q2, hs1⟩ := HQ.out
    have hs5 := hb5.size
    have hs6 := hb6.size
    have hbl := hH6.lt
    have p7 := (h67.block _ (by omega)).trans ((hb6.block _ (by omega)).trans p2)
    have H7 := Lib.hid (hH6.below h67 hH6.lt)
    have O7 := Lib.hid (own_next hO6 h67)
    have BB7 := Lib.hid ((B1.out.trans (hb5.mono (by omega))).trans ((hb6.mono (by omega)).trans (h67.mono (by omega))))
    have HU7 := Lib.hid hU7
    have HB : Hid (w1.heap.size ≤ b) := hbb
    have HP7 := Lib.hid (And.intro p7 (And.intro hs1 (And.intro hne7 (And.intro hs5 (And.intro hs6 h67.size)))))
    clear p2 hb5 hbb hgg q0 q1 q2 hs1 hs5 hs6 hbl p7 hU7 h67 hne7 hH6 hM6 hO6 hb6
    have hbw : b ≠ w.heap.size + 1 + 1 := by have := HP7.out.2.1; have := HB.out; omega
    have huw : w6.heap.size ≠ w.heap.size + 1 + 1 := by have := HP7.out.2.1; have := HP7.out.2.2.2; omega
    have L14 := fun (W : World) (hW : w7.grownBy W (some (w.heap.size + 1 + 1))) => (hat_grown H7.out hW (fun e => by injection e with e; exact hbw e)).cs.c14
    have HU := fun (W : World) (hW : w7.grownBy W (some (w.heap.size + 1 + 1))) => (hW.block w6.heap.size HP7.out.2.2.1 (fun e => by injection e with e; exact huw e)).trans HU7.out
    have M0 := fun (W : World) (hW : w7.grownBy W (some (w.heap.size + 1 + 1))) => (show W.cell? ⟨w6.heap.size, 0, none⟩ = some (.int .i64 u1.pc) by rw [Lib.cell_of_heap (HU W hW)]; rfl)
    have M1 := fun (W : World) (hW : w7.grownBy W (some (w.heap.size + 1 + 1))) => (show W.cell? ⟨w6.heap.size, 1, none⟩ = some (.int .i64 u1.job) by rw [Lib.cell_of_heap (HU W hW)]; rfl)
    have M2 := fun (W : World) (hW : w7.grownBy W (some (w.heap.size + 1 + 1))) => (show W.cell? ⟨w6.heap.size, 2, none⟩ = some (.int .i64 u1.r0) by rw [Lib.cell_of_heap (HU W hW)]; rfl)
    have M3 := fun (W : World) (hW : w7.grownBy W (some (w.heap.size + 1 + 1))) => (show W.cell? ⟨w6.heap.size, 3, none⟩ = some (.int .i64 u1.r1) by rw [Lib.cell_of_heap (HU W hW)]; rfl)
    have M4 := fun (W : World) (hW : w7.grownBy W (some (w.heap.size + 1 + 1))) => (show W.cell? ⟨w6.heap.size, 4, none⟩ = some (.int .i64 u1.r2) by rw [Lib.cell_of_heap (HU W hW)]; rfl)
    have M5 := fun (W : World) (hW : w7.grownBy W (some (w.heap.size + 1 + 1))) => (show W.cell? ⟨w6.heap.size, 5, none⟩ = some (.int .i64 u1.r3) by rw [Lib.cell_of_heap (HU W hW)]; rfl)
    have M6 := fun (W : World) (hW : w7.grownBy W (some (w.heap.size + 1 + 1))) => (show W.cell? ⟨w6.heap.size, 6, none⟩ = some (.int .i64 u1.r4) by rw [Lib.cell_of_heap (HU W hW)]; rfl)
    have M7 := fun (W : World) (hW : w7.grownBy W (some (w.heap.size + 1 + 1))) => (show W.cell? ⟨w6.heap.size, 7, none⟩ = some (.int .i64 u1.r5) by rw [Lib.cell_of_heap (HU W hW)]; rfl)
    have M8 := fun (W : World) (hW : w7.grownBy W (some (w.heap.size + 1 + 1))) => (show W.cell? ⟨w6.heap.size, 8, none⟩ = some (.int .i64 u1.r6) by rw [Lib.cell_of_heap (HU W hW)]; rfl)
    have M9 := fun (W : World) (hW : w7.grownBy W (some (w.heap.size + 1 + 1))) => (show W.cell? ⟨w6.heap.size, 9, none⟩ = some (.int .i64 u1.r7) by rw [Lib.cell_of_heap (HU W hW)]; rfl)
    have M10 := fun (W : World) (hW : w7.grownBy W (some (w.heap.size + 1 + 1))) => (show W.cell? ⟨w6.heap.size, 10, none⟩ = some (.bool u1.done) by rw [Lib.cell_of_heap (HU W hW)]; rfl)
    have M11 := fun (W : World) (hW : w7.grownBy W (some (w.heap.size + 1 + 1))) => (show W.cell? ⟨w6.heap.size, 11, none⟩ = some (.int .i64 u1.out) by rw [Lib.cell_of_heap (HU W hW)]; rfl)
    refine region_calm_to (fun W => w7.grownBy W (some (w.heap.size + 1 + 1))) (fun (a0 a9 : Act) (w9 : World) => a9 = ((((((((a0.put (some 28) (.pointer (some ⟨b, 0, none⟩))).put (some 29) (.pointer (some ⟨b, 0, none⟩))).put (some 30) (.pointer (some ⟨b, 14, none⟩))).put (some 31) (.slice A2 m.length c2)).put (some 32) (w8V u1)).put (some 33) (.int .i64 0)).put (some 6) (.slice A2 m.length c2)).put (some 8) (.int .i64 0)) ∧ w9.heap[w.heap.size + 1 + 1]? = some (.cells (w8A u1) 39 (0, 0)) ∧ Own w9 w1.heap.size (.slice A2 m.length c2) m1 ∧ Below w.heap.size w w9)
      (.calm 0 (.calm 1 (.calm 2 (.calm 3 (.calm 4 (.calm 5 (.only 6 (.only 7 (.only 8 .done))))))))) (by kernel_rfl) (by kernel_rfl) (by kernel_rfl) (by rfl) ⟨rfl, rfl, rfl, Nat.le_refl _, fun _ _ _ => rfl⟩ ?_ ?_
    · skip
      refine ⟨_, _, .pointer (some ⟨b, 0, none⟩), rfl, rfl, ⟨rfl, fun W hW => by first | exact ⟨rfl, rfl⟩ | (simp only [Act.eval, execOp]; go_simp; try exact ⟨rfl, rfl⟩)⟩, ?_⟩
      simp only [Act.put, List.getElem_toArray, List.getElem_cons_zero, List.getElem_cons_succ, List.setIfInBounds_toArray, List.set_cons_succ, List.set_cons_zero]
      refine ⟨_, _, .pointer (some ⟨b, 0, none⟩), rfl, rfl, ⟨rfl, fun W hW => by first | exact ⟨rfl, rfl⟩ | (simp only [Act.eval, execOp]; go_simp; try exact ⟨rfl, rfl⟩)⟩, ?_⟩
      simp only [Act.put, List.getElem_toArray, List.getElem_cons_zero, List.getElem_cons_succ, List.setIfInBounds_toArray, List.set_cons_succ, List.set_cons_zero]
      refine ⟨_, _, .pointer (some ⟨b, 14, none⟩), rfl, rfl, ⟨rfl, fun W hW => by first | exact ⟨rfl, rfl⟩ | (simp only [Act.eval, execOp]; go_simp; try exact ⟨rfl, rfl⟩)⟩, ?_⟩
      simp only [Act.put, List.getElem_toArray, List.getElem_cons_zero, List.getElem_cons_succ, List.setIfInBounds_toArray, List.set_cons_succ, List.set_cons_zero]
      refine ⟨_, _, .slice A2 m.length c2, rfl, rfl, ⟨rfl, fun W hW => by first | exact ⟨rfl, rfl⟩ | (have l := L14 W hW; simp only [Act.eval, execOp]; go_simp; try exact ⟨rfl, rfl⟩)⟩, ?_⟩
      simp only [Act.put, List.getElem_toArray, List.getElem_cons_zero, List.getElem_cons_succ, List.setIfInBounds_toArray, List.set_cons_succ, List.set_cons_zero]
      refine ⟨_, _, w8V u1, rfl, rfl, ⟨rfl, fun W hW => by first | exact ⟨rfl, rfl⟩ | (have m0 := M0 W hW; have m1 := M1 W hW; have m2 := M2 W hW; have m3 := M3 W hW; have m4 := M4 W hW; have m5 := M5 W hW; have m6 := M6 W hW; have m7 := M7 W hW; have m8 := M8 W hW; have m9 := M9 W hW; have m10 := M10 W hW; have m11 := M11 W hW; simp only [Act.eval, execOp]; go_simp; try exact ⟨rfl, rfl⟩)⟩, ?_⟩
      simp only [Act.put, List.getElem_toArray, List.getElem_cons_zero, List.getElem_cons_succ, List.setIfInBounds_toArray, List.set_cons_succ, List.set_cons_zero]
      refine ⟨_, _, .int .i64 0, rfl, rfl, ⟨rfl, fun W hW => by first | exact ⟨rfl, rfl⟩ | (simp only [Act.eval, execOp]; go_simp; try exact ⟨rfl, rfl⟩)⟩, ?_⟩
      simp only [Act.put, List.getElem_toArray, List.getElem_cons_zero, List.getElem_cons_succ, List.setIfInBounds_toArray, List.set_cons_succ, List.set_cons_zero]
      have hsz : w7.drew.heap.size = w7.heap.size := rfl
      have hb0 := below_drewW w7
      have hG0 : w7.grownBy w7.drew (some (w.heap.size + 1 + 1)) := ⟨rfl, rfl, rfl, Nat.le_refl _, fun _ _ _ => rfl⟩
      clear L14 HU hbw huw M0 M1 M2 M3 M4 M5 M6 M7 M8 M9 M10 M11
      generalize w7.drew = x0 at *
      refine ⟨_, rfl, ?_⟩
      go_wp2_with fail
      refine ⟨rfl, hG0, ?_⟩
      refine ⟨_, rfl, ?_⟩
      obtain ⟨p7, k1, k2, k3, k4, k5⟩ := HP7.out
      have z0 := (hb0.block _ (by omega)).trans p7
      have HZ := Lib.hid z0
      have o0 : x0.cell? ⟨w.heap.size + 1 + 1, 0, none⟩ = some (.int .i64 0) := by rw [Lib.cell_of_heap z0]; rfl
      have o1 : x0.cell? ⟨w.heap.size + 1 + 1, 1, none⟩ = some (.int .i64 0) := by rw [Lib.cell_of_heap z0]; rfl
      have o2 : x0.cell? ⟨w.heap.size + 1 + 1, 2, none⟩ = some (.int .i64 0) := by rw [Lib.cell_of_heap z0]; rfl
      have o3 : x0.cell? ⟨w.heap.size + 1 + 1, 3, none⟩ = some (.int .i64 0) := by rw [Lib.cell_of_heap z0]; rfl
      have o4 : x0.cell? ⟨w.heap.size + 1 + 1, 4, none⟩ = some (.int .i64 0) := by rw [Lib.cell_of_heap z0]; rfl
      have o5 : x0.cell? ⟨w.heap.size + 1 + 1, 5, none⟩ = some (.int .i64 0) := by rw [Lib.cell_of_heap z0]; rfl
      have o6 : x0.cell? ⟨w.heap.size + 1 + 1, 6, none⟩ = some (.int .i64 0) := by rw [Lib.cell_of_heap z0]; rfl
      have o7 : x0.cell? ⟨w.heap.size + 1 + 1, 7, none⟩ = some (.int .i64 0) := by rw [Lib.cell_of_heap z0]; rfl
      have o8 : x0.cell? ⟨w.heap.size + 1 + 1, 8, none⟩ = some (.int .i64 0) := by rw [Lib.cell_of_heap z0]; rfl
      have o9 : x0.cell? ⟨w.heap.size + 1 + 1, 9, none⟩ = some (.int .i64 0) := by rw [Lib.cell_of_heap z0]; rfl
      have o10 : x0.cell? ⟨w.heap.size + 1 + 1, 10, none⟩ = some (.bool false) := by rw [Lib.cell_of_heap z0]; rfl
      have o11 : x0.cell? ⟨w.heap.size + 1 + 1, 11, none⟩ = some (.int .i64 0) := by rw [Lib.cell_of_heap z0]; rfl
      have fz : ∀ j, x0.frozen? ⟨w.heap.size + 1 + 1, j, none⟩ = false := fun j => Lib.frozen_of_heap z0 j
      clear p7 k1 k2 k3 k4 k5 z0
      go_wp2_with fail
      clear o0 o1 o2 o3 o4 o5 o6 o7 o8 o9 o10 o11 fz
      obtain ⟨x1, hx1, hr1, hg1⟩ := set12o x0 (w.heap.size + 1 + 1) zeroW8 u1 HZ.out
      try rw [hx1]
      have hG1 := hG0.trans hg1
      obtain ⟨p7, k1, k2, k3, k4, k5⟩ := HP7.out
      have hOx := (own_next O7.out hb0).kept hg1 (.inr (fun e => by have := (World.ownsRow.lt O7.out _ e).1; omega))
      have hBx := below_grown (BB7.out.trans (hb0.mono (by omega))) hg1 (fun k e => by injection e with e; omega) (by omega)
      refine ⟨rfl, hG1, ?_⟩
      refine ⟨_, rfl, ?_⟩
      go_wp2_with fail
      exact ⟨rfl, hG1, rfl, hr1, hOx, hBx⟩
    · rintro a' w9 ⟨rfl, hr9, hO9, hb9⟩
      simp only [Act.put, List.setIfInBounds_toArray, List.set_cons_succ, List.set_cons_zero]
      go_wp2_with fail
      have hl1 := HE.out.2.2
      refine bodyPost_ret (results_tct rfl _ _ (w.heap.size + 1 + 1) _ _ _ _ rfl hr9 Try.underlying39 rfl (by kernel_rfl)) rfl ?_
      obtain ⟨p7, k1, k2, k3, k4, k5⟩ := HP7.out
      obtain ⟨A3, c3, e3, hc3, -⟩ := own_slice hO9
      rw [← hl1] at hO9
      refine ⟨A2, c2, by rw [hl1]; rfl, ?_, own_mono hO9 (by omega), hb9⟩
      injection e3 with e31 e32 e33
      rw [e33]
      exact hc3
end Go.Proofs.Ytocepdhjkhhpfaa
namespace Go.Proofs.Ytocepdhjkhhpfaa
set_option maxRecDepth 100000
set_option linter.unusedVariables false
set_option linter.unusedSimpArgs false
open Go.RowKit Go.Sort Go.Lib

theorem drewB (w : World) : Below w.heap.size w w.drew := ⟨rfl, rfl, rfl, Nat.le_refl _, fun k _ => rfl⟩
set_option maxHeartbeats 4000000 in
theorem growNil_any (n : Nat) (h0 : 0 < n) (hn : n ≤ 100000) (w : World) : Calls Try.prog 68 #[.slice none 0 0, .int .i64 n] w fun e w' => ∃ v, e = .returned v ∧ Own w' w.heap.size v [] ∧ Below w.heap.size w w' := by
  obtain ⟨i0, hi, hz0, hz1, hz2⟩ := info_parts info_int
  have hrz : ∀ ty, (Builtin.append_ #[23, 3] ty #[.slice none 0 0, .int .i64 (n : Int)]).run Try.prog w =
      .ok (.slice (some ⟨w.heap.size, 0, none⟩) n (grownCap w n 0 3)) (w.drew.alloc (.cells (([] : List Value).toArray ++ Builtin.zeroCells (Value.int .i64 0).cells n ++ Builtin.zeroCells (Value.int .i64 0).cells (grownCap w n 0 3 - n)) 3)) := fun ty => by
    have h := Lib.run_append_grow_zeros w 23 3 ty 3 i0 _ .i64 .i64 Try.underlying23 Try.underlying3 hi hz0 none 0 0 [] (run_firstCells_none w.drew i0.size 0 0 0) n h0 (by rw [hz1]; omega) (by omega) (by omega) (by rw [hz2]; omega) (by rw [Nat.zero_add]; exact growslice_fits (by omega) (by rw [hz2]; omega))
    rw [Nat.zero_add] at h
    exact h
  have hGn : n ≤ grownCap w n 0 3 := grownCap_ge w _ _ _
  have hGm : grownCap w n 0 3 ≤ maxLen := grownCap_le_maxLen w n 0 3 (by unfold maxLen; omega)
  obtain ⟨G, hG⟩ : ∃ G, G = grownCap w n 0 3 := ⟨_, rfl⟩
  rw [← hG] at hrz hGn hGm
  have hG63 : G ≤ 9223372036854775807 := by unfold maxLen at hGm; omega
  have HM := Lib.hid hGm
  have HI := Lib.hid hz1
  clear hG hGm hi hz0 hz1 hz2
  go_enter Try.func68, Try.ntmps68
  go_wp2_with (at_builtin; refine Lib.wpList_append_run _ rfl _ _ _ _ rfl _ _ rfl rfl _ _ (hrz _) ?_)
  all_goals
    go_ret
    refine ⟨_, rfl, ?_, (drewB w).alloc (Nat.le_refl _) _⟩
    refine ⟨rfl, .inr ⟨w.heap.size, G, _, rfl, Nat.le_refl _, heap_alloc_new w.drew _, Nat.zero_le _, HM.out, ?_, rfl⟩⟩
    show _ = G * 1
    simp [Builtin.zeroCells]
    omega
theorem below_grownN {B : Nat} {w w1 w' : World} {r : Option Nat} (h : Below B w w1) (hg : w1.grownBy w' r) (hr : ∀ k, r = some k → B ≤ k) (hB : B ≤ w1.heap.size) : Below B w w' :=
  ⟨hg.os.trans h.os, hg.tape.trans h.tape, hg.output.trans h.output, Nat.le_trans h.size hg.size, fun k hk => (hg.block k (Nat.lt_of_lt_of_le hk hB) (fun e => by have := hr k e.symm; omega)).trans (h.block k hk)⟩
theorem concat2_any {A1 A2 : Option Addr} {l1 l2 : List Int} (c1 c2 c rb : Nat) (w : World) (h0 : 0 < l1.length + l2.length) (hl : l1.length + l2.length ≤ 100000) (r0 : w.cell? ⟨rb, 0, none⟩ = some (.slice A1 l1.length c1)) (r1 : w.cell? ⟨rb, 1, none⟩ = some (.slice A2 l2.length c2)) (hrb : rb < w.heap.size) (n1 : Now w A1 l1) (n2 : Now w A2 l2) :
    Calls Try.prog 48 #[.slice (some ⟨rb, 0, none⟩) 2 c] w (NumsR (l1 ++ l2) w) := by
  have hg := fun W => growNil_any (l1.length + l2.length) h0 hl W
  have hlz : ((l1.length : Int) + (l2.length : Int)) ≤ 100000 := by omega
  have e1 : (((l1.length + l2.length : Nat)) : Int) = (l1.length : Int) + (l2.length : Int) := by omega
  rw [e1] at hg
  clear e1
  go_enter Try.func48, Try.ntmps48
  go_wp2
  refine wp_loop_rounds 3 ?_
  rw [rounds_succ]
  go_wp2
  rw [rounds_succ]
  go_wp2
  rw [rounds_succ]
  go_wp2_with fail
  refine (hg w).mono ?_
  rintro e w1 ⟨v, rfl, ho, hb1⟩
  clear hg
  obtain ⟨Av, cv, rfl, hcv, -⟩ := own_slice ho
  have d0 := (hb1.cell (p := ⟨rb, 0, none⟩) hrb).trans r0
  have d1 := (hb1.cell (p := ⟨rb, 1, none⟩) hrb).trans r1
  obtain ⟨v2, w2, hr1, ho2, hg2⟩ := appW_any c1 hb1.size ho (n1.below hb1) (by simp; omega)
  obtain ⟨Av2, cv2, rfl, hcv2, -⟩ := own_slice ho2
  have hb2 : Below w.heap.size w w2 := below_grownN hb1 hg2 (fun k e => (World.ownsRow.lt ho k e).1) hb1.size
  have q1 := (hb2.cell (p := ⟨rb, 1, none⟩) hrb).trans r1
  obtain ⟨v3, w3, hr2, ho3, hg3⟩ := appW_any c2 hb2.size ho2 (n2.below hb2) (by simp; omega)
  obtain ⟨Av3, cv3, rfl, hcv3, -⟩ := own_slice ho3
  have hb3 := below_grownN hb2 hg3 (fun k e => (World.ownsRow.lt ho2 k e).1) hb2.size
  have HO3 := Lib.hid ho3
  have HB3 := Lib.hid hb3
  clear hcv hcv2 hcv3 ho3 hb3 ho2 hg2 hg3 ho hb1 hb2 n1 n2 r0 r1 d1
  go_wp2_with fail
  refine wp_loop_rounds 3 ?_
  rw [rounds_succ]
  go_wp2_with (at_builtin; refine Lib.wpList_append_run _ rfl _ _ _ _ rfl _ _ rfl rfl _ _ hr1 ?_)
  clear d0 hr1
  rw [rounds_succ]
  go_wp2_with (at_builtin; refine Lib.wpList_append_run _ rfl _ _ _ _ rfl _ _ rfl rfl _ _ hr2 ?_)
  rw [rounds_succ]
  go_wp2
  go_ret
  exact ⟨_, rfl, by have := HO3.out; rw [List.nil_append, List.length_append] at this; exact this, HB3.out⟩
end Go.Proofs.Ytocepdhjkhhpfaa
namespace Go.Proofs.Ytocepdhjkhhpfaa
set_option maxRecDepth 100000
set_option linter.unusedVariables false
set_option linter.unusedSimpArgs false
open Go.RowKit Go.Sort

theorem makeL_len' (N : Nat) : (makeL N).length = N + 1 := makeL_len N
theorem zlen (n : Nat) : (List.replicate n (0 : Int)).length = n := List.length_replicate
theorem nowOf {w : World} {B : Nat} {A : Option Addr} {n c : Nat} {l : List Int} (h : Own w B (.slice A n c) l) : Now w A l := by
  obtain ⟨A2, c2, e, _, hn⟩ := own_slice h
  injection e with e1 e2 e3
  rw [e1]
  exact hn
theorem ne_none {w : World} {B : Nat} {A : Option Addr} {n c : Nat} {l : List Int} (h : Own w B (.slice A n c) l) (hl : 0 < l.length) : A ≠ none := by
  obtain ⟨b, off, e, _⟩ := nowOf h 0 hl
  rw [e]
  exact fun e => by cases e
set_option maxHeartbeats 16000000 in
theorem pNew_any {S N : Nat} (w : World) (h : TabS S N) : Calls Try.prog 28 #[tabV S N] w (NumsR (newT S N) w) := by
  have hr := pRight_any S N (w.alloc (.cells #[.int .i64 S, .int .i64 N] 50))
  rw [rightT_yes h] at hr
  have hh := fun W => pHead_any W h
  have h1 := h.s1
  have h2 := h.s2
  have h4 := h.n2
  have hsz : (((S + 4 * N : Nat)) : Int) = (S : Int) + 4 * (N : Int) := by omega
  have c0 : (w.alloc (.cells #[.int .i64 S, .int .i64 N] 50)).cell? ⟨w.heap.size, 0, none⟩ = some (.int .i64 S) := by rw [Lib.cell_of_heap (heap_alloc_new w _)]; rfl
  have c1 : (w.alloc (.cells #[.int .i64 S, .int .i64 N] 50)).cell? ⟨w.heap.size, 1, none⟩ = some (.int .i64 N) := by rw [Lib.cell_of_heap (heap_alloc_new w _)]; rfl
  have hb := (Below.refl w.heap.size w).alloc (Nat.le_refl _) (.cells #[.int .i64 S, .int .i64 N] 50)
  clear h
  go_enter Try.func28, Try.ntmps28
  go_wp2_with fail
  refine hr.mono ?_
  rintro e w1 ⟨rfl, hb1⟩
  have hlt : w.heap.size < w1.heap.size := Nat.lt_of_lt_of_le (by simp) hb1.size
  have C0 := Lib.hid ((hb1.cell (p := ⟨w.heap.size, 0, none⟩) (by simp)).trans c0)
  have C1 := Lib.hid ((hb1.cell (p := ⟨w.heap.size, 1, none⟩) (by simp)).trans c1)
  have HB := Lib.hid (Qt.more hb (by simp) hb1)
  have HS := Lib.hid (And.intro h1 (And.intro h2 (And.intro h4 hsz)))
  clear hr c0 c1 hb hb1 h1 h2 h4 hsz
  go_wp2_with fail
  have L0 := fun (W : World) (hW : Below w1.heap.size w1 W) => (hW.cell (p := ⟨w.heap.size, 0, none⟩) hlt).trans C0.out
  have L1 := fun (W : World) (hW : Below w1.heap.size w1 W) => (hW.cell (p := ⟨w.heap.size, 1, none⟩) hlt).trans C1.out
  refine region_calm_to (fun W => Below w1.heap.size w1 W) (fun (a0 a9 : Act) (w9 : World) => ∃ (zb rb : Nat) (Am : Option Addr) (cm : Nat) (v : Value), a9 = ((((((((((a0.put (some 6) (tabV S N)).put (some 7) (tabV S N)).put (some 10) (.pointer (some ⟨w.heap.size, 1, none⟩))).put (some 11) (.int .i64 (N : Int))).put (some 8) (.int .i64 ((S : Int) + 4 * (N : Int)))).put (some 9) (.slice (some ⟨zb, 0, none⟩) (S + 4 * N) (S + 4 * N))).put (some 12) (.slice Am (N + 1) cm)).put (some 13) (.slice (some ⟨rb, 0, none⟩) 2 2)).put (some 14) (v)).put (some 2) (v)) ∧ Own w9 w1.heap.size v (newT S N) ∧ Below w1.heap.size w1 w9 ∧ zb ≠ rb ∧ Am ≠ none ∧ cm ≠ 0)
    (.calm 0 (.calm 1 (.calm 4 (.calm 5 (.only 2 (.two 3 6 (.only 6 (.only 7 (.only 8 (.only 9 .done)))) (.only 3 (.only 7 (.only 8 (.only 9 .done)))))))))) (by kernel_rfl) (by kernel_rfl) (by kernel_rfl) (by rfl) (below_drewW _) ?_ ?_
  · skip
    refine ⟨_, _, tabV S N, rfl, rfl, ⟨rfl, fun W hW => by first | exact ⟨rfl, rfl⟩ | (have l0 := L0 W hW; have l1 := L1 W hW; simp only [Act.eval, execOp]; go_simp; try exact ⟨rfl, rfl⟩)⟩, ?_⟩
    simp only [Act.put, List.getElem_toArray, List.getElem_cons_zero, List.getElem_cons_succ, List.setIfInBounds_toArray, List.set_cons_succ, List.set_cons_zero]
    refine ⟨_, _, tabV S N, rfl, rfl, ⟨rfl, fun W hW => by first | exact ⟨rfl, rfl⟩ | (simp only [Act.eval, execOp]; go_simp; try exact ⟨rfl, rfl⟩)⟩, ?_⟩
    simp only [Act.put, List.getElem_toArray, List.getElem_cons_zero, List.getElem_cons_succ, List.setIfInBounds_toArray, List.set_cons_succ, List.set_cons_zero]
    refine ⟨_, _, .pointer (some ⟨w.heap.size, 1, none⟩), rfl, rfl, ⟨rfl, fun W hW => by first | exact ⟨rfl, rfl⟩ | (simp only [Act.eval, execOp]; go_simp; try exact ⟨rfl, rfl⟩)⟩, ?_⟩
    simp only [Act.put, List.getElem_toArray, List.getElem_cons_zero, List.getElem_cons_succ, List.setIfInBounds_toArray, List.set_cons_succ, List.set_cons_zero]
    refine ⟨_, _, .int .i64 (N : Int), rfl, rfl, ⟨rfl, fun W hW => by first | exact ⟨rfl, rfl⟩ | (have l1 := L1 W hW; simp only [Act.eval, execOp]; go_simp; try exact ⟨rfl, rfl⟩)⟩, ?_⟩
    simp only [Act.put, List.getElem_toArray, List.getElem_cons_zero, List.getElem_cons_succ, List.setIfInBounds_toArray, List.set_cons_succ, List.set_cons_zero]
    have hb0 := below_drewW w1
    clear L0 L1
    generalize w1.drew = x0 at *
    refine ⟨_, rfl, ?_⟩
    go_wp2_with fail
    refine (hh _).mono ?_
    rintro e x1 ⟨rfl, hbx⟩
    go_wp2_with fail
    have hb1 := Qt.more hb0 hb0.size hbx
    have hs1 := hb1.size
    clear hbx hh
    refine ⟨rfl, hb1, ?_⟩
    obtain ⟨g1, g2, g4, g5⟩ := HS.out
    have hmk := makeW (S + 4 * N) (by omega)
    refine ⟨?_, ?_⟩
    · obtain ⟨x2, hm2, hZ, hg2⟩ := hmk x1
      obtain ⟨zb, hzb⟩ : ∃ zb, zb = x1.heap.size := ⟨_, rfl⟩
      rw [← hzb] at hm2 hZ
      rw [g5] at hm2
      clear hzb
      have hb2 := below_grownN hb1 hg2 (fun k e => by cases e) hs1
      refine ⟨_, rfl, ?_⟩
      go_wp2_with fail
      clear hm2
      refine ⟨rfl, hb2, ?_⟩
      refine ⟨_, rfl, ?_⟩
      have hma := makeF_any N (by omega) x2
      go_wp2_with fail
      refine hma.mono ?_
      rintro e x3 ⟨vm, rfl, hM, hbx⟩
      clear hma
      obtain ⟨Am, cm, rfl, hcm, -⟩ := own_slice hM
      rw [makeL_len'] at hM hcm
      rw [makeL_len']
      have hb3 := Qt.more hb2 hb2.size hbx
      replace hZ := own_next hZ hbx
      have hzr : zb ≠ x3.heap.size := by have := (World.ownsRow.lt hZ zb rfl).2; omega
      have hAn : Am ≠ none := ne_none hM (by rw [makeL_len]; omega)
      have hcn : cm ≠ 0 := by have := makeL_len N; omega
      clear hcm hbx
      go_wp2_with fail
      have hb4 := hb3.alloc (o := .cells #[.slice (some ⟨zb, 0, none⟩) (S + 4 * N) (S + 4 * N), .slice Am (N + 1) cm] 23) hb3.size
      have hrow := heap_alloc_new x3 (.cells #[.slice (some ⟨zb, 0, none⟩) (S + 4 * N) (S + 4 * N), .slice Am (N + 1) cm] 23)
      have h34 := (Below.refl x3.heap.size x3).alloc (Nat.le_refl _) (.cells #[.slice (some ⟨zb, 0, none⟩) (S + 4 * N) (S + 4 * N), .slice Am (N + 1) cm] 23)
      have hlt4 : x3.heap.size < (x3.alloc (.cells #[.slice (some ⟨zb, 0, none⟩) (S + 4 * N) (S + 4 * N), .slice Am (N + 1) cm] 23)).heap.size := by simp
      refine ⟨rfl, hb3, ?_⟩
      refine ⟨_, rfl, ?_⟩
      go_wp2_with fail
      generalize x3.alloc (.cells #[.slice (some ⟨zb, 0, none⟩) (S + 4 * N) (S + 4 * N), .slice Am (N + 1) cm] 23) = x4 at *
      refine ⟨rfl, hb4, ?_⟩
      refine ⟨_, rfl, ?_⟩
      have hzl := zlen (S + 4 * N)
      have hml := makeL_len N
      have hcc := concat2_any (S + 4 * N) cm 2 x3.heap.size x4 (A1 := some ⟨zb, 0, none⟩) (A2 := Am) (l1 := List.replicate (S + 4 * N) 0) (l2 := makeL N) (by omega) (by omega) (by rw [Lib.cell_of_heap hrow, hzl]; rfl) (by rw [Lib.cell_of_heap hrow, hml]; rfl) hlt4 (nowOf (own_next hZ h34)) (nowOf (own_next hM h34))
      clear hrow h34 hlt4
      go_wp2_with fail
      refine hcc.mono ?_
      rintro e x5 ⟨v, rfl, hO5, hbx⟩
      clear hcc
      go_wp2_with fail
      have hb5 := Qt.more hb4 hb4.size hbx
      refine ⟨rfl, hb5, ?_⟩
      refine ⟨_, rfl, ?_⟩
      go_wp2_with fail
      have hO6 := own_mono hO5 hb4.size
      refine ⟨rfl, hb5, ?_⟩
      exact ⟨zb, x3.heap.size, Am, cm, v, rfl, hO6, hb5, hzr, hAn, hcn⟩
    · refine ⟨_, rfl, ?_⟩
      have hma := makeF_any N (by omega) x1
      go_wp2_with fail
      refine hma.mono ?_
      rintro e x2 ⟨vm, rfl, hM, hbx⟩
      clear hma
      obtain ⟨Am, cm, rfl, hcm, -⟩ := own_slice hM
      rw [makeL_len'] at hM hcm
      rw [makeL_len']
      have hb2 := Qt.more hb1 hb1.size hbx
      have hAn : Am ≠ none := ne_none hM (by rw [makeL_len]; omega)
      have hcn : cm ≠ 0 := by have := makeL_len N; omega
      clear hcm hbx
      go_wp2_with fail
      obtain ⟨x3, hm2, hZ, hg2⟩ := hmk x2
      obtain ⟨zb, hzb⟩ : ∃ zb, zb = x2.heap.size := ⟨_, rfl⟩
      rw [← hzb] at hm2 hZ
      rw [g5] at hm2
      clear hzb
      have hb3 := below_grownN hb2 hg2 (fun k e => by cases e) hb2.size
      replace hM := hM.kept hg2 (by cases (Value.slice Am (N + 1) cm).ownBlock <;> simp)
      have hzr : zb ≠ x3.heap.size := by have := (World.ownsRow.lt hZ zb rfl).2; omega
      refine ⟨rfl, hb2, ?_⟩
      refine ⟨_, rfl, ?_⟩
      go_wp2_with fail
      clear hm2
      have hb4 := hb3.alloc (o := .cells #[.slice (some ⟨zb, 0, none⟩) (S + 4 * N) (S + 4 * N), .slice Am (N + 1) cm] 23) hb3.size
      have hrow := heap_alloc_new x3 (.cells #[.slice (some ⟨zb, 0, none⟩) (S + 4 * N) (S + 4 * N), .slice Am (N + 1) cm] 23)
      have h34 := (Below.refl x3.heap.size x3).alloc (Nat.le_refl _) (.cells #[.slice (some ⟨zb, 0, none⟩) (S + 4 * N) (S + 4 * N), .slice Am (N + 1) cm] 23)
      have hlt4 : x3.heap.size < (x3.alloc (.cells #[.slice (some ⟨zb, 0, none⟩) (S + 4 * N) (S + 4 * N), .slice Am (N + 1) cm] 23)).heap.size := by simp
      refine ⟨rfl, hb3, ?_⟩
      refine ⟨_, rfl, ?_⟩
      go_wp2_with fail
      generalize x3.alloc (.cells #[.slice (some ⟨zb, 0, none⟩) (S + 4 * N) (S + 4 * N), .slice Am (N + 1) cm] 23) = x4 at *
      refine ⟨rfl, hb4, ?_⟩
      refine ⟨_, rfl, ?_⟩
      have hzl := zlen (S + 4 * N)
      have hml := makeL_len N
      have hcc := concat2_any (S + 4 * N) cm 2 x3.heap.size x4 (A1 := some ⟨zb, 0, none⟩) (A2 := Am) (l1 := List.replicate (S + 4 * N) 0) (l2 := makeL N) (by omega) (by omega) (by rw [Lib.cell_of_heap hrow, hzl]; rfl) (by rw [Lib.cell_of_heap hrow, hml]; rfl) hlt4 (nowOf (own_next hZ h34)) (nowOf (own_next hM h34))
      clear hrow h34 hlt4
      go_wp2_with fail
      refine hcc.mono ?_
      rintro e x5 ⟨v, rfl, hO5, hbx⟩
      clear hcc
      go_wp2_with fail
      have hb5 := Qt.more hb4 hb4.size hbx
      refine ⟨rfl, hb5, ?_⟩
      refine ⟨_, rfl, ?_⟩
      go_wp2_with fail
      have hO6 := own_mono hO5 hb4.size
      refine ⟨rfl, hb5, ?_⟩
      exact ⟨zb, x3.heap.size, Am, cm, v, rfl, hO6, hb5, hzr, hAn, hcn⟩
  · rintro a' w9 ⟨zb, rb, Am, cm, v, rfl, hO, hb9, -, -, -⟩
    simp only [Act.put, List.setIfInBounds_toArray, List.set_cons_succ, List.set_cons_zero]
    go_wp2
    go_ret
    exact ⟨v, rfl, own_mono hO HB.out.size, HB.out.trans (hb9.mono HB.out.size)⟩
end Go.Proofs.Ytocepdhjkhhpfaa
namespace Go.Proofs.Ytocepdhjkhhpfaa
set_option maxRecDepth 100000
set_option linter.unusedVariables false
set_option linter.unusedSimpArgs false
open Go.RowKit Go.Sort

theorem intern_copy {w : World} {g a : Nat} (k : Kd) {t : TypeId} (hg : w.heap[g]? = some (.cells (w8A ⟨0, 3, 0, 0, 0, 0, 0, 0, 0, 0, false, 0⟩) t (0, 0))) {ta : TypeId} (ha : w.heap[a]? = some (.cells #[.int .i64 k.1, .int .i64 k.2.1, .int .i64 k.2.2.1, .int .i64 k.2.2.2] ta (0, 0))) :
    ∃ w', (∀ ty, (Builtin.copy_ #[23, 23] ty #[.slice (some ⟨g, 2, none⟩) 8 8, .slice (some ⟨a, 0, none⟩) 4 4]).run Try.prog w = .ok (.int .i64 4) w') ∧ w'.heap[g]? = some (.cells (w8A (internW k)) t (0, 0)) ∧ w.grownBy w' (some g) := by
  refine ⟨w.setCells g 2 [.int .i64 k.1, .int .i64 k.2.1, .int .i64 k.2.2.1, .int .i64 k.2.2.2], fun ty => ?_, ?_, ?_⟩
  · refine run_copy_cells (P := Try.prog) w 23 23 ty 3 g 2 8 8 ⟨a, 0, none⟩ 4 4 [.int .i64 k.1, .int .i64 k.2.1, .int .i64 k.2.2.1, .int .i64 k.2.2.2] Try.underlying23 (by kernel_rfl) rfl ?_ ?_ ?_ ?_
    · intro j v hj
      match j, hj with
      | 0, hj => rw [show (⟨a, 0, none⟩ : Addr).add 0 = ⟨a, 0, none⟩ from rfl, Lib.cell_of_heap ha]; exact hj
      | 1, hj => rw [show (⟨a, 0, none⟩ : Addr).add 1 = ⟨a, 1, none⟩ from rfl, Lib.cell_of_heap ha]; exact hj
      | 2, hj => rw [show (⟨a, 0, none⟩ : Addr).add 2 = ⟨a, 2, none⟩ from rfl, Lib.cell_of_heap ha]; exact hj
      | 3, hj => rw [show (⟨a, 0, none⟩ : Addr).add 3 = ⟨a, 3, none⟩ from rfl, Lib.cell_of_heap ha]; exact hj
    · intro j hj
      rw [Lib.cell_of_heap hg]
      match j, hj with
      | 0, _ => rfl
      | 1, _ => rfl
      | 2, _ => rfl
      | 3, _ => rfl
    · intro j hj
      exact Lib.frozen_of_heap hg _
    · intro v hv
      simp at hv
      rcases hv with rfl | rfl | rfl | rfl <;> rfl
  · simp [World.setCells, World.setCell, Array.getElem?_modify, hg, internW]
  · simp only [World.setCells]
    exact ((((World.grownBy.refl w _).trans (grown_setCell _ _ _ _)).trans (grown_setCell _ _ _ _)).trans (grown_setCell _ _ _ _)).trans (grown_setCell _ _ _ _)
set_option maxHeartbeats 4000000 in
theorem pIntern_any (k : Kd) (w : World) : Calls Try.prog 31 #[kidsV k] w fun e w' => e = .returned (w8V (internW k)) ∧ Below w.heap.size w w' := by
  obtain ⟨U, hU⟩ : ∃ U, U = internW k := ⟨_, rfl⟩
  rw [← hU]
  have HU := Lib.hid hU
  clear hU
  obtain ⟨w3, hw3, t1, t2, t3, t4, t5⟩ : ∃ v, ((w.alloc (.cells #[.int .i64 k.1, .int .i64 k.2.1, .int .i64 k.2.2.1, .int .i64 k.2.2.2] 53)).alloc (.cells (w8A zeroW8) 39)).alloc (.cells (w8A ⟨0, 3, 0, 0, 0, 0, 0, 0, 0, 0, false, 0⟩) 39) = v ∧ _ := ⟨_, rfl, three_allocs w _ _ _⟩
  rw [hw3] at t1 t2 t3 t4 t5
  try simp only [w8A] at hw3
  have HW3 := Lib.hid hw3
  clear hw3
  show Calls Try.prog _ #[.agg #[.int .i64 k.1, .int .i64 k.2.1, .int .i64 k.2.2.1, .int .i64 k.2.2.2]] _ _
  go_enter Try.func31, Try.ntmps31
  go_wp2_with fail
  rw [HW3.out]
  clear HW3
  refine Qt.below_tail 3 (by kernel_rfl) (by kernel_rfl) ?_
  simp only [List.take_succ_cons, List.take_zero, List.drop_succ_cons, List.drop_zero]
  iterate 3 (go_big_quiet_step (fail))
  refine wpQuiet_nil ?_
  intro w4 hb4
  have hs4 := hb4.size
  have r3 := (hb4.block _ (by omega)).trans t3
  have r4 := (hb4.block _ (by omega)).trans t4
  have r5 := (hb4.block _ (by omega)).trans t5
  obtain ⟨w5, hc, h5, g5⟩ := intern_copy k r5 r3
  have r4' := (g5.block _ (by omega) (fun e => by injection e with e; omega)).trans r4
  have hb5 : Below w.heap.size w w5 := below_grown (t1.trans (hb4.mono t1.size)) g5 (fun k e => by injection e with e; omega) (by omega)
  have HB := Lib.hid hb5
  have hc' := hc 3
  have HR := Lib.hid (And.intro r4' (show w.heap.size + 1 < w5.heap.size from lt_heap6' r4'))
  rw [← HU.out] at h5
  clear t1 t2 t3 t4 t5 hb4 hs4 r3 r4 r5 hc g5 hb5
  have c0 : w5.cell? ⟨w.heap.size + 1 + 1, 0, none⟩ = some (.int .i64 U.pc) := by rw [Lib.cell_of_heap h5]; rfl
  have c1 : w5.cell? ⟨w.heap.size + 1 + 1, 1, none⟩ = some (.int .i64 U.job) := by rw [Lib.cell_of_heap h5]; rfl
  have c2 : w5.cell? ⟨w.heap.size + 1 + 1, 2, none⟩ = some (.int .i64 U.r0) := by rw [Lib.cell_of_heap h5]; rfl
  have c3 : w5.cell? ⟨w.heap.size + 1 + 1, 3, none⟩ = some (.int .i64 U.r1) := by rw [Lib.cell_of_heap h5]; rfl
  have c4 : w5.cell? ⟨w.heap.size + 1 + 1, 4, none⟩ = some (.int .i64 U.r2) := by rw [Lib.cell_of_heap h5]; rfl
  have c5 : w5.cell? ⟨w.heap.size + 1 + 1, 5, none⟩ = some (.int .i64 U.r3) := by rw [Lib.cell_of_heap h5]; rfl
  have c6 : w5.cell? ⟨w.heap.size + 1 + 1, 6, none⟩ = some (.int .i64 U.r4) := by rw [Lib.cell_of_heap h5]; rfl
  have c7 : w5.cell? ⟨w.heap.size + 1 + 1, 7, none⟩ = some (.int .i64 U.r5) := by rw [Lib.cell_of_heap h5]; rfl
  have c8 : w5.cell? ⟨w.heap.size + 1 + 1, 8, none⟩ = some (.int .i64 U.r6) := by rw [Lib.cell_of_heap h5]; rfl
  have c9 : w5.cell? ⟨w.heap.size + 1 + 1, 9, none⟩ = some (.int .i64 U.r7) := by rw [Lib.cell_of_heap h5]; rfl
  have c10 : w5.cell? ⟨w.heap.size + 1 + 1, 10, none⟩ = some (.bool U.done) := by rw [Lib.cell_of_heap h5]; rfl
  have c11 : w5.cell? ⟨w.heap.size + 1 + 1, 11, none⟩ = some (.int .i64 U.out) := by rw [Lib.cell_of_heap h5]; rfl
  have o0 : w5.cell? ⟨w.heap.size + 1, 0, none⟩ = some (.int .i64 0) := by rw [Lib.cell_of_heap r4']; rfl
  have o1 : w5.cell? ⟨w.heap.size + 1, 1, none⟩ = some (.int .i64 0) := by rw [Lib.cell_of_heap r4']; rfl
  have o2 : w5.cell? ⟨w.heap.size + 1, 2, none⟩ = some (.int .i64 0) := by rw [Lib.cell_of_heap r4']; rfl
  have o3 : w5.cell? ⟨w.heap.size + 1, 3, none⟩ = some (.int .i64 0) := by rw [Lib.cell_of_heap r4']; rfl
  have o4 : w5.cell? ⟨w.heap.size + 1, 4, none⟩ = some (.int .i64 0) := by rw [Lib.cell_of_heap r4']; rfl
  have o5 : w5.cell? ⟨w.heap.size + 1, 5, none⟩ = some (.int .i64 0) := by rw [Lib.cell_of_heap r4']; rfl
  have o6 : w5.cell? ⟨w.heap.size + 1, 6, none⟩ = some (.int .i64 0) := by rw [Lib.cell_of_heap r4']; rfl
  have o7 : w5.cell? ⟨w.heap.size + 1, 7, none⟩ = some (.int .i64 0) := by rw [Lib.cell_of_heap r4']; rfl
  have o8 : w5.cell? ⟨w.heap.size + 1, 8, none⟩ = some (.int .i64 0) := by rw [Lib.cell_of_heap r4']; rfl
  have o9 : w5.cell? ⟨w.heap.size + 1, 9, none⟩ = some (.int .i64 0) := by rw [Lib.cell_of_heap r4']; rfl
  have o10 : w5.cell? ⟨w.heap.size + 1, 10, none⟩ = some (.bool false) := by rw [Lib.cell_of_heap r4']; rfl
  have o11 : w5.cell? ⟨w.heap.size + 1, 11, none⟩ = some (.int .i64 0) := by rw [Lib.cell_of_heap r4']; rfl
  have fz : ∀ j, w5.frozen? ⟨w.heap.size + 1, j, none⟩ = false := fun j => Lib.frozen_of_heap r4' j
  clear h5 r4'
  go_wp2_with fail
  clear o0 o1 o2 o3 o4 o5 o6 o7 o8 o9 o10 o11 fz
  obtain ⟨w6, hw6, h6, g6⟩ := set12o w5 (w.heap.size + 1) zeroW8 U HR.out.1
  try rw [hw6]
  have hl := HR.out.2
  exact bodyPost_ret (results_cellW rfl _ _ (w.heap.size + 1) _ _ _ _ rfl h6 Try.underlying39 rfl (by kernel_rfl)) rfl ⟨rfl, below_grown HB.out g6 (fun k e => by injection e with e; omega) (by omega)⟩
end Go.Proofs.Ytocepdhjkhhpfaa
namespace Go.Proofs.Ytocepdhjkhhpfaa
set_option maxRecDepth 100000
set_option linter.unusedVariables false
set_option linter.unusedSimpArgs false

/-- kids that are not among those ahead of them -/
def firstT (ks : List Kd) (i : Nat) : Bool := decide (∀ j, j < i → ks.getD j (0, 0, 0, 0) ≠ ks.getD i (0, 0, 0, 0))
theorem TabI.fsts {S N c : Nat} {m : List Int} {L : List (Kd × Nat)} {F H : List Nat} (h : TabI S N c m L F H) : (L.map Prod.fst).Nodup := by
  have h2 : (L.map Prod.snd).Nodup := (List.nodup_append.1 (List.nodup_append.1 h.nodup).2.1).1
  rw [List.Nodup, List.pairwise_map] at h2 ⊢
  refine h2.imp_of_mem fun {a b} ha hb hne e => hne ?_
  obtain ⟨ka, xa⟩ := a
  obtain ⟨kb, xb⟩ := b
  have e' : ka = kb := e
  rw [e'] at ha
  exact h.uniq ha hb
/-- as many nodes as unlike kids -/
theorem TabI.many {S N c : Nat} {m : List Int} {L : List (Kd × Nat)} {F H : List Nat} (h : TabI S N c m L F H) {ks : List Kd} (h1 : ∀ x ∈ L, x.1 ∈ ks) (h2 : ∀ k ∈ ks, ∃ x, (k, x) ∈ L) : (List.range ks.length).countP (firstT ks) = L.length := by
  rw [List.countP_eq_length_filter]
  have hnd : (((List.range ks.length).filter (firstT ks)).map fun i => ks.getD i (0, 0, 0, 0)).Nodup := by
    rw [List.Nodup, List.pairwise_map]
    have hp : ((List.range ks.length).filter (firstT ks)).Pairwise (· < ·) := List.pairwise_lt_range.filter _
    refine hp.imp_of_mem fun {a b} _ hb hlt => ?_
    have hf := (List.mem_filter.1 hb).2
    unfold firstT at hf
    exact of_decide_eq_true hf a hlt
  have hperm := (List.perm_ext_iff_of_nodup hnd h.fsts).2 fun k => ?_
  · have := hperm.length_eq
    rw [List.length_map, List.length_map] at this
    exact this
  · constructor
    · intro hk
      obtain ⟨i, hi, rfl⟩ := List.mem_map.1 hk
      have hil := List.mem_range.1 (List.mem_filter.1 hi).1
      have hm : ks.getD i (0, 0, 0, 0) ∈ ks := by rw [List.getD_eq_getElem?_getD, List.getElem?_eq_getElem hil]; exact List.getElem_mem hil
      obtain ⟨x, hx⟩ := h2 _ hm
      exact List.mem_map.2 ⟨_, hx, rfl⟩
    · intro hk
      obtain ⟨x, hx, rfl⟩ := List.mem_map.1 hk
      have hm := h1 x hx
      have hex : ∃ i, i < ks.length ∧ ks.getD i (0, 0, 0, 0) = x.1 := by
        obtain ⟨i, hi, he⟩ := List.getElem_of_mem hm
        exact ⟨i, hi, by rw [List.getD_eq_getElem?_getD, List.getElem?_eq_getElem hi]; exact he⟩
      obtain ⟨i, ⟨hi, he⟩, hmin⟩ : ∃ i, (i < ks.length ∧ ks.getD i (0, 0, 0, 0) = x.1) ∧ ∀ j, j < i → ¬ (j < ks.length ∧ ks.getD j (0, 0, 0, 0) = x.1) := by
        obtain ⟨i0, h0⟩ := hex
        revert h0
        induction i0 using Nat.strongRecOn with
        | _ i0 ih =>
          intro h0
          by_cases hc : ∃ j, j < i0 ∧ (j < ks.length ∧ ks.getD j (0, 0, 0, 0) = x.1)
          · obtain ⟨j, hj, hj2⟩ := hc
            exact ih j hj hj2
          · exact ⟨i0, h0, fun j hj hj2 => hc ⟨j, hj, hj2⟩⟩
      refine List.mem_map.2 ⟨i, List.mem_filter.2 ⟨List.mem_range.2 hi, ?_⟩, he⟩
      unfold firstT
      exact decide_eq_true fun j hj e => hmin j hj ⟨by omega, e.trans he⟩
end Go.Proofs.Ytocepdhjkhhpfaa
namespace Go.Proofs.Ytocepdhjkhhpfaa
set_option maxRecDepth 100000
set_option linter.unusedVariables false
set_option linter.unusedSimpArgs false

theorem perm_sub {l1 : List Nat} : ∀ {l2 : List Nat}, l1.Nodup → (∀ x ∈ l1, x ∈ l2) → l2.length ≤ l1.length → l1.Perm l2 := by
  induction l1 with
  | nil =>
    intro l2 _ _ hl
    rw [List.length_nil, Nat.le_zero, List.length_eq_zero_iff] at hl
    rw [hl]
  | cons a l ih =>
    intro l2 d s hl
    have ha := s a (by simp)
    obtain ⟨hna, hd⟩ := List.nodup_cons.1 d
    have hp := List.perm_cons_erase ha
    have hlen := hp.length_eq
    rw [List.length_cons] at hlen hl
    refine List.Perm.trans (List.Perm.cons a (ih hd (fun x hx => ?_) (by omega))) hp.symm
    exact (List.mem_erase_of_ne (fun e => hna (by rw [← e]; exact hx))).2 (s x (List.mem_cons_of_mem _ hx))
/-- the nodes that the slots tell, in order -/
def nodesT (S : Nat) (m : List Int) : List Nat := ((List.range S).filter (occP m)).map fun i => (m.getD i 0 - 1).toNat
theorem TabI.nodes {S N c : Nat} {m : List Int} {L : List (Kd × Nat)} {F H : List Nat} (h : TabI S N c m L F H) : (L.map Prod.snd).Perm (nodesT S m) := by
  have hs1 := h.tab.s1
  have h2 : (L.map Prod.snd).Nodup := (List.nodup_append.1 (List.nodup_append.1 h.nodup).2.1).1
  refine perm_sub h2 (fun y hy => ?_) ?_
  · obtain ⟨x, hx, rfl⟩ := List.mem_map.1 hy
    obtain ⟨p, g1, g2, _⟩ := h.place x hx
    have hap : atP S x.1 p < S := Nat.mod_lt _ (by omega)
    refine List.mem_map.2 ⟨atP S x.1 p, List.mem_filter.2 ⟨List.mem_range.2 hap, ?_⟩, ?_⟩
    · unfold occP
      rw [g2]
      exact decide_eq_true (by omega)
    · rw [g2]; omega
  · unfold nodesT
    rw [List.length_map, List.length_map, ← List.countP_eq_length_filter, h.cnt]
    exact Nat.le_refl _
theorem TabI.all {S N c : Nat} {m : List Int} {L : List (Kd × Nat)} {F : List Nat} (h : TabI S N c m L F []) : (nodesT S m ++ F).Perm (List.range N) := by
  have := h.perm
  rw [List.append_nil] at this
  exact (List.perm_append_comm.trans (List.Perm.append_left F h.nodes.symm)).trans this
end Go.Proofs.Ytocepdhjkhhpfaa
namespace Go.Proofs.Ytocepdhjkhhpfaa
set_option maxRecDepth 100000
set_option linter.unusedVariables false
set_option linter.unusedSimpArgs false
open Go.RowKit Go.Sort

theorem own_cap {w : World} {B n c : Nat} {A : Option Addr} {l : List Int} (h : Own w B (.slice A n c) l) (hl : 0 < l.length) : ∃ g, A = some ⟨g, 0, none⟩ ∧ n = l.length ∧ n ≤ c ∧ c ≤ maxLen ∧ B ≤ g ∧ g < w.heap.size ∧ ∀ j, j < l.length → w.cell? ⟨g, j, none⟩ = some (.int .i64 (l.getD j 0)) := by
  obtain ⟨A2, c2, e, _, hn⟩ := own_slice h
  injection e with e1 e2 e3
  subst e1 e3
  rcases h.2 with ⟨h1, h2⟩ | ⟨g, cap, cur, h1, h2, h3, h4, h5, h6, h7⟩
  · exact absurd h2 (by omega)
  · injection h1 with a1 a2 a3
    subst a3
    refine ⟨g, a1, e2, by omega, h5, h2, lt_heap6' h3, fun j hj => ?_⟩
    obtain ⟨b, off, q1, q2, q3⟩ := hn j hj
    rw [a1] at q1
    injection q1 with q1
    injection q1 with q1 q4
    subst q1 q4
    rwa [Nat.zero_add] at q3
theorem slice_at (g n c t : Nat) (ht : t < n) (hc : n ≤ c) (hm : c ≤ maxLen) : ∀ W, (Instr.slice 23 (.slice (some ⟨g, 0, none⟩) n c) (some (.int .i64 (t : Int))) none none).run Try.prog W = .ok (.slice (some ⟨g, t, none⟩) (n - t) (c - t)) W := by
  unfold maxLen at hm
  intro W
  have htc : t ≤ c := by omega
  have htn : ¬ c = t := by omega
  have htm : ¬ n < t := by omega
  go_simp
theorem slice_upto (g n c t : Nat) (ht : t ≤ n) (hc : n ≤ c) (hm : c ≤ maxLen) : ∀ W, (Instr.slice 23 (.slice (some ⟨g, 0, none⟩) n c) none (some (.int .i64 (t : Int))) none).run Try.prog W = .ok (.slice (some ⟨g, 0, none⟩) t c) W := by
  unfold maxLen at hm
  intro W
  have htc : t ≤ c := by omega
  go_simp
theorem run_four_at (a : Addr) (n c : Nat) (hn : 4 ≤ n) (w : World) : (Instr.arrayAt 53 (.slice (some a) n c)).run Try.prog w = .ok (.pointer (some a)) w := by
  simp [Instr.arrayAt, run_underlying Try.underlying53, Nat.not_lt.2 hn]
theorem set4row {w : World} {g : Nat} {a0 b0 c0 d0 : Value} {t : TypeId} (h : w.heap[g]? = some (.cells #[a0, b0, c0, d0] t (0, 0))) (a b c d : Value) : ((((w.setCell ⟨g, 0, none⟩ a).setCell ⟨g, 1, none⟩ b).setCell ⟨g, 2, none⟩ c).setCell ⟨g, 3, none⟩ d).heap[g]? = some (.cells #[a, b, c, d] t (0, 0)) := by
  simp [World.setCell, Array.getElem?_modify, h]
theorem below4set {w w1 : World} {B k : Nat} (hb : Below B w w1) {g : Nat} (hg : g = B + k) (a b c d : Value) : Below B w ((((w1.setCell ⟨g, 0, none⟩ a).setCell ⟨g, 1, none⟩ b).setCell ⟨g, 2, none⟩ c).setCell ⟨g, 3, none⟩ d) :=
  ((((hb.setCell (by show B ≤ g; omega) _).setCell (by show B ≤ g; omega) _).setCell (by show B ≤ g; omega) _).setCell (by show B ≤ g; omega) _)
set_option maxHeartbeats 8000000 in
theorem pKids_any {S N n c B : Nat} {m : List Int} {A : Option Addr} (w : World) (h : TabS S N) (hl : m.length = S + 5 * N + 1) (hn : n < N) (hB : B ≤ w.heap.size) (hO : Own w B (.slice A m.length c) m) :
    Calls Try.prog 32 #[tabV S N, .slice A m.length c, .int .i64 n] w fun e w' => e = .returned (.tuple #[kidsV (kdAt S m n), .bool true]) ∧ Below w.heap.size w w' := by
  obtain ⟨g, rfl, -, hc, hm, hg1, hg2, hcell⟩ := own_cap hO (by omega)
  have hfit := fun W => pFit_yes (S := S) (N := N) (some ⟨g, 0, none⟩) m.length c W h (by omega)
  have hhas := fun W => pHas_any (S := S) (N := N) (n := n) W h
  have hkid := fun W => pKid_any (S := S) (N := N) (n := n) (k := 0) W h (by omega) (by omega) (Int.le_refl 0) (by decide)
  rw [decide_eq_true (show (0 : Int) ≤ (n : Int) by omega), decide_eq_true (show (n : Int) < (N : Int) by omega), Bool.true_and] at hhas
  have ek : (S : Int) + 4 * (n : Int) + 0 = ((S + 4 * n : Nat) : Int) := by omega
  rw [ek] at hkid
  clear ek
  have hsl := slice_at g m.length c (S + 4 * n) (by omega) hc hm
  have ep : ((S + 4 * n : Nat) : Int) = (S : Int) + 4 * (n : Int) := by omega
  rw [ep] at hsl hkid
  clear ep
  have hcn : ¬ c = S + 4 * n := by omega
  have hat := fun W => run_four_at ⟨g, S + 4 * n, none⟩ (m.length - (S + 4 * n)) (c - (S + 4 * n)) (by omega) W
  have hg2x : g < w.heap.size := hg2
  have q0 := hcell (S + 4 * n) (by omega)
  have q1 := hcell (S + 4 * n + 1) (by omega)
  have q2 := hcell (S + 4 * n + 2) (by omega)
  have q3 := hcell (S + 4 * n + 3) (by omega)
  obtain ⟨t1, t2, t3, t4, t5⟩ := three_allocs w (.cells #[.int .i64 S, .int .i64 N] 50) (.cells #[.int .i64 0, .int .i64 0, .int .i64 0, .int .i64 0] 53) (.cells #[.int .i64 S, .int .i64 N] 82)
  have HT := Lib.hid (And.intro t1 (And.intro t2 (And.intro t3 (And.intro t4 (And.intro t5 hg2)))))
  clear t1 t2 t3 t4 t5 hl hn h hO hcell hc hm hg1 hB
  go_enter Try.func32, Try.ntmps32
  go_wp2_with fail
  refine (hfit _).mono ?_
  rintro e w1 ⟨rfl, hb1⟩
  obtain ⟨t1, t2, t3, t4, t5, hg2⟩ := HT.out
  have hs1 := hb1.size
  have u4 := (hb1.block _ (by omega)).trans t4
  have u5 := (hb1.block _ (by omega)).trans t5
  have b1 := Qt.more t1 t1.size hb1
  have p0 : w1.cell? ⟨w.heap.size + 1 + 1, 0, none⟩ = some (.int .i64 S) := by rw [Lib.cell_of_heap u5]; rfl
  have p1 : w1.cell? ⟨w.heap.size + 1 + 1, 1, none⟩ = some (.int .i64 N) := by rw [Lib.cell_of_heap u5]; rfl
  have HX := Lib.hid (And.intro u4 (And.intro u5 (And.intro b1 (show w.heap.size + 1 + 1 < w1.heap.size by omega))))
  clear hfit hb1 hs1 u4 u5 b1 t1 t2 t3 t4 t5 hg2 HT
  go_wp2_with fail
  refine (hhas _).mono ?_
  rintro e w2 ⟨rfl, hb2⟩
  obtain ⟨u4, u5, b1, s1⟩ := HX.out
  have d0 := Qt.keep hb2 p0
  have d1 := Qt.keep hb2 p1
  have v4 := (hb2.block _ (by omega)).trans u4
  have b2 := Qt.more b1 b1.size hb2
  have HY := Lib.hid (And.intro v4 (And.intro b2 (show w.heap.size + 1 + 1 < w2.heap.size from Nat.lt_of_lt_of_le s1 hb2.size)))
  clear hhas hb2 p0 p1 u4 u5 b1 s1 v4 b2 HX
  go_wp2_with fail
  refine (hkid _).mono ?_
  rintro e w3 ⟨rfl, hb3⟩
  obtain ⟨v4, b2, s2⟩ := HY.out
  have x4 := (hb3.block _ (by omega)).trans v4
  have b3 := Qt.more b2 b2.size hb3
  have k0 := (b3.cell (p := ⟨g, S + 4 * n, none⟩) hg2x).trans q0
  have k1 := (b3.cell (p := ⟨g, S + 4 * n + 1, none⟩) hg2x).trans q1
  have k2 := (b3.cell (p := ⟨g, S + 4 * n + 2, none⟩) hg2x).trans q2
  have k3 := (b3.cell (p := ⟨g, S + 4 * n + 3, none⟩) hg2x).trans q3
  have o0 : w3.cell? ⟨w.heap.size + 1, 0, none⟩ = some (.int .i64 0) := by rw [Lib.cell_of_heap x4]; rfl
  have o1 : w3.cell? ⟨w.heap.size + 1, 1, none⟩ = some (.int .i64 0) := by rw [Lib.cell_of_heap x4]; rfl
  have o2 : w3.cell? ⟨w.heap.size + 1, 2, none⟩ = some (.int .i64 0) := by rw [Lib.cell_of_heap x4]; rfl
  have o3 : w3.cell? ⟨w.heap.size + 1, 3, none⟩ = some (.int .i64 0) := by rw [Lib.cell_of_heap x4]; rfl
  have fz : ∀ j, w3.frozen? ⟨w.heap.size + 1, j, none⟩ = false := fun j => Lib.frozen_of_heap x4 j
  have HZ := Lib.hid (And.intro x4 (And.intro b3 (show w.heap.size + 1 < w3.heap.size from lt_heap6' x4)))
  clear hkid hb3 d0 d1 q0 q1 q2 q3 v4 b2 s2 x4 b3 HY
  go_wp2_with fail
  obtain ⟨x4, b3, s3⟩ := HZ.out
  exact bodyPost_ret (results_cellT rfl _ _ (w.heap.size + 1) _ _ _ _ rfl (set4row x4 _ _ _ _) Try.underlying53 rfl (by kernel_rfl)) rfl ⟨rfl, below4set (k := 1) b3 rfl _ _ _ _⟩
/-- the nodes that the first slots tell -/
def nodesK (m : List Int) (k : Nat) : List Int := ((List.range k).filter (occP m)).map fun i => m.getD i 0 - 1
theorem nodesK_succ (m : List Int) (k : Nat) : nodesK m (k + 1) = if 0 < m.getD k 0 then nodesK m k ++ [m.getD k 0 - 1] else nodesK m k := by
  unfold nodesK
  rw [List.range_succ, List.filter_append, List.map_append]
  by_cases h : 0 < m.getD k 0
  · rw [if_pos h]
    have : occP m k = true := decide_eq_true h
    simp [List.filter, this]
  · rw [if_neg h]
    have : occP m k = false := decide_eq_false h
    simp [List.filter, this]
theorem nodesK_len (m : List Int) (k : Nat) : (nodesK m k).length ≤ k := by
  unfold nodesK
  rw [List.length_map]
  have := List.length_filter_le (occP m) (List.range k)
  rwa [List.length_range] at this
theorem nodesK_all {S N : Nat} {m : List Int} (hs : ∀ i, i < S → 0 ≤ m.getD i 0 ∧ m.getD i 0 ≤ N) : nodesK m S = (nodesT S m).map fun (x : Nat) => (x : Int) := by
  unfold nodesK nodesT
  rw [List.map_map]
  refine List.map_congr_left fun i hi => ?_
  have h1 : 0 < m.getD i 0 := by
    have := (List.mem_filter.1 hi).2
    unfold occP at this
    simpa using this
  show m.getD i 0 - 1 = ((m.getD i 0 - 1).toNat : Int)
  omega
set_option maxHeartbeats 8000000 in
theorem pNodes_any {S N c B : Nat} {m : List Int} {A : Option Addr} (w : World) (h : TabS S N) (hl : m.length = S + 5 * N + 1) (hB : B ≤ w.heap.size) (hO : Own w B (.slice A m.length c) m) (hs : ∀ i, i < S → 0 ≤ m.getD i 0 ∧ m.getD i 0 ≤ N) :
    Calls Try.prog 33 #[tabV S N, .slice A m.length c] w (NumsR ((nodesT S m).map fun (x : Nat) => (x : Int)) w) := by
  obtain ⟨g, rfl, -, hc, hm, hg1, hg2, hcell⟩ := own_cap hO (by omega)
  have hfit := fun W => pFit_yes (S := S) (N := N) (some ⟨g, 0, none⟩) m.length c W h (by omega)
  have hsl := slice_upto g m.length c S (by omega) hc hm
  have hS1 := h.s1
  have hS2 := h.s2
  have hN2 := h.n2
  have HC := Lib.hid hcell
  have HS := Lib.hid hs
  have HL := Lib.hid hl
  have c0 : (w.alloc (.cells #[.int .i64 S, .int .i64 N] 50)).cell? ⟨w.heap.size, 0, none⟩ = some (.int .i64 S) := by rw [Lib.cell_of_heap (heap_alloc_new w _)]; rfl
  have hb := (Below.refl w.heap.size w).alloc (Nat.le_refl _) (.cells #[.int .i64 S, .int .i64 N] 50)
  have HG := Lib.hid (show g < w.heap.size from hg2)
  clear hcell hs hl h hO hc hm hg1 hg2 hB
  go_enter Try.func33, Try.ntmps33
  go_wp2_with fail
  refine (hfit _).mono ?_
  rintro e w1 ⟨rfl, hb1⟩
  have d0 := (hb1.cell (p := ⟨w.heap.size, 0, none⟩) (by simp)).trans c0
  have HB := Lib.hid (Qt.more hb (by simp) hb1)
  clear hfit c0 hb hb1
  go_wp2_with fail
  clear d0 hsl
  go_loopw [5, 17] (fun v i wr => ∃ k : Nat, k ≤ S ∧ i = .int .i64 k ∧ Hid (Own wr w.heap.size v (nodesK m k) ∧ Below w.heap.size w wr)) (fun _ i _ => S - (intOf i).toNat)
  case atStart => exact ⟨0, Nat.zero_le _, rfl, (show Hid _ from ⟨World.ownsRow_nil _ _ _ _, HB.out⟩)⟩
  case round =>
    obtain ⟨k, hk, rfl, HH⟩ := hrel
    obtain ⟨hO, hB⟩ := HH.out
    obtain ⟨A2, c2, rfl, hc2, _⟩ := own_slice hO
    by_cases hlt : k < S
    · have hltz : (k : Int) < (S : Int) := by omega
      have y0 := (hB.cell (p := ⟨g, k, none⟩) HG.out).trans (HC.out k (by have := HL.out; omega))
      obtain ⟨hx0, hx1⟩ := HS.out k hlt
      have hsu := nodesK_succ m k
      have hle := nodesK_len m k
      obtain ⟨x, hx⟩ : ∃ x, x = m.getD k 0 := ⟨_, rfl⟩
      rw [← hx] at y0 hx0 hx1 hsu
      clear hx
      by_cases hp : 0 < x
      · rw [if_pos hp] at hsu
        obtain ⟨v', w2, hrun, hO2, hg2⟩ := pushW_any (x - 1) hB.size hO (by omega)
        have hB2 := hB.grown hg2 hB.size (fun k e => (World.ownsRow.lt hO k e).1)
        rw [← hsu] at hO2
        have HRun := Lib.hid hrun
        have HN := Lib.hid (And.intro hO2 hB2)
        clear hrun hO2 hB2 hg2 hO hB HH hsu hc2 hle
        go_wp2_with (at_builtin; refine Lib.wpList_append_run _ rfl _ _ _ _ rfl _ _ rfl rfl _ _ HRun.out ?_)
        go_roundw
        case measure => simp [intOf]; omega
        case rel => exact ⟨k + 1, by omega, by go_num, (show Hid _ from HN.out)⟩
      · rw [if_neg hp] at hsu
        rw [← hsu] at hO
        have HN := Lib.hid (And.intro hO hB)
        rw [show (nodesK m k).length = (nodesK m (k + 1)).length by rw [hsu]]
        clear hO hB HH hsu hc2 hle
        go_wp2
        go_roundw
        case measure => simp [intOf]; omega
        case rel => exact ⟨k + 1, by omega, by go_num, (show Hid _ from HN.out)⟩
    · obtain rfl : k = S := by omega
      have hltz : ¬ (k : Int) < (k : Int) := by omega
      have HN := Lib.hid (And.intro hO hB)
      clear hO hB HH hc2
      go_wp2
      go_ret
      refine ⟨_, rfl, ?_, HN.out.2⟩
      rw [← nodesK_all HS.out]
      exact HN.out.1
end Go.Proofs.Ytocepdhjkhhpfaa
