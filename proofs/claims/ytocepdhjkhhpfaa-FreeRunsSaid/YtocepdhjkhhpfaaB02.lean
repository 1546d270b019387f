/-
  Texts that the claims of this seat share, part 2.
-/
import Derived.Test.YtocepdhjkhhpfaaB00
import Derived.Test.YtocepdhjkhhpfaaB01
set_option linter.unusedVariables false
set_option linter.unusedSimpArgs false
namespace Go.Proofs.Ytocepdhjkhhpfaa
set_option maxRecDepth 100000
set_option linter.unusedVariables false
set_option linter.unusedSimpArgs false
open Go.RowKit Go.Sort

abbrev wkA (w : Wk) : Array Value := #[.int .i64 w.pc, .int .i64 w.job, .int .i64 w.r0, .int .i64 w.r1, .int .i64 w.r2, .int .i64 0, .int .i64 0, .int .i64 0, .int .i64 0, .int .i64 0, .bool w.done, .int .i64 w.out]
abbrev wkV (w : Wk) : Value := .agg (wkA w)
abbrev haA (w : Wk) (at0 : Int) : Array Value := #[.int .i64 w.pc, .int .i64 w.job, .int .i64 w.r0, .int .i64 w.r1, .int .i64 w.r2, .int .i64 0, .int .i64 0, .int .i64 0, .int .i64 0, .int .i64 0, .bool w.done, .int .i64 w.out, .int .i64 at0]
abbrev haV (w : Wk) (at0 : Int) : Value := .agg (haA w at0)
/-- what a call answers that changes nothing of what was there -/
def ValR (v : Value) (w : World) (r : Ending) (w' : World) : Prop := r = .returned v ∧ Below w.heap.size w w'

theorem results_cellW {P : Program} {fn : Func} {p : Tmp} {ty : TypeId} (h : fn.results = #[.cell p ty]) (tmps : Array Value) (w : World) (g : Nat) (t : TypeId) (cs : Array Value) (fr : Nat × Nat) (d : TypeDesc)
    (hp : tmps.getD p undef = .pointer (some ⟨g, 0, none⟩)) (hg : w.heap[g]? = some (.cells cs t fr))
    (hu : P.underlying ty = some d) (hd : (match d with | .struct _ | .array _ _ => true | _ => false) = true) (hi : (P.info? ty).map (·.size) = some cs.size) :
    (results fn tmps).run P w = .ok (.agg cs) w := by
  have hp' : tmps[p]?.getD undef = .pointer (some ⟨g, 0, none⟩) := by simpa using hp
  simp [results, h, hp', asAddr, run_loadVar_row w g t ty cs fr d hg hu hd hi]
theorem fresh4 (w : World) (a b c d : Obj) : ((((w.alloc a).alloc b).alloc c).alloc d).heap[w.heap.size + 1]? = some b :=
  (Lib.alloc_old _ _ _ (by simp)).trans ((Lib.alloc_old _ _ _ (by simp)).trans (by
    have h := heap_alloc_new (w.alloc a) b
    rwa [show (w.alloc a).heap.size = w.heap.size + 1 by simp] at h))
theorem below4 (w : World) (a b c d : Obj) : Below w.heap.size w ((((w.alloc a).alloc b).alloc c).alloc d) := ((((Below.refl _ _).alloc (Nat.le_refl _) _).alloc (by simp) _).alloc (by simp; omega) _).alloc (by simp; omega) _
theorem fresh2 (w : World) (o o' : Obj) : ((w.alloc o).alloc o').heap[w.heap.size + 1]? = some o' := by
  have h := heap_alloc_new (w.alloc o) o'
  rwa [show (w.alloc o).heap.size = w.heap.size + 1 by simp] at h
theorem fresh1 (w : World) (o o' : Obj) : ((w.alloc o).alloc o').heap[w.heap.size]? = some o := (Lib.alloc_old _ _ _ (by simp)).trans (heap_alloc_new w o)
theorem below2 (w : World) (o o' : Obj) : Below w.heap.size w ((w.alloc o).alloc o') := ((Below.refl _ _).alloc (Nat.le_refl _) _).alloc (by simp) _
theorem split_any (n : Int) (w : World) (hn : I64 n) : Calls Try.prog 45 #[.int .i64 n] w fun r w' => r = .returned (.tuple #[.int .i64 (hdC n), .int .i64 (hdH n)]) ∧ w = w' := by
  unfold hdC hdH
  obtain ⟨h1, h2⟩ := hn
  by_cases h : n < 0
  · rw [if_pos h, if_pos h]
    go_enter Try.func45, Try.ntmps45
    go_wp2
    go_ret2
    exact ⟨rfl, rfl⟩
  · rw [if_neg h, if_neg h]
    have e1 : Int.tdiv n 1048576 = n / 1048576 := Int.tdiv_eq_ediv_of_nonneg (by omega)
    have e2 : Int.tmod n 1048576 = n % 1048576 := Int.tmod_eq_emod_of_nonneg (by omega)
    have e3 : wrap64 (n / 1048576) = n / 1048576 := by unfold wrap64; omega
    go_enter Try.func45, Try.ntmps45
    go_wp2
    go_ret2
    exact ⟨by rw [← e1, ← e2] at *; simp [e3], rfl⟩
/-- a worker, as it comes out: in new memory -/
def NewW (w0 : Wk) (at0 : Int) (x : Wk) (w : World) (r : Ending) (w' : World) : Prop := r = .returned (wkV x) ∧ w' = (w.alloc (.cells (haA x at0) 98)).alloc (.cells (wkA x) 39)
theorem goTo_any (w0 : Wk) (at0 k : Int) (w : World) : Calls Try.prog 117 #[haV w0 at0, .int .i64 k] w (NewW w0 at0 { w0 with pc := k } w) := by
  obtain ⟨pc, job, r0, r1, r2, dn, out⟩ := w0
  go_enter Try.func117, Try.ntmps117
  go_wp2
  exact bodyPost_ret (results_cellW rfl _ _ (w.heap.size + 1) _ _ _ _ rfl (fresh2 _ _ _) Try.underlying39 rfl (by kernel_rfl)) rfl ⟨rfl, rfl⟩
theorem endW_any (w0 : Wk) (at0 k : Int) (w : World) : Calls Try.prog 116 #[haV w0 at0, .int .i64 k] w (NewW w0 at0 { w0 with done := true, out := k } w) := by
  obtain ⟨pc, job, r0, r1, r2, dn, out⟩ := w0
  go_enter Try.func116, Try.ntmps116
  go_wp2
  exact bodyPost_ret (results_cellW rfl _ _ (w.heap.size + 1) _ _ _ _ rfl (fresh2 _ _ _) Try.underlying39 rfl (by kernel_rfl)) rfl ⟨rfl, rfl⟩
theorem popBehind_any (w0 : Wk) (at0 x : Int) (b : Bool) (w : World) : Calls Try.prog 78 #[haV w0 at0, .int .i64 x, .bool b] w (ValR (wkV { w0 with r2 := x, pc := 2 }) w) := by
  obtain ⟨pc, job, r0, r1, r2, dn, out⟩ := w0
  go_enter Try.func78, Try.ntmps78
  go_wp2_with fail
  refine (goTo_any ⟨pc, job, r0, r1, x, dn, out⟩ at0 2 _).mono ?_
  rintro e w' ⟨rfl, rfl⟩
  go_wp2_with fail
  exact bodyPost_ret (results_cellW rfl _ _ (w.heap.size + 1) _ _ _ _ rfl (fresh4 _ _ _ _ _) Try.underlying39 rfl (by kernel_rfl)) rfl ⟨rfl, below4 _ _ _ _ _⟩
theorem pushLoaded_any (w0 : Wk) (at0 x : Int) (b : Bool) (w : World) : Calls Try.prog 81 #[haV w0 at0, .int .i64 x, .bool b] w (ValR (wkV { w0 with r1 := x, pc := 1 }) w) := by
  obtain ⟨pc, job, r0, r1, r2, dn, out⟩ := w0
  go_enter Try.func81, Try.ntmps81
  go_wp2_with fail
  refine (goTo_any ⟨pc, job, r0, x, r2, dn, out⟩ at0 1 _).mono ?_
  rintro e w' ⟨rfl, rfl⟩
  go_wp2_with fail
  exact bodyPost_ret (results_cellW rfl _ _ (w.heap.size + 1) _ _ _ _ rfl (fresh4 _ _ _ _ _) Try.underlying39 rfl (by kernel_rfl)) rfl ⟨rfl, below4 _ _ _ _ _⟩
theorem pushWritten_any (w0 : Wk) (at0 x : Int) (b : Bool) (w : World) : Calls Try.prog 83 #[haV w0 at0, .int .i64 x, .bool b] w (ValR (wkV { w0 with pc := 2 }) w) := by
  obtain ⟨pc, job, r0, r1, r2, dn, out⟩ := w0
  go_enter Try.func83, Try.ntmps83
  go_wp2_with fail
  refine (goTo_any ⟨pc, job, r0, r1, r2, dn, out⟩ at0 2 _).mono ?_
  rintro e w' ⟨rfl, rfl⟩
  go_wp2_with fail
  exact bodyPost_ret (results_cellW rfl _ _ (w.heap.size + 1) _ _ _ _ rfl (fresh4 _ _ _ _ _) Try.underlying39 rfl (by kernel_rfl)) rfl ⟨rfl, below4 _ _ _ _ _⟩
theorem popLoaded_any (w0 : Wk) (at0 x : Int) (b : Bool) (w : World) (hx : I64 x) : Calls Try.prog 76 #[haV w0 at0, .int .i64 x, .bool b] w (ValR (wkV (if hdH x = 0 then { w0 with r1 := x, done := true, out := -1 } else { w0 with r1 := x, pc := 1 })) w) := by
  obtain ⟨pc, job, r0, r1, r2, dn, out⟩ := w0
  have hs := fun W => split_any x W hx
  obtain ⟨q, hh⟩ : ∃ q, q = hdH x := ⟨_, rfl⟩
  obtain ⟨c, hc⟩ : ∃ c, c = hdC x := ⟨_, rfl⟩
  rw [← hh, ← hc] at hs
  rw [← hh]
  clear hh hc hx
  by_cases hz : q = 0
  · rw [if_pos hz]
    subst hz
    go_enter Try.func76, Try.ntmps76
    go_wp2_with fail
    refine (hs _).mono ?_
    rintro e w' ⟨rfl, rfl⟩
    go_wp2_with fail
    refine (endW_any ⟨pc, job, r0, x, r2, dn, out⟩ at0 (-1) _).mono ?_
    rintro e w' ⟨rfl, rfl⟩
    go_wp2_with fail
    exact bodyPost_ret (results_cellW rfl _ _ (w.heap.size + 1) _ _ _ _ rfl (fresh4 _ _ _ _ _) Try.underlying39 rfl (by kernel_rfl)) rfl ⟨rfl, below4 _ _ _ _ _⟩
  · have h1 : (q == 0) = false := beq_eq_false_iff_ne.2 hz
    rw [if_neg hz]
    go_enter Try.func76, Try.ntmps76
    go_wp2_with fail
    refine (hs _).mono ?_
    rintro e w' ⟨rfl, rfl⟩
    go_wp2_with fail
    refine (goTo_any ⟨pc, job, r0, x, r2, dn, out⟩ at0 1 _).mono ?_
    rintro e w' ⟨rfl, rfl⟩
    go_wp2_with fail
    exact bodyPost_ret (results_cellW rfl _ _ (w.heap.size + 1) _ _ _ _ rfl (fresh4 _ _ _ _ _) Try.underlying39 rfl (by kernel_rfl)) rfl ⟨rfl, below4 _ _ _ _ _⟩
theorem popSwapped_any (w0 : Wk) (at0 x : Int) (b : Bool) (w : World) (hx : I64 w0.r1) : Calls Try.prog 80 #[haV w0 at0, .int .i64 x, .bool b] w (ValR (wkV (if b = false then { w0 with pc := 0 } else { w0 with done := true, out := hdH w0.r1 - 1 })) w) := by
  obtain ⟨pc, job, r0, r1, r2, dn, out⟩ := w0
  have hs := fun W => split_any r1 W hx
  have hb := hdH_bd r1
  simp only
  obtain ⟨h, hh⟩ : ∃ h, h = hdH r1 := ⟨_, rfl⟩
  obtain ⟨c, hc⟩ : ∃ c, c = hdC r1 := ⟨_, rfl⟩
  rw [← hh, ← hc] at hs
  rw [← hh] at hb ⊢
  clear hh hc hx
  go_enter Try.func80, Try.ntmps80
  cases b with
  | false =>
    rw [if_pos rfl]
    go_wp2_with fail
    refine (goTo_any ⟨pc, job, r0, r1, r2, dn, out⟩ at0 0 _).mono ?_
    rintro e w' ⟨rfl, rfl⟩
    go_wp2_with fail
    exact bodyPost_ret (results_cellW rfl _ _ (w.heap.size + 1) _ _ _ _ rfl (fresh4 _ _ _ _ _) Try.underlying39 rfl (by kernel_rfl)) rfl ⟨rfl, below4 _ _ _ _ _⟩
  | true =>
    rw [if_neg (by decide)]
    go_wp2_with fail
    refine (hs _).mono ?_
    rintro e w' ⟨rfl, rfl⟩
    go_wp2_with fail
    refine (endW_any ⟨pc, job, r0, r1, r2, dn, out⟩ at0 (h - 1) _).mono ?_
    rintro e w' ⟨rfl, rfl⟩
    go_wp2_with fail
    exact bodyPost_ret (results_cellW rfl _ _ (w.heap.size + 1) _ _ _ _ rfl (fresh4 _ _ _ _ _) Try.underlying39 rfl (by kernel_rfl)) rfl ⟨rfl, below4 _ _ _ _ _⟩
theorem pushSwapped_any (w0 : Wk) (at0 x : Int) (b : Bool) (w : World) : Calls Try.prog 85 #[haV w0 at0, .int .i64 x, .bool b] w (ValR (wkV (if b = false then { w0 with pc := 0 } else { w0 with done := true, out := w0.r0 })) w) := by
  obtain ⟨pc, job, r0, r1, r2, dn, out⟩ := w0
  simp only
  go_enter Try.func85, Try.ntmps85
  cases b with
  | false =>
    rw [if_pos rfl]
    go_wp2_with fail
    refine (goTo_any ⟨pc, job, r0, r1, r2, dn, out⟩ at0 0 _).mono ?_
    rintro e w' ⟨rfl, rfl⟩
    go_wp2_with fail
    exact bodyPost_ret (results_cellW rfl _ _ (w.heap.size + 1) _ _ _ _ rfl (fresh4 _ _ _ _ _) Try.underlying39 rfl (by kernel_rfl)) rfl ⟨rfl, below4 _ _ _ _ _⟩
  | true =>
    rw [if_neg (by decide)]
    go_wp2_with fail
    refine (endW_any ⟨pc, job, r0, r1, r2, dn, out⟩ at0 r0 _).mono ?_
    rintro e w' ⟨rfl, rfl⟩
    go_wp2_with fail
    exact bodyPost_ret (results_cellW rfl _ _ (w.heap.size + 1) _ _ _ _ rfl (fresh4 _ _ _ _ _) Try.underlying39 rfl (by kernel_rfl)) rfl ⟨rfl, below4 _ _ _ _ _⟩
theorem loadHead_any (w0 : Wk) (at0 : Int) (w : World) : Calls Try.prog 75 #[haV w0 at0] w (ValR (acV (1, at0, 0, 0)) w) := by
  obtain ⟨pc, job, r0, r1, r2, dn, out⟩ := w0
  go_enter Try.func75, Try.ntmps75
  go_wp2_with fail
  exact bodyPost_ret (results_cellW rfl _ _ (w.heap.size + 1) _ _ _ _ rfl (fresh2 _ _ _) Try.underlying102 rfl (by kernel_rfl)) rfl ⟨rfl, below2 _ _ _⟩
theorem loadBehind_any (w0 : Wk) (at0 : Int) (w : World) (hx : WdI w0.r1) (ha1 : 0 ≤ at0) (ha2 : at0 ≤ 1099511627776) : Calls Try.prog 77 #[haV w0 at0] w (ValR (acV (1, at0 + hdH w0.r1, 0, 0)) w) := by
  obtain ⟨pc, job, r0, r1, r2, dn, out⟩ := w0
  have hs := fun W => split_any r1 W hx.i64
  have hb := hdH_bd r1
  have hb2 := hdC_bd hx.2
  simp only at hs hb hb2 ⊢
  obtain ⟨h, hh⟩ : ∃ h, h = hdH r1 := ⟨_, rfl⟩
  obtain ⟨c, hc⟩ : ∃ c, c = hdC r1 := ⟨_, rfl⟩
  rw [← hh, ← hc] at hs
  rw [← hh] at hb
  rw [← hc] at hb2
  try rw [← hh]
  try rw [← hc]
  clear hh hc hx
  go_enter Try.func77, Try.ntmps77
  go_wp2_with fail
  refine (hs _).mono ?_
  rintro e w' ⟨rfl, rfl⟩
  go_wp2_with fail
  exact bodyPost_ret (results_cellW rfl _ _ (w.heap.size + 1) _ _ _ _ rfl (fresh2 _ _ _) Try.underlying102 rfl (by kernel_rfl)) rfl ⟨rfl, below2 _ _ _⟩
theorem writeBehind_any (w0 : Wk) (at0 : Int) (w : World) (hx : WdI w0.r1) (ha1 : 0 ≤ at0) (ha2 : at0 ≤ 1099511627776) (hr1 : 0 ≤ w0.r0) (hr2 : w0.r0 ≤ 1000000) : Calls Try.prog 82 #[haV w0 at0] w (ValR (acV (2, at0 + 1 + w0.r0, 0, hdH w0.r1)) w) := by
  obtain ⟨pc, job, r0, r1, r2, dn, out⟩ := w0
  have hs := fun W => split_any r1 W hx.i64
  have hb := hdH_bd r1
  have hb2 := hdC_bd hx.2
  simp only at hs hb hb2 ⊢
  obtain ⟨h, hh⟩ : ∃ h, h = hdH r1 := ⟨_, rfl⟩
  obtain ⟨c, hc⟩ : ∃ c, c = hdC r1 := ⟨_, rfl⟩
  rw [← hh, ← hc] at hs
  rw [← hh] at hb
  rw [← hc] at hb2
  try rw [← hh]
  try rw [← hc]
  clear hh hc hx
  go_enter Try.func82, Try.ntmps82
  go_wp2_with fail
  refine (hs _).mono ?_
  rintro e w' ⟨rfl, rfl⟩
  go_wp2_with fail
  exact bodyPost_ret (results_cellW rfl _ _ (w.heap.size + 1) _ _ _ _ rfl (fresh2 _ _ _) Try.underlying102 rfl (by kernel_rfl)) rfl ⟨rfl, below2 _ _ _⟩
theorem fresh3 (w : World) (a b c : Obj) : (((w.alloc a).alloc b).alloc c).heap[w.heap.size + 1]? = some b :=
  (Lib.alloc_old _ _ _ (by simp)).trans (by
    have h := heap_alloc_new (w.alloc a) b
    rwa [show (w.alloc a).heap.size = w.heap.size + 1 by simp] at h)
theorem below3 (w : World) (a b c : Obj) : Below w.heap.size w (((w.alloc a).alloc b).alloc c) := (((Below.refl _ _).alloc (Nat.le_refl _) _).alloc (by simp) _).alloc (by simp; omega) _
/-- an access, as it comes out: in new memory -/
def NewA (y : Ac) (w : World) (r : Ending) (w' : World) : Prop := r = .returned (acV y) ∧ w' = w.alloc (.cells #[.int .i64 y.1, .int .i64 y.2.1, .int .i64 y.2.2.1, .int .i64 y.2.2.2] 102)
theorem freeSwap_any (at0 r1 f : Int) (w : World) (hx : WdI r1) (hf : WdI f) : Calls Try.prog 118 #[.int .i64 at0, .int .i64 r1, .int .i64 f] w (NewA (3, at0, r1, (hdC r1 + 1) * 1048576 + f) w) := by
  have hs := fun W => split_any r1 W hx.i64
  have hb := hdH_bd r1
  have hb2 := hdC_bd hx.2
  obtain ⟨h, hh⟩ : ∃ h, h = hdH r1 := ⟨_, rfl⟩
  obtain ⟨c, hc⟩ : ∃ c, c = hdC r1 := ⟨_, rfl⟩
  rw [← hh, ← hc] at hs
  rw [← hh] at hb
  rw [← hc] at hb2
  try rw [← hh]
  try rw [← hc]
  clear hh hc hx
  obtain ⟨hf1, hf2⟩ := hf
  go_enter Try.func118, Try.ntmps118
  go_wp2_with fail
  refine (hs _).mono ?_
  rintro e w' ⟨rfl, rfl⟩
  go_wp2_with fail
  exact bodyPost_ret (results_cellW rfl _ _ w.heap.size _ _ _ _ rfl (heap_alloc_new _ _) Try.underlying102 rfl (by kernel_rfl)) rfl ⟨rfl, rfl⟩
theorem swapOut_any (w0 : Wk) (at0 : Int) (w : World) (hx : WdI w0.r1) (ha1 : 0 ≤ at0) (ha2 : at0 ≤ 1099511627776) (hr2 : WdI w0.r2) : Calls Try.prog 79 #[haV w0 at0] w (ValR (acV (3, at0, w0.r1, (hdC w0.r1 + 1) * 1048576 + w0.r2)) w) := by
  obtain ⟨pc, job, r0, r1, r2, dn, out⟩ := w0
  go_enter Try.func79, Try.ntmps79
  go_wp2_with fail
  refine (freeSwap_any at0 r1 r2 _ hx hr2).mono ?_
  rintro e w' ⟨rfl, rfl⟩
  go_wp2_with fail
  exact bodyPost_ret (results_cellW rfl _ _ (w.heap.size + 1) _ _ _ _ rfl (fresh3 _ _ _ _) Try.underlying102 rfl (by kernel_rfl)) rfl ⟨rfl, below3 _ _ _ _⟩
theorem swapIn_any (w0 : Wk) (at0 : Int) (w : World) (hx : WdI w0.r1) (ha1 : 0 ≤ at0) (ha2 : at0 ≤ 1099511627776) (hr1 : 0 ≤ w0.r0) (hr2 : w0.r0 ≤ 1000000) : Calls Try.prog 84 #[haV w0 at0] w (ValR (acV (3, at0, w0.r1, (hdC w0.r1 + 1) * 1048576 + (w0.r0 + 1))) w) := by
  obtain ⟨pc, job, r0, r1, r2, dn, out⟩ := w0
  simp only at hr1 hr2
  go_enter Try.func84, Try.ntmps84
  go_wp2_with fail
  refine (freeSwap_any at0 r1 (r0 + 1) _ hx (by unfold WdI; omega)).mono ?_
  rintro e w' ⟨rfl, rfl⟩
  go_wp2_with fail
  exact bodyPost_ret (results_cellW rfl _ _ (w.heap.size + 1) _ _ _ _ rfl (fresh3 _ _ _ _) Try.underlying102 rfl (by kernel_rfl)) rfl ⟨rfl, below3 _ _ _ _⟩
end Go.Proofs.Ytocepdhjkhhpfaa
