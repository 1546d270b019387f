/-
  Texts that the claims of this seat share, part 16.
-/
import Derived.Test.YtocepdhjkhhpfaaB15
import Derived.Test.YtocepdhjkhhpfaaB09
set_option linter.unusedVariables false
set_option linter.unusedSimpArgs false
namespace Go.Proofs.Ytocepdhjkhhpfaa
set_option maxRecDepth 100000
set_option linter.unusedVariables false
set_option linter.unusedSimpArgs false
open Go.RowKit Go.Sort

def sl14 (a : Int) : Nat := 1 + (pickI a 9).toNat
def nd14 (a : Int) : Nat := (pickI a 9).toNat
theorem table14_any (a b : Int) (w : World) (ha : I64 a) (hb : I64 b) : Calls Try.prog 27 #[.int .i64 a, .int .i64 b] w fun e w' => e = .returned (tabV (sl14 a : Nat) (nd14 b : Nat)) ∧ Below w.heap.size w w' := by
  have h1 := fun W => pick_any a 9 W ha.1 ha.2 (by decide) (by decide)
  have h2 := fun W => pick_any b 9 W hb.1 hb.2 (by decide) (by decide)
  obtain ⟨p1, p2⟩ := pickI_bd a 9 (by decide)
  obtain ⟨p3, p4⟩ := pickI_bd b 9 (by decide)
  unfold sl14 nd14
  obtain ⟨x, hx⟩ : ∃ x : Nat, pickI a 9 = x := ⟨(pickI a 9).toNat, by omega⟩
  obtain ⟨y, hy⟩ : ∃ y : Nat, pickI b 9 = y := ⟨(pickI b 9).toNat, by omega⟩
  rw [hx] at h1 p1 p2 ⊢
  rw [hy] at h2 p3 p4 ⊢
  rw [Int.toNat_natCast, Int.toNat_natCast, show ((1 + x : Nat) : Int) = 1 + (x : Int) by omega]
  clear hx hy ha hb
  go_enter Try.func27, Try.ntmps27
  go_wp2_with fail
  refine (h1 _).mono ?_
  rintro e w1 ⟨rfl, rfl⟩
  go_wp2_with fail
  refine (h2 _).mono ?_
  rintro e w2 ⟨rfl, rfl⟩
  go_wp2_with fail
  exact bodyPost_ret (results_cellW rfl _ _ w.heap.size _ _ _ _ rfl (heap_alloc_new _ _) Try.underlying50 rfl (by kernel_rfl)) rfl ⟨rfl, (Below.refl _ _).alloc (Nat.le_refl _) _⟩
def kd14 (n : Int) (r : Kd) : Kd := (pickI r.1 n, pickI r.2.1 n, pickI r.2.2.1 n, pickI r.2.2.2 n)
set_option maxHeartbeats 4000000 in
theorem kids14_any (r : Kd) (w : World) (hr : Fine4 r) : Calls Try.prog 29 #[kidsV r] w fun e w' => e = .returned (kidsV (kd14 2 r)) ∧ Below w.heap.size w w' := by
  obtain ⟨f1, f2, f3, f4⟩ := hr
  obtain ⟨r1, r2, r3, r4⟩ := r
  simp only at f1 f2 f3 f4
  have h1 := Lib.hid (And.intro trivial fun W => pick_any r1 2 W f1.1 f1.2 (by decide) (by decide))
  have h2 := Lib.hid (And.intro trivial fun W => pick_any r2 2 W f2.1 f2.2 (by decide) (by decide))
  have h3 := Lib.hid (And.intro trivial fun W => pick_any r3 2 W f3.1 f3.2 (by decide) (by decide))
  have h4 := Lib.hid (And.intro trivial fun W => pick_any r4 2 W f4.1 f4.2 (by decide) (by decide))
  show Calls Try.prog _ #[.agg #[.int .i64 r1, .int .i64 r2, .int .i64 r3, .int .i64 r4]] _ fun e w' => e = .returned (.agg #[.int .i64 (pickI r1 2), .int .i64 (pickI r2 2), .int .i64 (pickI r3 2), .int .i64 (pickI r4 2)]) ∧ _
  have fr := fresh1 w (.cells #[.int .i64 r1, .int .i64 r2, .int .i64 r3, .int .i64 r4] 53) (.cells #[.int .i64 0, .int .i64 0, .int .i64 0, .int .i64 0] 53)
  have fs := fresh2 w (.cells #[.int .i64 r1, .int .i64 r2, .int .i64 r3, .int .i64 r4] 53) (.cells #[.int .i64 0, .int .i64 0, .int .i64 0, .int .i64 0] 53)
  have hb := below2 w (.cells #[.int .i64 r1, .int .i64 r2, .int .i64 r3, .int .i64 r4] 53) (.cells #[.int .i64 0, .int .i64 0, .int .i64 0, .int .i64 0] 53)
  have hsz : ((w.alloc (.cells #[.int .i64 r1, .int .i64 r2, .int .i64 r3, .int .i64 r4] 53)).alloc (.cells #[.int .i64 0, .int .i64 0, .int .i64 0, .int .i64 0] 53)).heap.size = w.heap.size + 1 + 1 := by simp
  clear f1 f2 f3 f4
  go_enter Try.func29, Try.ntmps29
  go_wp2
  generalize (w.alloc (.cells #[.int .i64 r1, .int .i64 r2, .int .i64 r3, .int .i64 r4] 53)).alloc (.cells #[.int .i64 0, .int .i64 0, .int .i64 0, .int .i64 0] 53) = v at *
  have k0 := Qt.cell_in (show v.cell? ⟨w.heap.size, 0, none⟩ = some (.int .i64 r1) by rw [Lib.cell_of_heap fr]; rfl)
  have k1 := Qt.cell_in (show v.cell? ⟨w.heap.size, 1, none⟩ = some (.int .i64 r2) by rw [Lib.cell_of_heap fr]; rfl)
  have k2 := Qt.cell_in (show v.cell? ⟨w.heap.size, 2, none⟩ = some (.int .i64 r3) by rw [Lib.cell_of_heap fr]; rfl)
  have k3 := Qt.cell_in (show v.cell? ⟨w.heap.size, 3, none⟩ = some (.int .i64 r4) by rw [Lib.cell_of_heap fr]; rfl)
  have HV := Lib.hid (And.intro fs (And.intro hb hsz))
  clear fr fs hb hsz
  refine Qt.below_tail 13 (by kernel_rfl) (by kernel_rfl) ?_
  simp only [List.take_succ_cons, List.take_zero, List.drop_succ_cons, List.drop_zero]
  iterate 2 (go_big_quiet_step (fail))
  go_big_quiet_step (first | (go_at_call 36; exact Qt.at_same fun W _ => h1.out.2 W))
  iterate 2 (go_big_quiet_step (fail))
  go_big_quiet_step (first | (go_at_call 36; exact Qt.at_same fun W _ => h2.out.2 W))
  iterate 2 (go_big_quiet_step (fail))
  go_big_quiet_step (first | (go_at_call 36; exact Qt.at_same fun W _ => h3.out.2 W))
  iterate 2 (go_big_quiet_step (fail))
  go_big_quiet_step (first | (go_at_call 36; exact Qt.at_same fun W _ => h4.out.2 W))
  go_big_quiet_step (fail)
  refine wpQuiet_nil ?_
  intro w1 hb1
  obtain ⟨fs, hb, hsz⟩ := HV.out
  have x4 := (hb1.block _ (by omega)).trans fs
  have b3 := hb.trans (hb1.mono (by omega))
  have o0 : w1.cell? ⟨w.heap.size + 1, 0, none⟩ = some (.int .i64 0) := by rw [Lib.cell_of_heap x4]; rfl
  have o1 : w1.cell? ⟨w.heap.size + 1, 1, none⟩ = some (.int .i64 0) := by rw [Lib.cell_of_heap x4]; rfl
  have o2 : w1.cell? ⟨w.heap.size + 1, 2, none⟩ = some (.int .i64 0) := by rw [Lib.cell_of_heap x4]; rfl
  have o3 : w1.cell? ⟨w.heap.size + 1, 3, none⟩ = some (.int .i64 0) := by rw [Lib.cell_of_heap x4]; rfl
  have fz : ∀ j, w1.frozen? ⟨w.heap.size + 1, j, none⟩ = false := fun j => Lib.frozen_of_heap x4 j
  have HX := Lib.hid (And.intro x4 b3)
  clear k0 k1 k2 k3 fs hb hsz x4 b3
  go_wp2_with fail
  obtain ⟨x4, b3⟩ := HX.out
  exact bodyPost_ret (results_cellW rfl _ _ (w.heap.size + 1) _ _ _ _ rfl (set4row x4 _ _ _ _) Try.underlying53 rfl (by kernel_rfl)) rfl ⟨rfl, below4set (k := 1) b3 rfl _ _ _ _⟩
end Go.Proofs.Ytocepdhjkhhpfaa
namespace Go.Proofs.Ytocepdhjkhhpfaa
set_option maxRecDepth 100000
set_option linter.unusedVariables false
set_option linter.unusedSimpArgs false
open Go.RowKit Go.Sort

theorem results_tctt {P : Program} {fn : Func} {u p v x : Tmp} {ty : TypeId} (h : fn.results = #[.tmp u, .cell p ty, .tmp v, .tmp x]) (tmps : Array Value) (w : World) (g : Nat) (t : TypeId) (cs : Array Value) (fr : Nat × Nat) (d : TypeDesc)
    (hp : tmps.getD p undef = .pointer (some ⟨g, 0, none⟩)) (hg : w.heap[g]? = some (.cells cs t fr))
    (hu : P.underlying ty = some d) (hd : (match d with | .struct _ | .array _ _ => true | _ => false) = true) (hi : (P.info? ty).map (·.size) = some cs.size) :
    (results fn tmps).run P w = .ok (.tuple #[tmps.getD u undef, .agg cs, tmps.getD v undef, tmps.getD x undef]) w := by
  have hp' : tmps[p]?.getD undef = .pointer (some ⟨g, 0, none⟩) := by simpa using hp
  simp [results, h, hp', asAddr, run_loadVar_row w g t ty cs fr d hg hu hd hi]
/-- what one that goes on alone tells: the words, the worker, how many steps -/
def AloneR (B : Nat) (m2 : List Int) (w2 : W8) (q : Nat) (w : World) (e : Ending) (w' : World) : Prop := ∃ A c, e = .returned (.tuple #[.slice A m2.length c, w8V w2, .int .i64 q, .bool true]) ∧ Own w' B (.slice A m2.length c) m2 ∧ Below w.heap.size w w'
theorem AloneM.head {S N : Int} {m m2 : List Int} {w w2 : W8} {q : Nat} (h : AloneM S N m w q m2 w2) (hd : w.done = false) (hd2 : w2.done = true) : ∃ p m1 w1, q = p + 1 ∧ May8 S w ∧ Fit8 S w ∧ (∀ x ∈ m, WdI x) ∧ stepP S N m w = (m1, w1, 0) ∧ AloneM S N m1 w1 p m2 w2 := by
  cases h with
  | nil => rw [hd] at hd2; cases hd2
  | step h1 h2 h3 h4 h5 => exact ⟨_, _, _, rfl, h1, h2, h3, h4, h5⟩
theorem AloneM.fin {S N : Int} {m m2 : List Int} {w w2 : W8} {q : Nat} (h : AloneM S N m w q m2 w2) (hd : w.done = true) : m = m2 ∧ w = w2 ∧ q = 0 := by
  cases h with
  | nil => exact ⟨rfl, rfl, rfl⟩
  | step h1 => rw [h1.done] at hd; cases hd
theorem own_type {w : World} {B g : Nat} {v : Value} {m : List Int} {cs : Array Value} {t : TypeId} {fr : Nat × Nat} (ho : Own w B v m) (hg : w.heap[g]? = some (.cells cs t fr)) (ht : t ≠ 3) : v.ownBlock ≠ some g := by
  rcases ho.2 with ⟨rfl, _⟩ | ⟨x, cap, cur, rfl, _, hh, _⟩
  · simp [Value.ownBlock]
  · intro e
    obtain rfl : x = g := by simpa [Value.ownBlock] using e
    rw [hh] at hg
    injection hg with hg
    injection hg with _ h2 _
    exact ht h2.symm
theorem own_slice' {w : World} {B n c : Nat} {A : Option Addr} {l : List Int} (h : Own w B (.slice A n c) l) : l.length ≤ c ∧ Now w A l := by
  obtain ⟨A2, c2, e, hc, hn⟩ := own_slice h
  injection e with e1 e2 e3
  rw [e1, e3]
  exact ⟨hc, hn⟩
set_option maxHeartbeats 16000000 in
theorem alone14_any {S N : Nat} {m m2 : List Int} {u w2 : W8} {q most B : Nat} {A : Option Addr} {c : Nat} (w : World) (hT : TabS S N) (hl : m.length = S + 5 * N + 1) (h : AloneM S N m u q m2 w2) (hd : w2.done = true) (hq : q ≤ most) (hm : most ≤ 1000000) (hB : B ≤ w.heap.size) (hO : Own w B (.slice A m.length c) m) :
    Calls Try.prog 30 #[tabV S N, .slice A m.length c, w8V u, .int .i64 most] w (AloneR B m2 w2 q w) := by
  obtain ⟨t1, t2, t3, t4, t5⟩ := three_allocs w (.cells #[.int .i64 S, .int .i64 N] 50) (.cells (w8A u) 39) (.cells (w8A zeroW8) 39)
  have HT := Lib.hid (And.intro t1 (And.intro t2 (And.intro t3 (And.intro t4 t5))))
  have HI := Lib.hid (And.intro hT (And.intro hl (And.intro h (And.intro hd (And.intro hq (And.intro hm (And.intro hB hO)))))))
  have hmz : (most : Int) ≤ 1000000 := by omega
  clear t1 t2 t3 t4 t5 hT hl h hd hq hm hB hO
  go_enter Try.func30, Try.ntmps30
  go_wp2_with fail
  go_loopw [1, 12] (fun v i wr => ∃ (A' : Option Addr) (c' k p : Nat) (mm : List Int) (ww : W8), v = .slice A' mm.length c' ∧ i = .int .i64 k ∧ Hid (k + p = q ∧ mm.length = S + 5 * N + 1 ∧ AloneM S N mm ww p m2 w2 ∧ Own wr B (.slice A' mm.length c') mm ∧ wr.heap[w.heap.size]? = some (.cells #[.int .i64 S, .int .i64 N] 50 (0, 0)) ∧ wr.heap[w.heap.size + 1]? = some (.cells (w8A ww) 39 (0, 0)) ∧ wr.heap[w.heap.size + 1 + 1]? = some (.cells (w8A zeroW8) 39 (0, 0)) ∧ Below w.heap.size w wr)) (fun _ i _ => q + 1 - (intOf i).toNat)
  case atStart =>
    obtain ⟨t1, t2, t3, t4, t5⟩ := HT.out
    obtain ⟨i1, i2, i3, i4, i5, i6, i7, i8⟩ := HI.out
    exact ⟨A, c, 0, q, m, u, rfl, rfl, (show Hid _ from ⟨Nat.zero_add q, i2, i3, own_next i8 t1, t3, t4, t5, t1⟩)⟩
  case round =>
    obtain ⟨A', c', k, p, mm, ⟨pc, job, r0, r1, r2, r3, r4, r5, r6, r7, dn, out⟩, rfl, rfl, HH⟩ := hrel
    obtain ⟨h1, h2, h3, h4, h5, h6, h7, h8⟩ := HH.out
    have hk : (k : Int) ≤ (most : Int) := by have := HI.out.2.2.2.2.1; omega
    have s0 : wr.cell? ⟨w.heap.size, 0, none⟩ = some (.int .i64 S) := by rw [Lib.cell_of_heap h5]; rfl
    have s1 : wr.cell? ⟨w.heap.size, 1, none⟩ = some (.int .i64 N) := by rw [Lib.cell_of_heap h5]; rfl
    have c0 : wr.cell? ⟨w.heap.size + 1, 0, none⟩ = some (.int .i64 pc) := by rw [Lib.cell_of_heap h6]; rfl
    have c1 : wr.cell? ⟨w.heap.size + 1, 1, none⟩ = some (.int .i64 job) := by rw [Lib.cell_of_heap h6]; rfl
    have c2 : wr.cell? ⟨w.heap.size + 1, 2, none⟩ = some (.int .i64 r0) := by rw [Lib.cell_of_heap h6]; rfl
    have c3 : wr.cell? ⟨w.heap.size + 1, 3, none⟩ = some (.int .i64 r1) := by rw [Lib.cell_of_heap h6]; rfl
    have c4 : wr.cell? ⟨w.heap.size + 1, 4, none⟩ = some (.int .i64 r2) := by rw [Lib.cell_of_heap h6]; rfl
    have c5 : wr.cell? ⟨w.heap.size + 1, 5, none⟩ = some (.int .i64 r3) := by rw [Lib.cell_of_heap h6]; rfl
    have c6 : wr.cell? ⟨w.heap.size + 1, 6, none⟩ = some (.int .i64 r4) := by rw [Lib.cell_of_heap h6]; rfl
    have c7 : wr.cell? ⟨w.heap.size + 1, 7, none⟩ = some (.int .i64 r5) := by rw [Lib.cell_of_heap h6]; rfl
    have c8 : wr.cell? ⟨w.heap.size + 1, 8, none⟩ = some (.int .i64 r6) := by rw [Lib.cell_of_heap h6]; rfl
    have c9 : wr.cell? ⟨w.heap.size + 1, 9, none⟩ = some (.int .i64 r7) := by rw [Lib.cell_of_heap h6]; rfl
    have c10 : wr.cell? ⟨w.heap.size + 1, 10, none⟩ = some (.bool dn) := by rw [Lib.cell_of_heap h6]; rfl
    have c11 : wr.cell? ⟨w.heap.size + 1, 11, none⟩ = some (.int .i64 out) := by rw [Lib.cell_of_heap h6]; rfl
    cases dn with
    | true =>
      obtain ⟨rfl, rfl, rfl⟩ := h3.fin rfl
      have hkq : Hid (k = q) := show k = q by omega
      have L6 := fun (W : World) (hW : wr.grownBy W (some (w.heap.size + 1 + 1))) => (hW.block (w.heap.size + 1) (lt_heap6' h6) (fun e => by injection e with e; omega)).trans h6
      have M0 := fun (W : World) (hW : wr.grownBy W (some (w.heap.size + 1 + 1))) => (show W.cell? ⟨w.heap.size + 1, 0, none⟩ = some (.int .i64 pc) by rw [Lib.cell_of_heap (L6 W hW)]; rfl)
      have M1 := fun (W : World) (hW : wr.grownBy W (some (w.heap.size + 1 + 1))) => (show W.cell? ⟨w.heap.size + 1, 1, none⟩ = some (.int .i64 job) by rw [Lib.cell_of_heap (L6 W hW)]; rfl)
      have M2 := fun (W : World) (hW : wr.grownBy W (some (w.heap.size + 1 + 1))) => (show W.cell? ⟨w.heap.size + 1, 2, none⟩ = some (.int .i64 r0) by rw [Lib.cell_of_heap (L6 W hW)]; rfl)
      have M3 := fun (W : World) (hW : wr.grownBy W (some (w.heap.size + 1 + 1))) => (show W.cell? ⟨w.heap.size + 1, 3, none⟩ = some (.int .i64 r1) by rw [Lib.cell_of_heap (L6 W hW)]; rfl)
      have M4 := fun (W : World) (hW : wr.grownBy W (some (w.heap.size + 1 + 1))) => (show W.cell? ⟨w.heap.size + 1, 4, none⟩ = some (.int .i64 r2) by rw [Lib.cell_of_heap (L6 W hW)]; rfl)
      have M5 := fun (W : World) (hW : wr.grownBy W (some (w.heap.size + 1 + 1))) => (show W.cell? ⟨w.heap.size + 1, 5, none⟩ = some (.int .i64 r3) by rw [Lib.cell_of_heap (L6 W hW)]; rfl)
      have M6 := fun (W : World) (hW : wr.grownBy W (some (w.heap.size + 1 + 1))) => (show W.cell? ⟨w.heap.size + 1, 6, none⟩ = some (.int .i64 r4) by rw [Lib.cell_of_heap (L6 W hW)]; rfl)
      have M7 := fun (W : World) (hW : wr.grownBy W (some (w.heap.size + 1 + 1))) => (show W.cell? ⟨w.heap.size + 1, 7, none⟩ = some (.int .i64 r5) by rw [Lib.cell_of_heap (L6 W hW)]; rfl)
      have M8 := fun (W : World) (hW : wr.grownBy W (some (w.heap.size + 1 + 1))) => (show W.cell? ⟨w.heap.size + 1, 8, none⟩ = some (.int .i64 r6) by rw [Lib.cell_of_heap (L6 W hW)]; rfl)
      have M9 := fun (W : World) (hW : wr.grownBy W (some (w.heap.size + 1 + 1))) => (show W.cell? ⟨w.heap.size + 1, 9, none⟩ = some (.int .i64 r7) by rw [Lib.cell_of_heap (L6 W hW)]; rfl)
      have M10 := fun (W : World) (hW : wr.grownBy W (some (w.heap.size + 1 + 1))) => (show W.cell? ⟨w.heap.size + 1, 10, none⟩ = some (.bool true) by rw [Lib.cell_of_heap (L6 W hW)]; rfl)
      have M11 := fun (W : World) (hW : wr.grownBy W (some (w.heap.size + 1 + 1))) => (show W.cell? ⟨w.heap.size + 1, 11, none⟩ = some (.int .i64 out) by rw [Lib.cell_of_heap (L6 W hW)]; rfl)
      have HX := Lib.hid (And.intro h4 (And.intro h7 h8))
      clear h1 h2 h3 h4 h5 h6 h7 h8 HH s0 s1 L6
      go_wp2_with fail
      clear c0 c1 c2 c3 c4 c5 c6 c7 c8 c9 c10 c11
      refine region_calm_to (fun W => wr.grownBy W (some (w.heap.size + 1 + 1))) (fun (a0 a9 : Act) (w9 : World) => a9 = ((((((a0.put (some 23) (.slice A' mm.length c')).put (some 24) (w8V ⟨pc, job, r0, r1, r2, r3, r4, r5, r6, r7, true, out⟩)).put (some 25) (.int .i64 k)).put (some 8) (.slice A' mm.length c')).put (some 10) (.int .i64 k)).put (some 11) (.bool true)) ∧ w9.heap[w.heap.size + 1 + 1]? = some (.cells (w8A ⟨pc, job, r0, r1, r2, r3, r4, r5, r6, r7, true, out⟩) 39 (0, 0)) ∧ Own w9 B (.slice A' mm.length c') mm ∧ Below w.heap.size w w9)
        (.calm 0 (.calm 1 (.calm 2 (.only 3 (.only 4 (.only 5 (.only 6 .done))))))) (by kernel_rfl) (by kernel_rfl) (by kernel_rfl) (by rfl) ⟨rfl, rfl, rfl, Nat.le_refl _, fun _ _ _ => rfl⟩ ?_ ?_
      · skip
        refine ⟨_, _, .slice A' mm.length c', rfl, rfl, ⟨rfl, fun W hW => by first | exact ⟨rfl, rfl⟩ | (simp only [Act.eval, execOp]; go_simp; try exact ⟨rfl, rfl⟩)⟩, ?_⟩
        simp only [Act.put, List.getElem_toArray, List.getElem_cons_zero, List.getElem_cons_succ, List.setIfInBounds_toArray, List.set_cons_succ, List.set_cons_zero]
        refine ⟨_, _, w8V ⟨pc, job, r0, r1, r2, r3, r4, r5, r6, r7, true, out⟩, rfl, rfl, ⟨rfl, fun W hW => by first | exact ⟨rfl, rfl⟩ | (have m0 := M0 W hW; have m1 := M1 W hW; have m2 := M2 W hW; have m3 := M3 W hW; have m4 := M4 W hW; have m5 := M5 W hW; have m6 := M6 W hW; have m7 := M7 W hW; have m8 := M8 W hW; have m9 := M9 W hW; have m10 := M10 W hW; have m11 := M11 W hW; simp only [Act.eval, execOp]; go_simp; try exact ⟨rfl, rfl⟩)⟩, ?_⟩
        simp only [Act.put, List.getElem_toArray, List.getElem_cons_zero, List.getElem_cons_succ, List.setIfInBounds_toArray, List.set_cons_succ, List.set_cons_zero]
        refine ⟨_, _, .int .i64 k, rfl, rfl, ⟨rfl, fun W hW => by first | exact ⟨rfl, rfl⟩ | (simp only [Act.eval, execOp]; go_simp; try exact ⟨rfl, rfl⟩)⟩, ?_⟩
        simp only [Act.put, List.getElem_toArray, List.getElem_cons_zero, List.getElem_cons_succ, List.setIfInBounds_toArray, List.set_cons_succ, List.set_cons_zero]
        have hb0 := below_drewW wr
        have hG0 : wr.grownBy wr.drew (some (w.heap.size + 1 + 1)) := ⟨rfl, rfl, rfl, Nat.le_refl _, fun _ _ _ => rfl⟩
        clear M0 M1 M2 M3 M4 M5 M6 M7 M8 M9 M10 M11
        generalize wr.drew = x0 at *
        refine ⟨_, rfl, ?_⟩
        go_wp2_with fail
        refine ⟨rfl, hG0, ?_⟩
        refine ⟨_, rfl, ?_⟩
        obtain ⟨h4, h7, h8⟩ := HX.out
        have z0 := (hb0.block _ (lt_heap6' h7)).trans h7
        have HZ := Lib.hid z0
        have o0 : x0.cell? ⟨w.heap.size + 1 + 1, 0, none⟩ = some (.int .i64 0) := by rw [Lib.cell_of_heap z0]; rfl
        have o1 : x0.cell? ⟨w.heap.size + 1 + 1, 1, none⟩ = some (.int .i64 0) := by rw [Lib.cell_of_heap z0]; rfl
        have o2 : x0.cell? ⟨w.heap.size + 1 + 1, 2, none⟩ = some (.int .i64 0) := by rw [Lib.cell_of_heap z0]; rfl
        have o3 : x0.cell? ⟨w.heap.size + 1 + 1, 3, none⟩ = some (.int .i64 0) := by rw [Lib.cell_of_heap z0]; rfl
        have o4 : x0.cell? ⟨w.heap.size + 1 + 1, 4, none⟩ = some (.int .i64 0) := by rw [Lib.cell_of_heap z0]; rfl
        have o5 : x0.cell? ⟨w.heap.size + 1 + 1, 5, none⟩ = some (.int .i64 0) := by rw [Lib.cell_of_heap z0]; rfl
        have o6 : x0.cell? ⟨w.heap.size + 1 + 1, 6, none⟩ = some (.int .i64 0) := by rw [Lib.cell_of_heap z0]; rfl
        have o7 : x0.cell? ⟨w.heap.size + 1 + 1, 7, none⟩ = some (.int .i64 0) := by rw [Lib.cell_of_heap z0]; rfl
        have o8 : x0.cell? ⟨w.heap.size + 1 + 1, 8, none⟩ = some (.int .i64 0) := by rw [Lib.cell_of_heap z0]; rfl
        have o9 : x0.cell? ⟨w.heap.size + 1 + 1, 9, none⟩ = some (.int .i64 0) := by rw [Lib.cell_of_heap z0]; rfl
        have o10 : x0.cell? ⟨w.heap.size + 1 + 1, 10, none⟩ = some (.bool false) := by rw [Lib.cell_of_heap z0]; rfl
        have o11 : x0.cell? ⟨w.heap.size + 1 + 1, 11, none⟩ = some (.int .i64 0) := by rw [Lib.cell_of_heap z0]; rfl
        have fz : ∀ j, x0.frozen? ⟨w.heap.size + 1 + 1, j, none⟩ = false := fun j => Lib.frozen_of_heap z0 j
        have l7 := lt_heap6' h7
        have hO0 := own_next h4 hb0
        have hBB := h8.trans (hb0.mono h8.size)
        have HW := Lib.hid (And.intro hO0 (And.intro hBB (show w.heap.size + 1 + 1 < x0.heap.size from lt_heap6' z0)))
        clear h4 h7 h8 z0 l7 hO0 hBB
        go_wp2_with fail
        clear o0 o1 o2 o3 o4 o5 o6 o7 o8 o9 o10 o11 fz
        obtain ⟨x1, hx1, hr1, hg1⟩ := set12o x0 (w.heap.size + 1 + 1) zeroW8 ⟨pc, job, r0, r1, r2, r3, r4, r5, r6, r7, true, out⟩ HZ.out
        try rw [hx1]
        have hG1 := hG0.trans hg1
        obtain ⟨hO0, hBB, l0⟩ := HW.out
        obtain ⟨i1, i2, i3, i4, i5, i6, i7, i8⟩ := HI.out
        have hOx := hO0.kept hg1 (.inr (own_type hO0 HZ.out (by decide)))
        have hBx := below_grown hBB hg1 (fun k e => by injection e with e; omega) (by omega)
        refine ⟨rfl, hG1, ?_⟩
        refine ⟨_, rfl, ?_⟩
        go_wp2_with fail
        refine ⟨rfl, hG1, ?_⟩
        refine ⟨_, rfl, ?_⟩
        go_wp2_with fail
        exact ⟨rfl, hG1, rfl, hr1, hOx, hBx⟩
      · rintro a' w9 ⟨rfl, hr9, hO9, hb9⟩
        simp only [Act.put, List.setIfInBounds_toArray, List.set_cons_succ, List.set_cons_zero]
        go_wp2_with fail
        refine bodyPost_ret (results_tctt rfl _ _ (w.heap.size + 1 + 1) _ _ _ _ rfl hr9 Try.underlying39 rfl (by kernel_rfl)) rfl ?_
        exact ⟨A', c', by rw [← hkq.out]; rfl, hO9, hb9⟩
    | false =>
      obtain ⟨p1, m1, w1', hp1, hmay, hfit, hwd, hst, hrest⟩ := h3.head rfl HI.out.2.2.2.1
      obtain ⟨hc', hn'⟩ := own_slice' h4
      have hps := pStep_any A' c' wr ⟨HI.out.1, hfit, hmay, hwd, by rw [h2]; push_cast; rfl⟩ hst hn' hc'
      have hl1 := stepP_len hst
      have HX := Lib.hid (And.intro h1 (And.intro hp1 (And.intro hrest (And.intro (hl1.trans h2) (And.intro h6 (And.intro h5 (And.intro h7 h8)))))))
      clear h1 h2 h3 h4 h5 h6 h7 h8 HH hp1 hmay hfit hwd hst hrest hc' hn' hl1
      go_wp2_with fail
      refine hps.mono ?_
      rintro e x1 ⟨A3, cc, rfl, hc3, hO3, hb3⟩
      clear hps s0 s1 c0 c1 c2 c3 c4 c5 c6 c7 c8 c9 c10 c11
      obtain ⟨g1, g2, g3, g4, g6, g5, g7, g8⟩ := HX.out
      have y6 := (hb3.block _ (lt_heap6' g6)).trans g6
      have c0 : x1.cell? ⟨w.heap.size + 1, 0, none⟩ = some (.int .i64 pc) := by rw [Lib.cell_of_heap y6]; rfl
      have c1 : x1.cell? ⟨w.heap.size + 1, 1, none⟩ = some (.int .i64 job) := by rw [Lib.cell_of_heap y6]; rfl
      have c2 : x1.cell? ⟨w.heap.size + 1, 2, none⟩ = some (.int .i64 r0) := by rw [Lib.cell_of_heap y6]; rfl
      have c3 : x1.cell? ⟨w.heap.size + 1, 3, none⟩ = some (.int .i64 r1) := by rw [Lib.cell_of_heap y6]; rfl
      have c4 : x1.cell? ⟨w.heap.size + 1, 4, none⟩ = some (.int .i64 r2) := by rw [Lib.cell_of_heap y6]; rfl
      have c5 : x1.cell? ⟨w.heap.size + 1, 5, none⟩ = some (.int .i64 r3) := by rw [Lib.cell_of_heap y6]; rfl
      have c6 : x1.cell? ⟨w.heap.size + 1, 6, none⟩ = some (.int .i64 r4) := by rw [Lib.cell_of_heap y6]; rfl
      have c7 : x1.cell? ⟨w.heap.size + 1, 7, none⟩ = some (.int .i64 r5) := by rw [Lib.cell_of_heap y6]; rfl
      have c8 : x1.cell? ⟨w.heap.size + 1, 8, none⟩ = some (.int .i64 r6) := by rw [Lib.cell_of_heap y6]; rfl
      have c9 : x1.cell? ⟨w.heap.size + 1, 9, none⟩ = some (.int .i64 r7) := by rw [Lib.cell_of_heap y6]; rfl
      have c10 : x1.cell? ⟨w.heap.size + 1, 10, none⟩ = some (.bool false) := by rw [Lib.cell_of_heap y6]; rfl
      have c11 : x1.cell? ⟨w.heap.size + 1, 11, none⟩ = some (.int .i64 out) := by rw [Lib.cell_of_heap y6]; rfl
      have fz : ∀ j, x1.frozen? ⟨w.heap.size + 1, j, none⟩ = false := fun j => Lib.frozen_of_heap y6 j
      have hlw : w.heap.size + 1 < x1.heap.size := lt_heap6' y6
      have HY := Lib.hid (And.intro hc3 (And.intro hO3 (And.intro hb3 y6)))
      clear g1 g2 g3 g4 g6 g5 g7 g8 hc3 hO3 hb3 y6
      go_wp2_with fail
      clear c0 c1 c2 c3 c4 c5 c6 c7 c8 c9 c10 c11 fz
      obtain ⟨g1, g2, g3, g4, g6, g5, g7, g8⟩ := HX.out
      obtain ⟨hc3, hO3, hb3, y6⟩ := HY.out
      obtain ⟨x2, hx2, hr2, hg2⟩ := set12o x1 (w.heap.size + 1) _ w1' y6
      have hOx := own_mono hO3 (by have := g8.size; have := HI.out.2.2.2.2.2.2.1; omega : B ≤ wr.heap.size)
      go_roundw
      case measure => have := HI.out.2.2.2.2.1; simp [intOf]; omega
      case rel =>
        refine ⟨A3, cc, k + 1, p1, m1, w1', rfl, by go_num, (show Hid _ from ⟨by omega, g4, g3, ?_, ?_, ?_, ?_, ?_⟩)⟩
        all_goals rw [hx2]
        all_goals
          have hA := (Below.refl x2.heap.size x2).alloc (Nat.le_refl _) (.cells #[.int .i64 w1'.pc, .int .i64 w1'.job, .int .i64 w1'.r0, .int .i64 w1'.r1, .int .i64 w1'.r2, .int .i64 w1'.r3, .int .i64 w1'.r4, .int .i64 w1'.r5, .int .i64 w1'.r6, .int .i64 w1'.r7, .bool w1'.done, .int .i64 w1'.out] 39)
          have e5 := (hg2.block w.heap.size (by omega) (fun e => by injection e with e; omega)).trans ((hb3.block _ (lt_heap6' g5)).trans g5)
          have e7 := (hg2.block (w.heap.size + 1 + 1) (Nat.lt_of_lt_of_le (lt_heap6' g7) hb3.size) (fun e => by injection e with e; omega)).trans ((hb3.block _ (lt_heap6' g7)).trans g7)
          have eB := below_grown (g8.trans (hb3.mono g8.size)) hg2 (fun k e => by injection e with e; omega) (by omega)
        · exact own_next (hOx.kept hg2 (.inr (own_type hOx y6 (by decide)))) hA
        · exact (hA.block _ (lt_heap6' e5)).trans e5
        · exact (hA.block _ (lt_heap6' hr2)).trans hr2
        · exact (hA.block _ (lt_heap6' e7)).trans e7
        · exact eB.trans (hA.mono eB.size)
end Go.Proofs.Ytocepdhjkhhpfaa
namespace Go.Proofs.Ytocepdhjkhhpfaa
set_option maxRecDepth 100000
set_option linter.unusedVariables false
set_option linter.unusedSimpArgs false

/-- a table that one alone fills: what was put, what is free; its words are such as they may be -/
structure ProbeJ (S N c : Nat) (m : List Int) (L : List (Kd × Nat)) (F : List Nat) : Prop where
  pi : ProbeI S N c m L F
  ti : TabI S N c m L F []
  wd : ∀ x ∈ m, WdI x
theorem ProbeI.tabI {S N c : Nat} {m : List Int} {L : List (Kd × Nat)} {F : List Nat} (h : ProbeI S N c m L F) (hl : ∀ x, x < N → 0 ≤ m.getD (S + 4 * N + x + 1) 0 ∧ m.getD (S + 4 * N + x + 1) 0 ≤ N) : TabI S N c m L F [] :=
  ⟨h.tab, h.free, hl, by rw [List.append_nil]; exact h.perm, h.kids, h.place, h.occ, h.cnt⟩
theorem probeJ_new {S N : Nat} (h1 : 1 ≤ S) (h2 : S ≤ 4000) (hn : N ≤ 1000) : ProbeJ S N 0 (newT S N) [] (List.range N) :=
  ⟨probe_new h1 h2 hn, tabI_new h1 h2 hn, newT_wd hn⟩
/-- one alone: what it ends with, and what it leaves -/
theorem ProbeJ.run {S N c : Nat} {m : List Int} {L : List (Kd × Nat)} {F : List Nat} (h : ProbeJ S N c m L F) (hc : c ≤ 900000) {k : Kd} (hk : ∀ i, i < 4 → WdI (kdH k i)) :
    (∃ x ∈ L, x.1 = k ∧ (∀ y ∈ L, y.1 = k → y.2 = x.2) ∧ ∃ q w', q ≤ 5 * S ∧ AloneM S N m (internW k) q m w' ∧ w'.done = true ∧ w'.out = x.2) ∨
    ((∀ x ∈ L, x.1 ≠ k) ∧ (L.length = S ∨ L.length = N) ∧ ∃ q w', q ≤ 5 * S + 1 ∧ AloneM S N m (internW k) q m w' ∧ w'.done = true ∧ w'.out = -1) ∨
    ((∀ x ∈ L, x.1 ≠ k) ∧ L.length < S ∧ L.length < N ∧ ∃ n r i q w', F = n :: r ∧ i < S ∧ (∀ i', i' < i → OtherP S m k i') ∧ m.getD (atP S k i) 0 = 0 ∧ q = costP S m k i + 9 ∧ AloneM S N m (internW k) q (tookP S N c m k n r (atP S k i)) w' ∧ w'.done = true ∧ w'.out = n ∧ ProbeJ S N (c + 1) (tookP S N c m k n r (atP S k i)) (L ++ [(k, n)]) r) := by
  have hS2 := h.pi.tab.s2
  rcases h.pi.run (by omega) hk with ⟨x, hx, h1, h2, q, w', hq, ha, hd, ho⟩ | ⟨h1, h2, q, w', hq, ha, hd, ho⟩ | ⟨h1, h2, h3, n, r, i, q, w', hF, hi, hlo, hz, hq, ha, hd, ho, hI⟩
  · obtain ⟨g1, -, -, -⟩ := along_new h.ti (by omega) hk h.wd ha hd
    exact .inl ⟨x, hx, h1, h2, q, w', hq, g1, hd, ho⟩
  · obtain ⟨g1, -, -, -⟩ := along_new h.ti (by omega) hk h.wd ha hd
    exact .inr (.inl ⟨h1, h2, q, w', hq, g1, hd, ho⟩)
  · have hcl := costP_le S m k i
    obtain ⟨g1, ⟨c', L', F', -, g2⟩, g3, -⟩ := along_new h.ti (by omega) hk h.wd ha hd
    exact .inr (.inr ⟨h1, h2, h3, n, r, i, q, w', hF, hi, hlo, hz, hq, g1, hd, ho, hI, hI.tabI g2.links, g3⟩)
/-- the steps of one that puts a node -/
theorem cost_nine {S i : Nat} {m : List Int} {k : Kd} (hi : i < S) : costP S m k i + 9 ≤ 5 * S + 9 := by
  have := costP_le S m k i
  omega
theorem ProbeJ.nodes {S N c : Nat} {m : List Int} {L : List (Kd × Nat)} {F : List Nat} (h : ProbeJ S N c m L F) : (nodesT S m).length = L.length := by
  have := h.ti.nodes.length_eq
  rw [List.length_map] at this
  exact this.symm
theorem ProbeJ.len {S N c : Nat} {m : List Int} {L : List (Kd × Nat)} {F : List Nat} (h : ProbeJ S N c m L F) : m.length = S + 5 * N + 1 := h.pi.tab.len
/-- chapter 14's example -/
theorem probe_example : ∃ (m1 : List Int) (q1 q2 q3 : Nat) (v w x : W8), AloneM (2 : Nat) (1 : Nat) (newT 2 1) (internW (0, 0, 0, 1)) q1 m1 v ∧ AloneM (2 : Nat) (1 : Nat) m1 (internW (0, 0, 0, 1)) q2 m1 w ∧ AloneM (2 : Nat) (1 : Nat) m1 (internW (0, 0, 1, 1)) q3 m1 x ∧
    q1 ≤ 19 ∧ q2 ≤ 19 ∧ q3 ≤ 19 ∧ v.done = true ∧ w.done = true ∧ x.done = true ∧ v.out = 0 ∧ w.out = 0 ∧ x.out = -1 ∧ m1.length = 2 + 5 * 1 + 1 ∧ kdAt 2 m1 0 = (0, 0, 0, 1) ∧ nodesT 2 m1 = [0] ∧ ∀ i, i < 2 → 0 ≤ m1.getD i 0 ∧ m1.getD i 0 ≤ (1 : Nat) := by
  have hk1 : ∀ i, i < 4 → WdI (kdH (0, 0, 0, 1) i) := fun i hi => by
    match i, hi with
    | 0, _ => exact ⟨by decide, by decide⟩
    | 1, _ => exact ⟨by decide, by decide⟩
    | 2, _ => exact ⟨by decide, by decide⟩
    | 3, _ => exact ⟨by decide, by decide⟩
  have hk2 : ∀ i, i < 4 → WdI (kdH (0, 0, 1, 1) i) := fun i hi => by
    match i, hi with
    | 0, _ => exact ⟨by decide, by decide⟩
    | 1, _ => exact ⟨by decide, by decide⟩
    | 2, _ => exact ⟨by decide, by decide⟩
    | 3, _ => exact ⟨by decide, by decide⟩
  have h0 := probeJ_new (S := 2) (N := 1) (by decide) (by decide) (by decide)
  rcases h0.run (by decide) hk1 with ⟨x, hx, _⟩ | ⟨_, hl, _⟩ | ⟨-, -, -, n, r, i, q1, v, hF, hi, hlo, hz, hq, ha, hd, ho, hJ⟩
  · simp at hx
  · simp at hl
  · obtain ⟨rfl, rfl⟩ : n = 0 ∧ r = [] := by
      have : [0] = n :: r := hF
      injection this with h1 h2
      exact ⟨h1.symm, h2.symm⟩
    have hcl := costP_le 2 (newT 2 1) (0, 0, 0, 1) i
    rw [List.nil_append] at hJ
    generalize tookP 2 1 0 (newT 2 1) (0, 0, 0, 1) 0 [] (atP 2 (0, 0, 0, 1) i) = m1 at *
    rcases hJ.run (by decide) hk1 with ⟨x, hx, h1, -, q2, w, hq2, ha2, hd2, ho2⟩ | ⟨hno, -⟩ | ⟨hno, -⟩
    · obtain rfl : x = ((0, 0, 0, 1), 0) := by simpa using hx
      rcases hJ.run (by decide) hk2 with ⟨x, hx, h1, -⟩ | ⟨-, -, q3, x, hq3, ha3, hd3, ho3⟩ | ⟨-, -, hl, -⟩
      · obtain rfl : x = ((0, 0, 0, 1), 0) := by simpa using hx
        exact absurd h1 (by decide)
      · refine ⟨m1, q1, q2, q3, v, w, x, ha, ha2, ha3, by omega, by omega, by omega, hd, hd2, hd3, ho, ho2, ho3, hJ.len, hJ.pi.kids ((0, 0, 0, 1), 0) (by simp), ?_, hJ.pi.tab.slots⟩
        have hp := hJ.ti.nodes
        have : (nodesT 2 m1) = [0] := by
          have h1 : ([0] : List Nat).Perm (nodesT 2 m1) := hp
          exact List.perm_singleton.1 h1.symm
        exact this
      · simp at hl
    · exact absurd rfl (hno ((0, 0, 0, 1), 0) (by simp))
    · exact absurd rfl (hno ((0, 0, 0, 1), 0) (by simp))
end Go.Proofs.Ytocepdhjkhhpfaa
