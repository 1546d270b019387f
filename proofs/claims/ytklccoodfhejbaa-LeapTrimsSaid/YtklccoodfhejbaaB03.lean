/-
  Texts that the claims of this seat share, part 3.
-/
import Derived.Test.YtklccoodfhejbaaB02
import Derived.Test.YtklccoodfhejbaaB00
import Derived.Maps.OwnSet
import Derived.Maps.Views
import Derived.DeepKeys4
import Derived.Test.YtklccoodfhejbaaSh
import Derived.Test.YtklccoodfhejbaaB01
set_option linter.unusedVariables false
set_option linter.unusedSimpArgs false
namespace Go.Proofs.Ytklccoodfhejbaa
set_option linter.unusedVariables false
set_option linter.unusedSimpArgs false
open Go.RowKit Go.Sort

/-- nodes do not lie in a row that is too short -/
theorem rdN_ne {w : World} {B q T : Nat} {A : Option Addr} {l : List Nd} {cs : Array Value} {fz : Nat × Nat} (h : RdN w B A l) (hrow : w.heap[q]? = some (.cells cs T fz)) (hsz : cs.size ≤ 5) : ∀ j, j < l.length → ∃ b off, A = some ⟨b, off, none⟩ ∧ b ≠ q ∧ b < B ∧ NdAt w b (off + j * 6) (l.getD j deadN) := by
  intro j hj
  obtain ⟨b, off, e, hlt, h0⟩ := h j hj
  refine ⟨b, off, e, ?_, hlt, h0⟩
  rintro rfl
  obtain ⟨_, _, _, _, _, h5⟩ := h0
  rw [Lib.cell_of_heap hrow (off + j * 6 + 5), Array.getElem?_eq_none (by omega)] at h5
  cases h5
theorem rdN_told {w : World} {B q T : Nat} {A : Option Addr} {l : List Nd} {x y u v : Value} (h : RdN w B A l) (hrow : w.heap[q]? = some (.cells #[x, y] T (0, 0))) : RdN ((w.setCell ⟨q, 0, none⟩ u).setCell ⟨q, 1, none⟩ v) B A l := by
  intro j hj
  obtain ⟨b, off, e, hne, hlt, h0, h1, h2, h3, h4, h5⟩ := rdN_ne h hrow (Nat.le_of_ble_eq_true rfl) j hj
  have hb : ((w.setCell ⟨q, 0, none⟩ u).setCell ⟨q, 1, none⟩ v).heap[b]? = w.heap[b]? := (Below.heap_setCell _ _ _ _ hne).trans (Below.heap_setCell _ _ _ _ hne)
  have hc : ∀ o, ((w.setCell ⟨q, 0, none⟩ u).setCell ⟨q, 1, none⟩ v).cell? ⟨b, o, none⟩ = w.cell? ⟨b, o, none⟩ := fun o => World.cell?_of_block (w := w) hb
  exact ⟨b, off, e, hlt, (hc _).trans h0, (hc _).trans h1, (hc _).trans h2, (hc _).trans h3, (hc _).trans h4, (hc _).trans h5⟩

set_option maxHeartbeats 4000000 in
set_option maxRecDepth 100000 in
theorem refIntern6_any (A : Option Addr) (l : List Nd) (c : Nat) (room : Int) (k : Kd) (w : World) (hR : RdN w w.heap.size A l) (hl : l.length ≤ 100000) (hc : l.length ≤ c)
    (hw : ∀ i, i < l.length → -9223372036854775808 ≤ (l.getD i deadN).1 ∧ (l.getD i deadN).1 ≤ 9223372036854775807) :
    Calls Try.prog 38 #[storeV A l.length c room, kidsV k] w (PutR (intern6 l room k) room w) := by
  have HH0 := putHead_0 w A l.length c room k
  have hright := fun W (hR : RdN W W.heap.size A l) => refRight6_any A l c room W hR (by omega) hw
  unfold storeV at hright
  cases hr : right6 l room with
  | false =>
    have he : intern6 l room k = (l, 0, 1) := by unfold intern6; rw [if_neg (by rw [hr]; decide)]
    rw [he]
    rw [hr] at hright
    have hcall := hright _ ((hR.below HH0.bel (Nat.le_refl _)).more HH0.bel.size)
    unfold storeV kidsV
    clear hright hr he hw
    go_enter Try.func38, Try.ntmps38
    go_wp2_with fail
    refine hcall.mono ?_
    generalize ((w.alloc (.cells #[.slice A l.length c, .int .i64 room] 26)).alloc (.cells #[.int .i64 k.1, .int .i64 k.2.1, .int .i64 k.2.2.1, .int .i64 k.2.2.2] 33)).alloc (.cells #[.slice none 0 0, .int .i64 0] 26) = w0 at *
    rintro e w1 ⟨rfl, hb1⟩
    have H1 := HH0.below hb1
    have s0 := H1.s0
    have s1 := H1.s1
    have r0 := H1.r0
    have r1 := H1.r1
    have f0 := H1.free 0
    have f1 := H1.free 1
    have ht : ((w1.setCell ⟨w.heap.size + 1 + 1, 0, none⟩ (.slice A l.length c)).setCell ⟨w.heap.size + 1 + 1, 1, none⟩ (.int .i64 room)).heap[w.heap.size + 1 + 1]? = some (.cells #[.slice A l.length c, .int .i64 room] 26 (0, 0)) ∧ Below w.heap.size w ((w1.setCell ⟨w.heap.size + 1 + 1, 0, none⟩ (.slice A l.length c)).setCell ⟨w.heap.size + 1 + 1, 1, none⟩ (.int .i64 room)) := H1.told (.slice A l.length c) (.int .i64 room)
    clear hcall HH0 H1 hb1
    go_wp2
    generalize (w1.setCell ⟨w.heap.size + 1 + 1, 0, none⟩ (.slice A l.length c)).setCell ⟨w.heap.size + 1 + 1, 1, none⟩ (.int .i64 room) = w9 at *
    clear r0 r1 f0 f1 s0 s1
    refine bodyPost_ret (results_cell3 rfl _ _ _ _ _ _ _ rfl ht.1 Try.underlying26 rfl (by kernel_rfl)) rfl ?_
    exact ⟨_, rfl, ⟨A, c, rfl, hc, (hR.below ht.2 (Nat.le_refl _)).more ht.2.size⟩, ht.2⟩
  | true =>
    have hR6 := right_iff.1 hr
    rw [intern_right hR6]
    rw [hr] at hright
    have hput := fun W hR => refPut6_any A l c room k W hR hl hc (right_bd hR6)
    have hcall := hright _ ((hR.below HH0.bel (Nat.le_refl _)).more HH0.bel.size)
    unfold storeV kidsV
    unfold storeV kidsV at hput
    obtain ⟨p, hp⟩ : ∃ p, p = put6 l room k := ⟨_, rfl⟩
    rw [← hp] at hput ⊢
    clear hright hr hw hR6 hp
    go_enter Try.func38, Try.ntmps38
    go_wp2_with fail
    refine hcall.mono ?_
    generalize ((w.alloc (.cells #[.slice A l.length c, .int .i64 room] 26)).alloc (.cells #[.int .i64 k.1, .int .i64 k.2.1, .int .i64 k.2.2.1, .int .i64 k.2.2.2] 33)).alloc (.cells #[.slice none 0 0, .int .i64 0] 26) = w0 at *
    rintro e w1 ⟨rfl, hb1⟩
    have H1 := HH0.below hb1
    have s0 := H1.s0
    have s1 := H1.s1
    have c0 := H1.kid (i := 0) (by decide)
    have c1 := H1.kid (i := 1) (by decide)
    have c2 := H1.kid (i := 2) (by decide)
    have c3 := H1.kid (i := 3) (by decide)
    simp only [kd] at c0 c1 c2 c3
    have hput1 := hput w1 ((hR.below H1.bel (Nat.le_refl _)).more H1.bel.size)
    clear hcall HH0 hb1 hput
    go_wp2_with fail
    refine hput1.mono ?_
    rintro e w2 ⟨v, rfl, ⟨A2, c2', rfl, hc2, hR2⟩, hb2⟩
    have H2 := H1.below hb2
    have r0 := H2.r0
    have r1 := H2.r1
    have f0 := H2.free 0
    have f1 := H2.free 1
    have ht : ((w2.setCell ⟨w.heap.size + 1 + 1, 0, none⟩ (.slice A2 p.1.length c2')).setCell ⟨w.heap.size + 1 + 1, 1, none⟩ (.int .i64 room)).heap[w.heap.size + 1 + 1]? = some (.cells #[.slice A2 p.1.length c2', .int .i64 room] 26 (0, 0)) ∧ Below w.heap.size w ((w2.setCell ⟨w.heap.size + 1 + 1, 0, none⟩ (.slice A2 p.1.length c2')).setCell ⟨w.heap.size + 1 + 1, 1, none⟩ (.int .i64 room)) := H2.told (.slice A2 p.1.length c2') (.int .i64 room)
    have hfin : RdN ((w2.setCell ⟨w.heap.size + 1 + 1, 0, none⟩ (.slice A2 p.1.length c2')).setCell ⟨w.heap.size + 1 + 1, 1, none⟩ (.int .i64 room)) w2.heap.size A2 p.1 := rdN_told hR2 H2.res
    have hsz : ((w2.setCell ⟨w.heap.size + 1 + 1, 0, none⟩ (.slice A2 p.1.length c2')).setCell ⟨w.heap.size + 1 + 1, 1, none⟩ (.int .i64 room)).heap.size = w2.heap.size := by simp [World.setCell]
    have HF := Lib.hid (hfin.more (Nat.le_of_eq hsz.symm))
    clear hput1 hb2 H1 H2 c0 c1 c2 c3 s0 s1 hR2 hfin hsz
    go_wp2
    generalize (w2.setCell ⟨w.heap.size + 1 + 1, 0, none⟩ (.slice A2 p.1.length c2')).setCell ⟨w.heap.size + 1 + 1, 1, none⟩ (.int .i64 room) = w9 at *
    clear r0 r1 f0 f1
    refine bodyPost_ret (results_cell3 rfl _ _ _ _ _ _ _ rfl ht.1 Try.underlying26 rfl (by kernel_rfl)) rfl ?_
    exact ⟨_, rfl, ⟨A2, c2', rfl, hc2, HF.out⟩, ht.2⟩
end Go.Proofs.Ytklccoodfhejbaa
namespace Go.Proofs.Ytklccoodfhejbaa
set_option linter.unusedVariables false
set_option linter.unusedSimpArgs false
open Go.RowKit Go.Sort

theorem emptyTo_right {l : List Nd} {room : Int} (h : Right6 l room) : ∀ j, Right6 (emptyTo l room j).1 room
  | 0 => h
  | j + 1 => by
    rw [emptyTo]
    split
    · exact put_right (emptyTo_right h j) _
    · exact emptyTo_right h j
theorem emptyTo_stop {l : List Nd} {room : Int} {j : Nat} (h : ¬ (emptyTo l room j).2.2 = 0) : ∀ d, emptyTo l room (j + d) = emptyTo l room j
  | 0 => rfl
  | d + 1 => by
    have := emptyTo_stop h d
    rw [← Nat.add_assoc, emptyTo, this, if_neg h]
/-- What is known within Empty: the store, what is to be told. -/
structure EmpHead (w wr : World) (A : Option Addr) (n c : Nat) (room : Int) : Prop where
  store : wr.heap[w.heap.size]? = some (.cells #[.slice A n c, .int .i64 room] 26 (0, 0))
  res : wr.heap[w.heap.size + 1]? = some (.cells #[.slice none 0 0, .int .i64 0] 26 (0, 0))
  bel : Below w.heap.size w wr
section
variable {w wr w' : World} {A : Option Addr} {n c : Nat} {room : Int}
theorem EmpHead.below (h : EmpHead w wr A n c room) (hb : Below wr.heap.size wr w') : EmpHead w w' A n c room :=
  ⟨(hb.block _ (lt_heap6 h.store)).trans h.store, (hb.block _ (lt_heap6 h.res)).trans h.res, Qt.more h.bel h.bel.size hb⟩
theorem EmpHead.s0 (h : EmpHead w wr A n c room) : wr.cell? ⟨w.heap.size, 0, none⟩ = some (.slice A n c) := by rw [Lib.cell_of_heap h.store]; rfl
theorem EmpHead.s1 (h : EmpHead w wr A n c room) : wr.cell? ⟨w.heap.size, 1, none⟩ = some (.int .i64 room) := by rw [Lib.cell_of_heap h.store]; rfl
theorem EmpHead.r0 (h : EmpHead w wr A n c room) : wr.cell? ⟨w.heap.size + 1, 0, none⟩ = some (.slice none 0 0) := by rw [Lib.cell_of_heap h.res]; rfl
theorem EmpHead.r1 (h : EmpHead w wr A n c room) : wr.cell? ⟨w.heap.size + 1, 1, none⟩ = some (.int .i64 0) := by rw [Lib.cell_of_heap h.res]; rfl
theorem EmpHead.free (h : EmpHead w wr A n c room) (j : Nat) : wr.frozen? ⟨w.heap.size + 1, j, none⟩ = false := Lib.frozen_of_heap h.res j
theorem EmpHead.size (h : EmpHead w wr A n c room) : w.heap.size + 2 ≤ wr.heap.size := lt_heap6 h.res
theorem EmpHead.told (h : EmpHead w wr A n c room) (u v : Value) : ((wr.setCell ⟨w.heap.size + 1, 0, none⟩ u).setCell ⟨w.heap.size + 1, 1, none⟩ v).heap[w.heap.size + 1]? = some (.cells #[u, v] 26 (0, 0)) ∧ Below w.heap.size w ((wr.setCell ⟨w.heap.size + 1, 0, none⟩ u).setCell ⟨w.heap.size + 1, 1, none⟩ v) := by
  have hr := h.res
  refine ⟨?_, (h.bel.setCell (by show _ ≤ _ + 1; omega) _).setCell (by show _ ≤ _ + 1; omega) _⟩
  simp [World.setCell, Array.getElem?_modify, hr]
/-- another row is written into -/
theorem EmpHead.row (h : EmpHead w wr A n c room) {g : Nat} (hg : w.heap.size + 2 ≤ g) (u v : Value) : EmpHead w ((wr.setCell ⟨g, 0, none⟩ u).setCell ⟨g, 1, none⟩ v) A n c room := by
  have hk : ∀ q, q < g → ((wr.setCell ⟨g, 0, none⟩ u).setCell ⟨g, 1, none⟩ v).heap[q]? = wr.heap[q]? := fun q hq => by
    rw [Below.heap_setCell _ _ _ _ (by simp; omega), Below.heap_setCell _ _ _ _ (by simp; omega)]
  exact ⟨(hk _ (by omega)).trans h.store, (hk _ (by omega)).trans h.res, (h.bel.setCell (by show _ ≤ g; omega) _).setCell (by show _ ≤ g; omega) _⟩
end
theorem empHead_0 (w : World) (A : Option Addr) (n c : Nat) (room : Int) : EmpHead w ((w.alloc (.cells #[.slice A n c, .int .i64 room] 26)).alloc (.cells #[.slice none 0 0, .int .i64 0] 26)) A n c room := by
  have h1 := storeAt_0 w A n c room
  have hs := lt_heap6 h1.store
  have hsz : (w.alloc (.cells #[.slice A n c, .int .i64 room] 26)).heap.size = w.heap.size + 1 := by simp
  refine ⟨(Lib.alloc_old _ _ _ (by omega)).trans h1.store, ?_, h1.bel.alloc (by omega) _⟩
  rw [← hsz]
  exact heap_alloc_new _ _
end Go.Proofs.Ytklccoodfhejbaa
namespace Go.Proofs.Ytklccoodfhejbaa
set_option linter.unusedVariables false
set_option linter.unusedSimpArgs false
open Go.RowKit Go.Sort

theorem results_cell1 {P : Program} {fn : Func} {p : Tmp} {ty : TypeId} (h : fn.results = #[.cell p ty]) (tmps : Array Value) (w : World) (g : Nat) (t : TypeId) (cs : Array Value) (fr : Nat × Nat) (d : TypeDesc)
    (hp : tmps.getD p undef = .pointer (some ⟨g, 0, none⟩)) (hg : w.heap[g]? = some (.cells cs t fr))
    (hu : P.underlying ty = some d) (hd : (match d with | .struct _ | .array _ _ => true | _ => false) = true) (hi : (P.info? ty).map (·.size) = some cs.size) :
    (results fn tmps).run P w = .ok (.agg cs) w := by
  have hp' : tmps[p]?.getD undef = .pointer (some ⟨g, 0, none⟩) := by simpa using hp
  simp [results, h, hp', asAddr, run_loadVar_row w g t ty cs fr d hg hu hd hi]

/-- A store, as a value. -/
def StoreR (l : List Nd) (room : Int) (w : World) (e : Ending) (w' : World) : Prop :=
  ∃ v, e = .returned (.agg #[v, .int .i64 room]) ∧ ReadsN w' v l ∧ Below w.heap.size w w'
def newL (room : Int) : List Nd := if 2 ≤ room ∧ room ≤ 100000 then new6 else []
def newRoom (room : Int) : Int := if 2 ≤ room ∧ room ≤ 100000 then room else 0

set_option maxHeartbeats 4000000 in
set_option maxRecDepth 100000 in
theorem refNew6_any (room : Int) (w : World) : Calls Try.prog 31 #[.int .i64 room] w (StoreR (newL room) (newRoom room) w) := by
  have hno : (StoreR [] 0 w) (.returned (.agg #[.slice none 0 0, .int .i64 0])) (w.alloc (.cells #[.slice none 0 0, .int .i64 0] 26)) :=
    ⟨_, rfl, ⟨none, 0, rfl, Nat.le_refl _, nowN_nil _ _⟩, (Below.refl _ _).alloc (Nat.le_refl _) _⟩
  have hrow := heap_alloc_new w (.cells #[.slice none 0 0, .int .i64 0] 26 (0, 0))
  by_cases h1 : room < 2
  · have hb : ¬ (2 ≤ room ∧ room ≤ 100000) := by omega
    unfold newL newRoom
    rw [if_neg hb, if_neg hb]
    have HN := Lib.hid hno
    have HR := Lib.hid hrow
    clear hno hrow
    go_enter Try.func31, Try.ntmps31
    go_wp2
    exact bodyPost_ret (results_cell1 rfl _ _ _ _ _ _ _ rfl HR.out Try.underlying26 rfl (by kernel_rfl)) rfl HN.out
  by_cases h2 : 100000 < room
  · have hb : ¬ (2 ≤ room ∧ room ≤ 100000) := by omega
    unfold newL newRoom
    rw [if_neg hb, if_neg hb]
    have HN := Lib.hid hno
    have HR := Lib.hid hrow
    clear hno hrow
    go_enter Try.func31, Try.ntmps31
    go_wp2
    exact bodyPost_ret (results_cell1 rfl _ _ _ _ _ _ _ rfl HR.out Try.underlying26 rfl (by kernel_rfl)) rfl HN.out
  · have hb : 2 ≤ room ∧ room ≤ 100000 := by omega
    unfold newL newRoom
    rw [if_pos hb, if_pos hb]
    clear hno hrow
    go_enter Try.func31, Try.ntmps31
    go_wp2
    have hnd : ∀ (W : World) (o : Obj) (q : Nat), W.heap.size = q → o = .cells #[.int .i64 0, .int .i64 0, .int .i64 0, .int .i64 0, .int .i64 0, .int .i64 0, .int .i64 0, .int .i64 0, .int .i64 0, .int .i64 0, .int .i64 0, .int .i64 1] 35 (0, 0) → NowN (W.alloc o) (some ⟨q, 0, none⟩) new6 := by
      rintro W _ _ rfl rfl
      have hh := heap_alloc_new W (.cells #[.int .i64 0, .int .i64 0, .int .i64 0, .int .i64 0, .int .i64 0, .int .i64 0, .int .i64 0, .int .i64 0, .int .i64 0, .int .i64 0, .int .i64 0, .int .i64 1] 35 (0, 0))
      intro j hj
      refine ⟨W.heap.size, 0, rfl, by simp, ?_⟩
      have hc := fun o => Lib.cell_of_heap hh o
      match j, hj with
      | 0, _ => exact ⟨hc _, hc _, hc _, hc _, hc _, hc _⟩
      | 1, _ => exact ⟨hc _, hc _, hc _, hc _, hc _, hc _⟩
    refine bodyPost_ret (results_cell1 rfl _ _ w.heap.size _ _ _ _ rfl ((Lib.alloc_old _ _ _ (by simp)).trans (heap_alloc_new w _)) Try.underlying26 rfl (by kernel_rfl)) rfl ?_
    exact ⟨_, rfl, ⟨_, 2, rfl, Nat.le_refl _, hnd _ _ _ (by simp) rfl⟩, ((Below.refl _ _).alloc (Nat.le_refl _) _).alloc (by simp) _⟩
end Go.Proofs.Ytklccoodfhejbaa
namespace Go.Proofs.Ytklccoodfhejbaa
set_option linter.unusedVariables false
set_option linter.unusedSimpArgs false
open Go.RowKit Go.Sort
open Go.Maps (Keyed)

theorem laidOut6 : laidOutB Try.prog = true := by kernel_rfl
theorem kdKeyed : Keyed Try.prog 33 :=
  Keyed.of_law (deep_law_laid laidOut6 (m := 2) (by omega) (of_decide_eq_true (by kernel_rfl)) (by kernel_rfl) (by rw [Try.underlying33]))

/-- what four kids read as, as a key -/
def kl4 (k : Kd) : Lit := .string (keyBytes [.int .i64 k.1, .int .i64 k.2.1, .int .i64 k.2.2.1, .int .i64 k.2.2.2])
/-- kids that are numbers that a place may be -/
def KeyK (k : Kd) : Prop := ∀ i, i < 4 → 0 ≤ kd k i ∧ kd k i ≤ 1000000
theorem wf_small {a : Int} (h : 0 ≤ a ∧ a ≤ 1000000) : (Lit.int .i64 a).wf = true := by
  simp only [Lit.wf, IntKind.min, IntKind.max, IntKind.signed, IntKind.bits]
  simp
  omega
theorem keyOf_kd {k : Kd} (h : KeyK k) : keyOf Try.prog 33 (.agg #[.int .i64 k.1, .int .i64 k.2.1, .int .i64 k.2.2.1, .int .i64 k.2.2.2]) = some (kl4 k) := by
  have hkt : Try.prog.keyType 33 = true := by kernel_rfl
  have hsz : ∃ m, Try.prog.types.size = m + 1 := ⟨Try.prog.types.size - 1, by have : 0 < Try.prog.types.size := of_decide_eq_true (by kernel_rfl); omega⟩
  have hc4 : Try.prog.cellsOf 33 = 4 := by kernel_rfl
  have hc1 : Try.prog.cellsOf 3 = 1 := by kernel_rfl
  obtain ⟨m, hm⟩ := hsz
  have w0 := wf_small (h 0 (by decide))
  have w1 := wf_small (h 1 (by decide))
  have w2 := wf_small (h 2 (by decide))
  have w3 := wf_small (h 3 (by decide))
  simp only [kd] at w0 w1 w2 w3
  unfold keyOf
  simp only [Try.underlying33]
  rw [if_pos (by simp [hkt, Value.formed, Try.underlying33, hc4]), hm]
  unfold Program.keyLits
  simp only [Try.underlying33, Value.cells]
  rw [if_pos (by rw [hc4]; rfl)]
  simp [hc1, Program.keyLits, Try.underlying3, w0, w1, w2, w3, kl4, List.range_succ]
theorem kl4_inj {k q : Kd} (hk : KeyK k) (hq : KeyK q) (h : kl4 k = kl4 q) : k = q := by
  have h1 := keyOf_kd hk
  have h2 := keyOf_kd hq
  rw [← h] at h2
  have := kdKeyed.inj h1 h2
  obtain ⟨a, b, c, d⟩ := k
  obtain ⟨a', b', c', d'⟩ := q
  simpa using this

def zero4 : DataW Unit := .lit (.int .i64 0)
/-- A map tells where the nodes of a store are. -/
def Says (D : DataW Unit) (l : List Nd) : Prop := Maps.IsMap D ∧ ∀ k : Kd, KeyK k → (at6 l k = none → Maps.has D (kl4 k) = false) ∧ ∀ n : Nat, at6 l k = some n → Maps.has D (kl4 k) = true ∧ D.atKey (kl4 k) zero4 = .lit (.int .i64 (n : Int))
theorem says_new : Says (.map []) new6 := ⟨Maps.isMap_empty, fun k _ => ⟨fun _ => rfl, fun n h => by cases h⟩⟩
theorem at_other {l : List Nd} {k q : Kd} (lev pop : Int) (hne : q ≠ k) : at6 (l ++ [(lev, k, pop)]) q = at6 l q := by
  cases h : at6 l q with
  | some n => exact (Grows.app l _).at_ h
  | none =>
    rw [at_none] at h ⊢
    intro j hj1 hj2 he
    rw [List.length_append, List.length_singleton] at hj2
    by_cases hl : j < l.length
    · rw [getD_app hl] at he
      exact h j hj1 hl he
    · obtain rfl : j = l.length := by omega
      rw [getD_last] at he
      exact hne he.symm
theorem says_put {D : DataW Unit} {l : List Nd} {k : Kd} (h : Says D l) (hk : KeyK k) (h2 : 2 ≤ l.length) (hn : at6 l k = none) (lev pop : Int) : Says (D.put (kl4 k) (.lit (.int .i64 (l.length : Int)))) (l ++ [(lev, k, pop)]) := by
  refine ⟨h.1.put _ _, fun q hq => ?_⟩
  have hkey : WideAt.IsKeyLit (kl4 k) := kdKeyed.key (keyOf_kd hk)
  by_cases e : q = k
  · subst e
    have ha := at_new h2 hn lev pop
    refine ⟨fun h1 => (by rw [ha] at h1; cases h1), fun n h1 => ?_⟩
    rw [ha] at h1
    injection h1 with h1
    subst h1
    exact ⟨Maps.has_put_same h.1 hkey _, Maps.atKey_put_same h.1 hkey _ _⟩
  · have hne : kl4 q ≠ kl4 k := fun e' => e (kl4_inj hq hk e')
    rw [at_other lev pop e, Maps.has_put_other hne, Maps.atKey_put_other hne]
    exact h.2 q hq
end Go.Proofs.Ytklccoodfhejbaa
namespace Go.Proofs.Ytklccoodfhejbaa
set_option linter.unusedVariables false
set_option linter.unusedSimpArgs false
open Go.RowKit Go.Sort

theorem neqN_at : NeqAt Try.prog 35 (fun x : Nd => .agg (cellsN x).toArray) (fun x y => decide (x = y)) :=
  ⟨fun x y w => neqN x y w, GuardAt.agg _ (by kernel_rfl)⟩
theorem ndAt_cells {w : World} {b o : Nat} {x : Nd} (h : NdAt w b o x) : ∀ (i : Nat) (v : Value), (cellsN x)[i]? = some v → w.cell? ⟨b, o + i, none⟩ = some v := by
  obtain ⟨h0, h1, h2, h3, h4, h5⟩ := h
  intro i v hi
  match i with
  | 0 => rw [← hi]; exact h0
  | 1 => rw [← hi]; exact h1
  | 2 => rw [← hi]; exact h2
  | 3 => rw [← hi]; exact h3
  | 4 => rw [← hi]; exact h4
  | 5 => rw [← hi]; exact h5
  | n + 6 => simp [cellsN] at hi
theorem below_drewNn (n0 : Nat) (w : World) : ∀ q, Below n0 w (w.drewN q) := by
  intro q
  refine ⟨rfl, rfl, rfl, Nat.le_refl _, fun k _ => rfl⟩
theorem getBang {l : List Nd} {j : Nat} (h : j < l.length) : l[j]! = l.getD j deadN := by
  rw [List.getD_eq_getElem?_getD, List.getElem?_eq_getElem h, Option.getD_some]
  exact getElem!_pos l j h
/-- Are the two nodes ahead of all as New has them? -/
theorem equal2_any {w : World} {l : List Nd} {b1 o1 c g : Nat} (hl : 2 ≤ l.length) (h1 : ∀ j, j < l.length → NdAt w b1 (o1 + j * 6) (l.getD j deadN)) (h2 : ∀ j, j < 2 → NdAt w g (0 + j * 6) (new6.getD j deadN)) :
    Calls Try.prog 96 #[.slice (some ⟨b1, o1, none⟩) 2 c, .slice (some ⟨g, 0, none⟩) 2 2] w fun e w' => e = .returned (.bool (decide (l.getD 0 deadN = deadN) && decide (l.getD 1 deadN = liveN))) ∧ Below w.heap.size w w' := by
  have hcon := AnyQ.slices_Equal Try.eqN 6 Try.isAgg35 Try.sizeOf35 cellsN (fun _ => rfl) (fun x y => decide (x = y)) neqN_at b1 o1 2 c g 0 2 2 l new6 w hl (Nat.le_refl 2) (by decide) (by decide)
    (fun j hj i v hi => by rw [getBang hj] at hi; exact ndAt_cells (h1 j hj) i v hi) (fun j hj i v hi => by rw [getBang hj] at hi; exact ndAt_cells (h2 j hj) i v hi)
  change Calls Try.prog 96 _ _ _ at hcon
  refine hcon.mono ?_
  rintro e w' ⟨rfl, q, rfl⟩
  refine ⟨?_, below_drewNn _ _ _⟩
  congr 2
  match l, hl with
  | a :: b :: r, _ => simp [Lib.allEq, new6]

/-- A new store of the two cells, in new memory. -/
def NewO (room : Int) (w : World) (e : Ending) (w' : World) : Prop :=
  ∃ g, e = .returned (.agg #[.slice (some ⟨g, 0, none⟩) 2 2, .int .i64 room]) ∧ w.heap.size < g ∧ OwnN w' w.heap.size (.slice (some ⟨g, 0, none⟩) 2 2) new6 ∧ Below w.heap.size w w'

set_option maxHeartbeats 4000000 in
set_option maxRecDepth 100000 in
theorem new_no (room : Int) (w : World) (hb : ¬ (2 ≤ room ∧ room ≤ 100000)) : Calls Try.prog 80 #[.int .i64 room] w fun e w' => e = .returned (.agg #[.slice none 0 0, .int .i64 0]) ∧ Below w.heap.size w w' := by
  have hrow := heap_alloc_new w (.cells #[.slice none 0 0, .int .i64 0] 26 (0, 0))
  have hbel : Below w.heap.size w (w.alloc (.cells #[.slice none 0 0, .int .i64 0] 26)) := (Below.refl _ _).alloc (Nat.le_refl _) _
  have HN := Lib.hid hbel
  have HR := Lib.hid hrow
  clear hrow hbel
  by_cases h1 : room < 2
  · go_enter Try.func80, Try.ntmps80
    go_wp2
    exact bodyPost_ret (results_cell1 rfl _ _ _ _ _ _ _ rfl HR.out Try.underlying26 rfl (by kernel_rfl)) rfl ⟨rfl, HN.out⟩
  · have h2 : 100000 < room := by omega
    clear hb
    go_enter Try.func80, Try.ntmps80
    go_wp2
    exact bodyPost_ret (results_cell1 rfl _ _ _ _ _ _ _ rfl HR.out Try.underlying26 rfl (by kernel_rfl)) rfl ⟨rfl, HN.out⟩
set_option maxHeartbeats 4000000 in
set_option maxRecDepth 100000 in
theorem new_yes (room : Int) (w : World) (hb : 2 ≤ room ∧ room ≤ 100000) : Calls Try.prog 80 #[.int .i64 room] w (NewO room w) := by
  go_enter Try.func80, Try.ntmps80
  go_wp2
  have hnd : ∀ (W : World) (o : Obj) (q n : Nat), W.heap.size = q → n ≤ q → o = .cells #[.int .i64 0, .int .i64 0, .int .i64 0, .int .i64 0, .int .i64 0, .int .i64 0, .int .i64 0, .int .i64 0, .int .i64 0, .int .i64 0, .int .i64 0, .int .i64 1] 35 (0, 0) → OwnN (W.alloc o) n (.slice (some ⟨q, 0, none⟩) 2 2) new6 := by
    rintro W _ _ n rfl hn rfl
    have hh := heap_alloc_new W (.cells #[.int .i64 0, .int .i64 0, .int .i64 0, .int .i64 0, .int .i64 0, .int .i64 0, .int .i64 0, .int .i64 0, .int .i64 0, .int .i64 0, .int .i64 0, .int .i64 1] 35 (0, 0))
    exact ⟨rfl, .inr ⟨_, _, _, rfl, hn, hh, Nat.le_refl _, by decide, rfl, rfl⟩⟩
  refine bodyPost_ret (results_cell1 rfl _ _ w.heap.size _ _ _ _ rfl ((Lib.alloc_old _ _ _ (by simp)).trans (heap_alloc_new w _)) Try.underlying26 rfl (by kernel_rfl)) rfl ?_
  exact ⟨_, rfl, Nat.lt_succ_self _, hnd _ _ _ _ (by simp) (by simp) rfl, ((Below.refl _ _).alloc (Nat.le_refl _) _).alloc (by simp) _⟩

theorem ownN_nd {w : World} {B g n c : Nat} {l : List Nd} (h : OwnN w B (.slice (some ⟨g, 0, none⟩) n c) l) : ∀ j, j < l.length → NdAt w g (0 + j * 6) (l.getD j deadN) := by
  obtain ⟨A, c', e, _, hR⟩ := h.reads
  injection e with e1 e2 e3
  subst e1
  intro j hj
  obtain ⟨b, off, e, _, hN⟩ := hR j hj
  injection e with e
  injection e with e1 e2
  subst e1 e2
  exact hN
theorem field_nodes (a b : Value) (W : World) : (Instr.field 26 (.agg #[a, b]) 0).run Try.prog W = .ok a W := by
  kernel_rfl
set_option maxHeartbeats 4000000 in
set_option maxRecDepth 100000 in
theorem begins_any (A : Option Addr) (l : List Nd) (c : Nat) (room : Int) (w : World) (hR : RdN w w.heap.size A l) (hl : l.length ≤ 1000000) (hc : l.length ≤ c) :
    Calls Try.prog 79 #[storeV A l.length c room] w fun e w' => e = .returned (.bool (headB6 l room)) ∧ Below w.heap.size w w' := by
  have HH0 := Lib.hid (storeAt_0 w A l.length c room)
  have hs0 := HH0.out.s0
  have hs1 := HH0.out.s1
  have hfld := field_nodes
  have hhead : headB6 l room = (decide (2 ≤ room) && decide (room ≤ 100000) && decide (2 ≤ l.length) && decide ((l.length : Int) ≤ room) && decide (l.getD 0 deadN = deadN) && decide (l.getD 1 deadN = liveN)) := rfl
  unfold storeV
  by_cases hb : 2 ≤ room ∧ room ≤ 100000
  · have hnew := fun W => new_yes room W hb
    obtain ⟨r1, r2⟩ := hb
    by_cases h3 : l.length < 2
    · have hf : headB6 l room = false := by rw [hhead, decide_eq_false (show ¬ 2 ≤ l.length by omega), Bool.and_false]; rfl
      rw [hf]
      have h3z : ¬ (2 : Int) ≤ (l.length : Int) := by omega
      clear hhead hf
      go_enter Try.func79, Try.ntmps79
      go_wp2_with (go_at_call 80; refine (hnew _).mono ?_; rintro e w1 ⟨g, rfl, hg, ho, hb1⟩; have HA := Lib.hid (HH0.out.below hb1); have s0 := HA.out.s0; have s1 := HA.out.s1; clear hs0 hs1)
      go_ret
      exact ⟨rfl, HA.out.bel⟩
    · by_cases h4 : (l.length : Int) ≤ room
      · obtain ⟨b0, off, rfl, hbB, hcell⟩ := hR.at_ (by omega)
        have hf : headB6 l room = (decide (l.getD 0 deadN = deadN) && decide (l.getD 1 deadN = liveN)) := by rw [hhead, decide_eq_true r1, decide_eq_true r2, decide_eq_true (show 2 ≤ l.length by omega), decide_eq_true h4]; rfl
        rw [hf]
        have hC := Lib.hid hcell
        have heq := fun (W : World) (g : Nat) (h1 : ∀ j, j < l.length → NdAt W b0 (off + j * 6) (l.getD j deadN)) (h2 : ∀ j, j < 2 → NdAt W g (0 + j * 6) (new6.getD j deadN)) => equal2_any (c := c) (by omega) h1 h2
        generalize (decide (l.getD 0 deadN = deadN) && decide (l.getD 1 deadN = liveN)) = r at *
        have h3z : (2 : Int) ≤ (l.length : Int) := by omega
        clear hhead hf hcell
        go_enter Try.func79, Try.ntmps79
        go_wp2_with (first
          | (go_at_call 80; refine (hnew _).mono ?_; rintro e w1 ⟨g, rfl, hg, ho, hb1⟩; have HA := Lib.hid (HH0.out.below hb1); have s0 := HA.out.s0; have s1 := HA.out.s1; have HO := Lib.hid (ownN_nd ho); clear hs0 hs1 ho)
          | (go_at_call 96; refine (heq _ _ (fun j hj => (hC.out j hj).below HA.out.bel hbB) HO.out).mono ?_; rintro e w2 ⟨rfl, hb2⟩))
        go_ret
        exact ⟨rfl, Qt.more HA.out.bel HA.out.bel.size hb2⟩
      · have hf : headB6 l room = false := by rw [hhead, decide_eq_false h4, Bool.and_false]; rfl
        rw [hf]
        have h3z : (2 : Int) ≤ (l.length : Int) := by omega
        clear hhead hf
        go_enter Try.func79, Try.ntmps79
        go_wp2_with (go_at_call 80; refine (hnew _).mono ?_; rintro e w1 ⟨g, rfl, hg, ho, hb1⟩; have HA := Lib.hid (HH0.out.below hb1); have s0 := HA.out.s0; have s1 := HA.out.s1; clear hs0 hs1)
        go_ret
        exact ⟨rfl, HA.out.bel⟩
  · have hnew := fun W => new_no room W hb
    have hf : headB6 l room = false := by
      rw [hhead]
      by_cases h1 : 2 ≤ room
      · rw [decide_eq_false (show ¬ room ≤ 100000 from fun h2 => hb ⟨h1, h2⟩), Bool.and_false]; rfl
      · rw [decide_eq_false h1]; rfl
    rw [hf]
    clear hhead hf hb
    go_enter Try.func79, Try.ntmps79
    go_wp2_with (go_at_call 80; refine (hnew _).mono ?_; rintro e w1 ⟨rfl, hb1⟩; have HA := Lib.hid (HH0.out.below hb1); have s0 := HA.out.s0; have s1 := HA.out.s1; clear hs0 hs1)
    go_ret
    exact ⟨rfl, HA.out.bel⟩
end Go.Proofs.Ytklccoodfhejbaa
namespace Go.Proofs.Ytklccoodfhejbaa
set_option linter.unusedVariables false
set_option linter.unusedSimpArgs false
open Go.RowKit Go.Sort

/-- two results, the first of which lies in a cell -/
theorem results_cell2 {P : Program} {fn : Func} {p u : Tmp} {ty : TypeId} (h : fn.results = #[.cell p ty, .tmp u]) (tmps : Array Value) (w : World) (g : Nat) (t : TypeId) (cs : Array Value) (fr : Nat × Nat) (d : TypeDesc)
    (hp : tmps.getD p undef = .pointer (some ⟨g, 0, none⟩)) (hg : w.heap[g]? = some (.cells cs t fr))
    (hu : P.underlying ty = some d) (hd : (match d with | .struct _ | .array _ _ => true | _ => false) = true) (hi : (P.info? ty).map (·.size) = some cs.size) :
    (results fn tmps).run P w = .ok (.tuple #[.agg cs, tmps.getD u undef]) w := by
  have hp' : tmps[p]?.getD undef = .pointer (some ⟨g, 0, none⟩) := by simpa using hp
  simp [results, h, hp', asAddr, run_loadVar_row w g t ty cs fr d hg hu hd hi]
/-- an index, as it lies in memory -/
def IxRow (w : World) (g : Nat) (v : Value) (room : Int) (mv : Value) : Prop := w.heap[g]? = some (.cells #[v, .int .i64 room, mv] 95 (0, 0))
section
variable {w : World} {g : Nat} {v mv : Value} {room : Int}
theorem IxRow.c0 (h : IxRow w g v room mv) : w.cell? ⟨g, 0, none⟩ = some v := by rw [Lib.cell_of_heap h]; rfl
theorem IxRow.c1 (h : IxRow w g v room mv) : w.cell? ⟨g, 1, none⟩ = some (.int .i64 room) := by rw [Lib.cell_of_heap h]; rfl
theorem IxRow.c2 (h : IxRow w g v room mv) : w.cell? ⟨g, 2, none⟩ = some mv := by rw [Lib.cell_of_heap h]; rfl
theorem IxRow.below {w' : World} {B : Nat} (h : IxRow w g v room mv) (hb : Below B w w') (hB : g < B) : IxRow w' g v room mv := (hb.block _ hB).trans h
end
/-- What is known at the head of over's loop. -/
structure OvAt (w wr : World) (g : Nat) (A : Option Addr) (n c : Nat) (room : Int) (mv : Value) (k : Kd) (x : Nd) : Prop where
  ix : IxRow wr g (.slice A n c) room mv
  kids : wr.heap[w.heap.size]? = some (.cells #[.int .i64 k.1, .int .i64 k.2.1, .int .i64 k.2.2.1, .int .i64 k.2.2.2] 33 (0, 0))
  res : wr.heap[w.heap.size + 1]? = some (.cells #[.int .i64 0, .int .i64 0, .int .i64 0, .int .i64 0, .int .i64 0, .int .i64 0] 35 (0, 0))
  nod : wr.heap[w.heap.size + 2]? = some (.cells #[.int .i64 x.1, .int .i64 x.2.1.1, .int .i64 x.2.1.2.1, .int .i64 x.2.1.2.2.1, .int .i64 x.2.1.2.2.2, .int .i64 x.2.2] 35 (0, 0))
  bel : Below w.heap.size w wr
section
variable {w wr w' : World} {g : Nat} {A : Option Addr} {n c : Nat} {room : Int} {mv : Value} {k : Kd} {x : Nd}
theorem OvAt.below (h : OvAt w wr g A n c room mv k x) (hg : g < w.heap.size) (hb : Below wr.heap.size wr w') : OvAt w w' g A n c room mv k x :=
  ⟨h.ix.below hb (by have := h.bel.size; omega), (hb.block _ (lt_heap6 h.kids)).trans h.kids, (hb.block _ (lt_heap6 h.res)).trans h.res, (hb.block _ (lt_heap6 h.nod)).trans h.nod, Qt.more h.bel h.bel.size hb⟩
theorem OvAt.n0 (h : OvAt w wr g A n c room mv k x) : wr.cell? ⟨w.heap.size + 1 + 1, 0, none⟩ = some (.int .i64 x.1) := Lib.cell_of_heap h.nod 0
theorem OvAt.n1 (h : OvAt w wr g A n c room mv k x) : wr.cell? ⟨w.heap.size + 1 + 1, 1, none⟩ = some (.int .i64 x.2.1.1) := Lib.cell_of_heap h.nod 1
theorem OvAt.n2 (h : OvAt w wr g A n c room mv k x) : wr.cell? ⟨w.heap.size + 1 + 1, 2, none⟩ = some (.int .i64 x.2.1.2.1) := Lib.cell_of_heap h.nod 2
theorem OvAt.n3 (h : OvAt w wr g A n c room mv k x) : wr.cell? ⟨w.heap.size + 1 + 1, 3, none⟩ = some (.int .i64 x.2.1.2.2.1) := Lib.cell_of_heap h.nod 3
theorem OvAt.n4 (h : OvAt w wr g A n c room mv k x) : wr.cell? ⟨w.heap.size + 1 + 1, 4, none⟩ = some (.int .i64 x.2.1.2.2.2) := Lib.cell_of_heap h.nod 4
theorem OvAt.n5 (h : OvAt w wr g A n c room mv k x) : wr.cell? ⟨w.heap.size + 1 + 1, 5, none⟩ = some (.int .i64 x.2.2) := Lib.cell_of_heap h.nod 5
theorem OvAt.nf (h : OvAt w wr g A n c room mv k x) (i : Nat) : wr.frozen? ⟨w.heap.size + 1 + 1, i, none⟩ = false := Lib.frozen_of_heap h.nod i
end
theorem OvAt.r {w wr : World} {g : Nat} {A : Option Addr} {n c : Nat} {room : Int} {mv : Value} {k : Kd} {x : Nd} (h : OvAt w wr g A n c room mv k x) (i : Nat) (hi : i < 6) : wr.cell? ⟨w.heap.size + 1, i, none⟩ = some (.int .i64 0) ∧ wr.frozen? ⟨w.heap.size + 1, i, none⟩ = false := by
  refine ⟨?_, Lib.frozen_of_heap h.res i⟩
  rw [Lib.cell_of_heap h.res]
  rcases (by omega : i = 0 ∨ i = 1 ∨ i = 2 ∨ i = 3 ∨ i = 4 ∨ i = 5) with rfl | rfl | rfl | rfl | rfl | rfl <;> rfl
set_option maxRecDepth 100000 in
theorem kd_index (k : Kd) (j : Nat) (hj : j < 4) (W : World) : (Instr.index 33 (.agg #[.int .i64 k.1, .int .i64 k.2.1, .int .i64 k.2.2.1, .int .i64 k.2.2.2]) (.int .i64 (j : Int))).run Try.prog W = .ok (.int .i64 (kd k j)) W := by
  rcases (by omega : j = 0 ∨ j = 1 ∨ j = 2 ∨ j = 3) with rfl | rfl | rfl | rfl <;> rfl
theorem OvAt.step {w wr : World} {g : Nat} {A : Option Addr} {n c : Nat} {room : Int} {mv : Value} {k : Kd} {x : Nd} (h : OvAt w wr g A n c room mv k x) (hg : g < w.heap.size) (o : Obj) (a p : Int) :
    OvAt w (((wr.alloc o).setCell ⟨w.heap.size + 2, 0, none⟩ (.int .i64 a)).setCell ⟨w.heap.size + 2, 5, none⟩ (.int .i64 p)) g A n c room mv k (a, x.2.1, p) := by
  have hn := lt_heap6 h.nod
  have hb1 := (Below.refl wr.heap.size wr).alloc (Nat.le_refl _) o
  have h1 := h.below hg hb1
  have hset : ∀ q, q ≠ w.heap.size + 2 → (((wr.alloc o).setCell ⟨w.heap.size + 2, 0, none⟩ (.int .i64 a)).setCell ⟨w.heap.size + 2, 5, none⟩ (.int .i64 p)).heap[q]? = (wr.alloc o).heap[q]? := by
    intro q hq
    have hq' : w.heap.size + 2 ≠ q := fun e => hq e.symm
    simp [World.setCell, Array.getElem?_modify, hq']
  refine ⟨(hset _ (by omega)).trans h1.ix, (hset _ (by omega)).trans h1.kids, (hset _ (by omega)).trans h1.res, ?_, (h1.bel.setCell (by show _ ≤ _ + 2; omega) _).setCell (by show _ ≤ _ + 2; omega) _⟩
  have hr := h1.nod
  simp [World.setCell, Array.getElem?_modify, hr]
/-- six cells are told -/
abbrev six (w : World) (b : Nat) (y : Nd) : World := (((((w.setCell ⟨b, 0, none⟩ (.int .i64 y.1)).setCell ⟨b, 1, none⟩ (.int .i64 y.2.1.1)).setCell ⟨b, 2, none⟩ (.int .i64 y.2.1.2.1)).setCell ⟨b, 3, none⟩ (.int .i64 y.2.1.2.2.1)).setCell ⟨b, 4, none⟩ (.int .i64 y.2.1.2.2.2)).setCell ⟨b, 5, none⟩ (.int .i64 y.2.2)
/-- What is told. -/
theorem OvAt.told {w wr : World} {g : Nat} {A : Option Addr} {n c : Nat} {room : Int} {mv : Value} {k : Kd} {x : Nd} (h : OvAt w wr g A n c room mv k x) (y : Nd) :
    (six wr (w.heap.size + 1) y).heap[w.heap.size + 1]? = some (.cells #[.int .i64 y.1, .int .i64 y.2.1.1, .int .i64 y.2.1.2.1, .int .i64 y.2.1.2.2.1, .int .i64 y.2.1.2.2.2, .int .i64 y.2.2] 35 (0, 0)) ∧ Below w.heap.size w (six wr (w.heap.size + 1) y) := by
  have hr := h.res
  refine ⟨?_, (((((h.bel.setCell (by show _ ≤ _ + 1; omega) _).setCell (by show _ ≤ _ + 1; omega) _).setCell (by show _ ≤ _ + 1; omega) _).setCell (by show _ ≤ _ + 1; omega) _).setCell (by show _ ≤ _ + 1; omega) _).setCell (by show _ ≤ _ + 1; omega) _⟩
  simp [six, World.setCell, Array.getElem?_modify, hr]
theorem drew_row {W : World} {i : Nat} {x : Option Obj} (h : W.heap[i]? = x) : W.drew.heap[i]? = x := h
/-- What over answers. -/
def OverR (l : List Nd) (k : Kd) (w : World) (e : Ending) (w' : World) : Prop :=
  ∃ y : Nd, e = .returned (.tuple #[nodeV y, .bool (over6 l k)]) ∧ (over6 l k = true → y = ((ndAt l k.1).1 + 1, k, popTo l k 4)) ∧ Below w.heap.size w w'
theorem ovAt_0 (w : World) (g : Nat) (A : Option Addr) (n c : Nat) (room : Int) (mv : Value) (k : Kd) (hi : IxRow w g (.slice A n c) room mv) :
    OvAt w (((w.alloc (.cells #[.int .i64 k.1, .int .i64 k.2.1, .int .i64 k.2.2.1, .int .i64 k.2.2.2] 33)).alloc (.cells #[.int .i64 0, .int .i64 0, .int .i64 0, .int .i64 0, .int .i64 0, .int .i64 0] 35)).alloc (.cells #[.int .i64 0, .int .i64 k.1, .int .i64 k.2.1, .int .i64 k.2.2.1, .int .i64 k.2.2.2, .int .i64 0] 35)) g A n c room mv k (0, k, 0) := by
  have hg := lt_heap6 hi
  have hb1 := (Below.refl w.heap.size w).alloc (Nat.le_refl _) (.cells #[.int .i64 k.1, .int .i64 k.2.1, .int .i64 k.2.2.1, .int .i64 k.2.2.2] 33)
  have hs1 : (w.alloc (.cells #[.int .i64 k.1, .int .i64 k.2.1, .int .i64 k.2.2.1, .int .i64 k.2.2.2] 33)).heap.size = w.heap.size + 1 := by simp
  have hb2 := hb1.alloc (by omega) (.cells #[.int .i64 0, .int .i64 0, .int .i64 0, .int .i64 0, .int .i64 0, .int .i64 0] 35)
  have hs2 : ((w.alloc (.cells #[.int .i64 k.1, .int .i64 k.2.1, .int .i64 k.2.2.1, .int .i64 k.2.2.2] 33)).alloc (.cells #[.int .i64 0, .int .i64 0, .int .i64 0, .int .i64 0, .int .i64 0, .int .i64 0] 35)).heap.size = w.heap.size + 2 := by simp
  have hb3 := hb2.alloc (by omega) (.cells #[.int .i64 0, .int .i64 k.1, .int .i64 k.2.1, .int .i64 k.2.2.1, .int .i64 k.2.2.2, .int .i64 0] 35)
  refine ⟨hi.below hb3 hg, ?_, ?_, ?_, hb3⟩
  · rw [Lib.alloc_old _ _ _ (by omega), Lib.alloc_old _ _ _ (by omega)]
    exact heap_alloc_new w _
  · rw [Lib.alloc_old _ _ _ (by omega), ← hs1]
    exact heap_alloc_new _ _
  · rw [← hs2]
    exact heap_alloc_new _ _

theorem ov_no {l : List Nd} {k : Kd} {i : Nat} (hi : i < 4) (h : kidB l l.length (ndAt l k.1).1 (kd k i) = false) : over6 l k = false := by
  unfold over6
  have : kidsB l l.length (ndAt l k.1).1 k = false := by
    rw [Bool.eq_false_iff]
    intro hk
    have := kidsB_iff.1 hk i hi
    rw [h] at this
    cases this
  rw [this]
  rfl
theorem popTo_to {l : List Nd} {k : Kd} (hb : ∀ i, i < l.length → 0 ≤ (l.getD i deadN).1 ∧ (l.getD i deadN).1 ≤ 42 ∧ 0 ≤ (l.getD i deadN).2.2 ∧ (l.getD i deadN).2.2 ≤ 4611686018427387903) :
    ∀ {j : Nat}, (∀ q, q < j → kidB l l.length (ndAt l k.1).1 (kd k q) = true) → j ≤ 4 → 0 ≤ popTo l k j ∧ popTo l k j ≤ 4611686018427387903 := by
  intro j
  induction j with
  | zero => intro _ _; exact ⟨Int.le_refl _, (show (0 : Int) ≤ 4611686018427387903 by decide)⟩
  | succ j ih =>
    intro h hj
    have h1 := ih (fun q hq => h q (by omega)) (by omega)
    obtain ⟨k1, k2, _⟩ := kidB_iff.1 (h j (Nat.lt_succ_self j))
    have h3 := (hb (kd k j).toNat (by omega)).2.2
    have e : ndAt l (kd k j) = l.getD (kd k j).toNat deadN := rfl
    unfold popTo
    rw [e]
    omega
set_option maxHeartbeats 8000000 in
set_option maxRecDepth 100000 in
theorem over_any (g : Nat) (A : Option Addr) (l : List Nd) (c : Nat) (room : Int) (mv : Value) (k : Kd) (w : World) (hi : IxRow w g (.slice A l.length c) room mv) (hR : RdN w w.heap.size A l) (hl : l.length ≤ 100000)
    (hb : ∀ i, i < l.length → 0 ≤ (l.getD i deadN).1 ∧ (l.getD i deadN).1 ≤ 42 ∧ 0 ≤ (l.getD i deadN).2.2 ∧ (l.getD i deadN).2.2 ≤ 4611686018427387903) :
    Calls Try.prog 97 #[.pointer (some ⟨g, 0, none⟩), kidsV k] w (OverR l k w) := by
  have hg := lt_heap6 hi
  have HH0 := Lib.hid (ovAt_0 w g A l.length c room mv k hi)
  have HB := Lib.hid hb
  have HRR := Lib.hid hR
  have hix := kd_index k
  unfold kidsV
  clear hb hi hR
  go_enter Try.func97, Try.ntmps97
  go_wp2
  go_loopw [13] (fun i wr => ∃ (j : Nat) (x : Nd), j ≤ 4 ∧ i = .int .i64 j ∧ Hid (OvAt w wr g A l.length c room mv k x ∧ x.1 = (if j = 0 then 0 else (ndAt l k.1).1 + 1) ∧ x.2.1 = k ∧ x.2.2 = popTo l k j ∧ ∀ q, q < j → kidB l l.length (ndAt l k.1).1 (kd k q) = true)) (fun i _ => 4 - (intOf i).toNat)
  case atStart => exact ⟨0, (0, k, 0), by omega, rfl, HH0.out, rfl, rfl, rfl, fun q hq => absurd hq (Nat.not_lt_zero q)⟩
  case round =>
    obtain ⟨j, x, hj, rfl, HH⟩ := hrel
    have H := HH.out.1
    by_cases hlt : j < 4
    · have hltz : (j : Int) < 4 := by omega
      have hixj := hix j hlt
      obtain ⟨K, hK⟩ : ∃ K, K = kd k j := ⟨_, rfl⟩
      rw [← hK] at hixj
      have HK := Lib.hid hK
      have i0 := H.ix.c0
      clear hix hK
      by_cases hneg : K < 0
      · have hov : over6 l k = false := ov_no hlt (by rw [← HK.out]; unfold kidB; rw [decide_eq_false (show ¬ 0 ≤ K by omega)]; rfl)
        have HV := Lib.hid hov
        have ht := Lib.hid (H.told (0, (0, 0, 0, 0), 0))
        obtain ⟨r0, f0⟩ := H.r 0 (by decide)
        obtain ⟨r1, f1⟩ := H.r 1 (by decide)
        obtain ⟨r2, f2⟩ := H.r 2 (by decide)
        obtain ⟨r3, f3⟩ := H.r 3 (by decide)
        obtain ⟨r4, f4⟩ := H.r 4 (by decide)
        obtain ⟨r5, f5⟩ := H.r 5 (by decide)
        clear hov HK HB HRR HH0 HH
        go_wp2
        refine bodyPost_ret (results_cell2 rfl _ _ _ _ _ _ _ rfl ht.out.1 Try.underlying35 rfl (by kernel_rfl)) rfl ?_
        exact ⟨(0, (0, 0, 0, 0), 0), by rw [HV.out]; rfl, fun h => (by rw [HV.out] at h; cases h), ht.out.2⟩
      · obtain ⟨m, rfl⟩ : ∃ m : Nat, K = (m : Int) := ⟨K.toNat, by omega⟩
        by_cases hge : (l.length : Int) ≤ (m : Int)
        · have hov : over6 l k = false := ov_no hlt (by rw [← HK.out]; unfold kidB; rw [decide_eq_true (show 0 ≤ (m : Int) by omega), decide_eq_false (show ¬ (m : Int) < l.length by omega)]; rfl)
          have HV := Lib.hid hov
          have ht := Lib.hid (H.told (0, (0, 0, 0, 0), 0))
          obtain ⟨r0, f0⟩ := H.r 0 (by decide)
          obtain ⟨r1, f1⟩ := H.r 1 (by decide)
          obtain ⟨r2, f2⟩ := H.r 2 (by decide)
          obtain ⟨r3, f3⟩ := H.r 3 (by decide)
          obtain ⟨r4, f4⟩ := H.r 4 (by decide)
          obtain ⟨r5, f5⟩ := H.r 5 (by decide)
          clear hov HK HB HRR HH0 HH
          go_wp2
          refine bodyPost_ret (results_cell2 rfl _ _ _ _ _ _ _ rfl ht.out.1 Try.underlying35 rfl (by kernel_rfl)) rfl ?_
          exact ⟨(0, (0, 0, 0, 0), 0), by rw [HV.out]; rfl, fun h => (by rw [HV.out] at h; cases h), ht.out.2⟩
        · have hml : m < l.length := by omega
          have hmz : (m : Int) < (l.length : Int) := by omega
          obtain ⟨b0, off, rfl, hbB, hcell⟩ := HRR.out.at_ (by omega)
          obtain ⟨m0, m1, m2, m3, m4, m5⟩ := hcell m hml
          obtain ⟨b1, b2, b3, b4⟩ := HB.out m hml
          have hnd : ndAt l (m : Int) = l.getD m deadN := ndAt_nat l m
          have m0 := Qt.keep H.bel m0
          have m1 := Qt.keep H.bel m1
          have m2 := Qt.keep H.bel m2
          have m3 := Qt.keep H.bel m3
          have m4 := Qt.keep H.bel m4
          have m5 := Qt.keep H.bel m5
          have HA := fun o => H.below hg ((Below.refl wr.heap.size wr).alloc (Nat.le_refl _) o)
          have HHA := Lib.hid HA
          have x0 := fun o => (HA o).n0
          have x5 := fun o => (HA o).n5
          have xf0 := fun o => (HA o).nf 0
          have xf5 := fun o => (HA o).nf 5
          have hx0 := HH.out.2.1
          have hx5 := HH.out.2.2.2.1
          have hpb : 0 ≤ popTo l k j ∧ popTo l k j ≤ 4611686018427387903 := popTo_to HB.out HH.out.2.2.2.2 (by omega)
          have hsucc : popTo l k (j + 1) = min (popTo l k j + (l.getD m deadN).2.2) 4611686018427387903 := by rw [← hnd, HK.out]; rfl
          rw [hx0] at x0
          rw [hx5] at x5
          clear hx0 hx5 HA
          have hsz : w.heap.size + 3 ≤ wr.heap.size := lt_heap6 H.nod
          generalize hnode : l.getD m deadN = y at *
          obtain ⟨lv, kk, pp⟩ := y
          simp only at m0 m1 m2 m3 m4 m5 b1 b2 b3 b4 hsucc
          have hx2 := HH.out.2.2.1
          have hlevm : lv = (ndAt l k.1).1 → ∀ q, q < j + 1 → kidB l l.length (ndAt l k.1).1 (kd k q) = true := by
            intro hlv q hq
            rcases Nat.lt_or_ge q j with h1 | h1
            · exact HH.out.2.2.2.2 q h1
            · obtain rfl : q = j := by omega
              rw [← HK.out]
              unfold kidB
              rw [hnd, hlv, decide_eq_true (show (0 : Int) ≤ (m : Int) by omega), decide_eq_true hmz, decide_eq_true rfl]
              rfl
          have hnext : ∀ (o : Obj) (a p : Int), lv = (ndAt l k.1).1 → a = lv + 1 → p = min (popTo l k j + pp) 4611686018427387903 → OvAt w (((wr.alloc o).setCell ⟨w.heap.size + 1 + 1, 0, none⟩ (.int .i64 a)).setCell ⟨w.heap.size + 1 + 1, 5, none⟩ (.int .i64 p)) g (some ⟨b0, off, none⟩) l.length c room mv k (a, x.2.1, p) ∧ a = (if j + 1 = 0 then 0 else (ndAt l k.1).1 + 1) ∧ x.2.1 = k ∧ p = popTo l k (j + 1) ∧ ∀ q, q < j + 1 → kidB l l.length (ndAt l k.1).1 (kd k q) = true := by
            intro o a p h1 h2 h3
            exact ⟨H.step hg o a p, by rw [if_neg (by omega), h2, h1], hx2, by rw [h3, hsucc], hlevm h1⟩
          have HNX := Lib.hid hnext
          by_cases hj0 : j = 0
          · have hj0z : ¬ 0 < (j : Int) := by omega
            rw [if_pos hj0] at x0
            have hlv0 : lv = (ndAt l k.1).1 := by
              have e : kd k j = k.1 := by rw [hj0]; rfl
              rw [← e, ← HK.out, hnd]
            have HLV := Lib.hid hlv0
            clear hj0 hlv0 hlevm hnext hsucc hx2 HH HB HRR HH0 hnd HHA H hnode
            go_wp2
            go_roundw
            case measure => simp [intOf]; omega
            case rel => exact ⟨j + 1, (lv + 1, x.2.1, _), by omega, by go_num, HNX.out _ _ _ HLV.out rfl rfl⟩
          · have hj0z : 0 < (j : Int) := by omega
            rw [if_neg hj0] at x0
            by_cases hlv : lv = (ndAt l k.1).1
            · subst hlv
              clear hj0 hlevm hnext hsucc hx2 HH HB HRR HH0 hnd HHA H hnode
              go_wp2
              go_roundw
              case measure => simp [intOf]; omega
              case rel => exact ⟨j + 1, ((ndAt l k.1).1 + 1, x.2.1, _), by omega, by go_num, HNX.out _ _ _ rfl rfl rfl⟩
            · have hov : over6 l k = false := ov_no hlt (by rw [← HK.out]; unfold kidB; rw [hnd, decide_eq_false hlv, Bool.and_false])
              have HV := Lib.hid hov
              have ht := Lib.hid (fun o => (HHA.out o).told (0, (0, 0, 0, 0), 0))
              have r0 := fun o => ((HHA.out o).r 0 (by decide)).1
              have r1 := fun o => ((HHA.out o).r 1 (by decide)).1
              have r2 := fun o => ((HHA.out o).r 2 (by decide)).1
              have r3 := fun o => ((HHA.out o).r 3 (by decide)).1
              have r4 := fun o => ((HHA.out o).r 4 (by decide)).1
              have r5 := fun o => ((HHA.out o).r 5 (by decide)).1
              have f0 := fun o => ((HHA.out o).r 0 (by decide)).2
              have f1 := fun o => ((HHA.out o).r 1 (by decide)).2
              have f2 := fun o => ((HHA.out o).r 2 (by decide)).2
              have f3 := fun o => ((HHA.out o).r 3 (by decide)).2
              have f4 := fun o => ((HHA.out o).r 4 (by decide)).2
              have f5 := fun o => ((HHA.out o).r 5 (by decide)).2
              have hd2 : ((ndAt l k.1).1 + 1 == lv + 1) = false := beq_eq_false_iff_ne.2 (by omega)
              have hne : ¬ (ndAt l k.1).1 + 1 = lv + 1 := by omega
              clear hov hj0 hlevm hnext hsucc hx2 HH HB HRR HH0 hnd HHA H hnode
              go_wp2
              refine bodyPost_ret (results_cell2 rfl _ _ _ _ _ _ _ rfl (ht.out _).1 Try.underlying35 rfl (by kernel_rfl)) rfl ?_
              exact ⟨(0, (0, 0, 0, 0), 0), by rw [HV.out]; rfl, fun h => (by rw [HV.out] at h; cases h), (ht.out _).2⟩
    · obtain rfl : j = 4 := by omega
      have hltz : ¬ ((4 : Nat) : Int) < 4 := by decide
      have hall : ∀ i, i < 4 → kidB l l.length (ndAt l k.1).1 (kd k i) = true := HH.out.2.2.2.2
      have hx : x = ((ndAt l k.1).1 + 1, k, popTo l k 4) := by
        have h1 : x.1 = (ndAt l k.1).1 + 1 := HH.out.2.1
        have h2 := HH.out.2.2.1
        have h3 := HH.out.2.2.2.1
        obtain ⟨x1, x2, x3⟩ := x
        simp only at h1 h2 h3
        rw [h1, h2, h3]
      have hov : over6 l k = decide ((ndAt l k.1).1 + 1 ≤ 42) := by unfold over6; rw [kidsB_iff.2 hall]; rfl
      have HX := Lib.hid hx
      have HV := Lib.hid hov
      obtain ⟨hn0, hn1, hn2, hn3, hn4, hn5⟩ : wr.cell? ⟨w.heap.size + 1 + 1, 0, none⟩ = some (.int .i64 ((ndAt l k.1).1 + 1)) ∧ wr.cell? ⟨w.heap.size + 1 + 1, 1, none⟩ = some (.int .i64 k.1) ∧ wr.cell? ⟨w.heap.size + 1 + 1, 2, none⟩ = some (.int .i64 k.2.1) ∧ wr.cell? ⟨w.heap.size + 1 + 1, 3, none⟩ = some (.int .i64 k.2.2.1) ∧ wr.cell? ⟨w.heap.size + 1 + 1, 4, none⟩ = some (.int .i64 k.2.2.2) ∧ wr.cell? ⟨w.heap.size + 1 + 1, 5, none⟩ = some (.int .i64 (popTo l k 4)) := by
        rw [hx] at H
        exact ⟨H.n0, H.n1, H.n2, H.n3, H.n4, H.n5⟩
      have ht := Lib.hid (H.told ((ndAt l k.1).1 + 1, k, popTo l k 4))
      obtain ⟨r0, f0⟩ := H.r 0 (by decide)
      obtain ⟨r1, f1⟩ := H.r 1 (by decide)
      obtain ⟨r2, f2⟩ := H.r 2 (by decide)
      obtain ⟨r3, f3⟩ := H.r 3 (by decide)
      obtain ⟨r4, f4⟩ := H.r 4 (by decide)
      obtain ⟨r5, f5⟩ := H.r 5 (by decide)
      clear HH hx hov hall HX H hix HB HRR HH0
      generalize hlv : (ndAt l k.1).1 + 1 = lv at *
      generalize hpp : popTo l k 4 = pp at *
      have HE : Hid ((ndAt l k.1).1 + 1 = lv ∧ popTo l k 4 = pp) := ⟨hlv, hpp⟩
      clear hlv hpp
      go_wp2
      go_region
      go_wp2
      refine bodyPost_ret (results_cell2 rfl _ _ _ _ _ _ _ rfl (drew_row ht.out.1) Try.underlying35 rfl (by kernel_rfl)) rfl ?_
      exact ⟨(lv, k, pp), by rw [HV.out]; rfl, fun _ => by rw [HE.out.1, HE.out.2], ht.out.2.drew⟩
end Go.Proofs.Ytklccoodfhejbaa
namespace Go.Proofs.Ytklccoodfhejbaa.Qt
open Go Go.Sort Go.RowKit

section
variable {P : Program} {ops : Array Oper} {md : Region.Mode} {C : World → Prop}

def midEndE (md : Region.Mode) (ops : Array Oper) (s : Scr) (n : Nat) (listed : Array Bool) : Bool :=
  decide (Region.ready md ops listed = [n]) && treeB md ops s (listed.setIfInBounds n true)
def midHeadE (md : Region.Mode) (ops : Array Oper) (s : Scr) (n : Nat) : Nat → Nat → Array Bool → Bool
  | 0, _, listed => midEndE md ops s n listed
  | f + 1, k, listed => (Region.ready md ops listed).contains k && Region.free md ops listed k && midHeadE md ops s n f (k + 1) (listed.setIfInBounds k true)
def midTreeB (md : Region.Mode) (ops : Array Oper) (s : Scr) (n : Nat) : Bool :=
  Region.noSelect ops && decide (n < ops.size) && Region.sinkB md ops n && depB md ops n && midHeadE md ops s n n 0 (Array.replicate ops.size false)

theorem mid_lexE {n : Nat} {s : Scr} {Lq : Act → Prop} (hsel : Region.noSelect ops = true) (hs : Region.sinkB md ops n = true) (hc : depB md ops n = true) (hn : n < ops.size) (l : List Oper) :
    ∀ (k : Nat) (listed : Array Bool) (a : Act), (∀ j, j < l.length → l[j]? = ops[k + j]?) → k + l.length = n → HeadInv md ops n listed →
    midHeadE md ops s n l.length k listed = true → wpQuiet P ops C Lq l a →
    headAny P md ops C n (fun listed' a' => midEndE md ops s n listed' = true ∧ Lq a') l.length listed a := by
  induction l with
  | nil =>
    intro k listed a _ hk _ hB h
    exact ⟨by simpa [midHeadE] using hB, h⟩
  | cons o l ih =>
    intro k listed a hl hk inv hB h
    have h0 : ops[k]? = some o := by simpa using (hl 0 (by simp)).symm
    simp only [List.length_cons, midHeadE, Bool.and_eq_true] at hB
    have hkn : k < n := by simp only [List.length_cons] at hk; omega
    have hr' : k ∈ Region.ready md ops listed := by simpa using hB.1.1
    have hst : qOp P ops C k (wpQuiet P ops C Lq l) a := by unfold qOp; simp only [h0]; exact h
    obtain ⟨v, hy, hK⟩ := yieldsIn_of_qOp h0 hst
    refine mid_first h0 (Region.noSelect_spec hsel) hs hc hn hkn (fun listed' a' hL j hj => ?_) l.length listed a inv (Region.free_spec h0 hB.1.2) hr' hy
      (ih (k + 1) _ _ (fun j hj => by have := hl (j + 1) (by simp; omega); simpa [Nat.add_assoc, Nat.add_comm 1 j] using this) (by simp only [List.length_cons] at hk; omega) (inv.set hr' hkn) hB.2 hK)
    have h1 := hL.1
    simp only [midEndE, Bool.and_eq_true, decide_eq_true_eq] at h1
    rw [h1.1] at hj
    have : j = n := by simpa using hj
    omega

/-- One walk of the text: quiet, the call, a script. -/
theorem region_call_tree {id : Nat} {Q : Exit → Act → World → Prop} {a : Act} {w : World} {l : List Oper} (n : Nat) (s : Scr) {o : Oper} {f : FuncId} {ars : Array Operand} {ts : Array TypeId} (hm : P.follows .mixedOrders = true) (hB : midTreeB .any l.toArray s n = true)
    (hlen : s.len + (n + 1) = l.length)
    (ho : l[n]? = some o) (hg : o.guard = none) {fn : Func} (hf : P.funcs[f]? = some fn) (hnm0 : (fn.name == "runtime.NumGoroutine") = false) (hbd0 : fn.body.isNone = false) (hop : o.op = .call { callee := .value (.func f), args := ars, argTypes := ts })
    (h : wpQuiet P l.toArray (fun w' => ∃ p : Regrown, w' = grow (redrawn w p.d) p.os) (fun a' => ∀ w', Below w.heap.size w w' → Calls P f (ars.map a'.eval) w' fun e w'' => ∃ v, e = .returned v ∧
      treeW P l.toArray (fun a w => Q .normal a w) s (a'.put o.dst v) w'') (l.take n) a) : (Code.region id l.toArray true).wp P Q a w := by
  simp only [midTreeB, Bool.and_eq_true, decide_eq_true_eq] at hB
  obtain ⟨⟨⟨⟨hsel, hn⟩, hs⟩, hc⟩, hlex⟩ := hB
  have hn' : n < l.length := by simpa using hn
  have htl : (l.take n).length = n := by simp; omega
  have hsz : l.toArray.size = l.length := by simp
  have inv0 : HeadInv .any l.toArray n (Array.replicate l.toArray.size false) :=
    ⟨by simp, fun j oj _ hl => (by rw [getD_replicate_false] at hl; cases hl), fun t _ ht => getD_in (by simpa using ht) (getD_replicate_false _ _)⟩
  have ho' : l.toArray[n]? = some o := by simpa using ho
  have H := mid_lexE (P := P) (C := fun w' => ∃ p : Regrown, w' = grow (redrawn w p.d) p.os) (md := .any) hsel hs hc hn (l.take n) 0 _ a (fun j hj => by rw [htl] at hj; simp [hj]) (by simpa using htl) inv0 (by rw [htl]; exact hlex) h
  refine wp_region_any hm ?_
  have e := any_of_head (Q := Q) (g := l.toArray.size - n) (fun listed a' w' hw' hL => by
    obtain ⟨h1, h2⟩ := hL
    simp only [midEndE, Bool.and_eq_true, decide_eq_true_eq] at h1
    obtain ⟨p, hp⟩ := hw'
    rw [show l.toArray.size - n = s.len + 1 by omega]
    refine ⟨fun h0 => (by rw [h1.1] at h0; cases h0), fun i hi => ?_⟩
    rw [h1.1] at hi
    obtain rfl : i = n := by simpa using hi
    refine wpOp_call ho' hg hf hnm0 hbd0 hop ((h2 w' (hp ▸ below_regrown w p.d p.os)).mono fun e w'' ⟨v, he, hq⟩ => ⟨v, he, ?_⟩)
    have := any_tree (P := P) (md := .any) (Kf := fun a w => Q .normal a w) hsel s _ _ _ h1.2 hq
    exact any_qn (fun a w h => h) _ _ _ _ this) _ _ _ w.drew ⟨⟨w.drawn + 1, #[]⟩, by rw [grow_empty]; rfl⟩ H
  rw [htl, show n + (l.toArray.size - n) = l.toArray.size by omega] at e
  exact e
end
end Go.Proofs.Ytklccoodfhejbaa.Qt
