/-
  Texts that the claims of this seat share, part 9.
-/
import Derived.Test.YtklccoodfhejbaaB08
import Derived.Test.YtklccoodfhejbaaB06
set_option linter.unusedVariables false
set_option linter.unusedSimpArgs false
namespace Go.Proofs.Ytklccoodfhejbaa
set_option maxRecDepth 100000
set_option linter.unusedVariables false
set_option linter.unusedSimpArgs false
open Go.RowKit Go.Sort

/-- What is known within a call that makes a node in a store: the store, what is to be told. -/
structure WrAt (w wr : World) (A : Option Addr) (n c : Nat) (room : Int) (p : Nat) : Prop where
  store : wr.heap[w.heap.size]? = some (.cells #[.slice A n c, .int .i64 room] 26 (0, 0))
  res : wr.heap[p]? = some (.cells #[.slice none 0 0, .int .i64 0] 26 (0, 0))
  bel : Below w.heap.size w wr
  hp : w.heap.size ≤ p
section
variable {w wr w' : World} {A : Option Addr} {n c : Nat} {room : Int} {p : Nat}
theorem WrAt.below (h : WrAt w wr A n c room p) (hb : Below wr.heap.size wr w') : WrAt w w' A n c room p :=
  ⟨(hb.block _ (lt_heap6 h.store)).trans h.store, (hb.block _ (lt_heap6 h.res)).trans h.res, Qt.more h.bel h.bel.size hb, h.hp⟩
theorem WrAt.s0 (h : WrAt w wr A n c room p) : wr.cell? ⟨w.heap.size, 0, none⟩ = some (.slice A n c) := by rw [Lib.cell_of_heap h.store]; rfl
theorem WrAt.s1 (h : WrAt w wr A n c room p) : wr.cell? ⟨w.heap.size, 1, none⟩ = some (.int .i64 room) := by rw [Lib.cell_of_heap h.store]; rfl
theorem WrAt.r0 (h : WrAt w wr A n c room p) : wr.cell? ⟨p, 0, none⟩ = some (.slice none 0 0) := by rw [Lib.cell_of_heap h.res]; rfl
theorem WrAt.r1 (h : WrAt w wr A n c room p) : wr.cell? ⟨p, 1, none⟩ = some (.int .i64 0) := by rw [Lib.cell_of_heap h.res]; rfl
theorem WrAt.free (h : WrAt w wr A n c room p) (j : Nat) : wr.frozen? ⟨p, j, none⟩ = false := Lib.frozen_of_heap h.res j
theorem WrAt.told (h : WrAt w wr A n c room p) (u v : Value) : ((wr.setCell ⟨p, 0, none⟩ u).setCell ⟨p, 1, none⟩ v).heap[p]? = some (.cells #[u, v] 26 (0, 0)) ∧ Below w.heap.size w ((wr.setCell ⟨p, 0, none⟩ u).setCell ⟨p, 1, none⟩ v) := by
  have hr := h.res
  refine ⟨?_, (h.bel.setCell (by show _ ≤ p; exact h.hp) _).setCell (by show _ ≤ p; exact h.hp) _⟩
  simp [World.setCell, Array.getElem?_modify, hr]
end
theorem heap_new {W : World} {o : Obj} {b : Nat} (h : W.heap.size = b) : (W.alloc o).heap[b]? = some o := by rw [← h]; exact heap_alloc_new W o
theorem heap_old {W : World} {o o' : Obj} {b : Nat} (h : W.heap[b]? = some o') : (W.alloc o).heap[b]? = some o' := (Lib.alloc_old _ _ _ (lt_heap6 h)).trans h

/-- may a place be that of a node whose square has a middle -/
def hasB (l : List Nd) (n : Int) : Bool := decide (0 ≤ n ∧ n < l.length ∧ 0 < (ndAt l n).1)
set_option maxHeartbeats 4000000 in
theorem hasSquare_any (A : Option Addr) (l : List Nd) (c : Nat) (room n : Int) (w : World) (hR : RdN w w.heap.size A l) (hl : l.length ≤ 1000000) : Calls Try.prog 99 #[storeV A l.length c room, .int .i64 n] w fun r w' => r = .returned (.bool (hasB l n)) ∧ Below w.heap.size w w' := by
  have HH0 := storeAt_0 w A l.length c room
  have s0 := HH0.s0
  have s1 := HH0.s1
  have HH := Lib.hid HH0
  unfold storeV
  by_cases h0 : n < 0
  · have hb : hasB l n = false := decide_eq_false (by omega)
    rw [hb]
    have d0 : decide (0 ≤ n) = false := decide_eq_false (by omega)
    clear hb HH0 hR
    go_enter Try.func99, Try.ntmps99
    go_wp2_with fail
    go_ret
    exact ⟨rfl, HH.out.bel⟩
  by_cases h1 : (l.length : Int) ≤ n
  · have hb : hasB l n = false := decide_eq_false (by omega)
    rw [hb]
    have d0 : decide (0 ≤ n) = true := decide_eq_true (by omega)
    have d1 : decide (n < (l.length : Int)) = false := decide_eq_false (by omega)
    clear hb HH0 hR
    go_enter Try.func99, Try.ntmps99
    go_wp2_with fail
    go_ret
    exact ⟨rfl, HH.out.bel⟩
  obtain ⟨k, rfl⟩ : ∃ k : Nat, n = (k : Int) := ⟨n.toNat, by omega⟩
  obtain ⟨b, off, rfl, hbB, hcell⟩ := hR.at_ (by omega)
  have x0 := NdAt.below (hcell k (by omega)) HH0.bel hbB
  have x0 := x0.1
  have hkz : (k : Int) < (l.length : Int) := by omega
  have hk0 : 0 ≤ (k : Int) := by omega
  have d0 : decide (0 ≤ (k : Int)) = true := decide_eq_true (by omega)
  have d1 : decide ((k : Int) < (l.length : Int)) = true := decide_eq_true (by omega)
  have hb : hasB l (k : Int) = decide (0 < (l.getD k deadN).1) := by
    unfold hasB
    rw [ndAt_nat]
    by_cases h : 0 < (l.getD k deadN).1
    · rw [decide_eq_true h, decide_eq_true (by omega)]
    · rw [decide_eq_false h, decide_eq_false (by omega)]
  rw [hb]
  generalize (l.getD k deadN).1 = lv at *
  clear hb hcell HH0 hR
  go_enter Try.func99, Try.ntmps99
  go_wp2_with fail
  go_ret
  exact ⟨rfl, HH.out.bel⟩

/-- what Make answers -/
def make7 (l : List Nd) (room : Int) (S : List (Int × Int)) (lev : Int) : List Nd × Int × Int := grown6 l room (makeZ room l S lev)
/-- what Maker.Set answers -/
def setZ (room : Int) (l : List Nd) (n : Int) (c : Int × Int) (a : Bool) : List Nd × Int × Int :=
  if hasB l n = true then (if insideB ((ndAt l n).1.toNat - 1) c = true then setC room (ndAt l n).1.toNat l n.toNat (inwardC ((ndAt l n).1.toNat - 1) c) a else (l, 0, 2)) else (l, 0, 1)
/-- a maker and a cell in boxes -/
structure McAt (n0 : Nat) (w W : World) (g b : Nat) (l : List Nd) (room : Int) (c : Int × Int) : Prop where
  ix : Ix n0 W g b l room
  mkr : MR W w.heap.size g
  cl : ClB W (w.heap.size + 1) c
  bel : BelK n0 b w W
theorem McAt.below {n0 : Nat} {w W W' : World} {g b : Nat} {l : List Nd} {room : Int} {c : Int × Int} (h : McAt n0 w W g b l room c) (hn : n0 ≤ w.heap.size) (hb : Below W.heap.size W W') : McAt n0 w W' g b l room c :=
  ⟨h.ix.below hb, h.mkr.below hb, h.cl.below hb, h.bel.more hb hn⟩
theorem ix_rd {n0 : Nat} {w : World} {g b : Nat} {l : List Nd} {room : Int} (h : Ix n0 w g b l room) (h2 : 2 ≤ l.length) : ∃ q cap, w.cell? ⟨g, 0, none⟩ = some (.slice (some ⟨q, 0, none⟩) l.length cap) ∧ w.cell? ⟨g, 1, none⟩ = some (.int .i64 room) ∧ RdN w w.heap.size (some ⟨q, 0, none⟩) l ∧ l.length ≤ cap ∧ ∀ j, j < l.length → NdAt w q (j * 6) (l.getD j deadN) := by
  obtain ⟨v, D, h⟩ := h
  obtain ⟨q, cap, rfl, hcap⟩ := ownN_val h.own (by omega)
  obtain ⟨A, c', e, _, hRd⟩ := h.own.reads
  injection e with e1 e2 e3
  subst e1
  refine ⟨q, cap, h.row.c0, h.row.c1, hRd, hcap, fun j hj => ?_⟩
  have := ownN_nd h.own j hj
  rwa [Nat.zero_add] at this
end Go.Proofs.Ytklccoodfhejbaa
namespace Go.Proofs.Ytklccoodfhejbaa
set_option maxRecDepth 100000
set_option linter.unusedVariables false
set_option linter.unusedSimpArgs false
open Go.RowKit Go.Sort

/-- what Set answers -/
def set7 (l : List Nd) (room n : Int) (c : Int × Int) (a : Bool) : List Nd × Int × Int := grown6 l room (setZ room l n c a)
/-! ### Grow -/
/-- what Maker.Grow answers -/
def growZ (room : Int) (l : List Nd) (n : Int) : List Nd × Int × Int :=
  if (hasB l n && decide (¬ (ndAt l n).1 = 42)) = true then growC room l n.toNat ((ndAt l n).1.toNat - 1) else (l, 0, 1)
/-- what is in boxes while a node is grown: a dead node's place, the node -/
structure GcAt (W : World) (db xb mb g : Nat) (d lev : Int) (k : Kd) (pop : Int) : Prop where
  dead : LR W db d
  nd : NR W xb lev k pop
  mkr : MR W mb g
theorem GcAt.kp {W W' : World} {db xb mb g : Nat} {d lev : Int} {k : Kd} {pop : Int} (h : GcAt W db xb mb g d lev k pop) (hk : Kp W W') : GcAt W' db xb mb g d lev k pop := ⟨h.dead.kp hk, h.nd.kp hk, h.mkr.kp hk⟩
theorem GcAt.below {W W' : World} {db xb mb g : Nat} {d lev : Int} {k : Kd} {pop : Int} (h : GcAt W db xb mb g d lev k pop) (hb : Below W.heap.size W W') : GcAt W' db xb mb g d lev k pop := ⟨h.dead.below hb, h.nd.below hb, h.mkr.below hb⟩
set_option maxHeartbeats 8000000 in
theorem growClos_any (room : Int) (n0 g b db xb mb : Nat) (l : List Nd) (d lev : Int) (k : Kd) (pop : Int) {i : Nat} (hi : i < 4) (w : World) (hix : Ix n0 w g b l room) (hr : Right6 l room) (h : GcAt w db xb mb g d lev k pop) :
    Calls Try.prog 102 #[.int .i64 (i : Nat), .pointer (some ⟨db, 0, none⟩), .pointer (some ⟨xb, 0, none⟩), .pointer (some ⟨mb, 0, none⟩)] w (IxK (put6 l room (growK k d i)) n0 g b room w) := by
  have hn0 := hix.hB
  have hal := (Below.refl w.heap.size w).alloc (Nat.le_refl _) (.cells #[.int .i64 d, .int .i64 d, .int .i64 d, .int .i64 d] 33)
  have hKR : KR (w.alloc (.cells #[.int .i64 d, .int .i64 d, .int .i64 d, .int .i64 d] 33)) w.heap.size (d, d, d, d) := heap_alloc_new w _
  have hset := hKR.set (j := 3 - i) (by omega) (kd k i)
  have hix2 := (hix.below hal).setOff hr.two hKR ⟨.inl (by decide), by decide⟩ (3 - i) (.int .i64 (kd k i))
  have hB2 := (BelK.of (b := b) hal hn0).setNew (kb := w.heap.size) (Nat.le_refl _) hn0 (3 - i) (.int .i64 (kd k i))
  have hm2 : MR ((w.alloc (.cells #[.int .i64 d, .int .i64 d, .int .i64 d, .int .i64 d] 33)).setCell ⟨w.heap.size, 3 - i, none⟩ (.int .i64 (kd k i))) mb g := h.mkr.kp hB2.kp
  have hcall := intern_anyK n0 g b l room (growK k d i) _ hix2 hr
  unfold kidsV at hcall
  have hgk : kset (d, d, d, d) (3 - i) (kd k i) = growK k d i := rfl
  rw [hgk] at hset
  have d0 := h.dead.c
  have hg := h.below hal
  have d0a := hg.dead.c
  have x0 := hg.nd.kid hi
  have c0 := hKR.c (j := 3 - i) (by omega)
  have f0 : (w.alloc (.cells #[.int .i64 d, .int .i64 d, .int .i64 d, .int .i64 d] 33)).frozen? ⟨w.heap.size, 3 - i, none⟩ = false := Lib.frozen_of_heap hKR (3 - i)
  have y0 := hset.c (j := 0) (by decide)
  have y1 := hset.c (j := 1) (by decide)
  have y2 := hset.c (j := 2) (by decide)
  have y3 := hset.c (j := 3) (by decide)
  have m0 := hm2.c
  have HB := Lib.hid hB2
  generalize growK k d i = gk at *
  generalize kd k i = kv at *
  simp only [kd] at y0 y1 y2 y3
  obtain ⟨j, hj⟩ : ∃ j, j = 3 - i := ⟨_, rfl⟩
  have hjz : (3 : Int) - (i : Int) = (j : Int) := by omega
  have hwz : IntKind.i64.wrap ((3 : Int) - (i : Int)) = (j : Int) := by rw [IntKind.wrap_i64]; omega
  rw [← hj] at hcall c0 f0 y0 y1 y2 y3 m0 HB
  have hj4 : (j : Int) < 4 := by omega
  have hi4 : (i : Int) < 4 := by omega
  have hfold : ((w.alloc (.cells #[.int .i64 d, .int .i64 d, .int .i64 d, .int .i64 d] 33)).setCell ⟨w.heap.size, j, none⟩ (.int .i64 kv)) = w.alloc (.cells ([Value.int .i64 d, .int .i64 d, .int .i64 d, .int .i64 d].set j (.int .i64 kv)).toArray 33) := by
    rw [World.setCell_alloc_new]
    simp
  rw [hfold] at hcall y0 y1 y2 y3 m0 HB
  generalize put6 l room gk = z at *
  obtain ⟨m, p, ee⟩ := z
  clear hix hr h hal hKR hset hix2 hB2 hm2 hgk hg hj hfold
  go_enter Try.func102, Try.ntmps102
  go_wp2_with fail
  refine hcall.mono ?_
  rintro e w1 ⟨rfl, hi1, hb1⟩
  have HI := Lib.hid hi1
  have HBF := Lib.hid (HB.out.trans hb1)
  clear hcall hi1 hb1 d0 d0a x0 c0 f0 y0 y1 y2 y3 m0
  go_wp2_with fail
  go_ret2
  exact ⟨rfl, HI.out, HBF.out⟩
end Go.Proofs.Ytklccoodfhejbaa
namespace Go.Proofs.Ytklccoodfhejbaa
set_option maxRecDepth 100000
set_option linter.unusedVariables false
set_option linter.unusedSimpArgs false
open Go.RowKit Go.Sort

/-- a maker in a box -/
structure MiAt (n0 : Nat) (w W : World) (g b : Nat) (l : List Nd) (room : Int) : Prop where
  ix : Ix n0 W g b l room
  mkr : MR W w.heap.size g
  bel : BelK n0 b w W
theorem MiAt.below {n0 : Nat} {w W W' : World} {g b : Nat} {l : List Nd} {room : Int} (h : MiAt n0 w W g b l room) (hn : n0 ≤ w.heap.size) (hb : Below W.heap.size W W') : MiAt n0 w W' g b l room :=
  ⟨h.ix.below hb, h.mkr.below hb, h.bel.more hb hn⟩
theorem MiAt.kp {n0 : Nat} {w W W' : World} {g b : Nat} {l l' : List Nd} {room : Int} (h : MiAt n0 w W g b l room) (hi : Ix n0 W' g b l' room) (hb : BelK n0 b W W') : MiAt n0 w W' g b l' room := ⟨hi, h.mkr.kp hb.kp, h.bel.trans hb⟩
theorem miAt_0 {n0 : Nat} {w : World} {g b : Nat} {l : List Nd} {room : Int} (hix : Ix n0 w g b l room) : MiAt n0 w (w.alloc (.cells #[.pointer (some ⟨g, 0, none⟩)] 123)) g b l room := by
  have hal1 := (Below.refl w.heap.size w).alloc (Nat.le_refl _) (.cells #[.pointer (some ⟨g, 0, none⟩)] 123)
  exact ⟨hix.below hal1, heap_new rfl, .of hal1 hix.hB⟩
set_option maxHeartbeats 16000000 in
theorem makerGrow_any (room : Int) (n0 g b : Nat) (l : List Nd) (n : Int) (w : World) (hix : Ix n0 w g b l room) (hr : Right6 l room) :
    Calls Try.prog 95 #[makerV g, .int .i64 n] w (IxK (growZ room l n) n0 g b room w) := by
  have hn0 := hix.hB
  have hM0 := miAt_0 hix
  obtain ⟨q, cap, g0, g1, hrd, hcap, hnd⟩ := ix_rd hM0.ix hr.two
  have m0 := hM0.mkr.c
  have hhs := hasSquare_any (some ⟨q, 0, none⟩) l cap room n _ hrd (by have := hr.small; omega)
  unfold storeV at hhs
  have HM := Lib.hid hM0
  cases hb : hasB l n with
  | false =>
    have hz : growZ room l n = (l, 0, 1) := by unfold growZ; rw [hb]; rfl
    rw [hz]
    rw [hb] at hhs
    clear hix hr hM0 hrd hnd hz hb
    go_enter Try.func95, Try.ntmps95
    go_wp2_with (go_at_call 99; refine hhs.mono ?_; rintro r w1 ⟨rfl, hb1⟩; have H1 := Lib.hid (HM.out.below hn0 hb1); clear hb1 hhs)
    go_ret2
    exact ⟨rfl, H1.out.ix, H1.out.bel⟩
  | true =>
    rw [hb] at hhs
    have hz : growZ room l n = if ¬ (ndAt l n).1 = 42 then growC room l n.toNat ((ndAt l n).1.toNat - 1) else (l, 0, 1) := by
      unfold growZ
      rw [hb, Bool.true_and]
      by_cases h : (ndAt l n).1 = 42
      · rw [if_neg (by simp [h]), if_neg (by simp [h])]
      · rw [if_pos (by simp [h]), if_pos h]
    unfold hasB at hb
    rw [decide_eq_true_eq] at hb
    obtain ⟨h1, h2, h3⟩ := hb
    obtain ⟨k, rfl⟩ : ∃ k : Nat, n = (k : Int) := ⟨n.toNat, by omega⟩
    rw [ndAt_nat] at h3 hz
    have hbd := right_bd hr k (by omega)
    obtain ⟨e, he⟩ : ∃ e : Nat, (l.getD k deadN).1 = (e : Int) + 1 := ⟨((l.getD k deadN).1 - 1).toNat, by omega⟩
    have he41 : e ≤ 41 := by omega
    rw [he, show ((e : Int) + 1).toNat = e + 1 by omega, show e + 1 - 1 = e by omega, Int.toNat_natCast] at hz
    have hkz : (k : Int) < (l.length : Int) := by omega
    have HR := Lib.hid hr
    obtain ⟨z, hzz⟩ : ∃ z, z = growZ room l (k : Int) := ⟨_, rfl⟩
    rw [← hzz] at hz ⊢
    have HZ := Lib.hid hz
    have HE := Lib.hid he
    clear hix hr hM0 hrd hnd hz hzz h1 h2 h3 hbd he
    by_cases h42 : e = 41
    · subst h42
      have hz1 : z = (l, 0, 1) := by rw [HZ.out, if_neg (by simp)]
      subst hz1
      go_enter Try.func95, Try.ntmps95
      go_wp2_with fail
      refine hhs.mono ?_
      rintro r w1 ⟨rfl, hb1⟩
      have H1 := Lib.hid (HM.out.below hn0 hb1)
      obtain ⟨q1, cap1, s0, s1, hrd1, hcap1, hnd1⟩ := ix_rd H1.out.ix HR.out.two
      have nx := (hnd1 k (by omega)).1
      rw [HE.out] at nx
      have nx : w1.cell? ⟨q1, k * 6, none⟩ = some (.int .i64 42) := nx
      have m1 := H1.out.mkr.c
      clear hhs hb1 HM g0 g1 m0 hrd1 hnd1
      go_wp2_with fail
      go_ret2
      exact ⟨rfl, H1.out.ix, H1.out.bel⟩
    · have hz1 : z = growC room l k e := by rw [HZ.out, if_pos (by omega)]
      unfold growC at hz1
      have h42a : ¬ (e : Int) + 1 = 42 := by omega
      have h42b : (((e : Int) + 1) == 42) = false := beq_eq_false_iff_ne.2 (by omega)
      have her := emptyTo_right7 (room := room) HR.out e
      have hie : ixEmpty l room (e : Int) = emptyTo l room e := by unfold ixEmpty; rw [if_pos (by omega), Int.toNat_natCast]
      have HIE := Lib.hid hie
      have HZ1 := Lib.hid hz1
      have HER := Lib.hid her
      clear hz1 her hie HZ
      go_enter Try.func95, Try.ntmps95
      go_wp2_with fail
      refine hhs.mono ?_
      rintro r w1 ⟨rfl, hb1⟩
      have H1 := HM.out.below hn0 hb1
      obtain ⟨q1, cap1, s0, s1, hrd1, hcap1, hnd1⟩ := ix_rd H1.ix HR.out.two
      obtain ⟨x0, x1, x2, x3, x4, x5⟩ := hnd1 k (by omega)
      rw [HE.out] at x0
      have m1 := H1.mkr.c
      obtain ⟨⟨lv, kk, pp⟩, hnode⟩ : ∃ x, x = l.getD k deadN := ⟨_, rfl⟩
      rw [← hnode] at x1 x2 x3 x4 x5
      dsimp only at x1 x2 x3 x4 x5
      have hal := (Below.refl w1.heap.size w1).alloc (Nat.le_refl _) (.cells #[.int .i64 ((e : Int) + 1), .int .i64 kk.1, .int .i64 kk.2.1, .int .i64 kk.2.2.1, .int .i64 kk.2.2.2, .int .i64 pp] 35)
      have H2 := Lib.hid (H1.below hn0 hal)
      have hn2 : NR (w1.alloc (.cells #[.int .i64 ((e : Int) + 1), .int .i64 kk.1, .int .i64 kk.2.1, .int .i64 kk.2.2.1, .int .i64 kk.2.2.2, .int .i64 pp] 35)) w1.heap.size ((e : Int) + 1) kk pp := heap_alloc_new w1 _
      have HN2 := Lib.hid hn2
      have l0 := hn2.lev_
      have m2 := H2.out.mkr.c
      have hwe : IntKind.i64.wrap (e : Int) = (e : Int) := by rw [IntKind.wrap_i64]; omega
      have HND := Lib.hid hnode
      clear hhs hb1 HM g0 g1 m0 hrd1 hnd1 H1 hal hn2 hnode
      go_wp2_with fail
      clear s0 s1 x0 x1 x2 x3 x4 x5 m1 l0 m2
      generalize (w1.alloc (.cells #[.int .i64 ((e : Int) + 1), .int .i64 kk.1, .int .i64 kk.2.1, .int .i64 kk.2.2.1, .int .i64 kk.2.2.2, .int .i64 pp] 35)) = w2 at *
      generalize w1.heap.size = xb at *
      have hem := ixEmpty_anyK n0 g b l room (e : Int) w2 H2.out.ix HR.out H2.out.ix.hB
      rw [HIE.out] at hem
      obtain ⟨⟨m, p, ee⟩, hzz⟩ : ∃ y, y = emptyTo l room e := ⟨_, rfl⟩
      rw [← hzz] at hem
      have HZZ := Lib.hid hzz
      clear hzz
      refine hem.mono ?_
      rintro r w3 ⟨rfl, hi3, hb3⟩
      dsimp only at hi3
      have H3 := H2.out.kp hi3 hb3
      have hal := (Below.refl w3.heap.size w3).alloc (Nat.le_refl _) (.cells #[.int .i64 p] 3)
      have H4 := Lib.hid (H3.below hn0 hal)
      have hrm : Right6 m room := by have := HER.out; rw [← HZZ.out] at this; exact this
      have hG : GcAt (w3.alloc (.cells #[.int .i64 p] 3)) w3.heap.size xb w.heap.size g p ((e : Int) + 1) kk pp := ⟨heap_alloc_new w3 _, (HN2.out.kp hb3.kp).below hal, H4.out.mkr⟩
      have HG := Lib.hid hG
      have HRM := Lib.hid hrm
      clear hem hi3 hb3 H3 hal hG hrm
      by_cases hee : ee = 0
      · subst hee
        have hz1 := HZ1.out
        rw [← HZZ.out, if_pos rfl] at hz1
        dsimp only at hz1
        have hof := of_any 102 (enters_of Try.func102 (by kernel_rfl) rfl) (.pointer (some ⟨w3.heap.size, 0, none⟩)) (.pointer (some ⟨xb, 0, none⟩)) (.pointer (some ⟨w.heap.size, 0, none⟩)) (fun i l' => put6 l' room (growK kk p i)) n0 g b m room _ H4.out.ix HRM.out (fun i l' _ h' => put_right h' _)
          (fun i hi l' W hr' hix' hb => growClos_any room n0 g b _ _ _ l' p _ kk pp hi W hix' hr' (HG.out.kp hb.kp))
        have hkk : (l.getD k deadN).2.1 = kk := by rw [← HND.out]
        rw [hkk] at hz1
        rw [← hz1] at hof
        have m4 := H4.out.mkr.c
        have hmf : ∀ (fn : Fn) (first cap : Array Value) (W : World), (Instr.makeFunc fn first cap).run Try.prog W = .ok (.func fn first cap) W := fun _ _ _ _ => rfl
        obtain ⟨m9, p9, e9⟩ := z
        clear hz1 hkk HZ1
        go_wp2_with fail
        refine hof.mono ?_
        rintro r w5 ⟨rfl, hi5, hb5⟩
        have HI := Lib.hid hi5
        have HBF := Lib.hid (H4.out.bel.trans hb5)
        clear hof hi5 hb5 m4 hmf
        go_wp2_with fail
        go_ret2
        exact ⟨rfl, HI.out, HBF.out⟩
      · have hz1 : z = (m, 0, ee) := by
          rw [HZ1.out, ← HZZ.out, if_neg hee]
        subst hz1
        clear HZ1
        go_wp2_with fail
        go_ret2
        exact ⟨rfl, H4.out.ix, H4.out.bel⟩
/-- what Grow answers -/
def grow7 (l : List Nd) (room n : Int) : List Nd × Int × Int := grown6 l room (growZ room l n)
end Go.Proofs.Ytklccoodfhejbaa
namespace Go.Proofs.Ytklccoodfhejbaa
set_option maxRecDepth 100000
set_option linter.unusedVariables false
set_option linter.unusedSimpArgs false
open Go.RowKit Go.Sort

/-- what Get answers -/
def get7 (l : List Nd) (room n : Int) (c : Int × Int) : Bool × Int :=
  if (right6 l room && hasB l n) = true then (insideB ((ndAt l n).1.toNat - 1) c && alive l (ndAt l n).1.toNat n.toNat (inwardC ((ndAt l n).1.toNat - 1) c), 0) else (false, 1)
/-- what is in boxes within Get: the store, the cell -/
structure GbAt (w wr : World) (A : Option Addr) (n c : Nat) (room : Int) (k : Int × Int) : Prop where
  store : wr.heap[w.heap.size]? = some (.cells #[.slice A n c, .int .i64 room] 26 (0, 0))
  cl : ClB wr (w.heap.size + 1) k
  bel : Below w.heap.size w wr
section
variable {w wr w' : World} {A : Option Addr} {n c : Nat} {room : Int} {k : Int × Int}
theorem GbAt.below (h : GbAt w wr A n c room k) (hb : Below wr.heap.size wr w') : GbAt w w' A n c room k := ⟨(hb.block _ (lt_heap6 h.store)).trans h.store, h.cl.below hb, Qt.more h.bel h.bel.size hb⟩
theorem GbAt.s0 (h : GbAt w wr A n c room k) : wr.cell? ⟨w.heap.size, 0, none⟩ = some (.slice A n c) := by rw [Lib.cell_of_heap h.store]; rfl
theorem GbAt.s1 (h : GbAt w wr A n c room k) : wr.cell? ⟨w.heap.size, 1, none⟩ = some (.int .i64 room) := by rw [Lib.cell_of_heap h.store]; rfl
/-- the cell is told anew -/
theorem GbAt.cell (h : GbAt w wr A n c room k) (x y : Int) : GbAt w ((wr.setCell ⟨w.heap.size + 1, 0, none⟩ (.int .i64 x)).setCell ⟨w.heap.size + 1, 1, none⟩ (.int .i64 y)) A n c room (x, y) := by
  have hr := h.cl.row
  refine ⟨?_, ⟨?_⟩, (h.bel.setCell (by show _ ≤ _ + 1; omega) _).setCell (by show _ ≤ _ + 1; omega) _⟩
  · rw [Below.heap_setCell _ _ _ _ (by show w.heap.size ≠ w.heap.size + 1; omega), Below.heap_setCell _ _ _ _ (by show w.heap.size ≠ w.heap.size + 1; omega)]; exact h.store
  · simp [World.setCell, Array.getElem?_modify, hr]
end
theorem NR.all {w : World} {b : Nat} {lev : Int} {k : Kd} {pop : Int} (h : NR w b lev k pop) : NdAt w b 0 (lev, k, pop) := by
  refine ⟨?_, ?_, ?_, ?_, ?_, ?_⟩ <;> (rw [Lib.cell_of_heap h]; rfl)
/-- a node is told anew -/
theorem NR.told {w : World} {b : Nat} {lev : Int} {k : Kd} {pop : Int} (h : NR w b lev k pop) (x : Nd) :
    NR ((((((w.setCell ⟨b, 0, none⟩ (.int .i64 x.1)).setCell ⟨b, 1, none⟩ (.int .i64 x.2.1.1)).setCell ⟨b, 2, none⟩ (.int .i64 x.2.1.2.1)).setCell ⟨b, 3, none⟩ (.int .i64 x.2.1.2.2.1)).setCell ⟨b, 4, none⟩ (.int .i64 x.2.1.2.2.2)).setCell ⟨b, 5, none⟩ (.int .i64 x.2.2)) b x.1 x.2.1 x.2.2 := by
  unfold NR at h ⊢
  simp [World.setCell, Array.getElem?_modify, h]
end Go.Proofs.Ytklccoodfhejbaa
namespace Go.Proofs.Ytklccoodfhejbaa
set_option maxRecDepth 100000
set_option linter.unusedVariables false
set_option linter.unusedSimpArgs false

/-- where a quarter's corner is -/
def corner7 (k : Nat) (p : Int × Int) (i : Nat) : Int × Int := (p.1 + ((i % 2 : Nat) : Int) * 2 ^ k, p.2 + ((i / 2 : Nat) : Int) * 2 ^ k)
/-- the cells of a node, whose square's corner is known -/
def flat (l : List Nd) : Nat → Nat → Int × Int → List (Int × Int)
  | 0, n, p => if n = 1 then [p] else []
  | k + 1, n, p => flat l k (kidN l n 0) (corner7 k p 0) ++ flat l k (kidN l n 1) (corner7 k p 1) ++ flat l k (kidN l n 2) (corner7 k p 2) ++ flat l k (kidN l n 3) (corner7 k p 3)
/-- of the first quarters -/
def flatTo (l : List Nd) (k n : Nat) (p : Int × Int) : Nat → List (Int × Int)
  | 0 => []
  | i + 1 => flatTo l k n p i ++ flat l k (kidN l n i) (corner7 k p i)
theorem flatTo_all (l : List Nd) (k n : Nat) (p : Int × Int) : flatTo l k n p 4 = flat l (k + 1) n p := by
  simp [flatTo, flat]
theorem flatTo_len (l : List Nd) (k n : Nat) (p : Int × Int) : ∀ i j, i ≤ j → (flatTo l k n p i).length ≤ (flatTo l k n p j).length := by
  intro i j h
  obtain ⟨d, rfl⟩ : ∃ d, j = i + d := ⟨j - i, by omega⟩
  clear h
  induction d with
  | zero => exact Nat.le_refl _
  | succ d ih =>
    refine Nat.le_trans ih ?_
    show _ ≤ (flatTo l k n p (i + d) ++ _).length
    rw [List.length_append]
    omega
/-- a node's cells are counted -/
theorem flat_pop {l : List Nd} {room : Int} (hr : Right6 l room) : ∀ (k n : Nat) (p : Int × Int), Is l k n → (l.getD n deadN).2.2 = min ((flat l k n p).length : Int) 4611686018427387903
  | 0, n, p, h => by
    have := h.zero hr
    rcases (by omega : n = 0 ∨ n = 1) with rfl | rfl
    · rw [hr.dead]; rfl
    · rw [hr.live]; rfl
  | k + 1, n, p, h => by
    have hf := fits_iff.1 (hr.fits n (h.two hr) h.lt)
    have hk : ∀ i, i < 4 → (ndAt l (kd (l.getD n deadN).2.1 i)).2.2 = min ((flat l k (kidN l n i) (corner7 k p i)).length : Int) 4611686018427387903 := fun i hi => by
      rw [kid_cast hr h hi, ndAt_nat]
      exact flat_pop hr k _ _ (kid_is hr h hi)
    rw [hf.pop, popTo_sum (fun i hi => by rw [hk i hi]; omega)]
    have h0 := hk 0 (by decide)
    have h1 := hk 1 (by decide)
    have h2 := hk 2 (by decide)
    have h3 := hk 3 (by decide)
    simp only [kd] at h0 h1 h2 h3
    rw [h0, h1, h2, h3]
    show _ = min (((flat l k (kidN l n 0) (corner7 k p 0) ++ flat l k (kidN l n 1) (corner7 k p 1) ++ flat l k (kidN l n 2) (corner7 k p 2) ++ flat l k (kidN l n 3) (corner7 k p 3)).length : Nat) : Int) _
    simp only [List.length_append]
    omega
theorem flat_dead {l : List Nd} {room : Int} (hr : Right6 l room) {k n : Nat} (p : Int × Int) (h : Is l k n) (h0 : (l.getD n deadN).2.2 = 0) : flat l k n p = [] := by
  have := flat_pop hr k n p h
  exact List.eq_nil_of_length_eq_zero (by omega)
/-- a square from a corner on -/
def InAt7 (k : Nat) (p c : Int × Int) : Prop := p.1 ≤ c.1 ∧ c.1 < p.1 + 2 ^ k ∧ p.2 ≤ c.2 ∧ c.2 < p.2 + 2 ^ k
theorem quarter_of {k : Nat} {p c : Int × Int} (h : InAt7 (k + 1) p c) : InAt7 k (corner7 k p (q7 k (c.1 - p.1, c.2 - p.2))) c ∧ ∀ i, i < 4 → InAt7 k (corner7 k p i) c → i = q7 k (c.1 - p.1, c.2 - p.2) := by
  obtain ⟨h1, h2, h3, h4⟩ := h
  have e : (2 : Int) ^ (k + 1) = 2 ^ k * 2 := Int.pow_succ ..
  have hp := pow_pos7 k
  rw [e] at h2 h4
  have key : ∀ x : Int, 0 ≤ x → x < 2 ^ k * 2 → (x / 2 ^ k = 0 ∧ x < 2 ^ k) ∨ (x / 2 ^ k = 1 ∧ 2 ^ k ≤ x) := fun x hx0 hx1 => by
    by_cases hx : x < 2 ^ k
    · exact .inl ⟨Int.ediv_eq_zero_of_lt hx0 hx, hx⟩
    · refine .inr ⟨?_, by omega⟩
      have : x = (x - 2 ^ k) + 2 ^ k * 1 := by omega
      rw [this, Int.add_mul_ediv_left _ _ (by omega), Int.ediv_eq_zero_of_lt (by omega) (by omega)]
      omega
  have ha := key (c.1 - p.1) (by omega) (by omega)
  have hb := key (c.2 - p.2) (by omega) (by omega)
  have hq := q7_cast k (c.1 - p.1, c.2 - p.2)
  have hq4 := q7_lt k (c.1 - p.1, c.2 - p.2)
  simp only at hq
  generalize q7 k (c.1 - p.1, c.2 - p.2) = q at *
  generalize (c.1 - p.1) / 2 ^ k = a at *
  generalize (c.2 - p.2) / 2 ^ k = b at *
  have hcor : ∀ i, i < 4 → corner7 k p i = (p.1 + (if i = 1 ∨ i = 3 then 2 ^ k else 0), p.2 + (if i = 2 ∨ i = 3 then 2 ^ k else 0)) := fun i hi => by
    unfold corner7
    rcases (by omega : i = 0 ∨ i = 1 ∨ i = 2 ∨ i = 3) with rfl | rfl | rfl | rfl <;> simp
  generalize (2 : Int) ^ k = s at *
  constructor
  · unfold InAt7
    rw [hcor q hq4]
    rcases (by omega : q = 0 ∨ q = 1 ∨ q = 2 ∨ q = 3) with rfl | rfl | rfl | rfl <;> simp <;> omega
  · intro i hi hin
    unfold InAt7 at hin
    rw [hcor i hi] at hin
    rcases (by omega : i = 0 ∨ i = 1 ∨ i = 2 ∨ i = 3) with rfl | rfl | rfl | rfl <;> simp at hin <;> omega
theorem corner_in {k : Nat} {p c : Int × Int} {i : Nat} (hi : i < 4) (h : InAt7 k (corner7 k p i) c) : InAt7 (k + 1) p c := by
  have e : (2 : Int) ^ (k + 1) = 2 ^ k * 2 := Int.pow_succ ..
  have hp := pow_pos7 k
  unfold InAt7 corner7 at *
  rw [e]
  generalize (2 : Int) ^ k = s at *
  rcases (by omega : i = 0 ∨ i = 1 ∨ i = 2 ∨ i = 3) with rfl | rfl | rfl | rfl <;> simp at h ⊢ <;> omega
theorem agree_corner (k : Nat) (p c : Int × Int) (i : Nat) : Agree k (c.1 - (corner7 k p i).1, c.2 - (corner7 k p i).2) (c.1 - p.1, c.2 - p.2) := by
  have h := agree_shift (c.1 - p.1, c.2 - p.2) (-((i % 2 : Nat) : Int)) (-((i / 2 : Nat) : Int)) k
  have e1 : c.1 - (corner7 k p i).1 = c.1 - p.1 + 2 ^ k * (-((i % 2 : Nat) : Int)) := by
    unfold corner7
    simp only
    rw [Int.mul_neg, Int.mul_comm]
    omega
  have e2 : c.2 - (corner7 k p i).2 = c.2 - p.2 + 2 ^ k * (-((i / 2 : Nat) : Int)) := by
    unfold corner7
    simp only
    rw [Int.mul_neg, Int.mul_comm]
    omega
  rw [e1, e2]
  exact h
/-- what is in the list is what is alive -/
theorem mem_flat {l : List Nd} : ∀ (k n : Nat) (p c : Int × Int), c ∈ flat l k n p ↔ InAt7 k p c ∧ alive l k n (c.1 - p.1, c.2 - p.2) = true
  | 0, n, p, c => by
    unfold flat alive InAt7
    have h1 : (2 : Int) ^ 0 = 1 := rfl
    rw [h1]
    by_cases hn : n = 1
    · rw [if_pos hn]
      simp only [List.mem_singleton, decide_eq_true_eq]
      constructor
      · rintro rfl; exact ⟨by omega, hn⟩
      · rintro ⟨h, _⟩; exact Prod.ext (by omega) (by omega)
    · rw [if_neg hn]
      simp [hn]
  | k + 1, n, p, c => by
    have ih := fun i => mem_flat (l := l) k (kidN l n i) (corner7 k p i) c
    have hone : c ∈ flat l (k + 1) n p ↔ ∃ i, i < 4 ∧ c ∈ flat l k (kidN l n i) (corner7 k p i) := by
      show c ∈ _ ++ _ ++ _ ++ _ ↔ _
      simp only [List.mem_append]
      constructor
      · rintro (((h | h) | h) | h)
        · exact ⟨0, by decide, h⟩
        · exact ⟨1, by decide, h⟩
        · exact ⟨2, by decide, h⟩
        · exact ⟨3, by decide, h⟩
      · rintro ⟨i, hi, h⟩
        rcases (by omega : i = 0 ∨ i = 1 ∨ i = 2 ∨ i = 3) with rfl | rfl | rfl | rfl
        · exact .inl (.inl (.inl h))
        · exact .inl (.inl (.inr h))
        · exact .inl (.inr h)
        · exact .inr h
    rw [hone]
    constructor
    · rintro ⟨i, hi, h⟩
      obtain ⟨h1, h2⟩ := (ih i).1 h
      have hin := corner_in hi h1
      have hq := (quarter_of hin).2 i hi h1
      refine ⟨hin, ?_⟩
      show alive l k (kidN l n (q7 k (c.1 - p.1, c.2 - p.2))) _ = true
      rw [← hq, ← alive_agree k _ (agree_corner k p c i)]
      exact h2
    · rintro ⟨hin, h2⟩
      refine ⟨q7 k (c.1 - p.1, c.2 - p.2), q7_lt _ _, (ih _).2 ⟨(quarter_of hin).1, ?_⟩⟩
      rw [alive_agree k _ (agree_corner k p c _)]
      exact h2
/-- no cell is there twice -/
theorem flat_nodup {l : List Nd} : ∀ (k n : Nat) (p : Int × Int), (flat l k n p).Nodup
  | 0, n, p => by
    unfold flat
    split
    · simp
    · exact List.nodup_nil
  | k + 1, n, p => by
    have hd : ∀ i j, i < 4 → j < 4 → i ≠ j → ∀ a ∈ flat l k (kidN l n i) (corner7 k p i), ∀ b ∈ flat l k (kidN l n j) (corner7 k p j), a ≠ b := by
      intro i j hi hj hij a ha b hb e
      subst e
      have h1 := ((mem_flat k _ _ _).1 ha).1
      have h2 := ((mem_flat k _ _ _).1 hb).1
      have hin := corner_in hi h1
      exact hij (((quarter_of hin).2 i hi h1).trans ((quarter_of hin).2 j hj h2).symm)
    show List.Nodup (flat l k (kidN l n 0) (corner7 k p 0) ++ flat l k (kidN l n 1) (corner7 k p 1) ++ flat l k (kidN l n 2) (corner7 k p 2) ++ flat l k (kidN l n 3) (corner7 k p 3))
    have h0 := flat_nodup (l := l) k (kidN l n 0) (corner7 k p 0)
    have h1 := flat_nodup (l := l) k (kidN l n 1) (corner7 k p 1)
    have h2 := flat_nodup (l := l) k (kidN l n 2) (corner7 k p 2)
    have h3 := flat_nodup (l := l) k (kidN l n 3) (corner7 k p 3)
    simp only [List.nodup_append, List.mem_append]
    refine ⟨⟨⟨h0, h1, hd 0 1 (by decide) (by decide) (by decide)⟩, h2, ?_⟩, h3, ?_⟩
    · rintro a (ha | ha) b hb
      · exact hd 0 2 (by decide) (by decide) (by decide) a ha b hb
      · exact hd 1 2 (by decide) (by decide) (by decide) a ha b hb
    · rintro a ((ha | ha) | ha) b hb
      · exact hd 0 3 (by decide) (by decide) (by decide) a ha b hb
      · exact hd 1 3 (by decide) (by decide) (by decide) a ha b hb
      · exact hd 2 3 (by decide) (by decide) (by decide) a ha b hb
end Go.Proofs.Ytklccoodfhejbaa
