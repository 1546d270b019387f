/-
  Texts that the claims of this seat share, part 11.
-/
import Derived.Test.YtmmaeikeafemaaaGreatB10
import Derived.Test.YtmmaeikeafemaaaGreatB07
set_option linter.unusedVariables false
set_option linter.unusedSimpArgs false
namespace Go.Proofs.YtmmaeikeafemaaaGreat
set_option maxRecDepth 100000
set_option linter.unusedVariables false
set_option linter.unusedSimpArgs false
open Go.RowKit Go.Sort

/-- What is known within a call that makes a node in a store: the store, what is to be told. -/
structure WrAt (w wr : World) (A : Option Addr) (n c : Nat) (room : Int) (p : Nat) : Prop where
  store : wr.heap[w.heap.size]? = some (.cells #[.slice A n c, .int .i64 room] 26 (0, 0))
  res : wr.heap[p]? = some (.cells #[.slice none 0 0, .int .i64 0] 26 (0, 0))
  bel : Below w.heap.size w wr
  hp : w.heap.size ≤ p
section
variable {w wr w' : World} {A : Option Addr} {n c : Nat} {room : Int} {p : Nat}
theorem WrAt.below (h : WrAt w wr A n c room p) (hb : Below wr.heap.size wr w') : WrAt w w' A n c room p :=
  ⟨(hb.block _ (lt_heap6 h.store)).trans h.store, (hb.block _ (lt_heap6 h.res)).trans h.res, Qt.more h.bel h.bel.size hb, h.hp⟩
theorem WrAt.s0 (h : WrAt w wr A n c room p) : wr.cell? ⟨w.heap.size, 0, none⟩ = some (.slice A n c) := by rw [Lib.cell_of_heap h.store]; rfl
theorem WrAt.s1 (h : WrAt w wr A n c room p) : wr.cell? ⟨w.heap.size, 1, none⟩ = some (.int .i64 room) := by rw [Lib.cell_of_heap h.store]; rfl
theorem WrAt.r0 (h : WrAt w wr A n c room p) : wr.cell? ⟨p, 0, none⟩ = some (.slice none 0 0) := by rw [Lib.cell_of_heap h.res]; rfl
theorem WrAt.r1 (h : WrAt w wr A n c room p) : wr.cell? ⟨p, 1, none⟩ = some (.int .i64 0) := by rw [Lib.cell_of_heap h.res]; rfl
theorem WrAt.free (h : WrAt w wr A n c room p) (j : Nat) : wr.frozen? ⟨p, j, none⟩ = false := Lib.frozen_of_heap h.res j
theorem WrAt.told (h : WrAt w wr A n c room p) (u v : Value) : ((wr.setCell ⟨p, 0, none⟩ u).setCell ⟨p, 1, none⟩ v).heap[p]? = some (.cells #[u, v] 26 (0, 0)) ∧ Below w.heap.size w ((wr.setCell ⟨p, 0, none⟩ u).setCell ⟨p, 1, none⟩ v) := by
  have hr := h.res
  refine ⟨?_, (h.bel.setCell (by show _ ≤ p; exact h.hp) _).setCell (by show _ ≤ p; exact h.hp) _⟩
  simp [World.setCell, Array.getElem?_modify, hr]
end
theorem heap_new {W : World} {o : Obj} {b : Nat} (h : W.heap.size = b) : (W.alloc o).heap[b]? = some o := by rw [← h]; exact heap_alloc_new W o
theorem heap_old {W : World} {o o' : Obj} {b : Nat} (h : W.heap[b]? = some o') : (W.alloc o).heap[b]? = some o' := (Lib.alloc_old _ _ _ (lt_heap6 h)).trans h

/-- may a place be that of a node whose square has a middle -/
def hasB (l : List Nd) (n : Int) : Bool := decide (0 ≤ n ∧ n < l.length ∧ 0 < (ndAt l n).1)
set_option maxHeartbeats 4000000 in
theorem hasSquare_any (A : Option Addr) (l : List Nd) (c : Nat) (room n : Int) (w : World) (hR : RdN w w.heap.size A l) (hl : l.length ≤ 1000000) : Calls Tryz.prog 35 #[storeV A l.length c room, .int .i64 n] w fun r w' => r = .returned (.bool (hasB l n)) ∧ Below w.heap.size w w' := by
  have HH0 := storeAt_0 w A l.length c room
  have s0 := HH0.s0
  have s1 := HH0.s1
  have HH := Lib.hid HH0
  unfold storeV
  by_cases h0 : n < 0
  · have hb : hasB l n = false := decide_eq_false (by omega)
    rw [hb]
    have d0 : decide (0 ≤ n) = false := decide_eq_false (by omega)
    clear hb HH0 hR
    go_enter Tryz.func35, Tryz.ntmps35
    go_wp2_with fail
    go_ret
    exact ⟨rfl, HH.out.bel⟩
  by_cases h1 : (l.length : Int) ≤ n
  · have hb : hasB l n = false := decide_eq_false (by omega)
    rw [hb]
    have d0 : decide (0 ≤ n) = true := decide_eq_true (by omega)
    have d1 : decide (n < (l.length : Int)) = false := decide_eq_false (by omega)
    clear hb HH0 hR
    go_enter Tryz.func35, Tryz.ntmps35
    go_wp2_with fail
    go_ret
    exact ⟨rfl, HH.out.bel⟩
  obtain ⟨k, rfl⟩ : ∃ k : Nat, n = (k : Int) := ⟨n.toNat, by omega⟩
  obtain ⟨b, off, rfl, hbB, hcell⟩ := hR.at_ (by omega)
  have x0 := NdAt.below (hcell k (by omega)) HH0.bel hbB
  have x0 := x0.1
  have hkz : (k : Int) < (l.length : Int) := by omega
  have hk0 : 0 ≤ (k : Int) := by omega
  have d0 : decide (0 ≤ (k : Int)) = true := decide_eq_true (by omega)
  have d1 : decide ((k : Int) < (l.length : Int)) = true := decide_eq_true (by omega)
  have hb : hasB l (k : Int) = decide (0 < (l.getD k deadN).1) := by
    unfold hasB
    rw [ndAt_nat]
    by_cases h : 0 < (l.getD k deadN).1
    · rw [decide_eq_true h, decide_eq_true (by omega)]
    · rw [decide_eq_false h, decide_eq_false (by omega)]
  rw [hb]
  generalize (l.getD k deadN).1 = lv at *
  clear hb hcell HH0 hR
  go_enter Tryz.func35, Tryz.ntmps35
  go_wp2_with fail
  go_ret
  exact ⟨rfl, HH.out.bel⟩

set_option maxHeartbeats 4000000 in
theorem makeClos_any (room : Int) (n0 g b lb vb : Nat) (l : List Nd) (A : Option Addr) (S : List (Int × Int)) (c : Nat) (lev : Int) (w : World) (hix : Ix n0 w g b l room) (hr : Right6 l room) (hS : RdC w w.heap.size A S) (hSl : S.length ≤ 1000000) (hc : S.length ≤ c) (h1 : w.cell? ⟨lb, 0, none⟩ = some (.slice A S.length c)) (h2 : w.cell? ⟨vb, 0, none⟩ = some (.int .i64 lev)) :
    Calls Tryz.prog 27 #[makerV g, .pointer (some ⟨lb, 0, none⟩), .pointer (some ⟨vb, 0, none⟩)] w (IxK (makeZ room l S lev) n0 g b room w) := by
  have hn0 := hix.hB
  have hal := (Below.refl w.heap.size w).alloc (Nat.le_refl _) (.cells #[.pointer (some ⟨g, 0, none⟩)] 64)
  have m0 : (w.alloc (.cells #[.pointer (some ⟨g, 0, none⟩)] 64)).cell? ⟨w.heap.size, 0, none⟩ = some (.pointer (some ⟨g, 0, none⟩)) := MR.c (heap_alloc_new w _)
  have k1 := Qt.keep hal h1
  have k2 := Qt.keep hal h2
  have hcall := makerMake_any room n0 g b l A S c lev _ (hix.below hal) hr ((Cel.Rd.below hS hal (Nat.le_refl _)).more hal.size) hSl hc
  have HB := Lib.hid (BelK.of hal hn0)
  generalize makeZ room l S lev = z at *
  obtain ⟨m, p, ee⟩ := z
  clear hix hr hS hal
  go_enter Tryz.func27, Tryz.ntmps27
  go_wp2_with fail
  refine hcall.mono ?_
  rintro e w1 ⟨rfl, hi1, hb1⟩
  have HI := Lib.hid hi1
  have HBF := Lib.hid (HB.out.trans hb1)
  clear hcall hi1 hb1 m0 k1 k2
  go_wp2_with fail
  go_ret2
  exact ⟨rfl, HI.out, HBF.out⟩
/-- what Make answers -/
def make7 (l : List Nd) (room : Int) (S : List (Int × Int)) (lev : Int) : List Nd × Int × Int := grown6 l room (makeZ room l S lev)
set_option maxHeartbeats 8000000 in
theorem make7_any (A : Option Addr) (l : List Nd) (c : Nat) (room : Int) (A' : Option Addr) (S : List (Int × Int)) (c' : Nat) (lev : Int) (w : World) (hR : RdN w w.heap.size A l) (hl : l.length ≤ 1000000) (hc : l.length ≤ c) (hS : RdC w w.heap.size A' S) (hSl : S.length ≤ 1000000) (hSc : S.length ≤ c') :
    Calls Tryz.prog 8 #[storeV A l.length c room, .slice A' S.length c', .int .i64 lev] w (PutR (make7 l room S lev) room w) := by
  have hal1 := (Below.refl w.heap.size w).alloc (Nat.le_refl _) (.cells #[.slice A l.length c, .int .i64 room] 26)
  have hal2 := hal1.alloc hal1.size (.cells #[.slice A' S.length c'] 29)
  have hal3 := hal2.alloc hal2.size (.cells #[.int .i64 lev] 3)
  have hal4 := hal3.alloc hal3.size (.cells #[.slice none 0 0, .int .i64 0] 26)
  have hz1 : (w.alloc (.cells #[.slice A l.length c, .int .i64 room] 26)).heap.size = w.heap.size + 1 := by simp
  have hz2 : ((w.alloc (.cells #[.slice A l.length c, .int .i64 room] 26)).alloc (.cells #[.slice A' S.length c'] 29)).heap.size = w.heap.size + 1 + 1 := by simp
  have hz3 : (((w.alloc (.cells #[.slice A l.length c, .int .i64 room] 26)).alloc (.cells #[.slice A' S.length c'] 29)).alloc (.cells #[.int .i64 lev] 3)).heap.size = w.heap.size + 1 + 1 + 1 := by simp
  have HH0 : WrAt w ((((w.alloc (.cells #[.slice A l.length c, .int .i64 room] 26)).alloc (.cells #[.slice A' S.length c'] 29)).alloc (.cells #[.int .i64 lev] 3)).alloc (.cells #[.slice none 0 0, .int .i64 0] 26)) A l.length c room (w.heap.size + 1 + 1 + 1) := ⟨heap_old (heap_old (heap_old (heap_new rfl))), heap_new hz3, hal4, by omega⟩
  have hs1 : ((((w.alloc (.cells #[.slice A l.length c, .int .i64 room] 26)).alloc (.cells #[.slice A' S.length c'] 29)).alloc (.cells #[.int .i64 lev] 3)).alloc (.cells #[.slice none 0 0, .int .i64 0] 26)).heap[w.heap.size + 1]? = some (.cells #[.slice A' S.length c'] 29 (0, 0)) := heap_old (heap_old (heap_new hz1))
  have hs2 : ((((w.alloc (.cells #[.slice A l.length c, .int .i64 room] 26)).alloc (.cells #[.slice A' S.length c'] 29)).alloc (.cells #[.int .i64 lev] 3)).alloc (.cells #[.slice none 0 0, .int .i64 0] 26)).heap[w.heap.size + 1 + 1]? = some (.cells #[.int .i64 lev] 3 (0, 0)) := heap_old (heap_new hz2)
  have hmf : ∀ (fn : Fn) (first cap : Array Value) (W : World), (Instr.makeFunc fn first cap).run Tryz.prog W = .ok (.func fn first cap) W := fun _ _ _ _ => rfl
  have hgr := made_any2 27 (enters_of Tryz.func27 (by kernel_rfl) rfl) (.pointer (some ⟨w.heap.size + 1, 0, none⟩)) (.pointer (some ⟨w.heap.size + 1 + 1, 0, none⟩)) (makeZ room l S lev) A l c room ((((w.alloc (.cells #[.slice A l.length c, .int .i64 room] 26)).alloc (.cells #[.slice A' S.length c'] 29)).alloc (.cells #[.int .i64 lev] 3)).alloc (.cells #[.slice none 0 0, .int .i64 0] 26)) ((hR.below HH0.bel (Nat.le_refl _)).more HH0.bel.size) hl hc
    (fun hr g b W hbW hix _ => makeClos_any room _ g b _ _ l A' S c' lev W hix (right_iff.1 hr) ((Cel.Rd.below ((Cel.Rd.below hS HH0.bel (Nat.le_refl _)).more HH0.bel.size) hbW (Nat.le_refl _)).more hbW.size) hSl hSc (by rw [Lib.cell_of_heap ((hbW.block _ (lt_heap6 hs1)).trans hs1)]; rfl) (by rw [Lib.cell_of_heap ((hbW.block _ (lt_heap6 hs2)).trans hs2)]; rfl))
  rw [show grown6 l room (makeZ room l S lev) = make7 l room S lev from rfl] at hgr
  unfold storeV PutR at hgr
  unfold storeV
  have HH := Lib.hid HH0
  have s0 := HH0.s0
  have s1 := HH0.s1
  clear HH0 hs1 hs2 hz1 hz2 hz3 hal1 hal2 hal3 hal4 hS hR
  generalize make7 l room S lev = z at *
  obtain ⟨m, q, ee⟩ := z
  simp only at hgr
  go_enter Tryz.func8, Tryz.ntmps8
  go_wp2_with fail
  refine hgr.mono ?_
  rintro e w1 ⟨v, rfl, ⟨B, d, rfl, hd, hN⟩, hb1⟩
  have H1 := HH.out.below hb1
  have r0 := H1.r0
  have r1 := H1.r1
  have f0 := H1.free 0
  have f1 := H1.free 1
  have ht := Lib.hid (H1.told (.slice B m.length d) (.int .i64 room))
  have hrd := Lib.hid (rdN_told (u := .slice B m.length d) (v := .int .i64 room) hN H1.res)
  clear hgr hb1 H1 hN s0 s1
  go_wp2
  refine bodyPost_ret (results_cell3 rfl _ _ _ _ _ _ _ rfl ht.out.1 Tryz.underlying26 rfl (by kernel_rfl)) rfl ?_
  exact ⟨_, rfl, ⟨B, d, rfl, hd, hrd.out.more (by simp [World.setCell])⟩, ht.out.2⟩

/-- what Maker.Set answers -/
def setZ (room : Int) (l : List Nd) (n : Int) (c : Int × Int) (a : Bool) : List Nd × Int × Int :=
  if hasB l n = true then (if insideB ((ndAt l n).1.toNat - 1) c = true then setC room (ndAt l n).1.toNat l n.toNat (inwardC ((ndAt l n).1.toNat - 1) c) a else (l, 0, 2)) else (l, 0, 1)
/-- a maker and a cell in boxes -/
structure McAt (n0 : Nat) (w W : World) (g b : Nat) (l : List Nd) (room : Int) (c : Int × Int) : Prop where
  ix : Ix n0 W g b l room
  mkr : MR W w.heap.size g
  cl : ClB W (w.heap.size + 1) c
  bel : BelK n0 w W
theorem McAt.below {n0 : Nat} {w W W' : World} {g b : Nat} {l : List Nd} {room : Int} {c : Int × Int} (h : McAt n0 w W g b l room c) (hn : n0 ≤ w.heap.size) (hb : Below W.heap.size W W') : McAt n0 w W' g b l room c :=
  ⟨h.ix.below hb, h.mkr.below hb, h.cl.below hb, h.bel.more hb hn⟩
theorem mcAt_0 {n0 : Nat} {w : World} {g b : Nat} {l : List Nd} {room : Int} (hix : Ix n0 w g b l room) (c : Int × Int) :
    McAt n0 w ((w.alloc (.cells #[.pointer (some ⟨g, 0, none⟩)] 64)).alloc (.cells #[.int .i64 c.1, .int .i64 c.2] 28)) g b l room c := by
  have hal1 := (Below.refl w.heap.size w).alloc (Nat.le_refl _) (.cells #[.pointer (some ⟨g, 0, none⟩)] 64)
  have hal2 := hal1.alloc hal1.size (.cells #[.int .i64 c.1, .int .i64 c.2] 28)
  have hs1 : (w.alloc (.cells #[.pointer (some ⟨g, 0, none⟩)] 64)).heap.size = w.heap.size + 1 := by simp
  exact ⟨hix.below hal2, heap_old (heap_new rfl), ⟨heap_new hs1⟩, .of hal2 hix.hB⟩
theorem ix_rd {n0 : Nat} {w : World} {g b : Nat} {l : List Nd} {room : Int} (h : Ix n0 w g b l room) (h2 : 2 ≤ l.length) : ∃ q cap, w.cell? ⟨g, 0, none⟩ = some (.slice (some ⟨q, 0, none⟩) l.length cap) ∧ w.cell? ⟨g, 1, none⟩ = some (.int .i64 room) ∧ RdN w w.heap.size (some ⟨q, 0, none⟩) l ∧ l.length ≤ cap ∧ ∀ j, j < l.length → NdAt w q (j * 6) (l.getD j deadN) := by
  obtain ⟨v, D, h⟩ := h
  obtain ⟨q, cap, rfl, hcap⟩ := ownN_val h.own (by omega)
  obtain ⟨A, c', e, _, hRd⟩ := h.own.reads
  injection e with e1 e2 e3
  subst e1
  refine ⟨q, cap, h.row.c0, h.row.c1, hRd, hcap, fun j hj => ?_⟩
  have := ownN_nd h.own j hj
  rwa [Nat.zero_add] at this
set_option maxHeartbeats 16000000 in
theorem makerSet_any (room : Int) (n0 g b : Nat) (l : List Nd) (n : Int) (c : Int × Int) (a : Bool) (w : World) (hix : Ix n0 w g b l room) (hr : Right6 l room) (hx : I64 c.1) (hy : I64 c.2) :
    Calls Tryz.prog 53 #[makerV g, .int .i64 n, cellV c, .bool a] w (IxK (setZ room l n c a) n0 g b room w) := by
  have hn0 := hix.hB
  have hM0 := mcAt_0 hix c
  obtain ⟨q, cap, g0, g1, hrd, hcap, hnd⟩ := ix_rd hM0.ix hr.two
  have m0 := hM0.mkr.c
  have hhs := hasSquare_any (some ⟨q, 0, none⟩) l cap room n _ hrd (by have := hr.small; omega)
  unfold storeV at hhs
  have HM := Lib.hid hM0
  obtain ⟨x, y⟩ := c
  dsimp only at hx hy
  cases hb : hasB l n with
  | false =>
    have hz : setZ room l n (x, y) a = (l, 0, 1) := by unfold setZ; rw [hb]; rfl
    rw [hz]
    rw [hb] at hhs
    clear hix hr hM0 hrd hnd hz hb
    go_enter Tryz.func53, Tryz.ntmps53
    go_wp2_with (go_at_call 35; refine hhs.mono ?_; rintro r w1 ⟨rfl, hb1⟩; have H1 := Lib.hid (HM.out.below hn0 hb1); clear hb1 hhs)
    go_ret2
    exact ⟨rfl, H1.out.ix, H1.out.bel⟩
  | true =>
    rw [hb] at hhs
    have hz : setZ room l n (x, y) a = if insideB ((ndAt l n).1.toNat - 1) (x, y) = true then setC room (ndAt l n).1.toNat l n.toNat (inwardC ((ndAt l n).1.toNat - 1) (x, y)) a else (l, 0, 2) := by unfold setZ; rw [hb]; rfl
    unfold hasB at hb
    rw [decide_eq_true_eq] at hb
    obtain ⟨h1, h2, h3⟩ := hb
    obtain ⟨k, rfl⟩ : ∃ k : Nat, n = (k : Int) := ⟨n.toNat, by omega⟩
    rw [ndAt_nat] at h3 hz
    have hbd := right_bd hr k (by omega)
    obtain ⟨e, he⟩ : ∃ e : Nat, (l.getD k deadN).1 = (e : Int) + 1 := ⟨((l.getD k deadN).1 - 1).toNat, by omega⟩
    have he41 : e ≤ 41 := by omega
    have hIs : Is l (e + 1) k := ⟨by omega, by rw [he]; omega⟩
    rw [he, show ((e : Int) + 1).toNat = e + 1 by omega, show e + 1 - 1 = e by omega, Int.toNat_natCast] at hz
    have hkz : (k : Int) < (l.length : Int) := by omega
    have HR := Lib.hid hr
    have HIS := Lib.hid hIs
    obtain ⟨z, hzz⟩ : ∃ z, z = setZ room l (k : Int) (x, y) a := ⟨_, rfl⟩
    rw [← hzz] at hz ⊢
    have HZ := Lib.hid hz
    clear hix hr hM0 hrd hnd hz hzz hIs h1 h2 h3 hbd
    go_enter Tryz.func53, Tryz.ntmps53
    go_wp2_with fail
    refine hhs.mono ?_
    rintro r w1 ⟨rfl, hb1⟩
    have H1 := Lib.hid (HM.out.below hn0 hb1)
    obtain ⟨q1, cap1, s0, s1, hrd1, hcap1, hnd1⟩ := ix_rd H1.out.ix HR.out.two
    have nx := (hnd1 k (by omega)).1
    rw [he] at nx
    have m1 := H1.out.mkr.c
    have d0 := H1.out.cl.c0
    have d1 := H1.out.cl.c1
    dsimp only at d0 d1
    clear hhs hb1 HM g0 g1 m0 hrd1 hnd1
    go_wp2_with fail
    have hwi := within_any e (by omega) (x, y) hx hy w1
    cases hin : insideB e (x, y) with
    | false =>
      rw [hin] at hwi
      have hz1 : z = (l, 0, 2) := by
        rw [HZ.out, hin]
        rfl
      subst hz1
      refine hwi.mono ?_
      rintro r w2 ⟨rfl, hb2⟩
      have H2 := Lib.hid (H1.out.below hn0 hb2)
      clear hwi hb2
      go_wp2_with fail
      go_ret2
      exact ⟨rfl, H2.out.ix, H2.out.bel⟩
    | true =>
      rw [hin] at hwi
      have hz := HZ.out
      rw [hin, if_pos rfl] at hz
      have HZ2 := Lib.hid hz
      clear hz
      have hbd := inward_bd (by omega) hin
      have hpb := (pow_bd7 (e := e + 1) (by omega)).2
      obtain ⟨u, hu⟩ : ∃ u : Nat, (inwardC e (x, y)).1 = (u : Int) := ⟨(inwardC e (x, y)).1.toNat, by omega⟩
      obtain ⟨v, hv⟩ : ∃ v : Nat, (inwardC e (x, y)).2 = (v : Int) := ⟨(inwardC e (x, y)).2.toNat, by omega⟩
      have hcc : inwardC e (x, y) = ((u : Int), (v : Int)) := by rw [← hu, ← hv]
      have hz := HZ2.out
      rw [hcc] at hz
      have huv : x + 2 ^ e = (u : Int) ∧ y + 2 ^ e = (v : Int) := ⟨hu, hv⟩
      refine hwi.mono ?_
      rintro r w2 ⟨rfl, hb2⟩
      have H2 := Lib.hid (H1.out.below hn0 hb2)
      have hput := fun W hi => put7_any room n0 g b (e + 1) (by omega) l k u v a W hi HR.out HIS.out (by generalize (2 : Int) ^ (e + 1) = p at *; omega) (by generalize (2 : Int) ^ (e + 1) = p at *; omega)
      rw [← hz] at hput
      obtain ⟨m, p, ee⟩ := z
      have HP := Lib.hid hput
      have HIN := Lib.hid hin
      have HCC := Lib.hid hcc
      clear hwi hb2 hput hz HZ HZ2 hin hbd hpb s0 s1 nx m1 d0 d1 hcc
      go_wp2_with fail
      refine region_calm_to (fun W' => MR W' w.heap.size g ∧ ClB W' (w.heap.size + 1) (x, y)) (fun (a0 a9 : Act) (w9 : World) => a9 = ((((((((((((a0.put (some 33) (makerV g)).put (some 34) (.int .i64 (k : Int))).put (some 35) (.agg #[.int .i64 x, .int .i64 y])).put (some 36) (.int .i64 ((e : Int) + 1))).put (some 37) (.agg #[.int .i64 (u : Int), .int .i64 (v : Int)])).put (some 38) (.bool a)).put (some 39) (.tuple #[.int .i64 p, .int .i64 ee])).put (some 40) (.int .i64 p)).put (some 41) (.int .i64 ee)).put (some 8) (.int .i64 p)).put (some 9) (.int .i64 ee))) ∧ Ix n0 w9 g b m room ∧ BelK n0 w w9) (.calm 0 (.calm 1 (.calm 2 (.calm 3 (.calm 5 (.only 4 (.only 6 (.calm 7 (.calm 8 (.calm 9 (.calm 10 .done))))))))))) (by kernel_rfl) (by kernel_rfl) (by kernel_rfl) (by rfl) ⟨H2.out.mkr.below (below_drew w2), H2.out.cl.below (below_drew w2)⟩ ?_ ?_
      · skip
        refine ⟨_, _, (makerV g), rfl, rfl, ⟨rfl, fun W9 hW => by have q9 := hW.1.c; simp only [execOp]; go_simp; done⟩, ?_⟩
        simp only [Act.put, List.setIfInBounds_toArray, List.set_cons_succ, List.set_cons_zero]
        refine ⟨_, _, (.int .i64 (k : Int)), rfl, rfl, ⟨rfl, fun W9 hW => by first | exact ⟨rfl, rfl⟩ | (simp only [Act.eval, execOp]; go_simp; try exact ⟨rfl, rfl⟩)⟩, ?_⟩
        simp only [Act.put, List.setIfInBounds_toArray, List.set_cons_succ, List.set_cons_zero]
        refine ⟨_, _, (.agg #[.int .i64 x, .int .i64 y]), rfl, rfl, ⟨rfl, fun W9 hW => by have q9 := hW.2.c0; have q8 := hW.2.c1; dsimp only at q9 q8; simp only [execOp]; go_simp; done⟩, ?_⟩
        simp only [Act.put, List.setIfInBounds_toArray, List.set_cons_succ, List.set_cons_zero]
        refine ⟨_, _, (.int .i64 ((e : Int) + 1)), rfl, rfl, ⟨rfl, fun W9 hW => by first | exact ⟨rfl, rfl⟩ | (simp only [Act.eval, execOp]; go_simp; try exact ⟨rfl, rfl⟩)⟩, ?_⟩
        simp only [Act.put, List.setIfInBounds_toArray, List.set_cons_succ, List.set_cons_zero]
        refine ⟨_, _, (.bool a), rfl, rfl, ⟨rfl, fun W9 hW => by first | exact ⟨rfl, rfl⟩ | (simp only [Act.eval, execOp]; go_simp; try exact ⟨rfl, rfl⟩)⟩, ?_⟩
        simp only [Act.put, List.setIfInBounds_toArray, List.set_cons_succ, List.set_cons_zero]
        refine ⟨_, rfl, ?_⟩
        have hiw := inward_any e (by omega) (x, y) HIN.out w2.drew
        rw [HCC.out] at hiw
        go_wp2_with fail
        refine hiw.mono ?_
        rintro r w3 ⟨rfl, hb3⟩
        have H3 := (H2.out.below hn0 (below_drew w2)).below hn0 hb3
        clear hiw hb3
        go_wp2_with fail
        refine ⟨rfl, ⟨H3.mkr, H3.cl⟩, ?_⟩
        refine ⟨_, rfl, ?_⟩
        go_wp2_with fail
        refine (HP.out w3 H3.ix).mono ?_
        rintro r w4 ⟨rfl, hi4, hb4⟩
        have hC4 := And.intro (H3.mkr.kp hb4.kp) (H3.cl.kp hb4.kp)
        have hB4 := H3.bel.trans hb4
        clear hb4
        go_wp2_with fail
        refine ⟨rfl, hC4, ?_⟩
        refine ⟨_, _, (.int .i64 p), rfl, rfl, ⟨rfl, fun W9 hW => by first | exact ⟨rfl, rfl⟩ | (simp only [Act.eval, execOp]; go_simp; try exact ⟨rfl, rfl⟩)⟩, ?_⟩
        simp only [Act.put, List.setIfInBounds_toArray, List.set_cons_succ, List.set_cons_zero]
        refine ⟨_, _, (.int .i64 ee), rfl, rfl, ⟨rfl, fun W9 hW => by first | exact ⟨rfl, rfl⟩ | (simp only [Act.eval, execOp]; go_simp; try exact ⟨rfl, rfl⟩)⟩, ?_⟩
        simp only [Act.put, List.setIfInBounds_toArray, List.set_cons_succ, List.set_cons_zero]
        refine ⟨_, _, (.int .i64 p), rfl, rfl, ⟨rfl, fun W9 hW => by first | exact ⟨rfl, rfl⟩ | (simp only [Act.eval, execOp]; go_simp; try exact ⟨rfl, rfl⟩)⟩, ?_⟩
        simp only [Act.put, List.setIfInBounds_toArray, List.set_cons_succ, List.set_cons_zero]
        refine ⟨_, _, (.int .i64 ee), rfl, rfl, ⟨rfl, fun W9 hW => by first | exact ⟨rfl, rfl⟩ | (simp only [Act.eval, execOp]; go_simp; try exact ⟨rfl, rfl⟩)⟩, ?_⟩
        simp only [Act.put, List.setIfInBounds_toArray, List.set_cons_succ, List.set_cons_zero]
        refine ⟨?_, hi4, hB4⟩
        first | rfl | simp only [Act.put, List.setIfInBounds_toArray, List.set_cons_succ, List.set_cons_zero]
      rintro a9 w9 ⟨rfl, hi9, hb9⟩
      simp only [Act.put, List.setIfInBounds_toArray, List.set_cons_succ, List.set_cons_zero]
      have HI := Lib.hid hi9
      have HB := Lib.hid hb9
      clear hi9 hb9
      go_wp2_with fail
      go_ret2
      exact ⟨rfl, HI.out, HB.out⟩
end Go.Proofs.YtmmaeikeafemaaaGreat
namespace Go.Proofs.YtmmaeikeafemaaaGreat
set_option maxRecDepth 100000
set_option linter.unusedVariables false
set_option linter.unusedSimpArgs false
open Go.RowKit Go.Sort

set_option maxHeartbeats 4000000 in
theorem setClos_any (room : Int) (n0 g b nb cb ab : Nat) (l : List Nd) (n : Int) (c : Int × Int) (a : Bool) (w : World) (hix : Ix n0 w g b l room) (hr : Right6 l room) (hx : I64 c.1) (hy : I64 c.2) (h1 : w.cell? ⟨nb, 0, none⟩ = some (.int .i64 n)) (h2 : ClB w cb c) (h3 : w.cell? ⟨ab, 0, none⟩ = some (.bool a)) :
    Calls Tryz.prog 52 #[makerV g, .pointer (some ⟨nb, 0, none⟩), .pointer (some ⟨cb, 0, none⟩), .pointer (some ⟨ab, 0, none⟩)] w (IxK (setZ room l n c a) n0 g b room w) := by
  have hn0 := hix.hB
  have hal := (Below.refl w.heap.size w).alloc (Nat.le_refl _) (.cells #[.pointer (some ⟨g, 0, none⟩)] 64)
  have m0 : (w.alloc (.cells #[.pointer (some ⟨g, 0, none⟩)] 64)).cell? ⟨w.heap.size, 0, none⟩ = some (.pointer (some ⟨g, 0, none⟩)) := MR.c (heap_alloc_new w _)
  have k1 := Qt.keep hal h1
  have k2 := Qt.keep hal h2.c0
  have k3 := Qt.keep hal h2.c1
  have k4 := Qt.keep hal h3
  have hcall := makerSet_any room n0 g b l n c a _ (hix.below hal) hr hx hy
  have HB := Lib.hid (BelK.of hal hn0)
  generalize setZ room l n c a = z at *
  obtain ⟨m, p, ee⟩ := z
  obtain ⟨x, y⟩ := c
  dsimp only at k2 k3
  clear hix hr hal h1 h2 h3 hx hy
  go_enter Tryz.func52, Tryz.ntmps52
  go_wp2_with fail
  refine hcall.mono ?_
  rintro e w1 ⟨rfl, hi1, hb1⟩
  have HI := Lib.hid hi1
  have HBF := Lib.hid (HB.out.trans hb1)
  clear hcall hi1 hb1 m0 k1 k2 k3 k4
  go_wp2_with fail
  go_ret2
  exact ⟨rfl, HI.out, HBF.out⟩
/-- what Set answers -/
def set7 (l : List Nd) (room n : Int) (c : Int × Int) (a : Bool) : List Nd × Int × Int := grown6 l room (setZ room l n c a)
set_option maxHeartbeats 8000000 in
theorem set7_any (A : Option Addr) (l : List Nd) (c : Nat) (room : Int) (n : Int) (k : Int × Int) (a : Bool) (w : World) (hR : RdN w w.heap.size A l) (hl : l.length ≤ 1000000) (hc : l.length ≤ c) (hx : I64 k.1) (hy : I64 k.2) :
    Calls Tryz.prog 20 #[storeV A l.length c room, .int .i64 n, cellV k, .bool a] w (PutR (set7 l room n k a) room w) := by
  have hal0 := Below.refl w.heap.size w
  have hal1 := hal0.alloc hal0.size (.cells #[.slice A l.length c, .int .i64 room] 26)
  have hz1 : (w.alloc (.cells #[.slice A l.length c, .int .i64 room] 26)).heap.size = w.heap.size + 1 := by simp
  have hal2 := hal1.alloc hal1.size (.cells #[.int .i64 n] 3)
  have hz2 : ((w.alloc (.cells #[.slice A l.length c, .int .i64 room] 26)).alloc (.cells #[.int .i64 n] 3)).heap.size = w.heap.size + 1 + 1 := by simp
  have hal3 := hal2.alloc hal2.size (.cells #[.int .i64 k.1, .int .i64 k.2] 28)
  have hz3 : (((w.alloc (.cells #[.slice A l.length c, .int .i64 room] 26)).alloc (.cells #[.int .i64 n] 3)).alloc (.cells #[.int .i64 k.1, .int .i64 k.2] 28)).heap.size = w.heap.size + 1 + 1 + 1 := by simp
  have hal4 := hal3.alloc hal3.size (.cells #[.bool a] 4)
  have hz4 : ((((w.alloc (.cells #[.slice A l.length c, .int .i64 room] 26)).alloc (.cells #[.int .i64 n] 3)).alloc (.cells #[.int .i64 k.1, .int .i64 k.2] 28)).alloc (.cells #[.bool a] 4)).heap.size = w.heap.size + 1 + 1 + 1 + 1 := by simp
  have hal5 := hal4.alloc hal4.size (.cells #[.slice none 0 0, .int .i64 0] 26)
  have HH0 : WrAt w (((((w.alloc (.cells #[.slice A l.length c, .int .i64 room] 26)).alloc (.cells #[.int .i64 n] 3)).alloc (.cells #[.int .i64 k.1, .int .i64 k.2] 28)).alloc (.cells #[.bool a] 4)).alloc (.cells #[.slice none 0 0, .int .i64 0] 26)) A l.length c room (w.heap.size + 1 + 1 + 1 + 1) := ⟨heap_old (heap_old (heap_old (heap_old (heap_new rfl)))), heap_new hz4, hal5, by omega⟩
  have hs1 : (((((w.alloc (.cells #[.slice A l.length c, .int .i64 room] 26)).alloc (.cells #[.int .i64 n] 3)).alloc (.cells #[.int .i64 k.1, .int .i64 k.2] 28)).alloc (.cells #[.bool a] 4)).alloc (.cells #[.slice none 0 0, .int .i64 0] 26)).heap[w.heap.size + 1]? = some (.cells #[.int .i64 n] 3 (0, 0)) := heap_old (heap_old (heap_old (heap_new hz1)))
  have hs2 : (((((w.alloc (.cells #[.slice A l.length c, .int .i64 room] 26)).alloc (.cells #[.int .i64 n] 3)).alloc (.cells #[.int .i64 k.1, .int .i64 k.2] 28)).alloc (.cells #[.bool a] 4)).alloc (.cells #[.slice none 0 0, .int .i64 0] 26)).heap[w.heap.size + 1 + 1]? = some (.cells #[.int .i64 k.1, .int .i64 k.2] 28 (0, 0)) := heap_old (heap_old (heap_new hz2))
  have hs3 : (((((w.alloc (.cells #[.slice A l.length c, .int .i64 room] 26)).alloc (.cells #[.int .i64 n] 3)).alloc (.cells #[.int .i64 k.1, .int .i64 k.2] 28)).alloc (.cells #[.bool a] 4)).alloc (.cells #[.slice none 0 0, .int .i64 0] 26)).heap[w.heap.size + 1 + 1 + 1]? = some (.cells #[.bool a] 4 (0, 0)) := heap_old (heap_new hz3)
  have hmf : ∀ (fn : Fn) (first cap : Array Value) (W : World), (Instr.makeFunc fn first cap).run Tryz.prog W = .ok (.func fn first cap) W := fun _ _ _ _ => rfl
  have hgr := made_any3 52 (enters_of Tryz.func52 (by kernel_rfl) rfl) (.pointer (some ⟨w.heap.size + 1, 0, none⟩)) (.pointer (some ⟨w.heap.size + 1 + 1, 0, none⟩)) (.pointer (some ⟨w.heap.size + 1 + 1 + 1, 0, none⟩)) (setZ room l n k a) A l c room (((((w.alloc (.cells #[.slice A l.length c, .int .i64 room] 26)).alloc (.cells #[.int .i64 n] 3)).alloc (.cells #[.int .i64 k.1, .int .i64 k.2] 28)).alloc (.cells #[.bool a] 4)).alloc (.cells #[.slice none 0 0, .int .i64 0] 26)) ((hR.below HH0.bel (Nat.le_refl _)).more HH0.bel.size) hl hc
    (fun hr g b W hbW hix _ => setClos_any room _ g b _ _ _ l n k a W hix (right_iff.1 hr) hx hy (by rw [Lib.cell_of_heap ((hbW.block _ (lt_heap6 hs1)).trans hs1)]; rfl) ⟨(hbW.block _ (lt_heap6 hs2)).trans hs2⟩ (by rw [Lib.cell_of_heap ((hbW.block _ (lt_heap6 hs3)).trans hs3)]; rfl))
  rw [show grown6 l room (setZ room l n k a) = set7 l room n k a from rfl] at hgr
  unfold storeV PutR at hgr
  unfold storeV
  have HH := Lib.hid HH0
  have s0 := HH0.s0
  have s1 := HH0.s1
  clear HH0 hR hal0 hal1 hal2 hal3 hal4 hal5 hz1 hz2 hz3 hz4 hs1 hs2 hs3
  generalize set7 l room n k a = z at *
  obtain ⟨m, q, ee⟩ := z
  simp only at hgr
  go_enter Tryz.func20, Tryz.ntmps20
  go_wp2_with fail
  refine hgr.mono ?_
  rintro e w1 ⟨v, rfl, ⟨B, d, rfl, hd, hN⟩, hb1⟩
  have H1 := HH.out.below hb1
  have r0 := H1.r0
  have r1 := H1.r1
  have f0 := H1.free 0
  have f1 := H1.free 1
  have ht := Lib.hid (H1.told (.slice B m.length d) (.int .i64 room))
  have hrd := Lib.hid (rdN_told (u := .slice B m.length d) (v := .int .i64 room) hN H1.res)
  clear hgr hb1 H1 hN s0 s1
  go_wp2
  refine bodyPost_ret (results_cell3 rfl _ _ _ _ _ _ _ rfl ht.out.1 Tryz.underlying26 rfl (by kernel_rfl)) rfl ?_
  exact ⟨_, rfl, ⟨B, d, rfl, hd, hrd.out.more (by simp [World.setCell])⟩, ht.out.2⟩

/-! ### Grow -/
/-- what Maker.Grow answers -/
def growZ (room : Int) (l : List Nd) (n : Int) : List Nd × Int × Int :=
  if (hasB l n && decide (¬ (ndAt l n).1 = 42)) = true then growC room l n.toNat ((ndAt l n).1.toNat - 1) else (l, 0, 1)
/-- what is in boxes while a node is grown: a dead node's place, the node -/
structure GcAt (W : World) (db xb mb g : Nat) (d lev : Int) (k : Kd) (pop : Int) : Prop where
  dead : LR W db d
  nd : NR W xb lev k pop
  mkr : MR W mb g
theorem GcAt.kp {W W' : World} {db xb mb g : Nat} {d lev : Int} {k : Kd} {pop : Int} (h : GcAt W db xb mb g d lev k pop) (hk : Kp W W') : GcAt W' db xb mb g d lev k pop := ⟨h.dead.kp hk, h.nd.kp hk, h.mkr.kp hk⟩
theorem GcAt.below {W W' : World} {db xb mb g : Nat} {d lev : Int} {k : Kd} {pop : Int} (h : GcAt W db xb mb g d lev k pop) (hb : Below W.heap.size W W') : GcAt W' db xb mb g d lev k pop := ⟨h.dead.below hb, h.nd.below hb, h.mkr.below hb⟩
set_option maxHeartbeats 8000000 in
theorem growClos_any (room : Int) (n0 g b db xb mb : Nat) (l : List Nd) (d lev : Int) (k : Kd) (pop : Int) {i : Nat} (hi : i < 4) (w : World) (hix : Ix n0 w g b l room) (hr : Right6 l room) (h : GcAt w db xb mb g d lev k pop) :
    Calls Tryz.prog 79 #[.int .i64 (i : Nat), .pointer (some ⟨db, 0, none⟩), .pointer (some ⟨xb, 0, none⟩), .pointer (some ⟨mb, 0, none⟩)] w (IxK (put6 l room (growK k d i)) n0 g b room w) := by
  have hn0 := hix.hB
  have hal := (Below.refl w.heap.size w).alloc (Nat.le_refl _) (.cells #[.int .i64 d, .int .i64 d, .int .i64 d, .int .i64 d] 55)
  have hKR : KR (w.alloc (.cells #[.int .i64 d, .int .i64 d, .int .i64 d, .int .i64 d] 55)) w.heap.size (d, d, d, d) := heap_alloc_new w _
  have hset := hKR.set (j := 3 - i) (by omega) (kd k i)
  have hix2 := (hix.below hal).setOff hr.two hKR ⟨.inl (by decide), by decide⟩ (3 - i) (.int .i64 (kd k i))
  have hB2 := (BelK.of hal hn0).setNew (kb := w.heap.size) (Nat.le_refl _) hn0 (3 - i) (.int .i64 (kd k i))
  have hm2 : MR ((w.alloc (.cells #[.int .i64 d, .int .i64 d, .int .i64 d, .int .i64 d] 55)).setCell ⟨w.heap.size, 3 - i, none⟩ (.int .i64 (kd k i))) mb g := h.mkr.kp hB2.kp
  have hcall := intern_anyK n0 g b l room (growK k d i) _ hix2 hr
  unfold kidsV at hcall
  have hgk : kset (d, d, d, d) (3 - i) (kd k i) = growK k d i := rfl
  rw [hgk] at hset
  have d0 := h.dead.c
  have hg := h.below hal
  have d0a := hg.dead.c
  have x0 := hg.nd.kid hi
  have c0 := hKR.c (j := 3 - i) (by omega)
  have f0 : (w.alloc (.cells #[.int .i64 d, .int .i64 d, .int .i64 d, .int .i64 d] 55)).frozen? ⟨w.heap.size, 3 - i, none⟩ = false := Lib.frozen_of_heap hKR (3 - i)
  have y0 := hset.c (j := 0) (by decide)
  have y1 := hset.c (j := 1) (by decide)
  have y2 := hset.c (j := 2) (by decide)
  have y3 := hset.c (j := 3) (by decide)
  have m0 := hm2.c
  have HB := Lib.hid hB2
  generalize growK k d i = gk at *
  generalize kd k i = kv at *
  simp only [kd] at y0 y1 y2 y3
  obtain ⟨j, hj⟩ : ∃ j, j = 3 - i := ⟨_, rfl⟩
  have hjz : (3 : Int) - (i : Int) = (j : Int) := by omega
  have hwz : IntKind.i64.wrap ((3 : Int) - (i : Int)) = (j : Int) := by rw [IntKind.wrap_i64]; omega
  rw [← hj] at hcall c0 f0 y0 y1 y2 y3 m0 HB
  have hj4 : (j : Int) < 4 := by omega
  have hi4 : (i : Int) < 4 := by omega
  have hfold : ((w.alloc (.cells #[.int .i64 d, .int .i64 d, .int .i64 d, .int .i64 d] 55)).setCell ⟨w.heap.size, j, none⟩ (.int .i64 kv)) = w.alloc (.cells ([Value.int .i64 d, .int .i64 d, .int .i64 d, .int .i64 d].set j (.int .i64 kv)).toArray 55) := by
    rw [World.setCell_alloc_new]
    simp
  rw [hfold] at hcall y0 y1 y2 y3 m0 HB
  generalize put6 l room gk = z at *
  obtain ⟨m, p, ee⟩ := z
  clear hix hr h hal hKR hset hix2 hB2 hm2 hgk hg hj hfold
  go_enter Tryz.func79, Tryz.ntmps79
  go_wp2_with fail
  refine hcall.mono ?_
  rintro e w1 ⟨rfl, hi1, hb1⟩
  have HI := Lib.hid hi1
  have HBF := Lib.hid (HB.out.trans hb1)
  clear hcall hi1 hb1 d0 d0a x0 c0 f0 y0 y1 y2 y3 m0
  go_wp2_with fail
  go_ret2
  exact ⟨rfl, HI.out, HBF.out⟩
end Go.Proofs.YtmmaeikeafemaaaGreat
namespace Go.Proofs.YtmmaeikeafemaaaGreat
set_option maxRecDepth 100000
set_option linter.unusedVariables false
set_option linter.unusedSimpArgs false
open Go.RowKit Go.Sort

/-- a maker in a box -/
structure MiAt (n0 : Nat) (w W : World) (g b : Nat) (l : List Nd) (room : Int) : Prop where
  ix : Ix n0 W g b l room
  mkr : MR W w.heap.size g
  bel : BelK n0 w W
theorem MiAt.below {n0 : Nat} {w W W' : World} {g b : Nat} {l : List Nd} {room : Int} (h : MiAt n0 w W g b l room) (hn : n0 ≤ w.heap.size) (hb : Below W.heap.size W W') : MiAt n0 w W' g b l room :=
  ⟨h.ix.below hb, h.mkr.below hb, h.bel.more hb hn⟩
theorem MiAt.kp {n0 : Nat} {w W W' : World} {g b : Nat} {l l' : List Nd} {room : Int} (h : MiAt n0 w W g b l room) (hi : Ix n0 W' g b l' room) (hb : BelK n0 W W') : MiAt n0 w W' g b l' room := ⟨hi, h.mkr.kp hb.kp, h.bel.trans hb⟩
theorem miAt_0 {n0 : Nat} {w : World} {g b : Nat} {l : List Nd} {room : Int} (hix : Ix n0 w g b l room) : MiAt n0 w (w.alloc (.cells #[.pointer (some ⟨g, 0, none⟩)] 64)) g b l room := by
  have hal1 := (Below.refl w.heap.size w).alloc (Nat.le_refl _) (.cells #[.pointer (some ⟨g, 0, none⟩)] 64)
  exact ⟨hix.below hal1, heap_new rfl, .of hal1 hix.hB⟩
set_option maxHeartbeats 16000000 in
theorem makerGrow_any (room : Int) (n0 g b : Nat) (l : List Nd) (n : Int) (w : World) (hix : Ix n0 w g b l room) (hr : Right6 l room) :
    Calls Tryz.prog 46 #[makerV g, .int .i64 n] w (IxK (growZ room l n) n0 g b room w) := by
  have hn0 := hix.hB
  have hM0 := miAt_0 hix
  obtain ⟨q, cap, g0, g1, hrd, hcap, hnd⟩ := ix_rd hM0.ix hr.two
  have m0 := hM0.mkr.c
  have hhs := hasSquare_any (some ⟨q, 0, none⟩) l cap room n _ hrd (by have := hr.small; omega)
  unfold storeV at hhs
  have HM := Lib.hid hM0
  cases hb : hasB l n with
  | false =>
    have hz : growZ room l n = (l, 0, 1) := by unfold growZ; rw [hb]; rfl
    rw [hz]
    rw [hb] at hhs
    clear hix hr hM0 hrd hnd hz hb
    go_enter Tryz.func46, Tryz.ntmps46
    go_wp2_with (go_at_call 35; refine hhs.mono ?_; rintro r w1 ⟨rfl, hb1⟩; have H1 := Lib.hid (HM.out.below hn0 hb1); clear hb1 hhs)
    go_ret2
    exact ⟨rfl, H1.out.ix, H1.out.bel⟩
  | true =>
    rw [hb] at hhs
    have hz : growZ room l n = if ¬ (ndAt l n).1 = 42 then growC room l n.toNat ((ndAt l n).1.toNat - 1) else (l, 0, 1) := by
      unfold growZ
      rw [hb, Bool.true_and]
      by_cases h : (ndAt l n).1 = 42
      · rw [if_neg (by simp [h]), if_neg (by simp [h])]
      · rw [if_pos (by simp [h]), if_pos h]
    unfold hasB at hb
    rw [decide_eq_true_eq] at hb
    obtain ⟨h1, h2, h3⟩ := hb
    obtain ⟨k, rfl⟩ : ∃ k : Nat, n = (k : Int) := ⟨n.toNat, by omega⟩
    rw [ndAt_nat] at h3 hz
    have hbd := right_bd hr k (by omega)
    obtain ⟨e, he⟩ : ∃ e : Nat, (l.getD k deadN).1 = (e : Int) + 1 := ⟨((l.getD k deadN).1 - 1).toNat, by omega⟩
    have he41 : e ≤ 41 := by omega
    rw [he, show ((e : Int) + 1).toNat = e + 1 by omega, show e + 1 - 1 = e by omega, Int.toNat_natCast] at hz
    have hkz : (k : Int) < (l.length : Int) := by omega
    have HR := Lib.hid hr
    obtain ⟨z, hzz⟩ : ∃ z, z = growZ room l (k : Int) := ⟨_, rfl⟩
    rw [← hzz] at hz ⊢
    have HZ := Lib.hid hz
    have HE := Lib.hid he
    clear hix hr hM0 hrd hnd hz hzz h1 h2 h3 hbd he
    by_cases h42 : e = 41
    · subst h42
      have hz1 : z = (l, 0, 1) := by rw [HZ.out, if_neg (by simp)]
      subst hz1
      go_enter Tryz.func46, Tryz.ntmps46
      go_wp2_with fail
      refine hhs.mono ?_
      rintro r w1 ⟨rfl, hb1⟩
      have H1 := Lib.hid (HM.out.below hn0 hb1)
      obtain ⟨q1, cap1, s0, s1, hrd1, hcap1, hnd1⟩ := ix_rd H1.out.ix HR.out.two
      have nx := (hnd1 k (by omega)).1
      rw [HE.out] at nx
      have nx : w1.cell? ⟨q1, k * 6, none⟩ = some (.int .i64 42) := nx
      have m1 := H1.out.mkr.c
      clear hhs hb1 HM g0 g1 m0 hrd1 hnd1
      go_wp2_with fail
      go_ret2
      exact ⟨rfl, H1.out.ix, H1.out.bel⟩
    · have hz1 : z = growC room l k e := by rw [HZ.out, if_pos (by omega)]
      unfold growC at hz1
      have h42a : ¬ (e : Int) + 1 = 42 := by omega
      have h42b : (((e : Int) + 1) == 42) = false := beq_eq_false_iff_ne.2 (by omega)
      have her := emptyTo_right7 (room := room) HR.out e
      have hie : ixEmpty l room (e : Int) = emptyTo l room e := by unfold ixEmpty; rw [if_pos (by omega), Int.toNat_natCast]
      have HIE := Lib.hid hie
      have HZ1 := Lib.hid hz1
      have HER := Lib.hid her
      clear hz1 her hie HZ
      go_enter Tryz.func46, Tryz.ntmps46
      go_wp2_with fail
      refine hhs.mono ?_
      rintro r w1 ⟨rfl, hb1⟩
      have H1 := HM.out.below hn0 hb1
      obtain ⟨q1, cap1, s0, s1, hrd1, hcap1, hnd1⟩ := ix_rd H1.ix HR.out.two
      obtain ⟨x0, x1, x2, x3, x4, x5⟩ := hnd1 k (by omega)
      rw [HE.out] at x0
      have m1 := H1.mkr.c
      obtain ⟨⟨lv, kk, pp⟩, hnode⟩ : ∃ x, x = l.getD k deadN := ⟨_, rfl⟩
      rw [← hnode] at x1 x2 x3 x4 x5
      dsimp only at x1 x2 x3 x4 x5
      have hal := (Below.refl w1.heap.size w1).alloc (Nat.le_refl _) (.cells #[.int .i64 ((e : Int) + 1), .int .i64 kk.1, .int .i64 kk.2.1, .int .i64 kk.2.2.1, .int .i64 kk.2.2.2, .int .i64 pp] 57)
      have H2 := Lib.hid (H1.below hn0 hal)
      have hn2 : NR (w1.alloc (.cells #[.int .i64 ((e : Int) + 1), .int .i64 kk.1, .int .i64 kk.2.1, .int .i64 kk.2.2.1, .int .i64 kk.2.2.2, .int .i64 pp] 57)) w1.heap.size ((e : Int) + 1) kk pp := heap_alloc_new w1 _
      have HN2 := Lib.hid hn2
      have l0 := hn2.lev_
      have m2 := H2.out.mkr.c
      have hwe : IntKind.i64.wrap (e : Int) = (e : Int) := by rw [IntKind.wrap_i64]; omega
      have HND := Lib.hid hnode
      clear hhs hb1 HM g0 g1 m0 hrd1 hnd1 H1 hal hn2 hnode
      go_wp2_with fail
      clear s0 s1 x0 x1 x2 x3 x4 x5 m1 l0 m2
      generalize (w1.alloc (.cells #[.int .i64 ((e : Int) + 1), .int .i64 kk.1, .int .i64 kk.2.1, .int .i64 kk.2.2.1, .int .i64 kk.2.2.2, .int .i64 pp] 57)) = w2 at *
      generalize w1.heap.size = xb at *
      have hem := ixEmpty_anyK n0 g b l room (e : Int) w2 H2.out.ix HR.out H2.out.ix.hB
      rw [HIE.out] at hem
      obtain ⟨⟨m, p, ee⟩, hzz⟩ : ∃ y, y = emptyTo l room e := ⟨_, rfl⟩
      rw [← hzz] at hem
      have HZZ := Lib.hid hzz
      clear hzz
      refine hem.mono ?_
      rintro r w3 ⟨rfl, hi3, hb3⟩
      dsimp only at hi3
      have H3 := H2.out.kp hi3 hb3
      have hal := (Below.refl w3.heap.size w3).alloc (Nat.le_refl _) (.cells #[.int .i64 p] 3)
      have H4 := Lib.hid (H3.below hn0 hal)
      have hrm : Right6 m room := by have := HER.out; rw [← HZZ.out] at this; exact this
      have hG : GcAt (w3.alloc (.cells #[.int .i64 p] 3)) w3.heap.size xb w.heap.size g p ((e : Int) + 1) kk pp := ⟨heap_alloc_new w3 _, (HN2.out.kp hb3.kp).below hal, H4.out.mkr⟩
      have HG := Lib.hid hG
      have HRM := Lib.hid hrm
      clear hem hi3 hb3 H3 hal hG hrm
      by_cases hee : ee = 0
      · subst hee
        have hz1 := HZ1.out
        rw [← HZZ.out, if_pos rfl] at hz1
        dsimp only at hz1
        have hof := of_any 79 (enters_of Tryz.func79 (by kernel_rfl) rfl) (.pointer (some ⟨w3.heap.size, 0, none⟩)) (.pointer (some ⟨xb, 0, none⟩)) (.pointer (some ⟨w.heap.size, 0, none⟩)) (fun i l' => put6 l' room (growK kk p i)) n0 g b m room _ H4.out.ix HRM.out (fun i l' _ h' => put_right h' _)
          (fun i hi l' W hr' hix' hb => growClos_any room n0 g b _ _ _ l' p _ kk pp hi W hix' hr' (HG.out.kp hb.kp))
        have hkk : (l.getD k deadN).2.1 = kk := by rw [← HND.out]
        rw [hkk] at hz1
        rw [← hz1] at hof
        have m4 := H4.out.mkr.c
        have hmf : ∀ (fn : Fn) (first cap : Array Value) (W : World), (Instr.makeFunc fn first cap).run Tryz.prog W = .ok (.func fn first cap) W := fun _ _ _ _ => rfl
        obtain ⟨m9, p9, e9⟩ := z
        clear hz1 hkk HZ1
        go_wp2_with fail
        refine hof.mono ?_
        rintro r w5 ⟨rfl, hi5, hb5⟩
        have HI := Lib.hid hi5
        have HBF := Lib.hid (H4.out.bel.trans hb5)
        clear hof hi5 hb5 m4 hmf
        go_wp2_with fail
        go_ret2
        exact ⟨rfl, HI.out, HBF.out⟩
      · have hz1 : z = (m, 0, ee) := by
          rw [HZ1.out, ← HZZ.out, if_neg hee]
        subst hz1
        clear HZ1
        go_wp2_with fail
        go_ret2
        exact ⟨rfl, H4.out.ix, H4.out.bel⟩
set_option maxHeartbeats 4000000 in
theorem growClos7_any (room : Int) (n0 g b nb : Nat) (l : List Nd) (n : Int) (w : World) (hix : Ix n0 w g b l room) (hr : Right6 l room) (h1 : w.cell? ⟨nb, 0, none⟩ = some (.int .i64 n)) :
    Calls Tryz.prog 45 #[makerV g, .pointer (some ⟨nb, 0, none⟩)] w (IxK (growZ room l n) n0 g b room w) := by
  have hn0 := hix.hB
  have hM0 := miAt_0 hix
  have m0 := hM0.mkr.c
  have hal := (Below.refl w.heap.size w).alloc (Nat.le_refl _) (.cells #[.pointer (some ⟨g, 0, none⟩)] 64)
  have k1 := Qt.keep hal h1
  have hcall := makerGrow_any room n0 g b l n _ hM0.ix hr
  have HB := Lib.hid hM0.bel
  generalize growZ room l n = z at *
  obtain ⟨m, p, ee⟩ := z
  clear hix hr hal h1 hM0
  go_enter Tryz.func45, Tryz.ntmps45
  go_wp2_with fail
  refine hcall.mono ?_
  rintro e w1 ⟨rfl, hi1, hb1⟩
  have HI := Lib.hid hi1
  have HBF := Lib.hid (HB.out.trans hb1)
  clear hcall hi1 hb1 m0 k1
  go_wp2_with fail
  go_ret2
  exact ⟨rfl, HI.out, HBF.out⟩
/-- what Grow answers -/
def grow7 (l : List Nd) (room n : Int) : List Nd × Int × Int := grown6 l room (growZ room l n)
set_option maxHeartbeats 8000000 in
theorem grow7_any (A : Option Addr) (l : List Nd) (c : Nat) (room : Int) (n : Int) (w : World) (hR : RdN w w.heap.size A l) (hl : l.length ≤ 1000000) (hc : l.length ≤ c)  :
    Calls Tryz.prog 15 #[storeV A l.length c room, .int .i64 n] w (PutR (grow7 l room n) room w) := by
  have hal0 := Below.refl w.heap.size w
  have hal1 := hal0.alloc hal0.size (.cells #[.slice A l.length c, .int .i64 room] 26)
  have hz1 : (w.alloc (.cells #[.slice A l.length c, .int .i64 room] 26)).heap.size = w.heap.size + 1 := by simp
  have hal2 := hal1.alloc hal1.size (.cells #[.int .i64 n] 3)
  have hz2 : ((w.alloc (.cells #[.slice A l.length c, .int .i64 room] 26)).alloc (.cells #[.int .i64 n] 3)).heap.size = w.heap.size + 1 + 1 := by simp
  have hal3 := hal2.alloc hal2.size (.cells #[.slice none 0 0, .int .i64 0] 26)
  have HH0 : WrAt w (((w.alloc (.cells #[.slice A l.length c, .int .i64 room] 26)).alloc (.cells #[.int .i64 n] 3)).alloc (.cells #[.slice none 0 0, .int .i64 0] 26)) A l.length c room (w.heap.size + 1 + 1) := ⟨heap_old (heap_old (heap_new rfl)), heap_new hz2, hal3, by omega⟩
  have hs1 : (((w.alloc (.cells #[.slice A l.length c, .int .i64 room] 26)).alloc (.cells #[.int .i64 n] 3)).alloc (.cells #[.slice none 0 0, .int .i64 0] 26)).heap[w.heap.size + 1]? = some (.cells #[.int .i64 n] 3 (0, 0)) := heap_old (heap_new hz1)
  have hmf : ∀ (fn : Fn) (first cap : Array Value) (W : World), (Instr.makeFunc fn first cap).run Tryz.prog W = .ok (.func fn first cap) W := fun _ _ _ _ => rfl
  have hgr := made_any1 45 (enters_of Tryz.func45 (by kernel_rfl) rfl) (.pointer (some ⟨w.heap.size + 1, 0, none⟩)) (growZ room l n) A l c room (((w.alloc (.cells #[.slice A l.length c, .int .i64 room] 26)).alloc (.cells #[.int .i64 n] 3)).alloc (.cells #[.slice none 0 0, .int .i64 0] 26)) ((hR.below HH0.bel (Nat.le_refl _)).more HH0.bel.size) hl hc
    (fun hr g b W hbW hix _ => growClos7_any room _ g b _ l n W hix (right_iff.1 hr) (by rw [Lib.cell_of_heap ((hbW.block _ (lt_heap6 hs1)).trans hs1)]; rfl))
  rw [show grown6 l room (growZ room l n) = grow7 l room n from rfl] at hgr
  unfold storeV PutR at hgr
  unfold storeV
  have HH := Lib.hid HH0
  have s0 := HH0.s0
  have s1 := HH0.s1
  clear HH0 hR hal0 hal1 hal2 hal3 hz1 hz2 hs1
  generalize grow7 l room n = z at *
  obtain ⟨m, q, ee⟩ := z
  simp only at hgr
  go_enter Tryz.func15, Tryz.ntmps15
  go_wp2_with fail
  refine hgr.mono ?_
  rintro e w1 ⟨v, rfl, ⟨B, d, rfl, hd, hN⟩, hb1⟩
  have H1 := HH.out.below hb1
  have r0 := H1.r0
  have r1 := H1.r1
  have f0 := H1.free 0
  have f1 := H1.free 1
  have ht := Lib.hid (H1.told (.slice B m.length d) (.int .i64 room))
  have hrd := Lib.hid (rdN_told (u := .slice B m.length d) (v := .int .i64 room) hN H1.res)
  clear hgr hb1 H1 hN s0 s1
  go_wp2
  refine bodyPost_ret (results_cell3 rfl _ _ _ _ _ _ _ rfl ht.out.1 Tryz.underlying26 rfl (by kernel_rfl)) rfl ?_
  exact ⟨_, rfl, ⟨B, d, rfl, hd, hrd.out.more (by simp [World.setCell])⟩, ht.out.2⟩
end Go.Proofs.YtmmaeikeafemaaaGreat
namespace Go.Proofs.YtmmaeikeafemaaaGreat
set_option maxRecDepth 100000
set_option linter.unusedVariables false
set_option linter.unusedSimpArgs false
open Go.RowKit Go.Sort

/-- what Get answers -/
def get7 (l : List Nd) (room n : Int) (c : Int × Int) : Bool × Int :=
  if (right6 l room && hasB l n) = true then (insideB ((ndAt l n).1.toNat - 1) c && alive l (ndAt l n).1.toNat n.toNat (inwardC ((ndAt l n).1.toNat - 1) c), 0) else (false, 1)
/-- what is in boxes within Get: the store, the cell -/
structure GbAt (w wr : World) (A : Option Addr) (n c : Nat) (room : Int) (k : Int × Int) : Prop where
  store : wr.heap[w.heap.size]? = some (.cells #[.slice A n c, .int .i64 room] 26 (0, 0))
  cl : ClB wr (w.heap.size + 1) k
  bel : Below w.heap.size w wr
section
variable {w wr w' : World} {A : Option Addr} {n c : Nat} {room : Int} {k : Int × Int}
theorem GbAt.below (h : GbAt w wr A n c room k) (hb : Below wr.heap.size wr w') : GbAt w w' A n c room k := ⟨(hb.block _ (lt_heap6 h.store)).trans h.store, h.cl.below hb, Qt.more h.bel h.bel.size hb⟩
theorem GbAt.s0 (h : GbAt w wr A n c room k) : wr.cell? ⟨w.heap.size, 0, none⟩ = some (.slice A n c) := by rw [Lib.cell_of_heap h.store]; rfl
theorem GbAt.s1 (h : GbAt w wr A n c room k) : wr.cell? ⟨w.heap.size, 1, none⟩ = some (.int .i64 room) := by rw [Lib.cell_of_heap h.store]; rfl
/-- another block is written -/
theorem GbAt.past (h : GbAt w wr A n c room k) {b : Nat} (hb : w.heap.size + 1 < b) (j : Nat) (u : Value) : GbAt w (wr.setCell ⟨b, j, none⟩ u) A n c room k := by
  refine ⟨?_, ⟨?_⟩, h.bel.setCell (by show _ ≤ b; omega) _⟩
  · rw [Below.heap_setCell _ _ _ _ (by show w.heap.size ≠ b; omega)]; exact h.store
  · rw [Below.heap_setCell _ _ _ _ (by show w.heap.size + 1 ≠ b; omega)]; exact h.cl.row
/-- the cell is told anew -/
theorem GbAt.cell (h : GbAt w wr A n c room k) (x y : Int) : GbAt w ((wr.setCell ⟨w.heap.size + 1, 0, none⟩ (.int .i64 x)).setCell ⟨w.heap.size + 1, 1, none⟩ (.int .i64 y)) A n c room (x, y) := by
  have hr := h.cl.row
  refine ⟨?_, ⟨?_⟩, (h.bel.setCell (by show _ ≤ _ + 1; omega) _).setCell (by show _ ≤ _ + 1; omega) _⟩
  · rw [Below.heap_setCell _ _ _ _ (by show w.heap.size ≠ w.heap.size + 1; omega), Below.heap_setCell _ _ _ _ (by show w.heap.size ≠ w.heap.size + 1; omega)]; exact h.store
  · simp [World.setCell, Array.getElem?_modify, hr]
end
theorem gbAt_0 (w : World) (A : Option Addr) (n c : Nat) (room : Int) (k : Int × Int) : GbAt w ((w.alloc (.cells #[.slice A n c, .int .i64 room] 26)).alloc (.cells #[.int .i64 k.1, .int .i64 k.2] 28)) A n c room k := by
  have hal1 := (Below.refl w.heap.size w).alloc (Nat.le_refl _) (.cells #[.slice A n c, .int .i64 room] 26)
  have hs1 : (w.alloc (.cells #[.slice A n c, .int .i64 room] 26)).heap.size = w.heap.size + 1 := by simp
  exact ⟨heap_old (heap_new rfl), ⟨heap_new hs1⟩, hal1.alloc hal1.size _⟩
theorem NR.all {w : World} {b : Nat} {lev : Int} {k : Kd} {pop : Int} (h : NR w b lev k pop) : NdAt w b 0 (lev, k, pop) := by
  refine ⟨?_, ?_, ?_, ?_, ?_, ?_⟩ <;> (rw [Lib.cell_of_heap h]; rfl)
/-- a node is told anew -/
theorem NR.told {w : World} {b : Nat} {lev : Int} {k : Kd} {pop : Int} (h : NR w b lev k pop) (x : Nd) :
    NR ((((((w.setCell ⟨b, 0, none⟩ (.int .i64 x.1)).setCell ⟨b, 1, none⟩ (.int .i64 x.2.1.1)).setCell ⟨b, 2, none⟩ (.int .i64 x.2.1.2.1)).setCell ⟨b, 3, none⟩ (.int .i64 x.2.1.2.2.1)).setCell ⟨b, 4, none⟩ (.int .i64 x.2.1.2.2.2)).setCell ⟨b, 5, none⟩ (.int .i64 x.2.2)) b x.1 x.2.1 x.2.2 := by
  unfold NR at h ⊢
  simp [World.setCell, Array.getElem?_modify, h]
def levIn (wr : World) (b : Nat) : Nat := match wr.cell? ⟨b, 0, none⟩ with | some (.int _ x) => x.toNat | _ => 0
theorem levIn_of {wr : World} {b : Nat} {x : Int} (h : wr.cell? ⟨b, 0, none⟩ = some (.int .i64 x)) : levIn wr b = x.toNat := by unfold levIn; rw [h]
/-- What is known in the loop: a node at a level, in which the cell is alive as in the first one. -/
structure GtAt (w wr : World) (A : Option Addr) (l : List Nd) (c : Nat) (room : Int) (k : Int × Int) (xb : Nat) (al : Bool) (j m : Nat) : Prop where
  gb : GbAt w wr A l.length c room k
  nd : NR wr xb (j : Int) (l.getD m deadN).2.1 (l.getD m deadN).2.2
  is : Is l j m
  al : alive l j m k = al
  hx : w.heap.size + 1 < xb
set_option maxHeartbeats 16000000 in
theorem get7_any (A : Option Addr) (l : List Nd) (c : Nat) (room n : Int) (k : Int × Int) (w : World) (hR : RdN w w.heap.size A l) (hl : l.length ≤ 1000000) (hc : l.length ≤ c) (hx : I64 k.1) (hy : I64 k.2) :
    Calls Tryz.prog 18 #[storeV A l.length c room, .int .i64 n, cellV k] w fun r w' => r = .returned (.tuple #[.bool (get7 l room n k).1, .int .i64 (get7 l room n k).2]) ∧ Below w.heap.size w w' := by
  obtain ⟨x, y⟩ := k
  dsimp only at hx hy
  have hG0 := gbAt_0 w A l.length c room (x, y)
  have hright := nodeRight_any A l c room _ ((hR.below hG0.bel (Nat.le_refl _)).more hG0.bel.size) hl hc
  have s0 := hG0.s0
  have s1 := hG0.s1
  have HG := Lib.hid hG0
  unfold storeV at hright ⊢
  clear hG0
  cases hr : right6 l room with
  | false =>
    have hz : get7 l room n (x, y) = (false, 1) := by unfold get7; rw [hr]; rfl
    rw [hz]
    rw [hr] at hright
    clear hz hr hR
    go_enter Tryz.func18, Tryz.ntmps18
    go_wp2_with (go_at_call 34; refine hright.mono ?_; rintro r w1 ⟨rfl, hb1⟩; have H1 := Lib.hid (HG.out.below hb1); clear hb1 hright s0 s1)
    go_ret2
    exact ⟨rfl, H1.out.bel⟩
  | true =>
    rw [hr] at hright
    have hR6 := right_iff.1 hr
    have h2 := hR6.two
    have hhs := fun W (h : GbAt w W A l.length c room (x, y)) => hasSquare_any A l c room n W ((hR.below h.bel (Nat.le_refl _)).more h.bel.size) hl
    unfold storeV at hhs
    cases hb : hasB l n with
    | false =>
      have hz : get7 l room n (x, y) = (false, 1) := by unfold get7; rw [hr, hb]; rfl
      rw [hz]
      rw [hb] at hhs
      have HHS := Lib.hid hhs
      clear hz hr hR hb hhs hR6
      go_enter Tryz.func18, Tryz.ntmps18
      go_wp2_with fail
      refine hright.mono ?_
      rintro r w1 ⟨rfl, hb1⟩
      have H1 := Lib.hid (HG.out.below hb1)
      have t0 := H1.out.s0
      have t1 := H1.out.s1
      clear hb1 hright s0 s1
      go_wp2_with fail
      refine (HHS.out w1 H1.out).mono ?_
      rintro r w2 ⟨rfl, hb2⟩
      have H2 := Lib.hid (H1.out.below hb2)
      clear hb2 t0 t1
      go_wp2_with fail
      go_ret2
      exact ⟨rfl, H2.out.bel⟩
    | true =>
      rw [hb] at hhs
      have HHS := Lib.hid hhs
      have hz : get7 l room n (x, y) = (insideB ((ndAt l n).1.toNat - 1) (x, y) && alive l (ndAt l n).1.toNat n.toNat (inwardC ((ndAt l n).1.toNat - 1) (x, y)), 0) := by unfold get7; rw [hr, hb]; rfl
      rw [hz]
      unfold hasB at hb
      rw [decide_eq_true_eq] at hb
      obtain ⟨h1, h2', h3⟩ := hb
      obtain ⟨m, rfl⟩ : ∃ m : Nat, n = (m : Int) := ⟨n.toNat, by omega⟩
      rw [ndAt_nat] at h3 ⊢
      have hbd := right_bd hR6 m (by omega)
      obtain ⟨e, he⟩ : ∃ e : Nat, (l.getD m deadN).1 = (e : Int) + 1 := ⟨((l.getD m deadN).1 - 1).toNat, by omega⟩
      have he41 : e ≤ 41 := by omega
      have hIs : Is l (e + 1) m := ⟨by omega, by rw [he]; omega⟩
      rw [he, show ((e : Int) + 1).toNat = e + 1 by omega, show e + 1 - 1 = e by omega, Int.toNat_natCast]
      obtain ⟨z, hzz⟩ : ∃ z, z = (insideB e (x, y) && alive l (e + 1) m (inwardC e (x, y))) := ⟨_, rfl⟩
      rw [← hzz]
      have HZ := Lib.hid hzz
      clear hzz
      have hmz : (m : Int) < (l.length : Int) := by omega
      obtain ⟨b0, off, rfl, hbB, hcell⟩ := hR.at_ (by omega)
      have HC := Lib.hid hcell
      have HR6 := Lib.hid hR6
      have HIS := Lib.hid hIs
      have HE := Lib.hid he
      clear hhs hR hr hz hcell hR6 hIs hbd h1 h2' h3 he
      go_enter Tryz.func18, Tryz.ntmps18
      go_wp2_with fail
      refine hright.mono ?_
      rintro r w1 ⟨rfl, hb1⟩
      have H1 := Lib.hid (HG.out.below hb1)
      have t0 := H1.out.s0
      have t1 := H1.out.s1
      clear hb1 hright s0 s1
      go_wp2_with fail
      refine (HHS.out w1 H1.out).mono ?_
      rintro r w2 ⟨rfl, hb2⟩
      have H2 := H1.out.below hb2
      obtain ⟨n0, n1, n2, n3, n4, n5⟩ := HC.out m (by omega)
      have m0 := Qt.keep H2.bel n0
      have m1 := Qt.keep H2.bel n1
      have m2 := Qt.keep H2.bel n2
      have m3 := Qt.keep H2.bel n3
      have m4 := Qt.keep H2.bel n4
      have m5 := Qt.keep H2.bel n5
      rw [HE.out] at m0
      obtain ⟨⟨lv, kk, pp⟩, hnode⟩ : ∃ q, q = l.getD m deadN := ⟨_, rfl⟩
      rw [← hnode] at m1 m2 m3 m4 m5
      dsimp only at m1 m2 m3 m4 m5
      have hal := (Below.refl w2.heap.size w2).alloc (Nat.le_refl _) (.cells #[.int .i64 ((e : Int) + 1), .int .i64 kk.1, .int .i64 kk.2.1, .int .i64 kk.2.2.1, .int .i64 kk.2.2.2, .int .i64 pp] 57)
      have H3 := Lib.hid (H2.below hal)
      have hn3 : NR (w2.alloc (.cells #[.int .i64 ((e : Int) + 1), .int .i64 kk.1, .int .i64 kk.2.1, .int .i64 kk.2.2.1, .int .i64 kk.2.2.2, .int .i64 pp] 57)) w2.heap.size ((e : Int) + 1) kk pp := heap_alloc_new w2 _
      have HN3 := Lib.hid hn3
      have hxb : w.heap.size + 1 < w2.heap.size := lt_heap6 H2.cl.row
      have u0 := H2.s0
      have l0 := hn3.lev_
      have c0 := H3.out.cl.c0
      have c1 := H3.out.cl.c1
      dsimp only at c0 c1
      have HND := Lib.hid hnode
      clear hb2 t0 t1 H1 HHS n0 n1 n2 n3 n4 n5 H2 hal hn3 hnode
      go_wp2_with fail
      clear m0 m1 m2 m3 m4 m5 u0
      generalize (w2.alloc (.cells #[.int .i64 ((e : Int) + 1), .int .i64 kk.1, .int .i64 kk.2.1, .int .i64 kk.2.2.1, .int .i64 kk.2.2.2, .int .i64 pp] 57)) = w3 at *
      generalize w2.heap.size = xb at *
      have hwi := within_any e (by omega) (x, y) hx hy w3
      cases hin : insideB e (x, y) with
      | false =>
        rw [hin] at hwi
        have hz1 : z = false := by rw [HZ.out, hin]; rfl
        subst hz1
        refine hwi.mono ?_
        rintro r w4 ⟨rfl, hb4⟩
        have H4 := Lib.hid (H3.out.below hb4)
        clear hwi hb4 l0 c0 c1
        go_wp2_with fail
        go_ret2
        exact ⟨rfl, H4.out.bel⟩
      | true =>
        rw [hin] at hwi
        refine hwi.mono ?_
        rintro r w4 ⟨rfl, hb4⟩
        have H4 := Lib.hid (H3.out.below hb4)
        have HN4 := Lib.hid (HN3.out.below hb4)
        have l4 := HN4.out.lev_
        have d0 := H4.out.cl.c0
        have d1 := H4.out.cl.c1
        dsimp only at d0 d1
        have hiw := inward_any e (by omega) (x, y) hin w4
        have hbd := inward_bd (by omega) hin
        have hpb := (pow_bd7 (e := e + 1) (by omega)).2
        obtain ⟨u, hu⟩ : ∃ u : Nat, (inwardC e (x, y)).1 = (u : Int) := ⟨(inwardC e (x, y)).1.toNat, by omega⟩
        obtain ⟨v, hv⟩ : ∃ v : Nat, (inwardC e (x, y)).2 = (v : Int) := ⟨(inwardC e (x, y)).2.toNat, by omega⟩
        have hcc : inwardC e (x, y) = ((u : Int), (v : Int)) := by rw [← hu, ← hv]
        have hub : (u : Int) ≤ 9223372036854775807 := by generalize (2 : Int) ^ (e + 1) = p at *; omega
        have hvb : (v : Int) ≤ 9223372036854775807 := by generalize (2 : Int) ^ (e + 1) = p at *; omega
        have hal : alive l (e + 1) m ((u : Int), (v : Int)) = z := by rw [HZ.out, hin, hcc]; rfl
        rw [hcc] at hiw
        unfold cellV at hiw
        clear hwi hb4 l0 c0 c1 H3 HN3 hin hbd hpb hu hv hcc
        go_wp2_with fail
        refine hiw.mono ?_
        rintro r w5 ⟨rfl, hb5⟩
        have H5 := H4.out.below hb5
        have hn5 := HN4.out.below hb5
        have hcr := H5.cl
        have f0 : w5.frozen? ⟨w.heap.size + 1, 0, none⟩ = false := Lib.frozen_of_heap hcr.row 0
        have f1 : w5.frozen? ⟨w.heap.size + 1, 1, none⟩ = false := Lib.frozen_of_heap hcr.row 1
        have e0 := hcr.c0
        have e1 := hcr.c1
        dsimp only at e0 e1
        have H6 := H5.cell (u : Int) (v : Int)
        have hn6 : NR ((w5.setCell ⟨w.heap.size + 1, 0, none⟩ (.int .i64 (u : Int))).setCell ⟨w.heap.size + 1, 1, none⟩ (.int .i64 (v : Int))) xb ((e : Int) + 1) kk pp := by
          unfold NR at hn5 ⊢
          rw [Below.heap_setCell _ _ _ _ (by show xb ≠ w.heap.size + 1; omega), Below.heap_setCell _ _ _ _ (by show xb ≠ w.heap.size + 1; omega)]
          exact hn5
        have HT0 : Hid (GtAt w ((w5.setCell ⟨w.heap.size + 1, 0, none⟩ (.int .i64 (u : Int))).setCell ⟨w.heap.size + 1, 1, none⟩ (.int .i64 (v : Int))) (some ⟨b0, off, none⟩) l c room ((u : Int), (v : Int)) xb z (e + 1) m) :=
          ⟨H6, by rw [← HND.out, show ((e + 1 : Nat) : Int) = (e : Int) + 1 by omega]; exact hn6, HIS.out, hal, hxb⟩
        clear hiw hb5 H5 hn5 hcr H6 hn6 hal HZ l4 d0 d1 H4 HN4
        go_wp2_with fail
        clear f0 f1 e0 e1
        generalize ((w5.setCell ⟨w.heap.size + 1, 0, none⟩ (.int .i64 (u : Int))).setCell ⟨w.heap.size + 1, 1, none⟩ (.int .i64 (v : Int))) = w6 at *
        go_loopw [32] (fun i wr => ∃ j m' : Nat, j ≤ 42 ∧ Hid (GtAt w wr (some ⟨b0, off, none⟩) l c room ((u : Int), (v : Int)) xb z j m')) (fun i wr => levIn wr xb)
        case atStart => exact ⟨e + 1, m, by omega, HT0.out⟩
        case round =>
          obtain ⟨j, m', hj, HT⟩ := hrel
          cases j with
          | zero =>
            have hl0 : wr.cell? ⟨xb, 0, none⟩ = some (.int .i64 0) := HT.out.nd.lev_
            have hp := HT.out.nd.pop_
            have hm2 := HT.out.is.zero HR6.out
            have hz1 : decide (m' = 1) = z := HT.out.al
            have hpop : decide (0 < (l.getD m' deadN).2.2) = z := by
              rw [← hz1]
              rcases (by omega : m' = 0 ∨ m' = 1) with rfl | rfl
              · rw [HR6.out.dead]; rfl
              · rw [HR6.out.live]; rfl
            have HB := Lib.hid HT.out.gb.bel
            generalize (l.getD m' deadN).2.2 = pq at *
            subst hpop
            clear HT HT0 hz1 hm2
            go_wp2_with fail
            go_ret2
            exact ⟨rfl, HB.out⟩
          | succ k =>
            have hl0 := HT.out.nd.lev_
            rw [show ((k + 1 : Nat) : Int) = (k : Int) + 1 by omega] at hl0
            have hq4 := q7_lt k ((u : Int), (v : Int))
            have hlv : levIn wr xb = k + 1 := by rw [levIn_of hl0]; omega
            obtain ⟨q, hq⟩ : ∃ q, q = q7 k ((u : Int), (v : Int)) := ⟨_, rfl⟩
            rw [← hq] at hq4
            have hkc := kid_cast HR6.out HT.out.is hq4
            have hki := kid_is HR6.out HT.out.is hq4
            have hkid := HT.out.nd.kid hq4
            rw [hkc] at hkid
            have hal2 : alive l k (kidN l m' q) ((u : Int), (v : Int)) = z := by rw [hq]; exact HT.out.al
            obtain ⟨kn, hkn⟩ : ∃ kn, kn = kidN l m' q := ⟨_, rfl⟩
            rw [← hkn] at hki hkid hal2
            obtain ⟨n0, n1, n2, n3, n4, n5⟩ := HC.out kn hki.lt
            have hb := HT.out.gb.bel
            have p0 := Qt.cell_in (Qt.keep hb n0)
            have p1 := Qt.cell_in (Qt.keep hb n1)
            have p2 := Qt.cell_in (Qt.keep hb n2)
            have p3 := Qt.cell_in (Qt.keep hb n3)
            have p4 := Qt.cell_in (Qt.keep hb n4)
            have p5 := Qt.cell_in (Qt.keep hb n5)
            have k0 := Qt.cell_in hl0
            have k1 := Qt.cell_in hkid
            have k2 := Qt.cell_in HT.out.gb.s0
            have k3 := Qt.cell_in HT.out.gb.cl.c0
            have k4 := Qt.cell_in HT.out.gb.cl.c1
            dsimp only at k3 k4
            have hqu := fun W (_ : Below wr.heap.size wr W) => quarter_any k (by omega) u v hub hvb W
            rw [← hq] at hqu
            unfold cellV at hqu
            have hqz : (q : Int) < 4 := by omega
            have hknz : (kn : Int) < (l.length : Int) := by have := hki.lt; omega
            have hklev := hki.lev
            rw [hklev] at p0
            generalize hnk : l.getD kn deadN = nk at *
            obtain ⟨lv2, kk2, pp2⟩ := nk
            dsimp only at p1 p2 p3 p4 p5
            have HNK := Lib.hid hnk
            have HKI := Lib.hid hki
            have HAL := Lib.hid hal2
            clear hb n0 n1 n2 n3 n4 n5 hkc hki hkn hq hal2 hklev hnk HT0
            go_wp2_with fail
            refine Qt.below_tail 11 (by kernel_rfl) (by kernel_rfl) ?_
            simp only [List.take_succ_cons, List.take_zero]
            iterate 11 (go_big_quiet_step (first | (go_at_call 50; exact Qt.at_call' hqu)))
            refine wpQuiet_nil ?_
            intro w7 hb7
            have hT7 := HT.out.nd.below hb7
            have hG7 := HT.out.gb.below hb7
            have f0 : ∀ i, w7.frozen? ⟨xb, i, none⟩ = false := fun i => Lib.frozen_of_heap hT7 i
            have g0 := f0 0
            have g1 := f0 1
            have g2 := f0 2
            have g3 := f0 3
            have g4 := f0 4
            have g5 := f0 5
            obtain ⟨r0, r1, r2, r3, r4, r5⟩ := hT7.all
            have hn8 := hT7.told ((k : Int), kk2, pp2)
            dsimp only at hn8 r0 r1 r2 r3 r4 r5
            have hG8 := (((((hG7.past hxb 0 (.int .i64 (k : Int))).past hxb 1 (.int .i64 kk2.1)).past hxb 2 (.int .i64 kk2.2.1)).past hxb 3 (.int .i64 kk2.2.2.1)).past hxb 4 (.int .i64 kk2.2.2.2)).past hxb 5 (.int .i64 pp2)
            have HN8 := Lib.hid hn8
            have HG8 := Lib.hid hG8
            have hlv2 := levIn_of hn8.lev_
            clear hb7 p0 p1 p2 p3 p4 p5 k0 k1 k2 k3 k4 hqu hT7 hG7 f0 hn8 hG8 HT
            simp only [List.drop_succ_cons, List.drop_zero]
            go_wp2_with fail
            go_roundw
            case measure => rw [hlv, hlv2]; omega
            case rel =>
              refine ⟨k, kn, by omega, HG8.out, ?_, HKI.out, HAL.out, hxb⟩
              rw [HNK.out]
              exact HN8.out
end Go.Proofs.YtmmaeikeafemaaaGreat
namespace Go.Proofs.YtmmaeikeafemaaaGreat
set_option maxRecDepth 100000
set_option linter.unusedVariables false
set_option linter.unusedSimpArgs false

/-- where a quarter's corner is -/
def corner7 (k : Nat) (p : Int × Int) (i : Nat) : Int × Int := (p.1 + ((i % 2 : Nat) : Int) * 2 ^ k, p.2 + ((i / 2 : Nat) : Int) * 2 ^ k)
/-- the cells of a node, whose square's corner is known -/
def flat (l : List Nd) : Nat → Nat → Int × Int → List (Int × Int)
  | 0, n, p => if n = 1 then [p] else []
  | k + 1, n, p => flat l k (kidN l n 0) (corner7 k p 0) ++ flat l k (kidN l n 1) (corner7 k p 1) ++ flat l k (kidN l n 2) (corner7 k p 2) ++ flat l k (kidN l n 3) (corner7 k p 3)
/-- of the first quarters -/
def flatTo (l : List Nd) (k n : Nat) (p : Int × Int) : Nat → List (Int × Int)
  | 0 => []
  | i + 1 => flatTo l k n p i ++ flat l k (kidN l n i) (corner7 k p i)
theorem flatTo_all (l : List Nd) (k n : Nat) (p : Int × Int) : flatTo l k n p 4 = flat l (k + 1) n p := by
  simp [flatTo, flat]
theorem flatTo_len (l : List Nd) (k n : Nat) (p : Int × Int) : ∀ i j, i ≤ j → (flatTo l k n p i).length ≤ (flatTo l k n p j).length := by
  intro i j h
  obtain ⟨d, rfl⟩ : ∃ d, j = i + d := ⟨j - i, by omega⟩
  clear h
  induction d with
  | zero => exact Nat.le_refl _
  | succ d ih =>
    refine Nat.le_trans ih ?_
    show _ ≤ (flatTo l k n p (i + d) ++ _).length
    rw [List.length_append]
    omega
/-- a node's cells are counted -/
theorem flat_pop {l : List Nd} {room : Int} (hr : Right6 l room) : ∀ (k n : Nat) (p : Int × Int), Is l k n → (l.getD n deadN).2.2 = min ((flat l k n p).length : Int) 4611686018427387903
  | 0, n, p, h => by
    have := h.zero hr
    rcases (by omega : n = 0 ∨ n = 1) with rfl | rfl
    · rw [hr.dead]; rfl
    · rw [hr.live]; rfl
  | k + 1, n, p, h => by
    have hf := fits_iff.1 (hr.fits n (h.two hr) h.lt)
    have hk : ∀ i, i < 4 → (ndAt l (kd (l.getD n deadN).2.1 i)).2.2 = min ((flat l k (kidN l n i) (corner7 k p i)).length : Int) 4611686018427387903 := fun i hi => by
      rw [kid_cast hr h hi, ndAt_nat]
      exact flat_pop hr k _ _ (kid_is hr h hi)
    rw [hf.pop, popTo_sum (fun i hi => by rw [hk i hi]; omega)]
    have h0 := hk 0 (by decide)
    have h1 := hk 1 (by decide)
    have h2 := hk 2 (by decide)
    have h3 := hk 3 (by decide)
    simp only [kd] at h0 h1 h2 h3
    rw [h0, h1, h2, h3]
    show _ = min (((flat l k (kidN l n 0) (corner7 k p 0) ++ flat l k (kidN l n 1) (corner7 k p 1) ++ flat l k (kidN l n 2) (corner7 k p 2) ++ flat l k (kidN l n 3) (corner7 k p 3)).length : Nat) : Int) _
    simp only [List.length_append]
    omega
theorem flat_dead {l : List Nd} {room : Int} (hr : Right6 l room) {k n : Nat} (p : Int × Int) (h : Is l k n) (h0 : (l.getD n deadN).2.2 = 0) : flat l k n p = [] := by
  have := flat_pop hr k n p h
  exact List.eq_nil_of_length_eq_zero (by omega)
/-- a square from a corner on -/
def InAt7 (k : Nat) (p c : Int × Int) : Prop := p.1 ≤ c.1 ∧ c.1 < p.1 + 2 ^ k ∧ p.2 ≤ c.2 ∧ c.2 < p.2 + 2 ^ k
theorem quarter_of {k : Nat} {p c : Int × Int} (h : InAt7 (k + 1) p c) : InAt7 k (corner7 k p (q7 k (c.1 - p.1, c.2 - p.2))) c ∧ ∀ i, i < 4 → InAt7 k (corner7 k p i) c → i = q7 k (c.1 - p.1, c.2 - p.2) := by
  obtain ⟨h1, h2, h3, h4⟩ := h
  have e : (2 : Int) ^ (k + 1) = 2 ^ k * 2 := Int.pow_succ ..
  have hp := pow_pos7 k
  rw [e] at h2 h4
  have key : ∀ x : Int, 0 ≤ x → x < 2 ^ k * 2 → (x / 2 ^ k = 0 ∧ x < 2 ^ k) ∨ (x / 2 ^ k = 1 ∧ 2 ^ k ≤ x) := fun x hx0 hx1 => by
    by_cases hx : x < 2 ^ k
    · exact .inl ⟨Int.ediv_eq_zero_of_lt hx0 hx, hx⟩
    · refine .inr ⟨?_, by omega⟩
      have : x = (x - 2 ^ k) + 2 ^ k * 1 := by omega
      rw [this, Int.add_mul_ediv_left _ _ (by omega), Int.ediv_eq_zero_of_lt (by omega) (by omega)]
      omega
  have ha := key (c.1 - p.1) (by omega) (by omega)
  have hb := key (c.2 - p.2) (by omega) (by omega)
  have hq := q7_cast k (c.1 - p.1, c.2 - p.2)
  have hq4 := q7_lt k (c.1 - p.1, c.2 - p.2)
  simp only at hq
  generalize q7 k (c.1 - p.1, c.2 - p.2) = q at *
  generalize (c.1 - p.1) / 2 ^ k = a at *
  generalize (c.2 - p.2) / 2 ^ k = b at *
  have hcor : ∀ i, i < 4 → corner7 k p i = (p.1 + (if i = 1 ∨ i = 3 then 2 ^ k else 0), p.2 + (if i = 2 ∨ i = 3 then 2 ^ k else 0)) := fun i hi => by
    unfold corner7
    rcases (by omega : i = 0 ∨ i = 1 ∨ i = 2 ∨ i = 3) with rfl | rfl | rfl | rfl <;> simp
  generalize (2 : Int) ^ k = s at *
  constructor
  · unfold InAt7
    rw [hcor q hq4]
    rcases (by omega : q = 0 ∨ q = 1 ∨ q = 2 ∨ q = 3) with rfl | rfl | rfl | rfl <;> simp <;> omega
  · intro i hi hin
    unfold InAt7 at hin
    rw [hcor i hi] at hin
    rcases (by omega : i = 0 ∨ i = 1 ∨ i = 2 ∨ i = 3) with rfl | rfl | rfl | rfl <;> simp at hin <;> omega
theorem corner_in {k : Nat} {p c : Int × Int} {i : Nat} (hi : i < 4) (h : InAt7 k (corner7 k p i) c) : InAt7 (k + 1) p c := by
  have e : (2 : Int) ^ (k + 1) = 2 ^ k * 2 := Int.pow_succ ..
  have hp := pow_pos7 k
  unfold InAt7 corner7 at *
  rw [e]
  generalize (2 : Int) ^ k = s at *
  rcases (by omega : i = 0 ∨ i = 1 ∨ i = 2 ∨ i = 3) with rfl | rfl | rfl | rfl <;> simp at h ⊢ <;> omega
theorem agree_corner (k : Nat) (p c : Int × Int) (i : Nat) : Agree k (c.1 - (corner7 k p i).1, c.2 - (corner7 k p i).2) (c.1 - p.1, c.2 - p.2) := by
  have h := agree_shift (c.1 - p.1, c.2 - p.2) (-((i % 2 : Nat) : Int)) (-((i / 2 : Nat) : Int)) k
  have e1 : c.1 - (corner7 k p i).1 = c.1 - p.1 + 2 ^ k * (-((i % 2 : Nat) : Int)) := by
    unfold corner7
    simp only
    rw [Int.mul_neg, Int.mul_comm]
    omega
  have e2 : c.2 - (corner7 k p i).2 = c.2 - p.2 + 2 ^ k * (-((i / 2 : Nat) : Int)) := by
    unfold corner7
    simp only
    rw [Int.mul_neg, Int.mul_comm]
    omega
  rw [e1, e2]
  exact h
/-- what is in the list is what is alive -/
theorem mem_flat {l : List Nd} : ∀ (k n : Nat) (p c : Int × Int), c ∈ flat l k n p ↔ InAt7 k p c ∧ alive l k n (c.1 - p.1, c.2 - p.2) = true
  | 0, n, p, c => by
    unfold flat alive InAt7
    have h1 : (2 : Int) ^ 0 = 1 := rfl
    rw [h1]
    by_cases hn : n = 1
    · rw [if_pos hn]
      simp only [List.mem_singleton, decide_eq_true_eq]
      constructor
      · rintro rfl; exact ⟨by omega, hn⟩
      · rintro ⟨h, _⟩; exact Prod.ext (by omega) (by omega)
    · rw [if_neg hn]
      simp [hn]
  | k + 1, n, p, c => by
    have ih := fun i => mem_flat (l := l) k (kidN l n i) (corner7 k p i) c
    have hone : c ∈ flat l (k + 1) n p ↔ ∃ i, i < 4 ∧ c ∈ flat l k (kidN l n i) (corner7 k p i) := by
      show c ∈ _ ++ _ ++ _ ++ _ ↔ _
      simp only [List.mem_append]
      constructor
      · rintro (((h | h) | h) | h)
        · exact ⟨0, by decide, h⟩
        · exact ⟨1, by decide, h⟩
        · exact ⟨2, by decide, h⟩
        · exact ⟨3, by decide, h⟩
      · rintro ⟨i, hi, h⟩
        rcases (by omega : i = 0 ∨ i = 1 ∨ i = 2 ∨ i = 3) with rfl | rfl | rfl | rfl
        · exact .inl (.inl (.inl h))
        · exact .inl (.inl (.inr h))
        · exact .inl (.inr h)
        · exact .inr h
    rw [hone]
    constructor
    · rintro ⟨i, hi, h⟩
      obtain ⟨h1, h2⟩ := (ih i).1 h
      have hin := corner_in hi h1
      have hq := (quarter_of hin).2 i hi h1
      refine ⟨hin, ?_⟩
      show alive l k (kidN l n (q7 k (c.1 - p.1, c.2 - p.2))) _ = true
      rw [← hq, ← alive_agree k _ (agree_corner k p c i)]
      exact h2
    · rintro ⟨hin, h2⟩
      refine ⟨q7 k (c.1 - p.1, c.2 - p.2), q7_lt _ _, (ih _).2 ⟨(quarter_of hin).1, ?_⟩⟩
      rw [alive_agree k _ (agree_corner k p c _)]
      exact h2
/-- no cell is there twice -/
theorem flat_nodup {l : List Nd} : ∀ (k n : Nat) (p : Int × Int), (flat l k n p).Nodup
  | 0, n, p => by
    unfold flat
    split
    · simp
    · exact List.nodup_nil
  | k + 1, n, p => by
    have hd : ∀ i j, i < 4 → j < 4 → i ≠ j → ∀ a ∈ flat l k (kidN l n i) (corner7 k p i), ∀ b ∈ flat l k (kidN l n j) (corner7 k p j), a ≠ b := by
      intro i j hi hj hij a ha b hb e
      subst e
      have h1 := ((mem_flat k _ _ _).1 ha).1
      have h2 := ((mem_flat k _ _ _).1 hb).1
      have hin := corner_in hi h1
      exact hij (((quarter_of hin).2 i hi h1).trans ((quarter_of hin).2 j hj h2).symm)
    show List.Nodup (flat l k (kidN l n 0) (corner7 k p 0) ++ flat l k (kidN l n 1) (corner7 k p 1) ++ flat l k (kidN l n 2) (corner7 k p 2) ++ flat l k (kidN l n 3) (corner7 k p 3))
    have h0 := flat_nodup (l := l) k (kidN l n 0) (corner7 k p 0)
    have h1 := flat_nodup (l := l) k (kidN l n 1) (corner7 k p 1)
    have h2 := flat_nodup (l := l) k (kidN l n 2) (corner7 k p 2)
    have h3 := flat_nodup (l := l) k (kidN l n 3) (corner7 k p 3)
    simp only [List.nodup_append, List.mem_append]
    refine ⟨⟨⟨h0, h1, hd 0 1 (by decide) (by decide) (by decide)⟩, h2, ?_⟩, h3, ?_⟩
    · rintro a (ha | ha) b hb
      · exact hd 0 2 (by decide) (by decide) (by decide) a ha b hb
      · exact hd 1 2 (by decide) (by decide) (by decide) a ha b hb
    · rintro a ((ha | ha) | ha) b hb
      · exact hd 0 3 (by decide) (by decide) (by decide) a ha b hb
      · exact hd 1 3 (by decide) (by decide) (by decide) a ha b hb
      · exact hd 2 3 (by decide) (by decide) (by decide) a ha b hb
end Go.Proofs.YtmmaeikeafemaaaGreat
