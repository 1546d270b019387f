/-
  Texts that the claims of this seat share, part 30.
-/
import Derived.Test.YtklccoodfhejbaaB28
import Derived.Test.YtklccoodfhejbaaB09
import Derived.Test.YtklccoodfhejbaaB24
import Derived.Test.YtklccoodfhejbaaB10
import Derived.Test.YtklccoodfhejbaaB06
import Derived.Test.YtklccoodfhejbaaB26
import Derived.Test.YtklccoodfhejbaaB23
import Derived.ProofKit
import Derived.OpenShut
import Derived.ChangeOld
import Derived.Deep.Slices
import Derived.Deep.Fields
import Derived.Deep.Strs
import Derived.Test.YtklccoodfhejbaaRows
set_option linter.unusedVariables false
set_option linter.unusedSimpArgs false
namespace Go.Proofs.Ytklccoodfhejbaa
set_option maxRecDepth 100000
set_option linter.unusedVariables false
set_option linter.unusedSimpArgs false
open Go.RowKit Go.Sort

set_option maxHeartbeats 16000000 in
theorem refMay7_any (A : Option Addr) (l : List Nd) (c : Nat) (room n : Int) (w : World) (hR : RdN w w.heap.size A l) (hl : l.length ≤ 1000000) (hw : ∀ i, i < l.length → -9223372036854775808 ≤ (l.getD i deadN).1 ∧ (l.getD i deadN).1 ≤ 9223372036854775807) :
    Calls Try.prog 61 #[storeV A l.length c room, .int .i64 n] w fun r w' => r = .returned (.bool (right6 l room && hasB l n)) ∧ Below w.heap.size w w' := by
  have hG0 := storeAt_0 w A l.length c room
  have hright := refRight6_any A l c room _ ((hR.below hG0.bel (Nat.le_refl _)).more hG0.bel.size) hl hw
  have HG := Lib.hid hG0
  have s0 := hG0.s0
  have s1 := hG0.s1
  have HR := Lib.hid hR
  unfold storeV at hright ⊢
  clear hG0 hR
  obtain ⟨z, hz⟩ : ∃ z, z = (right6 l room && hasB l n) := ⟨_, rfl⟩
  rw [← hz]
  unfold hasB at hz
  by_cases hq : right6 l room = true
  · rw [hq, Bool.true_and] at hz
    rw [hq] at hright
    by_cases h1 : 0 ≤ n
    · by_cases h2 : n < (l.length : Int)
      · obtain ⟨m, rfl⟩ : ∃ m : Nat, n = (m : Int) := ⟨n.toNat, by omega⟩
        rw [ndAt_nat] at hz
        obtain ⟨b0, off, rfl, hbB, hcell⟩ := HR.out.at_ (by omega)
        have x0 := (hcell m (by omega)).1
        have HX := Lib.hid x0
        generalize (l.getD m deadN).1 = v at *
        by_cases h3 : 0 < v
        · rw [decide_eq_true ⟨h1, h2, h3⟩] at hz
          have h3' : (1 : Int) ≤ v := by omega
          subst hz
          clear hcell x0
          go_enter Try.func61, Try.ntmps61
          go_wp2_with fail
          refine hright.mono ?_
          rintro r w1 ⟨rfl, hb1⟩
          have H1 := HG.out.below7 hb1
          have t0 := H1.s0
          have y0 := Qt.keep H1.bel HX.out
          have HB := Lib.hid H1.bel
          clear hb1 hright s0 s1 H1
          go_wp2_with fail
          go_ret
          exact ⟨rfl, HB.out⟩
        · rw [decide_eq_false (fun h => h3 h.2.2)] at hz
          subst hz
          have hd : decide ((1 : Int) ≤ v) = false := decide_eq_false (by omega)
          clear hcell x0
          go_enter Try.func61, Try.ntmps61
          go_wp2_with fail
          refine hright.mono ?_
          rintro r w1 ⟨rfl, hb1⟩
          have H1 := HG.out.below7 hb1
          have t0 := H1.s0
          have y0 := Qt.keep H1.bel HX.out
          have HB := Lib.hid H1.bel
          clear hb1 hright s0 s1 H1
          go_wp2_with fail
          go_ret
          exact ⟨rfl, HB.out⟩
      · rw [decide_eq_false (fun h => h2 h.2.1)] at hz
        subst hz
        go_enter Try.func61, Try.ntmps61
        go_wp2_with fail
        refine hright.mono ?_
        rintro r w1 ⟨rfl, hb1⟩
        have H1 := HG.out.below7 hb1
        have t0 := H1.s0
        have HB := Lib.hid H1.bel
        clear hb1 hright s0 s1 H1
        go_wp2_with fail
        go_ret
        exact ⟨rfl, HB.out⟩
    · rw [decide_eq_false (fun h => h1 h.1)] at hz
      subst hz
      go_enter Try.func61, Try.ntmps61
      go_wp2_with fail
      refine hright.mono ?_
      rintro r w1 ⟨rfl, hb1⟩
      have H1 := HG.out.below7 hb1
      have t0 := H1.s0
      have HB := Lib.hid H1.bel
      clear hb1 hright s0 s1 H1
      go_wp2_with fail
      go_ret
      exact ⟨rfl, HB.out⟩
  · have hq : right6 l room = false := by simpa using hq
    rw [hq, Bool.false_and] at hz
    rw [hq] at hright
    subst hz
    go_enter Try.func61, Try.ntmps61
    go_wp2_with fail
    refine hright.mono ?_
    rintro r w1 ⟨rfl, hb1⟩
    have H1 := HG.out.below7 hb1
    have t0 := H1.s0
    have HB := Lib.hid H1.bel
    clear hb1 hright s0 s1 H1
    go_wp2_with fail
    go_ret
    exact ⟨rfl, HB.out⟩

/-! ### quarters -/
end Go.Proofs.Ytklccoodfhejbaa
namespace Go.Proofs.Ytklccoodfhejbaa
set_option maxRecDepth 100000
set_option linter.unusedVariables false
set_option linter.unusedSimpArgs false
open Go.RowKit Go.Sort

theorem below_set2c {w W : World} {B b : Nat} (h : Below B w W) (hb : B ≤ b) (u v : Value) : Below B w ((W.setCell ⟨b, 0, none⟩ u).setCell ⟨b, 1, none⟩ v) := (h.setCell (p := ⟨b, 0, none⟩) hb u).setCell (p := ⟨b, 1, none⟩) hb v
end Go.Proofs.Ytklccoodfhejbaa
namespace Go.Proofs.Ytklccoodfhejbaa
set_option maxRecDepth 100000
set_option linter.unusedVariables false
set_option linter.unusedSimpArgs false
open Go.RowKit Go.Sort

/-- what is known in set: the boxes of the store, the place, what is told, the node -/
structure SeAt (w wr : World) (A : Option Addr) (n c : Nat) (room : Int) (p : Int × Int) (lev : Int) (kk : Kd) (pp : Int) : Prop where
  st : wr.heap[w.heap.size]? = some (.cells #[.slice A n c, .int .i64 room] 26 (0, 0))
  cl : ClB wr (w.heap.size + 1) p
  res : wr.heap[w.heap.size + 2]? = some (.cells #[.slice none 0 0, .int .i64 0] 26 (0, 0))
  nd : NR wr (w.heap.size + 3) lev kk pp
  bel : Below w.heap.size w wr
section
variable {w wr w' : World} {A : Option Addr} {n c : Nat} {room : Int} {p : Int × Int} {lev : Int} {kk : Kd} {pp : Int}
theorem SeAt.sz (h : SeAt w wr A n c room p lev kk pp) : w.heap.size + 4 ≤ wr.heap.size := lt_heap6 h.nd
theorem SeAt.low (h : SeAt w wr A n c room p lev kk pp) (hb : Below (w.heap.size + 4) wr w') : SeAt w w' A n c room p lev kk pp :=
  ⟨(hb.block _ (by omega)).trans h.st, ⟨(hb.block _ (by omega)).trans h.cl.row⟩, (hb.block _ (by omega)).trans h.res, (hb.block _ (by omega)).trans h.nd, h.bel.trans (hb.mono (by omega))⟩
theorem SeAt.below (h : SeAt w wr A n c room p lev kk pp) (hb : Below wr.heap.size wr w') : SeAt w w' A n c room p lev kk pp := h.low (hb.mono h.sz)
theorem SeAt.s0 (h : SeAt w wr A n c room p lev kk pp) : wr.cell? ⟨w.heap.size, 0, none⟩ = some (.slice A n c) := by rw [Lib.cell_of_heap h.st]; rfl
theorem SeAt.s1 (h : SeAt w wr A n c room p lev kk pp) : wr.cell? ⟨w.heap.size, 1, none⟩ = some (.int .i64 room) := by rw [Lib.cell_of_heap h.st]; rfl
theorem SeAt.r0 (h : SeAt w wr A n c room p lev kk pp) : wr.cell? ⟨w.heap.size + 2, 0, none⟩ = some (.slice none 0 0) := by rw [Lib.cell_of_heap h.res]; rfl
theorem SeAt.r1 (h : SeAt w wr A n c room p lev kk pp) : wr.cell? ⟨w.heap.size + 2, 1, none⟩ = some (.int .i64 0) := by rw [Lib.cell_of_heap h.res]; rfl
theorem SeAt.free (h : SeAt w wr A n c room p lev kk pp) (j : Nat) : wr.frozen? ⟨w.heap.size + 2, j, none⟩ = false := Lib.frozen_of_heap h.res j
theorem SeAt.told {A2 : Option Addr} {pl : List Nd} (h : SeAt w wr A n c room p lev kk pp) (hN : NowN wr A2 pl) (u v : Value) : ((wr.setCell ⟨w.heap.size + 2, 0, none⟩ u).setCell ⟨w.heap.size + 2, 1, none⟩ v).heap[w.heap.size + 2]? = some (.cells #[u, v] 26 (0, 0)) ∧ Below w.heap.size w ((wr.setCell ⟨w.heap.size + 2, 0, none⟩ u).setCell ⟨w.heap.size + 2, 1, none⟩ v) ∧ NowN ((wr.setCell ⟨w.heap.size + 2, 0, none⟩ u).setCell ⟨w.heap.size + 2, 1, none⟩ v) A2 pl := by
  have hr := h.res
  exact ⟨by simp [World.setCell, Array.getElem?_modify, hr], below_set2c h.bel (by omega) u v, (rdN_told hN h.res).more (by simp [World.setCell])⟩
end
theorem SeAt.kid {w wr : World} {A : Option Addr} {n c : Nat} {room : Int} {p : Int × Int} {lev : Int} {kk : Kd} {pp : Int} (h : SeAt w wr A n c room p lev kk pp) {i : Nat} (hi : i < 4) (v : Int) : SeAt w (wr.setCell ⟨w.heap.size + 3, 1 + i, none⟩ (.int .i64 v)) A n c room p lev (kset kk i v) pp := by
  have ho : ∀ b, b ≠ w.heap.size + 3 → (wr.setCell ⟨w.heap.size + 3, 1 + i, none⟩ (.int .i64 v)).heap[b]? = wr.heap[b]? := fun b hb => Below.heap_setCell _ _ _ _ (by show b ≠ w.heap.size + 3; exact hb)
  exact ⟨(ho _ (by omega)).trans h.st, ⟨(ho _ (by omega)).trans h.cl.row⟩, (ho _ (by omega)).trans h.res, h.nd.set hi v, h.bel.setCell (by show w.heap.size ≤ w.heap.size + 3; omega) _⟩
/-- what is known in Set: the boxes of the store, the place, what is told -/
structure S3At (w wr : World) (A : Option Addr) (n c : Nat) (room : Int) (p : Int × Int) : Prop where
  st : wr.heap[w.heap.size]? = some (.cells #[.slice A n c, .int .i64 room] 26 (0, 0))
  cl : ClB wr (w.heap.size + 1) p
  res : wr.heap[w.heap.size + 2]? = some (.cells #[.slice none 0 0, .int .i64 0] 26 (0, 0))
  bel : Below w.heap.size w wr
section
variable {w wr w' : World} {A : Option Addr} {n c : Nat} {room : Int} {p : Int × Int}
theorem S3At.below (h : S3At w wr A n c room p) (hb : Below wr.heap.size wr w') : S3At w w' A n c room p :=
  ⟨(hb.block _ (lt_heap6 h.st)).trans h.st, h.cl.below hb, (hb.block _ (lt_heap6 h.res)).trans h.res, Qt.more h.bel h.bel.size hb⟩
theorem S3At.s0 (h : S3At w wr A n c room p) : wr.cell? ⟨w.heap.size, 0, none⟩ = some (.slice A n c) := by rw [Lib.cell_of_heap h.st]; rfl
theorem S3At.s1 (h : S3At w wr A n c room p) : wr.cell? ⟨w.heap.size, 1, none⟩ = some (.int .i64 room) := by rw [Lib.cell_of_heap h.st]; rfl
theorem S3At.r0 (h : S3At w wr A n c room p) : wr.cell? ⟨w.heap.size + 2, 0, none⟩ = some (.slice none 0 0) := by rw [Lib.cell_of_heap h.res]; rfl
theorem S3At.r1 (h : S3At w wr A n c room p) : wr.cell? ⟨w.heap.size + 2, 1, none⟩ = some (.int .i64 0) := by rw [Lib.cell_of_heap h.res]; rfl
theorem S3At.free (h : S3At w wr A n c room p) (j : Nat) : wr.frozen? ⟨w.heap.size + 2, j, none⟩ = false := Lib.frozen_of_heap h.res j
theorem S3At.told {A2 : Option Addr} {pl : List Nd} (h : S3At w wr A n c room p) (hN : NowN wr A2 pl) (u v : Value) : ((wr.setCell ⟨w.heap.size + 2, 0, none⟩ u).setCell ⟨w.heap.size + 2, 1, none⟩ v).heap[w.heap.size + 2]? = some (.cells #[u, v] 26 (0, 0)) ∧ Below w.heap.size w ((wr.setCell ⟨w.heap.size + 2, 0, none⟩ u).setCell ⟨w.heap.size + 2, 1, none⟩ v) ∧ NowN ((wr.setCell ⟨w.heap.size + 2, 0, none⟩ u).setCell ⟨w.heap.size + 2, 1, none⟩ v) A2 pl := by
  have hr := h.res
  exact ⟨by simp [World.setCell, Array.getElem?_modify, hr], below_set2c h.bel (by omega) u v, (rdN_told hN h.res).more (by simp [World.setCell])⟩
end
end Go.Proofs.Ytklccoodfhejbaa
namespace Go.Proofs.Ytklccoodfhejbaa
set_option maxRecDepth 100000
set_option linter.unusedVariables false
set_option linter.unusedSimpArgs false
open Go.RowKit Go.Sort

/-- what is known in Larger: the store's box, what is told, the kids, the store so far, the new kids -/
structure LaAt (w wr : World) (A : Option Addr) (n c : Nat) (room : Int) (kk : Kd) (ab kb : Nat) (A2 : Option Addr) (m : List Nd) (c2 : Nat) (q : Kd) : Prop where
  st : wr.heap[w.heap.size]? = some (.cells #[.slice A n c, .int .i64 room] 26 (0, 0))
  res : wr.heap[w.heap.size + 1]? = some (.cells #[.slice none 0 0, .int .i64 0] 26 (0, 0))
  x : KR wr (w.heap.size + 2) kk
  bx : StB wr ab A2 m c2 room
  kids : KR wr kb q
  bel : Below w.heap.size w wr
section
variable {w wr w' : World} {A A2 A3 : Option Addr} {n c c2 c3 ab kb : Nat} {room : Int} {kk q : Kd} {m m' : List Nd}
theorem LaAt.below (h : LaAt w wr A n c room kk ab kb A2 m c2 q) (hb : Below wr.heap.size wr w') : LaAt w w' A n c room kk ab kb A2 m c2 q :=
  ⟨(hb.block _ (lt_heap6 h.st)).trans h.st, (hb.block _ (lt_heap6 h.res)).trans h.res, (hb.block _ (lt_heap6 h.x)).trans h.x, h.bx.below hb, (hb.block _ (lt_heap6 h.kids)).trans h.kids, Qt.more h.bel h.bel.size hb⟩
theorem LaAt.put (h : LaAt w wr A n c room kk ab kb A2 m c2 q) (hab : w.heap.size + 3 ≤ ab) (hkb : ab < kb) (hN : NowN wr A3 m') (hc : m'.length ≤ c3) : LaAt w ((wr.setCell ⟨ab, 0, none⟩ (.slice A3 m'.length c3)).setCell ⟨ab, 1, none⟩ (.int .i64 room)) A n c room kk ab kb A3 m' c3 q := by
  have ho : ∀ b, b ≠ ab → ((wr.setCell ⟨ab, 0, none⟩ (.slice A3 m'.length c3)).setCell ⟨ab, 1, none⟩ (.int .i64 room)).heap[b]? = wr.heap[b]? := fun b hb => (Below.heap_setCell _ _ _ _ (by show b ≠ ab; exact hb)).trans (Below.heap_setCell _ _ _ _ (by show b ≠ ab; exact hb))
  exact ⟨(ho _ (by omega)).trans h.st, (ho _ (by omega)).trans h.res, (ho _ (by omega)).trans h.x, stB_put (room := room) h.bx.row hN hc, (ho _ (by omega)).trans h.kids, below_set2c h.bel (by omega) _ _⟩
theorem LaAt.kid (h : LaAt w wr A n c room kk ab kb A2 m c2 q) (hab : w.heap.size + 3 ≤ ab) (hkb : ab < kb) {j : Nat} (hj : j < 4) (v : Int) : LaAt w (wr.setCell ⟨kb, j, none⟩ (.int .i64 v)) A n c room kk ab kb A2 m c2 (kset q j v) := by
  have ho : ∀ b, b ≠ kb → (wr.setCell ⟨kb, j, none⟩ (.int .i64 v)).heap[b]? = wr.heap[b]? := fun b hb => Below.heap_setCell _ _ _ _ (by show b ≠ kb; exact hb)
  exact ⟨(ho _ (by omega)).trans h.st, (ho _ (by omega)).trans h.res, (ho _ (by omega)).trans h.x, ⟨(ho _ (by omega)).trans h.bx.row, (rdN_set h.bx.rd h.kids (Nat.le_of_ble_eq_true rfl) _).more (by simp [World.setCell]), h.bx.cap⟩, h.kids.set hj v, h.bel.setCell (by show w.heap.size ≤ kb; omega) _⟩
theorem LaAt.s0 (h : LaAt w wr A n c room kk ab kb A2 m c2 q) : wr.cell? ⟨w.heap.size, 0, none⟩ = some (.slice A n c) := by rw [Lib.cell_of_heap h.st]; rfl
theorem LaAt.s1 (h : LaAt w wr A n c room kk ab kb A2 m c2 q) : wr.cell? ⟨w.heap.size, 1, none⟩ = some (.int .i64 room) := by rw [Lib.cell_of_heap h.st]; rfl
theorem LaAt.r0 (h : LaAt w wr A n c room kk ab kb A2 m c2 q) : wr.cell? ⟨w.heap.size + 1, 0, none⟩ = some (.slice none 0 0) := by rw [Lib.cell_of_heap h.res]; rfl
theorem LaAt.r1 (h : LaAt w wr A n c room kk ab kb A2 m c2 q) : wr.cell? ⟨w.heap.size + 1, 1, none⟩ = some (.int .i64 0) := by rw [Lib.cell_of_heap h.res]; rfl
theorem LaAt.free (h : LaAt w wr A n c room kk ab kb A2 m c2 q) (j : Nat) : wr.frozen? ⟨w.heap.size + 1, j, none⟩ = false := Lib.frozen_of_heap h.res j
theorem LaAt.told {A4 : Option Addr} {pl : List Nd} (h : LaAt w wr A n c room kk ab kb A2 m c2 q) (hN : NowN wr A4 pl) (u v : Value) : ((wr.setCell ⟨w.heap.size + 1, 0, none⟩ u).setCell ⟨w.heap.size + 1, 1, none⟩ v).heap[w.heap.size + 1]? = some (.cells #[u, v] 26 (0, 0)) ∧ Below w.heap.size w ((wr.setCell ⟨w.heap.size + 1, 0, none⟩ u).setCell ⟨w.heap.size + 1, 1, none⟩ v) ∧ NowN ((wr.setCell ⟨w.heap.size + 1, 0, none⟩ u).setCell ⟨w.heap.size + 1, 1, none⟩ v) A4 pl := by
  have hr := h.res
  exact ⟨by simp [World.setCell, Array.getElem?_modify, hr], below_set2c h.bel (by omega) u v, (rdN_told hN h.res).more (by simp [World.setCell])⟩
end
set_option maxHeartbeats 16000000 in
theorem refLarger_any {room : Int} {l : List Nd} (hr : Right6 l room) (A : Option Addr) (c : Nat) {e n : Nat} (w : World) (he : e ≤ 42) (hn : Is l (e + 1) n) (hR : RdN w w.heap.size A l) (hc : l.length ≤ c) :
    Calls Try.prog 62 #[storeV A l.length c room, .int .i64 (n : Nat)] w (PutR (grown6 l room (growC room l n e)) room w) := by
  have HRR := Lib.hid hR
  have hE0 := e7_0 hR hc room
  obtain ⟨b0, off, rfl, hbB, hcell⟩ := hR.at_ (by have := hr.two; omega)
  obtain ⟨x0, x1, x2, x3, x4, x5⟩ := hcell n hn.lt
  rw [hn.lev, show ((e + 1 : Nat) : Int) = (e : Int) + 1 by omega] at x0
  have y0 := Qt.keep hE0.bel x0
  have y1 := Qt.keep hE0.bel x1
  have y2 := Qt.keep hE0.bel x2
  have y3 := Qt.keep hE0.bel x3
  have y4 := Qt.keep hE0.bel x4
  obtain ⟨Y, hY⟩ : ∃ Y, Y = grown6 l room (growC room l n e) := ⟨_, rfl⟩
  rw [← hY]
  have hemp := fun W (hW : RdN W W.heap.size (some ⟨b0, off, none⟩) l) => refEmpty7_any (some ⟨b0, off, none⟩) l c room e W hW hr hc he
  have her := emptyTo_right7 hr e
  unfold grown6 growC at hY
  rw [if_pos (right_iff.2 hr)] at hY
  generalize emptyTo l room e = E at *
  obtain ⟨el, dn, de⟩ := E
  dsimp only at her hY
  obtain ⟨⟨lv, kk, pp⟩, hnode⟩ : ∃ x, x = l.getD n deadN := ⟨_, rfl⟩
  rw [← hnode] at y1 y2 y3 y4 hY
  dsimp only at y1 y2 y3 y4 hY
  have hnz : (n : Int) < (l.length : Int) := by have := hn.lt; omega
  have hs2 : ((w.alloc (.cells #[.slice (some ⟨b0, off, none⟩) l.length c, .int .i64 room] 26)).alloc (.cells #[.slice none 0 0, .int .i64 0] 26)).heap.size = w.heap.size + 2 := by simp
  have hal := (Below.refl _ ((w.alloc (.cells #[.slice (some ⟨b0, off, none⟩) l.length c, .int .i64 room] 26)).alloc (.cells #[.slice none 0 0, .int .i64 0] 26))).alloc (Nat.le_refl _) (.cells #[.int .i64 kk.1, .int .i64 kk.2.1, .int .i64 kk.2.2.1, .int .i64 kk.2.2.2] 33)
  have HE := Lib.hid (hE0.below hal)
  have HX := Lib.hid (show KR (((w.alloc (.cells #[.slice (some ⟨b0, off, none⟩) l.length c, .int .i64 room] 26)).alloc (.cells #[.slice none 0 0, .int .i64 0] 26)).alloc (.cells #[.int .i64 kk.1, .int .i64 kk.2.1, .int .i64 kk.2.2.1, .int .i64 kk.2.2.2] 33)) (w.heap.size + 2) kk from heap_new hs2)
  have HL0 := Lib.hid x0
  have s0 := hE0.s0
  have s1 := hE0.s1
  have hadd : (e : Int) + 1 - 1 = (e : Int) := by omega
  have hwk : IntKind.i64.wrap ((e : Int)) = (e : Int) := by rw [IntKind.wrap_i64]; omega
  have HY := Lib.hid hY
  have HER := Lib.hid her
  unfold storeV at hemp ⊢
  clear hcell x0 x1 x2 x3 x4 x5 hnode hal hE0 hR hs2 hY hbB hn hr her
  go_enter Try.func62, Try.ntmps62
  go_wp2_with fail
  clear y0 y1 y2 y3 y4 s0 s1
  generalize (((w.alloc (.cells #[.slice (some ⟨b0, off, none⟩) l.length c, .int .i64 room] 26)).alloc (.cells #[.slice none 0 0, .int .i64 0] 26)).alloc (.cells #[.int .i64 kk.1, .int .i64 kk.2.1, .int .i64 kk.2.2.1, .int .i64 kk.2.2.2] 33)) = v3 at *
  have hst := fun W (hW : Below v3.heap.size v3 W) => HE.out.below hW
  have hlv := fun W (hW : Below v3.heap.size v3 W) => Qt.keep (HE.out.below hW).bel HL0.out
  have hem := fun W (hW : Below v3.heap.size v3 W) => hemp W ((HE.out.below hW).st.rd)
  refine region_calm_to (fun W => Below v3.heap.size v3 W) (fun (a0 a9 : Act) (w9 : World) => ∃ (A9 : Option Addr) (c9 b9 : Nat), a9 = ((((((((((((((((a0.put (some 27) (.agg #[.slice (some ⟨b0, off, none⟩) l.length c, .int .i64 room])).put (some 28) (.pointer (some ⟨w.heap.size, 0, none⟩))).put (some 29) (.slice (some ⟨b0, off, none⟩) l.length c)).put (some 30) (.int .i64 (n : Int))).put (some 31) (.pointer (some ⟨b0, off + n * 6, none⟩))).put (some 32) (.pointer (some ⟨b0, off + n * 6, none⟩))).put (some 33) (.int .i64 ((e : Int) + 1))).put (some 34) (.int .i64 (e : Int))).put (some 35) (.tuple #[.agg #[.slice A9 el.length c9, .int .i64 room], .int .i64 dn, .int .i64 de])).put (some 26) (.tuple #[.agg #[.slice A9 el.length c9, .int .i64 room], .int .i64 dn, .int .i64 de])).put (some 36) (.agg #[.slice A9 el.length c9, .int .i64 room])).put (some 37) (.int .i64 dn)).put (some 38) (.int .i64 de)).put (some 8) (.pointer (some ⟨b9, 0, none⟩))).put (some 9) (.int .i64 dn)).put (some 10) (.int .i64 de)) ∧ (v3.heap.size ≤ b9 ∧ StB w9 b9 A9 el c9 room ∧ Below v3.heap.size v3 w9)) (.calm 0 (.calm 1 (.calm 2 (.calm 3 (.calm 4 (.calm 5 (.calm 6 (.calm 7 (.two 8 13 (.calm 9 (.calm 10 (.calm 11 (.calm 12 (.only 13 (.only 14 (.only 15 (.only 16 .done)))))))) (.only 8 (.calm 9 (.calm 10 (.calm 11 (.calm 12 (.only 14 (.only 15 (.only 16 .done))))))))))))))))) (by kernel_rfl) (by kernel_rfl) (by kernel_rfl) (by rfl) (below_drew _) ?_ ?_
  · skip
    refine ⟨_, _, (.agg #[.slice (some ⟨b0, off, none⟩) l.length c, .int .i64 room]), rfl, rfl, ⟨rfl, fun W hW => by have s0 := (hst W hW).s0; have s1 := (hst W hW).s1; simp only [execOp]; go_simp; done⟩, ?_⟩
    simp only [Act.put, List.getElem_toArray, List.getElem_cons_zero, List.getElem_cons_succ, List.setIfInBounds_toArray, List.set_cons_succ, List.set_cons_zero]
    refine ⟨_, _, (.pointer (some ⟨w.heap.size, 0, none⟩)), rfl, rfl, ⟨rfl, fun W hW => by first | exact ⟨rfl, rfl⟩ | (simp only [Act.eval, execOp]; go_simp; try exact ⟨rfl, rfl⟩)⟩, ?_⟩
    simp only [Act.put, List.getElem_toArray, List.getElem_cons_zero, List.getElem_cons_succ, List.setIfInBounds_toArray, List.set_cons_succ, List.set_cons_zero]
    refine ⟨_, _, (.slice (some ⟨b0, off, none⟩) l.length c), rfl, rfl, ⟨rfl, fun W hW => by have s0 := (hst W hW).s0; simp only [execOp]; go_simp; done⟩, ?_⟩
    simp only [Act.put, List.getElem_toArray, List.getElem_cons_zero, List.getElem_cons_succ, List.setIfInBounds_toArray, List.set_cons_succ, List.set_cons_zero]
    refine ⟨_, _, (.int .i64 (n : Int)), rfl, rfl, ⟨rfl, fun W hW => by first | exact ⟨rfl, rfl⟩ | (simp only [Act.eval, execOp]; go_simp; try exact ⟨rfl, rfl⟩)⟩, ?_⟩
    simp only [Act.put, List.getElem_toArray, List.getElem_cons_zero, List.getElem_cons_succ, List.setIfInBounds_toArray, List.set_cons_succ, List.set_cons_zero]
    refine ⟨_, _, (.pointer (some ⟨b0, off + n * 6, none⟩)), rfl, rfl, ⟨rfl, fun W hW => by first | exact ⟨rfl, rfl⟩ | (simp only [Act.eval, execOp]; go_simp; try exact ⟨rfl, rfl⟩)⟩, ?_⟩
    simp only [Act.put, List.getElem_toArray, List.getElem_cons_zero, List.getElem_cons_succ, List.setIfInBounds_toArray, List.set_cons_succ, List.set_cons_zero]
    refine ⟨_, _, (.pointer (some ⟨b0, off + n * 6, none⟩)), rfl, rfl, ⟨rfl, fun W hW => by first | exact ⟨rfl, rfl⟩ | (simp only [Act.eval, execOp]; go_simp; try exact ⟨rfl, rfl⟩)⟩, ?_⟩
    simp only [Act.put, List.getElem_toArray, List.getElem_cons_zero, List.getElem_cons_succ, List.setIfInBounds_toArray, List.set_cons_succ, List.set_cons_zero]
    refine ⟨_, _, (.int .i64 ((e : Int) + 1)), rfl, rfl, ⟨rfl, fun W hW => by have s0 := hlv W hW; simp only [execOp]; go_simp; done⟩, ?_⟩
    simp only [Act.put, List.getElem_toArray, List.getElem_cons_zero, List.getElem_cons_succ, List.setIfInBounds_toArray, List.set_cons_succ, List.set_cons_zero]
    refine ⟨_, _, (.int .i64 (e : Int)), rfl, rfl, ⟨rfl, fun W hW => by first | exact ⟨rfl, rfl⟩ | (simp only [Act.eval, execOp]; go_simp; try exact ⟨rfl, rfl⟩)⟩, ?_⟩
    simp only [Act.put, List.getElem_toArray, List.getElem_cons_zero, List.getElem_cons_succ, List.setIfInBounds_toArray, List.set_cons_succ, List.set_cons_zero]
    constructor
    · skip
      refine ⟨_, rfl, ?_⟩
      go_wp2_with fail
      refine (hem _ (below_drew v3)).mono ?_
      intro e w8 h
      obtain ⟨A9, c9, rfl, hcap9, N9, hb⟩ := putR_box h
      clear h
      have hBc1 := Qt.more (below_drew v3) (Nat.le_refl _) hb
      have hb_0_1 := hb
      go_wp2_with fail
      refine ⟨rfl, hBc1, ?_⟩
      refine ⟨_, _, (.tuple #[.agg #[.slice A9 el.length c9, .int .i64 room], .int .i64 dn, .int .i64 de]), rfl, rfl, ⟨rfl, fun W hW => by first | exact ⟨rfl, rfl⟩ | (simp only [Act.eval, execOp]; go_simp; try exact ⟨rfl, rfl⟩)⟩, ?_⟩
      simp only [Act.put, List.getElem_toArray, List.getElem_cons_zero, List.getElem_cons_succ, List.setIfInBounds_toArray, List.set_cons_succ, List.set_cons_zero]
      refine ⟨_, _, (.agg #[.slice A9 el.length c9, .int .i64 room]), rfl, rfl, ⟨rfl, fun W hW => by first | exact ⟨rfl, rfl⟩ | (simp only [Act.eval, execOp]; go_simp; try exact ⟨rfl, rfl⟩)⟩, ?_⟩
      simp only [Act.put, List.getElem_toArray, List.getElem_cons_zero, List.getElem_cons_succ, List.setIfInBounds_toArray, List.set_cons_succ, List.set_cons_zero]
      refine ⟨_, _, (.int .i64 dn), rfl, rfl, ⟨rfl, fun W hW => by first | exact ⟨rfl, rfl⟩ | (simp only [Act.eval, execOp]; go_simp; try exact ⟨rfl, rfl⟩)⟩, ?_⟩
      simp only [Act.put, List.getElem_toArray, List.getElem_cons_zero, List.getElem_cons_succ, List.setIfInBounds_toArray, List.set_cons_succ, List.set_cons_zero]
      refine ⟨_, _, (.int .i64 de), rfl, rfl, ⟨rfl, fun W hW => by first | exact ⟨rfl, rfl⟩ | (simp only [Act.eval, execOp]; go_simp; try exact ⟨rfl, rfl⟩)⟩, ?_⟩
      simp only [Act.put, List.getElem_toArray, List.getElem_cons_zero, List.getElem_cons_succ, List.setIfInBounds_toArray, List.set_cons_succ, List.set_cons_zero]
      refine ⟨_, rfl, ?_⟩
      have hBa2 := (hBc1).alloc (hBc1).size (.cells #[.slice none 0 0, .int .i64 0] 26)
      have hra2 : (w8.alloc (.cells #[.slice none 0 0, .int .i64 0] 26 (0, 0))).heap[w8.heap.size]? = _ := heap_alloc_new w8 (.cells #[.slice none 0 0, .int .i64 0] 26 (0, 0))
      go_wp2_with fail
      refine ⟨rfl, hBa2, ?_⟩
      have hle_w8 : v3.heap.size ≤ w8.heap.size := (hBc1).size
      have hB9 := (hBc1).alloc (hBc1).size (.cells #[.slice A9 el.length c9, .int .i64 room] 26)
      have hS9 := stB_new N9 hcap9 room
      have HAB : v3.heap.size ≤ w8.heap.size := by first | exact hle_w8 | exact Nat.le_refl _
      refine ⟨_, rfl, ?_⟩
      go_wp2_with fail
      refine ⟨rfl, hB9, ?_⟩
      refine ⟨_, rfl, ?_⟩
      go_wp2_with fail
      refine ⟨rfl, hB9, ?_⟩
      refine ⟨_, rfl, ?_⟩
      go_wp2_with fail
      refine ⟨rfl, hB9, ?_⟩
      show ∃ (A9 : Option Addr) (c9 b9 : Nat), _
      refine ⟨A9, c9, w8.heap.size, ?_, HAB, hS9, hB9⟩
      first | rfl | simp only [Act.put, List.getElem_toArray, List.getElem_cons_zero, List.getElem_cons_succ, List.setIfInBounds_toArray, List.set_cons_succ, List.set_cons_zero]
    · skip
      refine ⟨_, rfl, ?_⟩
      have hBa1 := ((below_drew v3)).alloc (Nat.le_refl _) (.cells #[.slice none 0 0, .int .i64 0] 26)
      have hra1 : (v3.drew.alloc (.cells #[.slice none 0 0, .int .i64 0] 26 (0, 0))).heap[v3.heap.size]? = _ := heap_alloc_new v3.drew (.cells #[.slice none 0 0, .int .i64 0] 26 (0, 0))
      go_wp2_with fail
      refine ⟨rfl, hBa1, ?_⟩
      refine ⟨_, rfl, ?_⟩
      go_wp2_with fail
      refine (hem _ hBa1).mono ?_
      intro e w8 h
      obtain ⟨A9, c9, rfl, hcap9, N9, hb⟩ := putR_box h
      clear h
      have hBc3 := Qt.more hBa1 (hBa1).size hb
      have hrw3 := (hb.block _ (lt_heap6 hra1)).trans hra1
      have hb_0_3 := hb
      have f0 : w8.frozen? ⟨v3.heap.size, 0, none⟩ = false := Lib.frozen_of_heap hrw3 0
      have f1 : w8.frozen? ⟨v3.heap.size, 1, none⟩ = false := Lib.frozen_of_heap hrw3 1
      have g0 : w8.cell? ⟨v3.heap.size, 0, none⟩ = some (.slice none 0 0) := by rw [Lib.cell_of_heap hrw3]; rfl
      have g1 : w8.cell? ⟨v3.heap.size, 1, none⟩ = some (.int .i64 0) := by rw [Lib.cell_of_heap hrw3]; rfl
      go_wp2_with fail
      refine ⟨rfl, hBc3, ?_⟩
      refine ⟨_, _, (.tuple #[.agg #[.slice A9 el.length c9, .int .i64 room], .int .i64 dn, .int .i64 de]), rfl, rfl, ⟨rfl, fun W hW => by first | exact ⟨rfl, rfl⟩ | (simp only [Act.eval, execOp]; go_simp; try exact ⟨rfl, rfl⟩)⟩, ?_⟩
      simp only [Act.put, List.getElem_toArray, List.getElem_cons_zero, List.getElem_cons_succ, List.setIfInBounds_toArray, List.set_cons_succ, List.set_cons_zero]
      refine ⟨_, _, (.agg #[.slice A9 el.length c9, .int .i64 room]), rfl, rfl, ⟨rfl, fun W hW => by first | exact ⟨rfl, rfl⟩ | (simp only [Act.eval, execOp]; go_simp; try exact ⟨rfl, rfl⟩)⟩, ?_⟩
      simp only [Act.put, List.getElem_toArray, List.getElem_cons_zero, List.getElem_cons_succ, List.setIfInBounds_toArray, List.set_cons_succ, List.set_cons_zero]
      refine ⟨_, _, (.int .i64 dn), rfl, rfl, ⟨rfl, fun W hW => by first | exact ⟨rfl, rfl⟩ | (simp only [Act.eval, execOp]; go_simp; try exact ⟨rfl, rfl⟩)⟩, ?_⟩
      simp only [Act.put, List.getElem_toArray, List.getElem_cons_zero, List.getElem_cons_succ, List.setIfInBounds_toArray, List.set_cons_succ, List.set_cons_zero]
      refine ⟨_, _, (.int .i64 de), rfl, rfl, ⟨rfl, fun W hW => by first | exact ⟨rfl, rfl⟩ | (simp only [Act.eval, execOp]; go_simp; try exact ⟨rfl, rfl⟩)⟩, ?_⟩
      simp only [Act.put, List.getElem_toArray, List.getElem_cons_zero, List.getElem_cons_succ, List.setIfInBounds_toArray, List.set_cons_succ, List.set_cons_zero]
      have hB9 := ((hBc3.setCell (p := ⟨v3.heap.size, 0, none⟩) (Nat.le_refl _) (.slice A9 el.length c9)).setCell (p := ⟨v3.heap.size, 1, none⟩) (Nat.le_refl _) (.int .i64 room))
      have hS9 := stB_put (room := room) hrw3 N9 hcap9
      have HAB : v3.heap.size ≤ v3.heap.size := by first | exact Nat.le_refl _ | exact hle_v3
      refine ⟨_, rfl, ?_⟩
      go_wp2_with fail
      refine ⟨rfl, hB9, ?_⟩
      refine ⟨_, rfl, ?_⟩
      go_wp2_with fail
      refine ⟨rfl, hB9, ?_⟩
      refine ⟨_, rfl, ?_⟩
      go_wp2_with fail
      refine ⟨rfl, hB9, ?_⟩
      show ∃ (A9 : Option Addr) (c9 b9 : Nat), _
      refine ⟨A9, c9, v3.heap.size, ?_, HAB, hS9, hB9⟩
      first | rfl | simp only [Act.put, List.getElem_toArray, List.getElem_cons_zero, List.getElem_cons_succ, List.setIfInBounds_toArray, List.set_cons_succ, List.set_cons_zero]
  rintro a9 w9 ⟨A9, c9, ab, rfl, hab, hS9, hb9⟩
  simp only [Act.put, List.setIfInBounds_toArray, List.set_cons_succ, List.set_cons_zero]
  have hE9 := HE.out.below hb9
  have hX9 := (hb9.block _ (lt_heap6 HX.out)).trans HX.out
  have hab3 : w.heap.size + 3 ≤ ab := by have := lt_heap6 HX.out; omega
  clear hst hlv hem hemp hb9 hab HL0 HX
  by_cases hde : de = 0
  · subst hde
    have hal := (Below.refl w9.heap.size w9).alloc (Nat.le_refl _) (.cells #[.int .i64 0, .int .i64 0, .int .i64 0, .int .i64 0] 33)
    have hkb : ab < w9.heap.size := lt_heap6 hS9.row
    have HA0 := Lib.hid (show LaAt w (w9.alloc (.cells #[.int .i64 0, .int .i64 0, .int .i64 0, .int .i64 0] 33)) (some ⟨b0, off, none⟩) l.length c room kk ab w9.heap.size A9 el c9 (0, 0, 0, 0) from
      ⟨heap_old hE9.st.row, heap_old hE9.res, heap_old hX9, hS9.below hal, heap_new rfl, Qt.more hE9.bel hE9.bel.size hal⟩)
    clear hal hE9 hX9 hS9 HE
    go_wp2_with fail
    generalize (w9.alloc (.cells #[.int .i64 0, .int .i64 0, .int .i64 0, .int .i64 0] 33)) = w10 at *
    generalize w9.heap.size = kb at *
    go_loopw [12] (fun u wr => ∃ i : Nat, i ≤ 4 ∧ u = .int .i64 i ∧ Hid ((fourTo (fun i l' => put6 l' room (growK kk dn i)) el i).2.2 = 0) ∧ Hid (∃ A2 c2, LaAt w wr (some ⟨b0, off, none⟩) l.length c room kk ab kb A2 (fourTo (fun i l' => put6 l' room (growK kk dn i)) el i).1 c2 (fourTo (fun i l' => put6 l' room (growK kk dn i)) el i).2.1)) (fun u _ => 4 - (intOf u).toNat)
    case atStart => exact ⟨0, Nat.zero_le _, rfl, rfl, A9, c9, HA0.out⟩
    case round =>
      obtain ⟨i, hi, rfl, HERR, HH⟩ := hrel
      obtain ⟨A2, c2, HD⟩ := HH.out
      by_cases hlt : i < 4
      · have hltz : (i : Int) < 4 := by omega
        have hm := fourTo_right (F := fun i l' => put6 l' room (growK kk dn i)) (fun i l' _ h => put_right h _) HER.out i (by omega)
        have hnx : fourTo (fun i l' => put6 l' room (growK kk dn i)) el (i + 1) = ((put6 (fourTo (fun i l' => put6 l' room (growK kk dn i)) el i).1 room (growK kk dn i)).1, kset (fourTo (fun i l' => put6 l' room (growK kk dn i)) el i).2.1 i (put6 (fourTo (fun i l' => put6 l' room (growK kk dn i)) el i).1 room (growK kk dn i)).2.1, (put6 (fourTo (fun i l' => put6 l' room (growK kk dn i)) el i).1 room (growK kk dn i)).2.2) := by
          show (if (fourTo (fun i l' => put6 l' room (growK kk dn i)) el i).2.2 = 0 then _ else _) = _
          rw [if_pos HERR.out]
        have HSTOP := Lib.hid (fun h => fourTo_stop (F := fun i l' => put6 l' room (growK kk dn i)) (l := el) (i := i + 1) h)
        generalize hF : (fun (i : Nat) (l' : List Nd) => put6 l' room (growK kk dn i)) = F at *
        generalize (fourTo F el i).2.1 = q at *
        generalize (fourTo F el i).1 = M at *
        have hpu := fun W (hW : RdN W W.heap.size A2 M) => refPut7 (A := A2) (c := c2) (growK kk dn i) hW hm HD.bx.cap
        generalize put6 M room (growK kk dn i) = z at *
        obtain ⟨zl, zn, ze⟩ := z
        dsimp only at hnx
        have HNX := Lib.hid hnx
        have HD0 := Lib.hid HD
        have HPU := Lib.hid hpu
        clear hnx hpu HH hm HD HA0 hF
        obtain ⟨x9, hx9⟩ : ∃ x9, x9 = wr := ⟨_, rfl⟩
        rw [← hx9] at HD0 ⊢
        clear hx9
        rcases (by omega : i = 0 ∨ i = 1 ∨ i = 2 ∨ i = 3) with rfl | rfl | rfl | rfl
        · have hK : growK kk dn 0 = (dn, dn, dn, kk.1) := rfl
          have hpu := HPU.out
          rw [hK] at hpu
          dsimp only at hpu
          have hal := (Below.refl x9.heap.size x9).alloc (Nat.le_refl _) (.cells #[.int .i64 dn, .int .i64 dn, .int .i64 dn, .int .i64 kk.1] 33)
          have HD1 := Lib.hid (HD0.out.below hal)
          have g0 : x9.cell? ⟨w.heap.size + 2, 0, none⟩ = some (.int .i64 kk.1) := HD0.out.x.c (j := 0) (by decide)
          have g0 : ∀ o, (x9.alloc o).cell? ⟨w.heap.size + 2, 0, none⟩ = some (.int .i64 kk.1) := fun o => (World.cell?_alloc_lt x9 o _ (block_lt_of_cell g0)).trans g0
          have hq : KR (x9.alloc (.cells #[.int .i64 dn, .int .i64 dn, .int .i64 dn, .int .i64 kk.1] 33)) x9.heap.size (dn, dn, dn, kk.1) := heap_new rfl
          have q0 := hq.c (j := 0) (by decide)
          have q1 := hq.c (j := 1) (by decide)
          have q2 := hq.c (j := 2) (by decide)
          have q3 := hq.c (j := 3) (by decide)
          simp only [kd] at q0 q1 q2 q3
          have u0 := HD1.out.bx.s0
          have u1 := HD1.out.bx.s1
          have hc1 := hpu _ HD1.out.bx.rd
          clear hpu hal hq HPU hK HD0
          go_wp2_with fail
          clear g0 q0 q1 q2 q3 u0 u1
          generalize (x9.alloc (.cells #[.int .i64 dn, .int .i64 dn, .int .i64 dn, .int .i64 kk.1] 33)) = v9 at *
          generalize x9.heap.size = qb at *
          refine hc1.mono ?_
          rintro e w11 ⟨v8, rfl, ⟨A5, c5, rfl, hc5, hR5⟩, hb11⟩
          dsimp only at hc5 hR5
          have hal := (Below.refl w11.heap.size w11).alloc (Nat.le_refl _) (.cells #[.slice A5 zl.length c5, .int .i64 room] 26)
          have hS := stB_new hR5 hc5 room
          have hD := (HD1.out.below hb11).below hal
          have HS := Lib.hid hS
          have HD2 := Lib.hid hD
          have v0 := hS.s0
          have v1 := hS.s1
          clear hc1 hb11 hR5 hal HD1
          by_cases hze : ze = 0
          · subst hze
            have a0 := hD.bx.s0
            have a1 := hD.bx.s1
            have f0 := hD.bx.f0
            have f1 := hD.bx.f1
            have hP := hD.put hab3 hkb hS.rd hS.cap
            have k0 := hP.kids.c (j := 0) (by decide)
            have kf : ((((w11.alloc (.cells #[.slice A5 zl.length c5, .int .i64 room] 26))).setCell ⟨ab, 0, none⟩ (.slice A5 zl.length c5)).setCell ⟨ab, 1, none⟩ (.int .i64 room)).frozen? ⟨kb, 0, none⟩ = false := Lib.frozen_of_heap hP.kids 0
            have HQ := Lib.hid (hP.kid hab3 hkb (j := 0) (by decide) zn)
            clear hS hD hP HS HD2
            go_wp2_with fail
            clear v0 v1 a0 a1 f0 f1 k0 kf
            go_roundw
            case measure => simp [intOf]
            case rel => exact ⟨1, by decide, by go_num, by rw [HNX.out]; exact rfl, A5, c5, by rw [HNX.out]; exact HQ.out⟩
          · have hzd : decide (ze = 0) = false := decide_eq_false hze
            have h4 : (fourTo F el 4).2.2 = ze := by
              have := HSTOP.out (by rw [HNX.out]; exact hze) (4 - 1)
              rw [show 1 + (4 - 1) = 4 from rfl] at this
              rw [this, HNX.out]
            have hYe : Y = (l, 0, ze) := by
              have h := HY.out
              first | rw [if_pos trivial] at h | rw [if_pos rfl] at h
              unfold four at h
              simp only [h4, if_neg hze] at h
              exact h
            clear HY
            subst hYe
            have s0 := hD.s0
            have s1 := hD.s1
            have r0 := hD.r0
            have r1 := hD.r1
            have fr0 := hD.free 0
            have fr1 := hD.free 1
            have HT := Lib.hid (hD.told ((HRR.out.below hD.bel (Nat.le_refl _)).more hD.bel.size) (.slice (some ⟨b0, off, none⟩) l.length c) (.int .i64 room))
            clear hS hD HS HD2 h4 HNX HSTOP HERR
            go_wp2_with fail
            clear r0 r1 fr0 fr1 s0 s1 v0 v1
            refine bodyPost_ret (results_cell3 rfl _ _ _ _ _ _ _ rfl HT.out.1 Try.underlying26 rfl (by kernel_rfl)) rfl ?_
            exact ⟨_, rfl, ⟨_, c, rfl, hc, HT.out.2.2⟩, HT.out.2.1⟩
        · have hK : growK kk dn 1 = (dn, dn, kk.2.1, dn) := rfl
          have hpu := HPU.out
          rw [hK] at hpu
          dsimp only at hpu
          have hal := (Below.refl x9.heap.size x9).alloc (Nat.le_refl _) (.cells #[.int .i64 dn, .int .i64 dn, .int .i64 kk.2.1, .int .i64 dn] 33)
          have HD1 := Lib.hid (HD0.out.below hal)
          have g0 : x9.cell? ⟨w.heap.size + 2, 1, none⟩ = some (.int .i64 kk.2.1) := HD0.out.x.c (j := 1) (by decide)
          have g0 : ∀ o, (x9.alloc o).cell? ⟨w.heap.size + 2, 1, none⟩ = some (.int .i64 kk.2.1) := fun o => (World.cell?_alloc_lt x9 o _ (block_lt_of_cell g0)).trans g0
          have hq : KR (x9.alloc (.cells #[.int .i64 dn, .int .i64 dn, .int .i64 kk.2.1, .int .i64 dn] 33)) x9.heap.size (dn, dn, kk.2.1, dn) := heap_new rfl
          have q0 := hq.c (j := 0) (by decide)
          have q1 := hq.c (j := 1) (by decide)
          have q2 := hq.c (j := 2) (by decide)
          have q3 := hq.c (j := 3) (by decide)
          simp only [kd] at q0 q1 q2 q3
          have u0 := HD1.out.bx.s0
          have u1 := HD1.out.bx.s1
          have hc1 := hpu _ HD1.out.bx.rd
          clear hpu hal hq HPU hK HD0
          go_wp2_with fail
          clear g0 q0 q1 q2 q3 u0 u1
          generalize (x9.alloc (.cells #[.int .i64 dn, .int .i64 dn, .int .i64 kk.2.1, .int .i64 dn] 33)) = v9 at *
          generalize x9.heap.size = qb at *
          refine hc1.mono ?_
          rintro e w11 ⟨v8, rfl, ⟨A5, c5, rfl, hc5, hR5⟩, hb11⟩
          dsimp only at hc5 hR5
          have hal := (Below.refl w11.heap.size w11).alloc (Nat.le_refl _) (.cells #[.slice A5 zl.length c5, .int .i64 room] 26)
          have hS := stB_new hR5 hc5 room
          have hD := (HD1.out.below hb11).below hal
          have HS := Lib.hid hS
          have HD2 := Lib.hid hD
          have v0 := hS.s0
          have v1 := hS.s1
          clear hc1 hb11 hR5 hal HD1
          by_cases hze : ze = 0
          · subst hze
            have a0 := hD.bx.s0
            have a1 := hD.bx.s1
            have f0 := hD.bx.f0
            have f1 := hD.bx.f1
            have hP := hD.put hab3 hkb hS.rd hS.cap
            have k0 := hP.kids.c (j := 1) (by decide)
            have kf : ((((w11.alloc (.cells #[.slice A5 zl.length c5, .int .i64 room] 26))).setCell ⟨ab, 0, none⟩ (.slice A5 zl.length c5)).setCell ⟨ab, 1, none⟩ (.int .i64 room)).frozen? ⟨kb, 1, none⟩ = false := Lib.frozen_of_heap hP.kids 1
            have HQ := Lib.hid (hP.kid hab3 hkb (j := 1) (by decide) zn)
            clear hS hD hP HS HD2
            go_wp2_with fail
            clear v0 v1 a0 a1 f0 f1 k0 kf
            go_roundw
            case measure => simp [intOf]
            case rel => exact ⟨2, by decide, by go_num, by rw [HNX.out]; exact rfl, A5, c5, by rw [HNX.out]; exact HQ.out⟩
          · have hzd : decide (ze = 0) = false := decide_eq_false hze
            have h4 : (fourTo F el 4).2.2 = ze := by
              have := HSTOP.out (by rw [HNX.out]; exact hze) (4 - 2)
              rw [show 2 + (4 - 2) = 4 from rfl] at this
              rw [this, HNX.out]
            have hYe : Y = (l, 0, ze) := by
              have h := HY.out
              first | rw [if_pos trivial] at h | rw [if_pos rfl] at h
              unfold four at h
              simp only [h4, if_neg hze] at h
              exact h
            clear HY
            subst hYe
            have s0 := hD.s0
            have s1 := hD.s1
            have r0 := hD.r0
            have r1 := hD.r1
            have fr0 := hD.free 0
            have fr1 := hD.free 1
            have HT := Lib.hid (hD.told ((HRR.out.below hD.bel (Nat.le_refl _)).more hD.bel.size) (.slice (some ⟨b0, off, none⟩) l.length c) (.int .i64 room))
            clear hS hD HS HD2 h4 HNX HSTOP HERR
            go_wp2_with fail
            clear r0 r1 fr0 fr1 s0 s1 v0 v1
            refine bodyPost_ret (results_cell3 rfl _ _ _ _ _ _ _ rfl HT.out.1 Try.underlying26 rfl (by kernel_rfl)) rfl ?_
            exact ⟨_, rfl, ⟨_, c, rfl, hc, HT.out.2.2⟩, HT.out.2.1⟩
        · have hK : growK kk dn 2 = (dn, kk.2.2.1, dn, dn) := rfl
          have hpu := HPU.out
          rw [hK] at hpu
          dsimp only at hpu
          have hal := (Below.refl x9.heap.size x9).alloc (Nat.le_refl _) (.cells #[.int .i64 dn, .int .i64 kk.2.2.1, .int .i64 dn, .int .i64 dn] 33)
          have HD1 := Lib.hid (HD0.out.below hal)
          have g0 : x9.cell? ⟨w.heap.size + 2, 2, none⟩ = some (.int .i64 kk.2.2.1) := HD0.out.x.c (j := 2) (by decide)
          have g0 : ∀ o, (x9.alloc o).cell? ⟨w.heap.size + 2, 2, none⟩ = some (.int .i64 kk.2.2.1) := fun o => (World.cell?_alloc_lt x9 o _ (block_lt_of_cell g0)).trans g0
          have hq : KR (x9.alloc (.cells #[.int .i64 dn, .int .i64 kk.2.2.1, .int .i64 dn, .int .i64 dn] 33)) x9.heap.size (dn, kk.2.2.1, dn, dn) := heap_new rfl
          have q0 := hq.c (j := 0) (by decide)
          have q1 := hq.c (j := 1) (by decide)
          have q2 := hq.c (j := 2) (by decide)
          have q3 := hq.c (j := 3) (by decide)
          simp only [kd] at q0 q1 q2 q3
          have u0 := HD1.out.bx.s0
          have u1 := HD1.out.bx.s1
          have hc1 := hpu _ HD1.out.bx.rd
          clear hpu hal hq HPU hK HD0
          go_wp2_with fail
          clear g0 q0 q1 q2 q3 u0 u1
          generalize (x9.alloc (.cells #[.int .i64 dn, .int .i64 kk.2.2.1, .int .i64 dn, .int .i64 dn] 33)) = v9 at *
          generalize x9.heap.size = qb at *
          refine hc1.mono ?_
          rintro e w11 ⟨v8, rfl, ⟨A5, c5, rfl, hc5, hR5⟩, hb11⟩
          dsimp only at hc5 hR5
          have hal := (Below.refl w11.heap.size w11).alloc (Nat.le_refl _) (.cells #[.slice A5 zl.length c5, .int .i64 room] 26)
          have hS := stB_new hR5 hc5 room
          have hD := (HD1.out.below hb11).below hal
          have HS := Lib.hid hS
          have HD2 := Lib.hid hD
          have v0 := hS.s0
          have v1 := hS.s1
          clear hc1 hb11 hR5 hal HD1
          by_cases hze : ze = 0
          · subst hze
            have a0 := hD.bx.s0
            have a1 := hD.bx.s1
            have f0 := hD.bx.f0
            have f1 := hD.bx.f1
            have hP := hD.put hab3 hkb hS.rd hS.cap
            have k0 := hP.kids.c (j := 2) (by decide)
            have kf : ((((w11.alloc (.cells #[.slice A5 zl.length c5, .int .i64 room] 26))).setCell ⟨ab, 0, none⟩ (.slice A5 zl.length c5)).setCell ⟨ab, 1, none⟩ (.int .i64 room)).frozen? ⟨kb, 2, none⟩ = false := Lib.frozen_of_heap hP.kids 2
            have HQ := Lib.hid (hP.kid hab3 hkb (j := 2) (by decide) zn)
            clear hS hD hP HS HD2
            go_wp2_with fail
            clear v0 v1 a0 a1 f0 f1 k0 kf
            go_roundw
            case measure => simp [intOf]
            case rel => exact ⟨3, by decide, by go_num, by rw [HNX.out]; exact rfl, A5, c5, by rw [HNX.out]; exact HQ.out⟩
          · have hzd : decide (ze = 0) = false := decide_eq_false hze
            have h4 : (fourTo F el 4).2.2 = ze := by
              have := HSTOP.out (by rw [HNX.out]; exact hze) (4 - 3)
              rw [show 3 + (4 - 3) = 4 from rfl] at this
              rw [this, HNX.out]
            have hYe : Y = (l, 0, ze) := by
              have h := HY.out
              first | rw [if_pos trivial] at h | rw [if_pos rfl] at h
              unfold four at h
              simp only [h4, if_neg hze] at h
              exact h
            clear HY
            subst hYe
            have s0 := hD.s0
            have s1 := hD.s1
            have r0 := hD.r0
            have r1 := hD.r1
            have fr0 := hD.free 0
            have fr1 := hD.free 1
            have HT := Lib.hid (hD.told ((HRR.out.below hD.bel (Nat.le_refl _)).more hD.bel.size) (.slice (some ⟨b0, off, none⟩) l.length c) (.int .i64 room))
            clear hS hD HS HD2 h4 HNX HSTOP HERR
            go_wp2_with fail
            clear r0 r1 fr0 fr1 s0 s1 v0 v1
            refine bodyPost_ret (results_cell3 rfl _ _ _ _ _ _ _ rfl HT.out.1 Try.underlying26 rfl (by kernel_rfl)) rfl ?_
            exact ⟨_, rfl, ⟨_, c, rfl, hc, HT.out.2.2⟩, HT.out.2.1⟩
        · have hK : growK kk dn 3 = (kk.2.2.2, dn, dn, dn) := rfl
          have hpu := HPU.out
          rw [hK] at hpu
          dsimp only at hpu
          have hal := (Below.refl x9.heap.size x9).alloc (Nat.le_refl _) (.cells #[.int .i64 kk.2.2.2, .int .i64 dn, .int .i64 dn, .int .i64 dn] 33)
          have HD1 := Lib.hid (HD0.out.below hal)
          have g0 : x9.cell? ⟨w.heap.size + 2, 3, none⟩ = some (.int .i64 kk.2.2.2) := HD0.out.x.c (j := 3) (by decide)
          have g0 : ∀ o, (x9.alloc o).cell? ⟨w.heap.size + 2, 3, none⟩ = some (.int .i64 kk.2.2.2) := fun o => (World.cell?_alloc_lt x9 o _ (block_lt_of_cell g0)).trans g0
          have hq : KR (x9.alloc (.cells #[.int .i64 kk.2.2.2, .int .i64 dn, .int .i64 dn, .int .i64 dn] 33)) x9.heap.size (kk.2.2.2, dn, dn, dn) := heap_new rfl
          have q0 := hq.c (j := 0) (by decide)
          have q1 := hq.c (j := 1) (by decide)
          have q2 := hq.c (j := 2) (by decide)
          have q3 := hq.c (j := 3) (by decide)
          simp only [kd] at q0 q1 q2 q3
          have u0 := HD1.out.bx.s0
          have u1 := HD1.out.bx.s1
          have hc1 := hpu _ HD1.out.bx.rd
          clear hpu hal hq HPU hK HD0
          go_wp2_with fail
          clear g0 q0 q1 q2 q3 u0 u1
          generalize (x9.alloc (.cells #[.int .i64 kk.2.2.2, .int .i64 dn, .int .i64 dn, .int .i64 dn] 33)) = v9 at *
          generalize x9.heap.size = qb at *
          refine hc1.mono ?_
          rintro e w11 ⟨v8, rfl, ⟨A5, c5, rfl, hc5, hR5⟩, hb11⟩
          dsimp only at hc5 hR5
          have hal := (Below.refl w11.heap.size w11).alloc (Nat.le_refl _) (.cells #[.slice A5 zl.length c5, .int .i64 room] 26)
          have hS := stB_new hR5 hc5 room
          have hD := (HD1.out.below hb11).below hal
          have HS := Lib.hid hS
          have HD2 := Lib.hid hD
          have v0 := hS.s0
          have v1 := hS.s1
          clear hc1 hb11 hR5 hal HD1
          by_cases hze : ze = 0
          · subst hze
            have a0 := hD.bx.s0
            have a1 := hD.bx.s1
            have f0 := hD.bx.f0
            have f1 := hD.bx.f1
            have hP := hD.put hab3 hkb hS.rd hS.cap
            have k0 := hP.kids.c (j := 3) (by decide)
            have kf : ((((w11.alloc (.cells #[.slice A5 zl.length c5, .int .i64 room] 26))).setCell ⟨ab, 0, none⟩ (.slice A5 zl.length c5)).setCell ⟨ab, 1, none⟩ (.int .i64 room)).frozen? ⟨kb, 3, none⟩ = false := Lib.frozen_of_heap hP.kids 3
            have HQ := Lib.hid (hP.kid hab3 hkb (j := 3) (by decide) zn)
            clear hS hD hP HS HD2
            go_wp2_with fail
            clear v0 v1 a0 a1 f0 f1 k0 kf
            go_roundw
            case measure => simp [intOf]
            case rel => exact ⟨4, by decide, by go_num, by rw [HNX.out]; exact rfl, A5, c5, by rw [HNX.out]; exact HQ.out⟩
          · have hzd : decide (ze = 0) = false := decide_eq_false hze
            have h4 : (fourTo F el 4).2.2 = ze := by
              have := HSTOP.out (by rw [HNX.out]; exact hze) (4 - 4)
              rw [show 4 + (4 - 4) = 4 from rfl] at this
              rw [this, HNX.out]
            have hYe : Y = (l, 0, ze) := by
              have h := HY.out
              first | rw [if_pos trivial] at h | rw [if_pos rfl] at h
              unfold four at h
              simp only [h4, if_neg hze] at h
              exact h
            clear HY
            subst hYe
            have s0 := hD.s0
            have s1 := hD.s1
            have r0 := hD.r0
            have r1 := hD.r1
            have fr0 := hD.free 0
            have fr1 := hD.free 1
            have HT := Lib.hid (hD.told ((HRR.out.below hD.bel (Nat.le_refl _)).more hD.bel.size) (.slice (some ⟨b0, off, none⟩) l.length c) (.int .i64 room))
            clear hS hD HS HD2 h4 HNX HSTOP HERR
            go_wp2_with fail
            clear r0 r1 fr0 fr1 s0 s1 v0 v1
            refine bodyPost_ret (results_cell3 rfl _ _ _ _ _ _ _ rfl HT.out.1 Try.underlying26 rfl (by kernel_rfl)) rfl ?_
            exact ⟨_, rfl, ⟨_, c, rfl, hc, HT.out.2.2⟩, HT.out.2.1⟩
      · obtain rfl : i = 4 := by omega
        have hltz : ¬ ((4 : Nat) : Int) < 4 := by decide
        have hm := fourTo_right (F := fun i l' => put6 l' room (growK kk dn i)) (fun i l' _ h => put_right h _) HER.out 4 (by omega)
        have hpu := fun W (hW : RdN W W.heap.size A2 (fourTo (fun i l' => put6 l' room (growK kk dn i)) el 4).1) => refPut7 (A := A2) (c := c2) (fourTo (fun i l' => put6 l' room (growK kk dn i)) el 4).2.1 hW hm HD.bx.cap
        have hyy := HY.out
        unfold four at hyy
        rw [if_pos HERR.out] at hyy
        generalize (fourTo (fun i l' => put6 l' room (growK kk dn i)) el 4).2.1 = q at *
        generalize (fourTo (fun i l' => put6 l' room (growK kk dn i)) el 4).1 = M at *
        generalize put6 M room q = z at *
        obtain ⟨zl, zn, ze⟩ := z
        have hy2 : Y = if ze = 0 then (zl, zn, ze) else (l, 0, ze) := by first | exact hyy | simpa using hyy
        have u0 := HD.bx.s0
        have u1 := HD.bx.s1
        have k0 := HD.kids.c (j := 0) (by decide)
        have k1 := HD.kids.c (j := 1) (by decide)
        have k2 := HD.kids.c (j := 2) (by decide)
        have k3 := HD.kids.c (j := 3) (by decide)
        simp only [kd] at k0 k1 k2 k3
        have hc1 := hpu wr HD.bx.rd
        have HD0 := Lib.hid HD
        have HYY := Lib.hid hy2
        clear HH HD hm hpu HA0 HY hyy hy2 HERR
        go_wp2_with fail
        refine hc1.mono ?_
        rintro e w11 ⟨v9, rfl, ⟨A5, c5, rfl, hc5, hR5⟩, hb11⟩
        dsimp only at hc5 hR5
        have hal := (Below.refl w11.heap.size w11).alloc (Nat.le_refl _) (.cells #[.slice A5 zl.length c5, .int .i64 room] 26)
        have hS := stB_new hR5 hc5 room
        have hD := (HD0.out.below hb11).below hal
        have q0 := hD.s0
        have q1 := hD.s1
        have v0 := hS.s0
        have v1 := hS.s1
        have r0 := hD.r0
        have r1 := hD.r1
        have fr0 := hD.free 0
        have fr1 := hD.free 1
        have HS := Lib.hid hS
        have HD1 := Lib.hid hD
        clear hc1 hb11 hR5 hal hS hD HD0 u0 u1 k0 k1 k2 k3
        by_cases hze : ze = 0
        · subst hze
          have HT := Lib.hid (HD1.out.told HS.out.rd (.slice A5 zl.length c5) (.int .i64 room))
          go_wp2_with fail
          clear r0 r1 fr0 fr1 q0 q1 v0 v1
          refine bodyPost_ret (results_cell3 rfl _ _ _ _ _ _ _ rfl HT.out.1 Try.underlying26 rfl (by kernel_rfl)) rfl ?_
          rw [HYY.out]; first | rw [if_pos trivial] | rw [if_pos rfl]
          exact ⟨_, rfl, ⟨A5, c5, rfl, hc5, HT.out.2.2⟩, HT.out.2.1⟩
        · have hzd : decide (ze = 0) = false := decide_eq_false hze
          have HT := Lib.hid (HD1.out.told ((HRR.out.below HD1.out.bel (Nat.le_refl _)).more HD1.out.bel.size) (.slice (some ⟨b0, off, none⟩) l.length c) (.int .i64 room))
          go_wp2_with fail
          clear r0 r1 fr0 fr1 q0 q1 v0 v1
          refine bodyPost_ret (results_cell3 rfl _ _ _ _ _ _ _ rfl HT.out.1 Try.underlying26 rfl (by kernel_rfl)) rfl ?_
          rw [HYY.out, if_neg hze]
          exact ⟨_, rfl, ⟨_, c, rfl, hc, HT.out.2.2⟩, HT.out.2.1⟩
  · have hzd : decide (de = 0) = false := decide_eq_false hde
    have hYe : Y = (l, 0, de) := by
      have h := HY.out
      rw [if_neg hde] at h
      dsimp only at h
      rw [if_neg hde] at h
      exact h
    subst hYe
    have s0 := hE9.s0
    have s1 := hE9.s1
    have r0 := hE9.r0
    have r1 := hE9.r1
    have fr0 := hE9.free 0
    have fr1 := hE9.free 1
    have HT := Lib.hid (hE9.told hE9.st.rd (.slice (some ⟨b0, off, none⟩) l.length c) (.int .i64 room))
    clear hE9 hX9 hS9 HE HY
    go_wp2_with fail
    clear r0 r1 fr0 fr1 s0 s1
    refine bodyPost_ret (results_cell3 rfl _ _ _ _ _ _ _ rfl HT.out.1 Try.underlying26 rfl (by kernel_rfl)) rfl ?_
    exact ⟨_, rfl, ⟨_, c, rfl, hc, HT.out.2.2⟩, HT.out.2.1⟩
end Go.Proofs.Ytklccoodfhejbaa
namespace Go.Proofs.Ytklccoodfhejbaa
set_option maxRecDepth 100000
set_option linter.unusedVariables false
set_option linter.unusedSimpArgs false
open Go.RowKit Go.Sort

set_option maxHeartbeats 16000000 in
theorem refGrow7_any (A : Option Addr) (l : List Nd) (c : Nat) (room n : Int) (w : World) (hR : RdN w w.heap.size A l) (hl : l.length ≤ 1000000) (hc : l.length ≤ c) (hw : ∀ i, i < l.length → -9223372036854775808 ≤ (l.getD i deadN).1 ∧ (l.getD i deadN).1 ≤ 9223372036854775807) :
    Calls Try.prog 34 #[storeV A l.length c room, .int .i64 n] w (PutR (grow7 l room n) room w) := by
  have hal0 := Below.refl w.heap.size w
  have hal1 := hal0.alloc hal0.size (.cells #[.slice A l.length c, .int .i64 room] 26)
  have hz1 : (w.alloc (.cells #[.slice A l.length c, .int .i64 room] 26)).heap.size = w.heap.size + 1 := by simp
  have hal2 := hal1.alloc hal1.size (.cells #[.slice none 0 0, .int .i64 0] 26)
  have hG0 : WrAt w ((w.alloc (.cells #[.slice A l.length c, .int .i64 room] 26)).alloc (.cells #[.slice none 0 0, .int .i64 0] 26)) A l.length c room (w.heap.size + 1) := ⟨heap_old (heap_new rfl), heap_new hz1, hal2, by omega⟩
  have hmay := refMay7_any A l c room n _ ((hR.below hG0.bel (Nat.le_refl _)).more hG0.bel.size) hl hw
  have s0 := hG0.s0
  have s1 := hG0.s1
  have HG := Lib.hid hG0
  have HRR := Lib.hid hR
  clear hal0 hal1 hal2 hz1
  cases hb : (right6 l room && hasB l n) with
  | false =>
    rw [hb] at hmay
    have hz : grow7 l room n = (l, 0, 1) := by
      unfold grow7 grown6
      by_cases hr : right6 l room = true
      · rw [if_pos hr]
        rw [hr, Bool.true_and] at hb
        unfold growZ
        rw [hb, if_neg (by simp)]
        rfl
      · rw [if_neg hr]
    rw [hz]
    unfold storeV at hmay ⊢
    clear hz hR hw hb hG0
    go_enter Try.func34, Try.ntmps34
    go_wp2_with fail
    refine hmay.mono ?_
    rintro r w1 ⟨rfl, hb1⟩
    have hD := HG.out.below hb1
    have t0 := hD.s0
    have t1 := hD.s1
    have r0 := hD.r0
    have r1 := hD.r1
    have fr0 := hD.free 0
    have fr1 := hD.free 1
    have HT := Lib.hid (hD.told (.slice A l.length c) (.int .i64 room))
    have HN := Lib.hid (rdN_told (u := .slice A l.length c) (v := .int .i64 room) ((HRR.out.below hD.bel (Nat.le_refl _)).more hD.bel.size) hD.res)
    clear hb1 hmay s0 s1 HG hD
    go_wp2_with fail
    clear r0 r1 fr0 fr1 t0 t1
    refine bodyPost_ret (results_cell3 rfl _ _ _ _ _ _ _ rfl HT.out.1 Try.underlying26 rfl (by kernel_rfl)) rfl ?_
    exact ⟨_, rfl, ⟨A, c, rfl, hc, HN.out.more (by simp [World.setCell])⟩, HT.out.2⟩
  | true =>
    rw [hb] at hmay
    obtain ⟨hr0, hh⟩ := Bool.and_eq_true_iff.1 hb
    have hr := right_iff.1 hr0
    have hhs := hh
    unfold hasB at hh
    rw [decide_eq_true_eq] at hh
    obtain ⟨h1, h2, h3⟩ := hh
    obtain ⟨m, rfl⟩ : ∃ m : Nat, n = (m : Int) := ⟨n.toNat, by omega⟩
    rw [ndAt_nat] at h3
    have hbd := right_bd hr m (by omega)
    obtain ⟨e, he⟩ : ∃ e : Nat, (l.getD m deadN).1 = (e : Int) + 1 := ⟨((l.getD m deadN).1 - 1).toNat, by omega⟩
    have hIs : Is l (e + 1) m := ⟨by omega, by rw [he]; omega⟩
    have hz : grow7 l room (m : Int) = if 42 ≤ (e : Int) + 1 then (l, 0, 1) else grown6 l room (growC room l m e) := by
      unfold grow7 growZ
      rw [hhs, ndAt_nat, he, show ((e : Int) + 1).toNat - 1 = e by omega, Int.toNat_natCast]
      by_cases h42 : 42 ≤ (e : Int) + 1
      · rw [if_pos h42, if_neg (by simp; omega)]
        unfold grown6
        rw [if_pos hr0]; rfl
      · rw [if_neg h42, if_pos (by simp; omega)]
    obtain ⟨b0, off, rfl, hbB, hcell⟩ := hR.at_ (by omega)
    have x0 := (hcell m (by omega)).1
    rw [he] at x0
    have HX := Lib.hid x0
    have hmz : (m : Int) < (l.length : Int) := by omega
    have hel : (e : Int) ≤ 41 := by omega
    have hla := fun (h42 : ¬ 42 ≤ (e : Int) + 1) W (hR' : RdN W W.heap.size (some ⟨b0, off, none⟩) l) => refLarger_any hr (some ⟨b0, off, none⟩) c (e := e) (n := m) W (by omega) hIs hR' hc
    have HLA := Lib.hid hla
    rw [hz]
    clear hz hR hw hb hG0 hcell x0 hIs hla h1 h2 h3 hbd he hhs hr0 hr hbB hl
    by_cases h42 : 42 ≤ (e : Int) + 1
    · rw [if_pos h42]
      unfold storeV at hmay ⊢
      go_enter Try.func34, Try.ntmps34
      go_wp2_with fail
      refine hmay.mono ?_
      rintro r w1 ⟨rfl, hb1⟩
      have hD := HG.out.below hb1
      have t0 := hD.s0
      have t1 := hD.s1
      have r0 := hD.r0
      have r1 := hD.r1
      have fr0 := hD.free 0
      have fr1 := hD.free 1
      have y0 := Qt.keep hD.bel HX.out
      have HT := Lib.hid (hD.told (.slice (some ⟨b0, off, none⟩) l.length c) (.int .i64 room))
      have HN := Lib.hid (rdN_told (u := .slice (some ⟨b0, off, none⟩) l.length c) (v := .int .i64 room) ((HRR.out.below hD.bel (Nat.le_refl _)).more hD.bel.size) hD.res)
      clear hb1 hmay s0 s1 HG hD HX HLA
      go_wp2_with fail
      clear r0 r1 fr0 fr1 t0 t1 y0
      refine bodyPost_ret (results_cell3 rfl _ _ _ _ _ _ _ rfl HT.out.1 Try.underlying26 rfl (by kernel_rfl)) rfl ?_
      exact ⟨_, rfl, ⟨_, c, rfl, hc, HN.out.more (by simp [World.setCell])⟩, HT.out.2⟩
    · rw [if_neg h42]
      have hla := HLA.out h42
      unfold PutR at hla
      generalize grown6 l room (growC room l m e) = z at *
      obtain ⟨zl, zn, ze⟩ := z
      dsimp only at hla
      have HL := Lib.hid hla
      unfold storeV at hmay ⊢
      clear hla HLA
      go_enter Try.func34, Try.ntmps34
      go_wp2_with fail
      refine hmay.mono ?_
      rintro r w1 ⟨rfl, hb1⟩
      have hD := HG.out.below hb1
      have t0 := hD.s0
      have t1 := hD.s1
      have y0 := Qt.keep hD.bel HX.out
      have hdr : Below w.heap.size w w1.drew := Qt.more hD.bel hD.bel.size (below_drew w1)
      have hc1 := HL.out w1 ((HRR.out.below hD.bel (Nat.le_refl _)).more hD.bel.size)
      have hc2 := HL.out w1.drew ((HRR.out.below hdr (Nat.le_refl _)).more hdr.size)
      unfold storeV at hc1 hc2
      have HD := Lib.hid hD
      have HDD := Lib.hid (hD.below (below_drew w1))
      clear hb1 hmay s0 s1 HG HX HL hD hdr
      go_wp2_with fail
      first | refine hc2.mono ?_ | refine hc1.mono ?_
      rintro r w2 ⟨v, rfl, ⟨B, d, rfl, hd, hN⟩, hb2⟩
      have hD := by first | exact HDD.out.below hb2 | exact HD.out.below hb2
      have r0 := hD.r0
      have r1 := hD.r1
      have fr0 := hD.free 0
      have fr1 := hD.free 1
      have HT := Lib.hid (hD.told (.slice B zl.length d) (.int .i64 room))
      have HN := Lib.hid (rdN_told (u := .slice B zl.length d) (v := .int .i64 room) hN hD.res)
      clear t0 t1 y0 hc1 hc2 hb2 hD hN
      go_wp2_with fail
      clear r0 r1 fr0 fr1
      refine bodyPost_ret (results_cell3 rfl _ _ _ _ _ _ _ rfl HT.out.1 Try.underlying26 rfl (by kernel_rfl)) rfl ?_
      exact ⟨_, rfl, ⟨B, d, rfl, hd, HN.out.more (by simp [World.setCell])⟩, HT.out.2⟩
end Go.Proofs.Ytklccoodfhejbaa
namespace Go.Proofs.Ytklccoodfhejbaa
set_option linter.unusedVariables false
open Go.ChangeShapes Go.WideShapes Go.ChangeAt Go.RowKit Go.Deep

theorem i64_wf6 {a : Int} (h : (Lit.int .i64 a).wf = true) : I64 a := by
  have : IntKind.i64.min ≤ a ∧ a ≤ IntKind.i64.max := by simpa [Lit.wf] using h
  simpa [I64, IntKind.min, IntKind.max, IntKind.signed, IntKind.bits] using this

section
variable {H : Type} {enc : TypeId × Value → H} {w : World} {base : Nat} {spare : Nat → Bool} {held : Bool} {P : Program}
theorem exists_list6 {α : Type} (d : α) {n : Nat} {Q : Nat → α → Prop} (h : ∀ i, i < n → ∃ p, Q i p) : ∃ l : List α, l.length = n ∧ ∀ i, i < n → Q i (l.getD i d) := by
  induction n with
  | zero => exact ⟨[], rfl, fun i hi => absurd hi (Nat.not_lt_zero i)⟩
  | succ n ih =>
    obtain ⟨l, hl, hq⟩ := ih fun i hi => h i (by omega)
    obtain ⟨p, hp⟩ := h n (by omega)
    refine ⟨l ++ [p], by simp [hl], fun i hi => ?_⟩
    by_cases hin : i < n
    · rw [List.getD_eq_getElem?_getD, List.getElem?_append_left (by omega), ← List.getD_eq_getElem?_getD]
      exact hq i hin
    · have : i = n := by omega
      subst this
      rw [List.getD_eq_getElem?_getD, List.getElem?_append_right (by omega), hl]
      simpa using hp
/-- an array of numbers -/
theorem ints_in {t e : TypeId} {n fuel : Nat} {cs : List Value} {x : DataW H × List MemPlace} (ht : P.underlying t = some (.array n e)) (he : P.underlying e = some (.int .i64)) (h1 : P.cellsOf e = 1) (hn : P.cellsOf t = n)
    (h : DataW.trod enc P w base spare held fuel t cs = some x) : ∃ l : List Int, l.length = n ∧ cs = l.map (Value.int .i64) ∧ ∀ i, i < n → I64 (l.getD i 0) := by
  obtain ⟨xs, m, _, _, hlen, hxl, hx⟩ := DataW.trod_array ht h
  rw [hn] at hlen
  have hq : ∀ i, i < n → ∃ u : Int, cs[i]? = some (.int .i64 u) ∧ I64 u := by
    intro i hi
    have h2 := hx i hi
    rw [h1, List.getElem?_eq_getElem (by omega)] at h2
    obtain ⟨u, hu, _, wu⟩ := DataW.trod_int he h2
    refine ⟨u, ?_, i64_wf6 wu⟩
    have h3 : ((cs.drop (i * 1)).take 1)[0]? = some (.int .i64 u) := by rw [hu]; rfl
    simpa using h3
  obtain ⟨l, hl, hlq⟩ := exists_list6 0 hq
  refine ⟨l, hl, ?_, fun i hi => (hlq i hi).2⟩
  refine List.ext_getElem? fun i => ?_
  by_cases hi : i < n
  · rw [(hlq i hi).1, List.getElem?_map, List.getElem?_eq_getElem (by omega), List.getD_eq_getElem?_getD, List.getElem?_eq_getElem (by omega)]
    rfl
  · rw [List.getElem?_eq_none (by omega), List.getElem?_eq_none (by rw [List.length_map]; omega)]
/-- a slice whose elements take some cells each -/
theorem els_in {α : Type} (dec : α → List Value) (d : α) (Q : α → Prop) (n : Nat) (hn0 : 0 < n) {t e : TypeId} {fuel : Nat} {a0 : Option Addr} {len0 cap0 : Nat} {x : DataW H × List MemPlace} (hdec : ∀ a, (dec a).length = n) (ht : P.underlying t = some (.slice e)) (hn : P.cellsOf e = n)
    (he : ∀ fuel cs (y : DataW H × List MemPlace), DataW.trod enc P w base spare held fuel e cs = some y → ∃ a, cs = dec a ∧ Q a)
    (h : DataW.trod enc P w base spare held fuel t [.slice a0 len0 cap0] = some x) :
    ∃ l : List α, l.length = len0 ∧ len0 ≤ cap0 ∧ cap0 ≤ maxLen ∧ (∀ j, j < l.length → ∃ b off, a0 = some ⟨b, off, none⟩ ∧ b < w.heap.size ∧ ∀ i, i < n → w.cell? ⟨b, off + j * n + i, none⟩ = (dec (l.getD j d))[i]?) ∧ ∀ j, j < l.length → Q (l.getD j d) := by
  rcases open_slice ht h with ⟨hcs, _⟩ | ⟨a, len, cap, m, k, D, Pl, hcs, hb, hl, hm, hmm, _, hi⟩
  · simp at hcs
    obtain ⟨rfl, rfl, rfl⟩ := hcs
    exact ⟨[], rfl, Nat.le_refl _, by simp [maxLen], fun j hj => absurd hj (Nat.not_lt_zero j), fun j hj => absurd hj (Nat.not_lt_zero j)⟩
  · simp at hcs
    obtain ⟨rfl, rfl, rfl⟩ := hcs
    have hlm : len0 ≤ m := by rw [hmm]; split <;> omega
    have hq : ∀ i, i < len0 → ∃ p : α, (∀ q, q < n → w.cell? ((a.add (i * n)).add q) = (dec p)[q]?) ∧ Q p := by
      intro i hi'
      obtain ⟨cs', hc, ht'⟩ := hi i (by omega)
      rw [hn] at hc
      obtain ⟨p, rfl, hp⟩ := he _ _ _ ht'
      obtain ⟨_, _, hat⟩ := World.cells?_some hc
      exact ⟨p, fun q hq => hat q (by omega), hp⟩
    obtain ⟨l, hll, hlq⟩ := exists_list6 d hq
    refine ⟨l, hll, hl, hm, fun j hj => ?_, fun j hj => (hlq j (by omega)).2⟩
    obtain ⟨b, off, spot⟩ := a
    have hc := (hlq j (by omega)).1
    have h0 := hc 0 hn0
    rw [List.getElem?_eq_getElem (by rw [hdec]; exact hn0)] at h0
    have h00 := (hlq 0 (by omega)).1 0 hn0
    rw [List.getElem?_eq_getElem (by rw [hdec]; exact hn0)] at h00
    have hspot : spot = none := by simpa [Addr.add] using World.cell?_spot h00
    subst hspot
    refine ⟨b, off, rfl, ?_, fun i hi => ?_⟩
    · rw [Addr.add_lit] at h0
      exact block_lt_of_cell h0
    · have := hc i hi
      rw [Addr.add_lit, Addr.add_lit] at this
      exact this
/-- five numbers -/
def dec5 (r : Raw5) : List Value := [.int .i64 r.1, .int .i64 r.2.1, .int .i64 r.2.2.1, .int .i64 r.2.2.2.1, .int .i64 r.2.2.2.2]
theorem five_in {t e : TypeId} {fuel : Nat} {cs : List Value} {x : DataW H × List MemPlace} (ht : P.underlying t = some (.array 5 e)) (he : P.underlying e = some (.int .i64)) (h1 : P.cellsOf e = 1) (hn : P.cellsOf t = 5)
    (h : DataW.trod enc P w base spare held fuel t cs = some x) : ∃ r : Raw5, cs = dec5 r ∧ Fine5 r := by
  obtain ⟨l, hl, rfl, hI⟩ := ints_in ht he h1 hn h
  match l, hl with
  | [a, b, c, d, e], _ => exact ⟨(a, b, c, d, e), rfl, hI 0 (by decide), hI 1 (by decide), hI 2 (by decide), hI 3 (by decide), hI 4 (by decide)⟩
end
theorem raws_in {H : Type} {enc : TypeId × Value → H} {w : World} {base : Nat} {spare : Nat → Bool} {held : Bool} {fuel : Nat} {a0 : Option Addr} {len0 cap0 : Nat} {x : DataW H × List MemPlace}
    (h : DataW.trod enc Try.prog w base spare held fuel 22 [.slice a0 len0 cap0] = some x) : ∃ l : List Raw5, l.length = len0 ∧ len0 ≤ cap0 ∧ cap0 ≤ maxLen ∧ RdR w w.heap.size a0 l ∧ ∀ j, j < l.length → Fine5 (l.getD j dead5) := by
  obtain ⟨l, h1, h2, h3, h4, h5⟩ := els_in dec5 dead5 Fine5 5 (by decide) (fun _ => rfl) Try.underlying22 (by kernel_rfl) (fun _ _ _ hy => five_in Try.underlying69 Try.underlying3 (by kernel_rfl) (by kernel_rfl) hy) h
  refine ⟨l, h1, h2, h3, fun j hj => ?_, h5⟩
  obtain ⟨b, off, e, hb, hc⟩ := h4 j hj
  exact ⟨b, off, e, hb, hc 0 (by decide), hc 1 (by decide), hc 2 (by decide), hc 3 (by decide), hc 4 (by decide)⟩
end Go.Proofs.Ytklccoodfhejbaa
namespace Go.Proofs.Ytklccoodfhejbaa
set_option maxRecDepth 100000
set_option linter.unusedVariables false
open Go.ChangeShapes Go.WideShapes Go.ChangeAt Go.RowKit Go.Deep
theorem own : ownKnob Try.prog.godebug = none := by kernel_rfl
theorem laidOut : laidOutB Try.prog = true := by kernel_rfl
section
variable {H : Type} {enc : TypeId × Value → H} {W : World} {base : Nat} {spare : Nat → Bool} {held : Bool} {P : Program}
end
end Go.Proofs.Ytklccoodfhejbaa
