/-
  Texts that the claims of this seat share, part 24.
-/
import Derived.Test.YtklccoodfhejbaaB23
import Derived.Test.YtklccoodfhejbaaB13
import Derived.Test.YtklccoodfhejbaaB01
set_option linter.unusedVariables false
set_option linter.unusedSimpArgs false
namespace Go.Proofs.Ytklccoodfhejbaa.Cel
set_option linter.unusedVariables false
set_option linter.unusedSimpArgs false
open Go.RowKit Go.Sort

theorem ofR_out {l : List (Int × Int)} {k : Nat} (hk : k < l.length) (h : inB (l.getD k (0, 0)) = false) : ofR l = (2, []) := by
  unfold ofR
  rw [if_pos]
  exact List.any_eq_true.2 ⟨_, getD_mem hk, by rw [h]; rfl⟩
theorem ofR_in {l : List (Int × Int)} (h : ∀ j, j < l.length → inB (l.getD j (0, 0)) = true) : ofR l = if 2000 < (setL l).length then (3, []) else (0, setL l) := by
  unfold ofR
  rw [if_neg]
  rw [List.any_eq_true]
  rintro ⟨p, hp, e⟩
  obtain ⟨j, hj, he⟩ := List.getElem_of_mem hp
  have := h j hj
  rw [List.getD_eq_getElem?_getD, List.getElem?_eq_getElem hj, Option.getD_some, he] at this
  rw [this] at e
  cases e

set_option maxHeartbeats 1000000 in
set_option maxRecDepth 100000 in
theorem refOf_any (A : Option Addr) (l : List (Int × Int)) (c : Nat) (w : World) (hR : Rd w w.heap.size A l) (hl : l.length ≤ 900000) (hc : l.length ≤ c) :
    Calls Try.prog 22 #[.slice A l.length c] w (Ans w (ofR l)) := by
  obtain ⟨r, hr⟩ : ∃ r, r = ofR l := ⟨_, rfl⟩
  rw [← hr]
  have HR := Lib.hid hr
  clear hr
  go_enter Try.func22, Try.ntmps22
  go_wp2
  go_loopw [4] (fun i wr => ∃ k : Nat, k ≤ l.length ∧ i = .int .i64 k ∧ Hid (∀ j, j < k → inB (l.getD j (0, 0)) = true) ∧ Below w.heap.size w wr) (fun i _ => l.length - (intOf i).toNat)
  case atStart => exact ⟨0, Nat.zero_le _, rfl, fun j hj => absurd hj (Nat.not_lt_zero j), Below.refl _ _⟩
  case round =>
    obtain ⟨k, hk, rfl, HK, hb⟩ := hrel
    by_cases hlt : k < l.length
    · have hltz : (k : Int) < (l.length : Int) := by omega
      obtain ⟨b, off, rfl, hbB, hcell⟩ := hR.at_ (by omega)
      obtain ⟨⟨x, y⟩, hxy⟩ : ∃ p, p = l.getD k (0, 0) := ⟨_, rfl⟩
      have a0 := (hcell k hlt).1
      have a1 := (hcell k hlt).2
      rw [← hxy] at a0 a1
      simp only at a0 a1
      have c0 := Qt.keep hb a0
      have c1 := Qt.keep hb a1
      have HXY := Lib.hid hxy
      clear hxy a0 a1 hcell
      cases hin : inB (x, y)
      · have E : Hid (ofR l = (2, [])) := ofR_out hlt (by rw [← HXY.out]; exact hin)
        go_wp2_with (go_at_call 52; refine (refIn_no (x, y) hin _).mono ?_; rintro e w1 ⟨rfl, hb1⟩)
        go_ret2
        rw [HR.out, E.out]
        exact Ans.nil 2 (Qt.more hb hb.size hb1)
      · go_wp2_with (go_at_call 52; refine (refIn_yes (x, y) hin _).mono ?_; rintro e w1 ⟨rfl, hb1⟩)
        go_roundw
        case measure => simp [intOf]; omega
        case rel =>
          refine ⟨k + 1, by omega, by go_num, (show Hid _ from fun j hj => ?_), Qt.more hb hb.size hb1⟩
          by_cases hjk : j = k
          · subst hjk; rw [← HXY.out]; exact hin
          · exact HK.out j (by omega)
    · have hltz : ¬ (k : Int) < (l.length : Int) := by omega
      have E := Lib.hid (ofR_in fun j hj => HK.out j (by omega))
      have HB := Lib.hid hb
      clear hb HK
      go_wp2
      go_loopw [5, 6] (fun v i wr => ∃ k : Nat, k ≤ l.length ∧ i = .int .i64 k ∧ Aside (Reads wr v (setL (l.take k)) ∧ Below w.heap.size w wr)) (fun _ i _ => l.length - (intOf i).toNat)
      case atStart => exact ⟨0, Nat.zero_le _, rfl, ⟨none, 0, rfl, Nat.le_refl _, Rd.nil _ _ _⟩, HB.out⟩
      case round =>
        obtain ⟨k, hk, rfl, HK⟩ := hrel
        obtain ⟨A', c', rfl, hc', hR'⟩ := HK.out.1
        have hlen : (setL (l.take k)).length ≤ k := Nat.le_trans (length_setL _) (by rw [List.length_take]; omega)
        by_cases hlt : k < l.length
        · have hltz : (k : Int) < (l.length : Int) := by omega
          obtain ⟨b, off, rfl, hbB, hcell⟩ := hR.at_ (by omega)
          obtain ⟨⟨x, y⟩, hxy⟩ : ∃ p, p = l.getD k (0, 0) := ⟨_, rfl⟩
          have a0 := (hcell k hlt).1
          have a1 := (hcell k hlt).2
          rw [← hxy] at a0 a1
          simp only at a0 a1
          have c0 := Qt.keep HK.out.2 a0
          have c1 := Qt.keep HK.out.2 a1
          have HT : Hid (setL (l.take (k + 1)) = putL (x, y) (setL (l.take k))) := (show setL (l.take (k + 1)) = putL (x, y) (setL (l.take k)) from by rw [take_snoc hlt, setL_snoc, ← hxy])
          clear hxy a0 a1 hcell
          obtain ⟨s, hs⟩ : ∃ s, s = setL (l.take k) := ⟨_, rfl⟩
          rw [← hs] at hR' hc' hlen HK HT ⊢
          clear hs
          go_wp2_with (go_at_call 24; refine (put_any A' s c' (x, y) _ hR' (by omega) hc').mono ?_; rintro e w1 ⟨v1, rfl, hown, hb1⟩; have HO := Lib.hid hown; have HB1 := Lib.hid hb1; clear hown hb1)
          go_roundw
          case measure => simp [intOf]; omega
          case rel =>
            obtain ⟨A2, c2, e2, h1, h2⟩ := HO.out.rd
            exact ⟨k + 1, by omega, by go_num, ⟨by rw [HT.out]; exact ⟨A2, c2, e2, h1, h2⟩, Qt.more HK.out.2 HK.out.2.size HB1.out⟩⟩
        · have hltz : ¬ (k : Int) < (l.length : Int) := by omega
          obtain rfl : k = l.length := by omega
          rw [List.take_length] at HK hR' hc' hlen ⊢
          by_cases hlong : 2000 < (setL l).length
          · have hz : (2000 : Int) < ((setL l).length : Int) := by omega
            have E2 : Hid (r = (3, [])) := (show r = (3, []) from by rw [HR.out, E.out, if_pos hlong])
            go_wp2
            go_ret2
            rw [E2.out]
            exact Ans.nil 3 HK.out.2
          · have hz : ¬ (2000 : Int) < ((setL l).length : Int) := by omega
            have E2 : Hid (r = (0, setL l)) := (show r = (0, setL l) from by rw [HR.out, E.out, if_neg hlong])
            go_wp2
            go_ret2
            rw [E2.out]
            exact ⟨_, rfl, ⟨A', c', rfl, hc', hR'⟩, HK.out.2⟩

end Go.Proofs.Ytklccoodfhejbaa.Cel
namespace Go.Proofs.Ytklccoodfhejbaa.Cel
open Go.RowKit Go.Sort

def shL (dx dy : Int) (l : List (Int × Int)) : List (Int × Int) := l.map fun c => (c.1 + dx, c.2 + dy)
theorem length_shL (dx dy : Int) (l : List (Int × Int)) : (shL dx dy l).length = l.length := List.length_map _
theorem inB_iff (p : Int × Int) : inB p = true ↔ -1099511627776 ≤ p.1 ∧ p.1 ≤ 1099511627776 ∧ -1099511627776 ≤ p.2 ∧ p.2 ≤ 1099511627776 := by simp [inB]

end Go.Proofs.Ytklccoodfhejbaa.Cel
namespace Go.Proofs.Ytklccoodfhejbaa.Cel
set_option linter.unusedVariables false
set_option linter.unusedSimpArgs false
open Go.RowKit Go.Sort

theorem push_one {w0 w2 w3 : World} {B T : Nat} {v v' : Value} {out : List (Int × Int)} {x y : Int} (hB : B ≤ w2.heap.size) (hb : Below B w0 w2) (hown : Own w2 B T v out) {o : Obj}
    (h3 : w3.ownsRow B T 2 v' (out.length + 1) (fl out ++ [.int .i64 x, .int .i64 y])) (hg : (w2.alloc o).grownBy w3 v.ownBlock) : Own w3 B T v' (out ++ [(x, y)]) ∧ Below B w0 w3 :=
  ⟨own_push h3, (hb.alloc hB _).grown hg (by simp; omega) (fun k e => (World.ownsRow.lt hown k e).1)⟩

end Go.Proofs.Ytklccoodfhejbaa.Cel
namespace Go.Proofs.Ytklccoodfhejbaa
set_option maxRecDepth 100000
set_option linter.unusedVariables false
set_option linter.unusedSimpArgs false
open Go.RowKit Go.Sort

set_option maxHeartbeats 4000000 in
theorem refIn7_any (e : Nat) (he : e ≤ 60) (c : Int × Int) (hx : I64 c.1) (hy : I64 c.2) (w : World) : Calls Try.prog 35 #[.int .i64 ((e : Int) + 1), cellV c] w fun r w' => r = .returned (.bool (insideB e c)) ∧ Below w.heap.size w w' := by
  obtain ⟨h1, h2⟩ := pow_bd7 he
  obtain ⟨x, y⟩ := c
  have hal := (Below.refl w.heap.size w).alloc (Nat.le_refl _) (.cells #[.int .i64 x, .int .i64 y] 48)
  have HA := Lib.hid hal
  have HC := clB_new (w := w) (x, y)
  have k0 := HC.c0
  have k1 := HC.c1
  simp only at k0 k1 hx hy
  unfold I64 at hx hy
  have hcase : (¬ -(2 ^ e) ≤ x ∧ insideB e (x, y) = false) ∨ (-(2 ^ e) ≤ x ∧ ¬ x < 2 ^ e ∧ insideB e (x, y) = false) ∨ (-(2 ^ e) ≤ x ∧ x < 2 ^ e ∧ ¬ -(2 ^ e) ≤ y ∧ insideB e (x, y) = false) ∨ (-(2 ^ e) ≤ x ∧ x < 2 ^ e ∧ -(2 ^ e) ≤ y ∧ ¬ y < 2 ^ e ∧ insideB e (x, y) = false) ∨ (-(2 ^ e) ≤ x ∧ x < 2 ^ e ∧ -(2 ^ e) ≤ y ∧ y < 2 ^ e ∧ insideB e (x, y) = true) := by
    unfold insideB
    simp only [decide_eq_false_iff_not, decide_eq_true_eq]
    generalize (2 : Int) ^ e = p at *
    omega
  clear hal HC
  rcases hcase with ⟨a1, a5⟩ | ⟨a1, a2, a5⟩ | ⟨a1, a2, a3, a5⟩ | ⟨a1, a2, a3, a4, a5⟩ | ⟨a1, a2, a3, a4, a5⟩
  all_goals
    rw [a5]
    clear a5
    go_enter Try.func35, Try.ntmps35
    go_wp2_with fail
    go_ret
    exact ⟨rfl, HA.out⟩

/-- a store in a box that is changed, and a box for what is told -/
structure E7At (w wr : World) (B : Option Addr) (m : List Nd) (d : Nat) (room : Int) : Prop where
  st : StB wr w.heap.size B m d room
  res : wr.heap[w.heap.size + 1]? = some (.cells #[.slice none 0 0, .int .i64 0] 26 (0, 0))
  bel : Below w.heap.size w wr
section
variable {w wr w' : World} {B A2 : Option Addr} {m pl : List Nd} {d c2 : Nat} {room : Int}
theorem E7At.below (h : E7At w wr B m d room) (hb : Below wr.heap.size wr w') : E7At w w' B m d room := ⟨h.st.below hb, (hb.block _ (lt_heap6 h.res)).trans h.res, Qt.more h.bel h.bel.size hb⟩
theorem E7At.s0 (h : E7At w wr B m d room) : wr.cell? ⟨w.heap.size, 0, none⟩ = some (.slice B m.length d) := h.st.s0
theorem E7At.s1 (h : E7At w wr B m d room) : wr.cell? ⟨w.heap.size, 1, none⟩ = some (.int .i64 room) := h.st.s1
theorem E7At.f0 (h : E7At w wr B m d room) : wr.frozen? ⟨w.heap.size, 0, none⟩ = false := h.st.f0
theorem E7At.f1 (h : E7At w wr B m d room) : wr.frozen? ⟨w.heap.size, 1, none⟩ = false := h.st.f1
theorem E7At.r0 (h : E7At w wr B m d room) : wr.cell? ⟨w.heap.size + 1, 0, none⟩ = some (.slice none 0 0) := by rw [Lib.cell_of_heap h.res]; rfl
theorem E7At.r1 (h : E7At w wr B m d room) : wr.cell? ⟨w.heap.size + 1, 1, none⟩ = some (.int .i64 0) := by rw [Lib.cell_of_heap h.res]; rfl
theorem E7At.free (h : E7At w wr B m d room) (j : Nat) : wr.frozen? ⟨w.heap.size + 1, j, none⟩ = false := Lib.frozen_of_heap h.res j
theorem E7At.size (h : E7At w wr B m d room) : w.heap.size + 2 ≤ wr.heap.size := lt_heap6 h.res
/-- a store is told -/
theorem E7At.told (h : E7At w wr B m d room) (hN : NowN wr A2 pl) (u v : Value) : ((wr.setCell ⟨w.heap.size + 1, 0, none⟩ u).setCell ⟨w.heap.size + 1, 1, none⟩ v).heap[w.heap.size + 1]? = some (.cells #[u, v] 26 (0, 0)) ∧ Below w.heap.size w ((wr.setCell ⟨w.heap.size + 1, 0, none⟩ u).setCell ⟨w.heap.size + 1, 1, none⟩ v) ∧ NowN ((wr.setCell ⟨w.heap.size + 1, 0, none⟩ u).setCell ⟨w.heap.size + 1, 1, none⟩ v) A2 pl := by
  have hr := h.res
  refine ⟨?_, (h.bel.setCell (by show _ ≤ _ + 1; omega) _).setCell (by show _ ≤ _ + 1; omega) _, (rdN_told hN hr).more (by simp [World.setCell])⟩
  simp [World.setCell, Array.getElem?_modify, hr]
/-- the box is changed -/
theorem E7At.put (h : E7At w wr B m d room) (hN : NowN wr A2 pl) (hc : pl.length ≤ c2) : E7At w ((wr.setCell ⟨w.heap.size, 0, none⟩ (.slice A2 pl.length c2)).setCell ⟨w.heap.size, 1, none⟩ (.int .i64 room)) A2 pl c2 room := by
  refine ⟨stB_put h.st.row hN hc, ?_, (h.bel.setCell (Nat.le_refl _) _).setCell (Nat.le_refl _) _⟩
  rw [Below.heap_setCell _ _ _ _ (by show w.heap.size + 1 ≠ w.heap.size; omega), Below.heap_setCell _ _ _ _ (by show w.heap.size + 1 ≠ w.heap.size; omega)]
  exact h.res
end
theorem e7_0 {w : World} {A : Option Addr} {l : List Nd} {c : Nat} (hR : RdN w w.heap.size A l) (hc : l.length ≤ c) (room : Int) : E7At w ((w.alloc (.cells #[.slice A l.length c, .int .i64 room] 26)).alloc (.cells #[.slice none 0 0, .int .i64 0] 26)) A l c room := by
  have hb := (Below.refl (w.alloc (.cells #[.slice A l.length c, .int .i64 room] 26)).heap.size (w.alloc (.cells #[.slice A l.length c, .int .i64 room] 26))).alloc (Nat.le_refl _) (.cells #[.slice none 0 0, .int .i64 0] 26)
  have h0 := (Below.refl w.heap.size w).alloc (Nat.le_refl _) (.cells #[.slice A l.length c, .int .i64 room] 26)
  exact ⟨(stB_new hR hc room).below hb, heap_new (by simp), Qt.more h0 h0.size hb⟩
theorem refPut7 {A : Option Addr} {l : List Nd} {c : Nat} {room : Int} (k : Kd) {w : World} (hR : RdN w w.heap.size A l) (hr : Right6 l room) (hc : l.length ≤ c) : Calls Try.prog 63 #[.agg #[.slice A l.length c, .int .i64 room], .agg #[.int .i64 k.1, .int .i64 k.2.1, .int .i64 k.2.2.1, .int .i64 k.2.2.2]] w (PutR (put6 l room k) room w) := by
  have := refPut6_any A l c room k w hR hr.small hc (right_bd hr)
  unfold storeV kidsV at this
  exact this

set_option maxHeartbeats 8000000 in
theorem refEmpty7_any (A : Option Addr) (l : List Nd) (c : Nat) (room : Int) (k : Nat) (w : World) (hR : RdN w w.heap.size A l) (hr : Right6 l room) (hc : l.length ≤ c) (hk : k ≤ 42) :
    Calls Try.prog 77 #[storeV A l.length c room, .int .i64 ((k : Nat) : Int)] w (PutR (emptyTo l room k) room w) := by
  have HE := Lib.hid (e7_0 hR hc room)
  obtain ⟨z, hz⟩ : ∃ z, z = emptyTo l room k := ⟨_, rfl⟩
  rw [← hz]
  have HZ := Lib.hid hz
  have HR := Lib.hid hr
  clear hz hr hR
  unfold storeV
  go_enter Try.func77, Try.ntmps77
  go_wp2_with fail
  generalize (w.alloc (.cells #[.slice A l.length c, .int .i64 room] 26)).alloc (.cells #[.slice none 0 0, .int .i64 0] 26) = wx at *
  go_loopw [7, 8] (fun p i wr => ∃ (j : Nat) (m : List Nd) (q : Int) (B : Option Addr) (d : Nat), j ≤ k ∧ p = .int .i64 q ∧ i = .int .i64 j ∧ Hid (E7At w wr B m d room ∧ emptyTo l room j = (m, q, 0))) (fun _ i _ => k - (intOf i).toNat)
  case atStart => exact ⟨0, l, 0, A, c, Nat.zero_le _, rfl, rfl, HE.out, rfl⟩
  case round =>
    obtain ⟨j, m, q, B, d, hj, rfl, rfl, HH⟩ := hrel
    obtain ⟨H, hem⟩ := HH.out
    have HEM := Lib.hid hem
    have hm6 : Right6 m room := by
      have := emptyTo_right HR.out j
      rw [hem] at this
      exact this
    have c0 := H.s0
    have c1 := H.s1
    by_cases hlt : j < k
    · have hltz : (j : Int) < (k : Int) := by omega
      have hcall := refPut7 (q, q, q, q) H.st.rd hm6 H.st.cap
      have hnext : emptyTo l room (j + 1) = put6 m room (q, q, q, q) := by rw [emptyTo, hem, if_pos rfl]
      obtain ⟨pp, hpp⟩ : ∃ pp, pp = put6 m room (q, q, q, q) := ⟨_, rfl⟩
      rw [← hpp] at hcall hnext
      have HNX := Lib.hid hnext
      have HB := Lib.hid H
      clear hpp hm6 hnext HH H hem
      go_wp2_with fail
      refine hcall.mono ?_
      rintro e w2 ⟨v, rfl, ⟨A2, c2, rfl, hc2, hR2⟩, hb2⟩
      obtain ⟨pl, pn, pe⟩ := pp
      simp only at hR2 hc2
      have hb3 := (Below.refl w2.heap.size w2).alloc (Nat.le_refl _) (.cells #[.slice A2 pl.length c2, .int .i64 room] 26)
      have HD := Lib.hid ((HB.out.below hb2).below hb3)
      have HN := stB_new hR2 hc2 room
      have n0 := HN.s0
      have n1 := HN.s1
      have HNR := Lib.hid HN.rd
      have g0 := HD.out.s0
      have g1 := HD.out.s1
      have f0 := HD.out.f0
      have f1 := HD.out.f1
      clear hcall hb2 hb3 hR2 HB c0 c1 HN
      by_cases hpe : pe = 0
      · subst hpe
        have HP := Lib.hid (HD.out.put HNR.out hc2)
        clear HD HNR
        go_wp2_with fail
        go_roundw
        case measure => simp [intOf]; omega
        case rel => exact ⟨j + 1, pl, pn, A2, c2, by omega, rfl, by go_num, HP.out, HNX.out⟩
      · have hstop := emptyTo_stop (l := l) (room := room) (j := j + 1) (by rw [HNX.out]; exact hpe) (k - (j + 1))
        have hpn : pn = 0 ∧ pl = m := by
          have h2 : put6 m room (q, q, q, q) = (pl, pn, pe) := by have := HNX.out; rwa [emptyTo, HEM.out, if_pos rfl] at this
          have h3 := put_err (l := m) (room := room) (k := (q, q, q, q)) (by rw [h2]; exact hpe)
          rw [h2] at h3
          injection h3 with h4 h5
          injection h5 with h5 _
          exact ⟨h5, h4⟩
        obtain ⟨rfl, rfl⟩ := hpn
        rw [show j + 1 + (k - (j + 1)) = k by omega, HNX.out] at hstop
        have hzz : z = (pl, 0, pe) := by rw [HZ.out, hstop]
        subst hzz
        have r0 := HD.out.r0
        have r1 := HD.out.r1
        have fr0 := HD.out.free 0
        have fr1 := HD.out.free 1
        have ht := HD.out.told HD.out.st.rd (.slice B pl.length d) (.int .i64 room)
        have hcap := HD.out.st.cap
        clear hstop HD HZ HNX HNR HEM
        go_wp2_with fail
        generalize w2.alloc (.cells #[.slice A2 pl.length c2, .int .i64 room] 26) = w3 at *
        generalize (w3.setCell ⟨w.heap.size + 1, 0, none⟩ (.slice B pl.length d)).setCell ⟨w.heap.size + 1, 1, none⟩ (.int .i64 room) = w9 at *
        clear r0 r1 fr0 fr1
        refine bodyPost_ret (results_cell3 rfl _ _ _ _ _ _ _ rfl ht.1 Try.underlying26 rfl (by kernel_rfl)) rfl ?_
        exact ⟨_, rfl, ⟨B, d, rfl, hcap, ht.2.2⟩, ht.2.1⟩
    · obtain rfl : j = k := by omega
      have hltz : ¬ (j : Int) < (j : Int) := by omega
      have hzz : z = (m, q, 0) := by rw [HZ.out, hem]
      subst hzz
      have r0 := H.r0
      have r1 := H.r1
      have fr0 := H.free 0
      have fr1 := H.free 1
      have ht := H.told H.st.rd (.slice B m.length d) (.int .i64 room)
      have hcap := H.st.cap
      clear HH HZ H HEM hem hm6
      go_wp2_with fail
      generalize (wr.setCell ⟨w.heap.size + 1, 0, none⟩ (.slice B m.length d)).setCell ⟨w.heap.size + 1, 1, none⟩ (.int .i64 room) = w9 at *
      clear r0 r1 fr0 fr1 c0 c1
      refine bodyPost_ret (results_cell3 rfl _ _ _ _ _ _ _ rfl ht.1 Try.underlying26 rfl (by kernel_rfl)) rfl ?_
      exact ⟨_, rfl, ⟨B, d, rfl, hcap, ht.2.2⟩, ht.2.1⟩
set_option maxHeartbeats 4000000 in
theorem refCorner_any (A : Option Addr) (S : List (Int × Int)) (c e : Nat) (w : World) (hR : RdC w w.heap.size A S) (hl : S.length ≤ 900000) (he : e ≤ 60) (hin : ∀ s ∈ S, insideB e s = true) :
    Calls Try.prog 60 #[.slice A S.length c, .int .i64 ((e : Int) + 1)] w fun r w' => ∃ v, r = .returned v ∧ OwnC w' w.heap.size v (S.map (inwardC e)) ∧ Below w.heap.size w w' := by
  obtain ⟨i0, hi, hz0, hz1, hz2⟩ := info_parts Cel.infoCell
  obtain ⟨hp1, hp2⟩ := pow_bd7 he
  have HIN := Lib.hid hin
  have HR := Lib.hid hR
  clear hin hR
  go_enter Try.func60, Try.ntmps60
  go_wp2_with fail
  go_loopw [6, 7] (fun v i wr => ∃ k : Nat, k ≤ S.length ∧ i = .int .i64 k ∧ Aside (OwnC wr w.heap.size v ((S.take k).map (inwardC e))) ∧ Below w.heap.size w wr) (fun _ i _ => S.length - (intOf i).toNat)
  case atStart => exact ⟨0, Nat.zero_le _, rfl, World.ownsRow_nil _ _ _ _, Below.refl _ _⟩
  case round =>
    obtain ⟨k, hk, rfl, HK, hb⟩ := hrel
    obtain ⟨A2, c2, rfl, hc2, -⟩ := Cel.Own.rd HK.out
    have hlen : ((S.take k).map (inwardC e)).length ≤ k := by rw [List.length_map, List.length_take]; omega
    by_cases hlt : k < S.length
    · have hltz : (k : Int) < (S.length : Int) := by omega
      obtain ⟨b, off, rfl, hbB, hcell⟩ := Cel.Rd.at_ HR.out (by omega)
      have hins := HIN.out _ (Cel.getD_mem hlt)
      obtain ⟨⟨x, y⟩, hxy⟩ : ∃ p, p = S.getD k (0, 0) := ⟨_, rfl⟩
      have a0 := (hcell k hlt).1
      have a1 := (hcell k hlt).2
      rw [← hxy] at a0 a1 hins
      unfold insideB at hins
      have hins := of_decide_eq_true hins
      simp only at a0 a1 hins
      have c0 := Qt.keep hb a0
      have c1 := Qt.keep hb a1
      have d0 := Qt.cell_in c0
      have d1 := Qt.cell_in c1
      have s1 : IntKind.i64.wrap (x + 2 ^ e) = x + 2 ^ e := by rw [IntKind.wrap_i64]; generalize (2 : Int) ^ e = p at *; omega
      have s2 : IntKind.i64.wrap (y + 2 ^ e) = y + 2 ^ e := by rw [IntKind.wrap_i64]; generalize (2 : Int) ^ e = p at *; omega
      have HXY := Lib.hid hxy
      have hnew : (S.take k).map (inwardC e) ++ [(x + 2 ^ e, y + 2 ^ e)] = (S.take (k + 1)).map (inwardC e) := by rw [Cel.take_snoc hlt, List.map_append, ← hxy]; rfl
      have HNW := Lib.hid hnew
      clear hxy a0 a1 hcell hins hnew
      generalize hn : ((S.take k).map (inwardC e)).length = n at *
      go_wp2_with fail
      refine Qt.region_late (v := .slice A2 n c2) 16 (by decide) (by kernel_rfl) (by kernel_rfl) rfl ⟨rfl, fun _ => rfl⟩ ?_
      simp only [List.take_succ_cons, List.take_zero, List.drop_succ_cons, List.drop_zero, Act.put, List.setIfInBounds_toArray, List.set_cons_succ, List.set_cons_zero]
      repeat (go_big_quiet_step (fail))
      refine wpQuiet_nil ?_
      intro w3 hb3
      have B3 := Qt.more hb hb.size hb3
      have hown := Cel.Own.below HK.out hb3
      have hsz3 : w.heap.size ≤ w3.heap.size := B3.size
      clear hb3 hb HK s1 s2
      go_wp2_with (at_builtin; refine wpList_append_own _ rfl (.tmp 17) (.tmp 33) 42 rfl w.heap.size 48 i0 (.agg #[.int .i64 0, .int .i64 0]) 2 16 Try.underlying42 hi hz0 hz1 hz2 rfl (by decide) _ _ _ rfl (World.ownsRow.alloc hown _) ⟨w3.heap.size, 0, none⟩ 1 1 [.int .i64 (x + 2 ^ e), .int .i64 (y + 2 ^ e)] rfl rfl Cel.one_new Cel.one_cell (by unfold maxLen; omega) (by omega) (by simp; omega) ?_; intro v4 w4 hown4 hgrow4 _)
      have HP := Lib.hid (Cel.push_one (v := .slice A2 n c2) hsz3 B3 hown hown4 hgrow4)
      rw [HNW.out] at HP
      clear hown4 hgrow4 hown d0 d1 c0 c1
      refine ⟨rfl, ?_⟩
      go_wp2_with fail
      go_roundw
      case measure => simp [intOf]; omega
      case rel => exact ⟨k + 1, by omega, by go_num, HP.out.1, HP.out.2⟩
    · have hltz : ¬ (k : Int) < (S.length : Int) := by omega
      obtain rfl : k = S.length := by omega
      have hown := HK.out
      rw [List.take_length] at hown
      rw [List.length_map] at hown
      have HO := Lib.hid hown
      clear hown HK
      rw [List.take_length] at *
      rw [List.length_map] at *
      go_wp2_with fail
      go_ret
      exact ⟨_, rfl, HO.out, hb⟩
end Go.Proofs.Ytklccoodfhejbaa
