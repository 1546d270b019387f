/-
  Texts that the claims of this seat share, part 8.
-/
import Derived.Test.YtcmdhochofoohaaB07
import Derived.Test.YtcmdhochofoohaaB03
set_option linter.unusedVariables false
set_option linter.unusedSimpArgs false
namespace Go.Proofs.Ytcmdhochofoohaa
set_option maxRecDepth 100000
set_option linter.unusedVariables false
set_option linter.unusedSimpArgs false
open Go.RowKit Go.Sort

/-- A store in a box. -/
structure StB (w : World) (b : Nat) (A : Option Addr) (l : List Nd) (c : Nat) (room : Int) : Prop where
  row : w.heap[b]? = some (.cells #[.slice A l.length c, .int .i64 room] 25 (0, 0))
  rd : NowN w A l
  cap : l.length ≤ c
section
variable {w w' : World} {b : Nat} {A : Option Addr} {l : List Nd} {c : Nat} {room : Int}
theorem StB.below (h : StB w b A l c room) (hb : Below w.heap.size w w') : StB w' b A l c room := ⟨(hb.block _ (lt_heap6 h.row)).trans h.row, h.rd.below hb, h.cap⟩
theorem StB.s0 (h : StB w b A l c room) : w.cell? ⟨b, 0, none⟩ = some (.slice A l.length c) := by rw [Lib.cell_of_heap h.row]; rfl
theorem StB.s1 (h : StB w b A l c room) : w.cell? ⟨b, 1, none⟩ = some (.int .i64 room) := by rw [Lib.cell_of_heap h.row]; rfl
theorem StB.f0 (h : StB w b A l c room) : w.frozen? ⟨b, 0, none⟩ = false := Lib.frozen_of_heap h.row 0
theorem StB.f1 (h : StB w b A l c room) : w.frozen? ⟨b, 1, none⟩ = false := Lib.frozen_of_heap h.row 1
theorem stB_new (hr : NowN w A l) (hc : l.length ≤ c) (room : Int) : StB (w.alloc (.cells #[.slice A l.length c, .int .i64 room] 25)) w.heap.size A l c room :=
  ⟨heap_alloc_new w _, hr.below ((Below.refl _ _).alloc (Nat.le_refl _) _), hc⟩
theorem StB.nd (h : StB w b A l c room) (hl : 0 < l.length) : ∃ q off, A = some ⟨q, off, none⟩ ∧ q < w.heap.size ∧ ∀ j, j < l.length → NdAt w q (off + j * 6) (l.getD j deadN) := h.rd.at_ hl
end
def awL : List Nd := new6 ++ [(1, (0, 1, 0, 0), 1)]
def awU : List Nd := awL ++ [(1, (0, 0, 0, 0), 0), (2, (3, 3, 3, 3), 0), (3, (4, 4, 4, 4), 0)]
theorem aw_1 : intern6 new6 9 (0, 1, 0, 0) = (awL, 2, 0) := by kernel_rfl
theorem aw_2 : intern6 awL 9 (0, 1, 0, 0) = (awL, 2, 0) := by kernel_rfl
theorem aw_3 : intern6 awL 9 (0, 1, 0, 2) = (awL, 0, 1) := by kernel_rfl
theorem aw_4 : empty6 awL 9 3 = (awU, 5, 0) := by kernel_rfl
theorem aw_5 : live6 awU 9 [2] = (awL, [2], 0) := by kernel_rfl
theorem aw_6 : empty6 new6 4 5 = (new6, 0, 40) := by kernel_rfl
theorem aw_7 : right6 awU 9 = true := by decide
theorem aw_8 : right6 [] 0 = false := by decide

theorem putR_box {p : List Nd × Int × Int} {room : Int} {w : World} {e : Ending} {w' : World} (h : PutR p room w e w') : ∃ A c, e = .returned (.tuple #[.agg #[.slice A p.1.length c, .int .i64 room], .int .i64 p.2.1, .int .i64 p.2.2]) ∧ p.1.length ≤ c ∧ NowN w' A p.1 ∧ Below w.heap.size w w' := by
  obtain ⟨v, rfl, ⟨A, c, rfl, hc, hN⟩, hb⟩ := h
  exact ⟨A, c, rfl, hc, hN, hb⟩
theorem liveR_box {p : List Nd × List Int × Int} {room : Int} {w : World} {e : Ending} {w' : World} (h : LiveR p room w e w') : ∃ A c B d, e = .returned (.tuple #[.agg #[.slice A p.1.length c, .int .i64 room], .slice B p.2.1.length d, .int .i64 p.2.2]) ∧ p.1.length ≤ c ∧ p.2.1.length ≤ d ∧ NowN w' A p.1 ∧ Now w' B p.2.1 ∧ Below w.heap.size w w' := by
  obtain ⟨v, u, rfl, ⟨A, c, rfl, hc, hN⟩, ⟨B, d, rfl, hd, hM⟩, hb⟩ := h
  exact ⟨A, c, B, d, rfl, hc, hd, hN, hM, hb⟩
theorem newO_box {room : Int} {w : World} {e : Ending} {w' : World} (h : NewO room w e w') : ∃ g, e = .returned (.agg #[.slice (some ⟨g, 0, none⟩) 2 2, .int .i64 room]) ∧ NowN w' (some ⟨g, 0, none⟩) new6 ∧ Below w.heap.size w w' := by
  obtain ⟨g, rfl, _, ho, hb⟩ := h
  obtain ⟨A, c, e, _, hN⟩ := OwnN.reads ho
  injection e with e1 e2 e3
  subst e1
  exact ⟨g, rfl, hN, hb⟩
theorem eqlN (x y : Nd) (w : World) : (binOp .eql 49 (.agg #[.int .i64 x.1, .int .i64 x.2.1.1, .int .i64 x.2.1.2.1, .int .i64 x.2.1.2.2.1, .int .i64 x.2.1.2.2.2, .int .i64 x.2.2]) (.agg #[.int .i64 y.1, .int .i64 y.2.1.1, .int .i64 y.2.1.2.1, .int .i64 y.2.1.2.2.1, .int .i64 y.2.1.2.2.2, .int .i64 y.2.2])).run Try.prog w = .ok (.bool (decide (x = y))) w := by
  rw [run_eql_struct, eqN_at]
  rfl
def awN : Nd := (1, (0, 1, 0, 0), 1)
set_option maxHeartbeats 16000000 in
set_option maxRecDepth 100000 in
theorem awake6_any (w : World) : Calls Try.prog 11 #[] w fun e w' => e = .returned (.bool true) ∧ Below w.heap.size w w' := by
  have hn9 := fun W => new_yes 9 W (by decide)
  have hn4 := fun W => new_yes 4 W (by decide)
  go_enter Try.func11, Try.ntmps11
  go_wp2_with fail
  refine (hn9 _).mono ?_
  intro e w1 h1
  obtain ⟨g1, rfl, N1, hb1⟩ := newO_box h1
  have hc1 := nodeIntern_any _ new6 2 9 (0, 1, 0, 0) w1 N1 (by decide) (by decide)
  rw [aw_1] at hc1
  unfold storeV kidsV at hc1
  clear h1
  go_wp2_with fail
  refine hc1.mono ?_
  intro e w2 h2
  obtain ⟨A2, c2, rfl, hcap2, N2, hb2⟩ := putR_box h2
  have hB2 := Qt.more hb1 hb1.size hb2
  have hal := fun o => (Below.refl w2.heap.size w2).alloc (Nat.le_refl _) o
  have HS := Lib.hid (stB_new N2 hcap2 9)
  have HB := Lib.hid (Qt.more hB2 hB2.size (hal (.cells #[.slice A2 awL.length c2, .int .i64 9] 25)))
  clear h2 hc1 hb1 hb2 hB2 N1 N2 hn9 hal
  go_wp2_with fail
  generalize (w2.alloc (.cells #[.slice A2 awL.length c2, .int .i64 9] 25)) = v2 at *
  generalize w2.heap.size = b2 at *
  have hc2 := nodeIntern_any A2 awL c2 9 (0, 1, 0, 0) v2 HS.out.rd (by decide) hcap2
  rw [aw_2] at hc2
  unfold storeV kidsV at hc2
  refine hc2.mono ?_
  intro e w3 h
  obtain ⟨A3, c3, rfl, hcap3, N, hb⟩ := putR_box h
  have hal := fun o => (Below.refl w3.heap.size w3).alloc (Nat.le_refl _) o
  have HT := Lib.hid (stB_new N hcap3 9)
  have HS3 := Lib.hid ((HS.out.below hb).below (hal (.cells #[.slice A3 awL.length c3, .int .i64 9] 25)))
  have HB3 := Lib.hid (Qt.more (Qt.more HB.out HB.out.size hb) (Qt.more HB.out HB.out.size hb).size (hal (.cells #[.slice A3 awL.length c3, .int .i64 9] 25)))
  have s0o := fun o => ((HS.out.below hb).below (hal o)).s0
  have s1o := fun o => ((HS.out.below hb).below (hal o)).s1
  clear h hc2 hb N hal HB HS
  go_wp2_with fail
  clear s0o s1o
  generalize (w3.alloc (.cells #[.slice A3 awL.length c3, .int .i64 9] 25)) = v3 at *
  generalize w3.heap.size = b3 at *
  have hc2 := nodeIntern_any A2 awL c2 9 (0, 1, 0, 2) v3 HS3.out.rd (by decide) hcap2
  rw [aw_3] at hc2
  unfold storeV kidsV at hc2
  refine hc2.mono ?_
  intro e w4 h
  obtain ⟨A4, c4, rfl, hcap4, N, hb⟩ := putR_box h
  have hal := fun o => (Below.refl w4.heap.size w4).alloc (Nat.le_refl _) o
  have HX := Lib.hid (stB_new N hcap4 9)
  have HS4 := Lib.hid ((HS3.out.below hb).below (hal (.cells #[.slice A4 awL.length c4, .int .i64 9] 25)))
  have HT4 := Lib.hid ((HT.out.below hb).below (hal (.cells #[.slice A4 awL.length c4, .int .i64 9] 25)))
  have HB4 := Lib.hid (Qt.more (Qt.more HB3.out HB3.out.size hb) (Qt.more HB3.out HB3.out.size hb).size (hal (.cells #[.slice A4 awL.length c4, .int .i64 9] 25)))
  have s0o := fun o => ((HS3.out.below hb).below (hal o)).s0
  have s1o := fun o => ((HS3.out.below hb).below (hal o)).s1
  clear h hc2 hb N hal HB3 HS3 HT
  go_wp2_with fail
  clear s0o s1o
  generalize (w4.alloc (.cells #[.slice A4 awL.length c4, .int .i64 9] 25)) = v4 at *
  generalize w4.heap.size = b4 at *
  have hc2 := nodeEmpty_any A2 awL c2 9 3 v4 HS4.out.rd (by decide) hcap2
  rw [aw_4] at hc2
  unfold storeV at hc2
  refine hc2.mono ?_
  intro e w5 h
  obtain ⟨A5, c5, rfl, hcap5, N, hb⟩ := putR_box h
  have hal := fun o => (Below.refl w5.heap.size w5).alloc (Nat.le_refl _) o
  have HU := Lib.hid (stB_new N hcap5 9)
  have HS5 := Lib.hid ((HS4.out.below hb).below (hal (.cells #[.slice A5 awU.length c5, .int .i64 9] 25)))
  have HT5 := Lib.hid ((HT4.out.below hb).below (hal (.cells #[.slice A5 awU.length c5, .int .i64 9] 25)))
  have HB5 := Lib.hid (Qt.more (Qt.more HB4.out HB4.out.size hb) (Qt.more HB4.out HB4.out.size hb).size (hal (.cells #[.slice A5 awU.length c5, .int .i64 9] 25)))
  clear h hc2 hb N hal HB4 HS4 HT4
  go_wp2_with fail
  have hs5 : (w5.alloc (.cells #[.slice A5 awU.length c5, .int .i64 9] 25)).heap.size = w5.heap.size + 1 := by simp
  have hal2 := (Below.refl (w5.alloc (.cells #[.slice A5 awU.length c5, .int .i64 9] 25)).heap.size (w5.alloc (.cells #[.slice A5 awU.length c5, .int .i64 9] 25))).alloc (Nat.le_refl _) (.cells #[.int .i64 2] 3)
  have hrt : Now ((w5.alloc (.cells #[.slice A5 awU.length c5, .int .i64 9] 25)).alloc (.cells #[.int .i64 2] 3)) (some ⟨w5.heap.size + 1, 0, none⟩) [2] := fun j hj => by
    have hj0 : j = 0 := by simp at hj; omega
    subst hj0
    refine ⟨w5.heap.size + 1, 0, rfl, by simp, ?_⟩
    have hn := heap_alloc_new (w5.alloc (.cells #[.slice A5 awU.length c5, .int .i64 9] 25)) (.cells #[.int .i64 2] 3 (0, 0))
    rw [hs5] at hn
    rw [Lib.cell_of_heap hn]
    rfl
  have HU6 := Lib.hid (HU.out.below hal2)
  have HS6 := Lib.hid (HS5.out.below hal2)
  have HT6 := Lib.hid (HT5.out.below hal2)
  have HB6 := Lib.hid (Qt.more HB5.out HB5.out.size hal2)
  have hc2 := nodeLive_any A5 awU c5 9 (some ⟨w5.heap.size + 1, 0, none⟩) [2] 1 _ HU6.out.rd (by decide) hcap5 hrt (by decide)
  rw [aw_5] at hc2
  unfold storeV at hc2
  clear HU HS5 HT5 HB5 hrt hal2 hs5
  refine hc2.mono ?_
  generalize ((w5.alloc (.cells #[.slice A5 awU.length c5, .int .i64 9] 25)).alloc (.cells #[.int .i64 2] 3)) = v6 at *
  generalize w5.heap.size = b5 at *
  intro e w7 h
  obtain ⟨A7, c7, B7, d7, rfl, hcap7, hd7, N, M, hb⟩ := liveR_box h
  have hal := fun o => (Below.refl w7.heap.size w7).alloc (Nat.le_refl _) o
  have HL := Lib.hid (stB_new N hcap7 9)
  have HM := Lib.hid (M.below (hal (.cells #[.slice A7 awL.length c7, .int .i64 9] 25)))
  have HS7 := Lib.hid ((HS6.out.below hb).below (hal (.cells #[.slice A7 awL.length c7, .int .i64 9] 25)))
  have HT7 := Lib.hid ((HT6.out.below hb).below (hal (.cells #[.slice A7 awL.length c7, .int .i64 9] 25)))
  have HU7 := Lib.hid ((HU6.out.below hb).below (hal (.cells #[.slice A7 awL.length c7, .int .i64 9] 25)))
  have HB7 := Lib.hid (Qt.more (Qt.more HB6.out HB6.out.size hb) (Qt.more HB6.out HB6.out.size hb).size (hal (.cells #[.slice A7 awL.length c7, .int .i64 9] 25)))
  clear h hc2 hb N M hal HS6 HT6 HU6 HB6
  simp only at HM HL HS7 HT7 HU7 HB7 hcap7 hd7
  go_wp2_with fail
  refine (hn4 _).mono ?_
  generalize (w7.alloc (.cells #[.slice A7 awL.length c7, .int .i64 9] 25)) = v7 at *
  generalize w7.heap.size = b7 at *
  intro e w8 h
  obtain ⟨g8, rfl, N8, hb⟩ := newO_box h
  have HL8 := Lib.hid (HL.out.below hb)
  have HM8 := Lib.hid (HM.out.below hb)
  have HS8 := Lib.hid (HS7.out.below hb)
  have HT8 := Lib.hid (HT7.out.below hb)
  have HU8 := Lib.hid (HU7.out.below hb)
  have HB8 := Lib.hid (Qt.more HB7.out HB7.out.size hb)
  have hc2 := nodeEmpty_any (some ⟨g8, 0, none⟩) new6 2 4 5 w8 N8 (by decide) (by decide)
  rw [aw_6] at hc2
  unfold storeV at hc2
  clear h hb N8 HL HM HS7 HT7 HU7 HB7 hn4
  go_wp2_with fail
  refine hc2.mono ?_
  intro e w9 h
  obtain ⟨A9, c9, rfl, hcap9, N, hb⟩ := putR_box h
  have hal := (Below.refl w9.heap.size w9).alloc (Nat.le_refl _) (.cells #[.slice A9 new6.length c9, .int .i64 4] 25)
  have hb' := Qt.more (B := w8.heap.size) hb hb.size hal
  have HL9 := Lib.hid (HL8.out.below hb')
  have HM9 := Lib.hid (HM8.out.below hb')
  have HS9 := Lib.hid (HS8.out.below hb')
  have HT9 := Lib.hid (HT8.out.below hb')
  have HU9 := Lib.hid (HU8.out.below hb')
  have HB9 := Lib.hid (Qt.more HB8.out HB8.out.size hb')
  have t0 := HT9.out.s0
  have u0 := HU9.out.s0
  have u1 := HU9.out.s1
  have l0 := HL9.out.s0
  have q0 := HS9.out.s0
  have haL : (awL.length : Int) = 3 := rfl
  have haU : (awU.length : Int) = 6 := rfl
  have ha1 : ([2] : List Int).length = 1 := rfl
  obtain ⟨qs, os, rfl, _, hns⟩ := HS9.out.nd (by decide)
  obtain ⟨qu, ou, rfl, _, hnu⟩ := HU9.out.nd (by decide)
  obtain ⟨x0, x1, x2, x3, x4, x5⟩ := hns 2 (by decide)
  have y0 := (hnu 5 (by decide)).1
  obtain ⟨qm, om, rfl, _, hm⟩ := HM9.out.at_ (by decide)
  have z0 := hm 0 (by decide)
  generalize hw9 : (w9.alloc (.cells #[.slice A9 new6.length c9, .int .i64 4] 25)) = v9 at *
  replace x0 : v9.cell? ⟨qs, os + 2 * 6, none⟩ = some (.int .i64 1) := x0
  replace x1 : v9.cell? ⟨qs, os + 2 * 6 + 1, none⟩ = some (.int .i64 0) := x1
  replace x2 : v9.cell? ⟨qs, os + 2 * 6 + 2, none⟩ = some (.int .i64 1) := x2
  replace x3 : v9.cell? ⟨qs, os + 2 * 6 + 3, none⟩ = some (.int .i64 0) := x3
  replace x4 : v9.cell? ⟨qs, os + 2 * 6 + 4, none⟩ = some (.int .i64 0) := x4
  replace x5 : v9.cell? ⟨qs, os + 2 * 6 + 5, none⟩ = some (.int .i64 1) := x5
  replace y0 : v9.cell? ⟨qu, ou + 5 * 6, none⟩ = some (.int .i64 3) := y0
  replace z0 : v9.cell? ⟨qm, om, none⟩ = some (.int .i64 2) := z0
  have he : ∀ W, (binOp .eql 49 (.agg #[.int .i64 1, .int .i64 0, .int .i64 1, .int .i64 0, .int .i64 0, .int .i64 1]) (.agg #[.int .i64 1, .int .i64 0, .int .i64 1, .int .i64 0, .int .i64 0, .int .i64 1])).run Try.prog W = .ok (.bool true) W := fun W => eqlN awN awN W
  have hrt1 := fun W hR => nodeRight_any (some ⟨qu, ou, none⟩) awU c5 9 W hR (by decide) hcap5
  have hrt2 := fun W => nodeRight_any none [] 0 0 W (nowN_nil _ _) (by decide) (by decide)
  rw [aw_7] at hrt1
  rw [aw_8] at hrt2
  unfold storeV at hrt1 hrt2
  clear h hc2 hb hb' N hal HL8 HM8 HS8 HT8 HU8 HB8 hns hnu hm
  go_wp2_with fail
  refine (hrt1 v9 HU9.out.rd).mono ?_
  rintro e wa ⟨rfl, hb⟩
  have hBa := Qt.more HB9.out HB9.out.size hb
  have hrt3 := hrt2 wa
  clear hb
  go_wp2_with fail
  refine hrt3.mono ?_
  rintro e wb ⟨rfl, hb⟩
  have hBb := Qt.more hBa hBa.size hb
  clear hb
  go_wp2_with fail
  go_ret
  first
    | exact ⟨rfl, hBb⟩
    | done
end Go.Proofs.Ytcmdhochofoohaa
namespace Go.Proofs.Ytcmdhochofoohaa
set_option linter.unusedVariables false
set_option linter.unusedSimpArgs false
open Go.RowKit Go.Sort

/-- Two stores as they lie in boxes. -/
structure TwoAt (w wr : World) (A : Option Addr) (n c : Nat) (room : Int) (B : Option Addr) (m d : Nat) (ro : Int) : Prop where
  one : wr.heap[w.heap.size]? = some (.cells #[.slice A n c, .int .i64 room] 25 (0, 0))
  two : wr.heap[w.heap.size + 1]? = some (.cells #[.slice B m d, .int .i64 ro] 25 (0, 0))
  bel : Below w.heap.size w wr
section
variable {w wr w' : World} {A B : Option Addr} {n c m d : Nat} {room ro : Int}
theorem TwoAt.below (h : TwoAt w wr A n c room B m d ro) (hb : Below wr.heap.size wr w') : TwoAt w w' A n c room B m d ro :=
  ⟨(hb.block _ (lt_heap6 h.one)).trans h.one, (hb.block _ (lt_heap6 h.two)).trans h.two, Qt.more h.bel h.bel.size hb⟩
theorem TwoAt.a0 (h : TwoAt w wr A n c room B m d ro) : wr.cell? ⟨w.heap.size, 0, none⟩ = some (.slice A n c) := by rw [Lib.cell_of_heap h.one]; rfl
theorem TwoAt.a1 (h : TwoAt w wr A n c room B m d ro) : wr.cell? ⟨w.heap.size, 1, none⟩ = some (.int .i64 room) := by rw [Lib.cell_of_heap h.one]; rfl
theorem TwoAt.b0 (h : TwoAt w wr A n c room B m d ro) : wr.cell? ⟨w.heap.size + 1, 0, none⟩ = some (.slice B m d) := by rw [Lib.cell_of_heap h.two]; rfl
theorem TwoAt.b1 (h : TwoAt w wr A n c room B m d ro) : wr.cell? ⟨w.heap.size + 1, 1, none⟩ = some (.int .i64 ro) := by rw [Lib.cell_of_heap h.two]; rfl
end
theorem twoAt_0 (w : World) (A : Option Addr) (n c : Nat) (room : Int) (B : Option Addr) (m d : Nat) (ro : Int) : TwoAt w ((w.alloc (.cells #[.slice A n c, .int .i64 room] 25)).alloc (.cells #[.slice B m d, .int .i64 ro] 25)) A n c room B m d ro := by
  have h1 := storeAt_0 w A n c room
  have hs := lt_heap6 h1.store
  have hsz : (w.alloc (.cells #[.slice A n c, .int .i64 room] 25)).heap.size = w.heap.size + 1 := by simp
  refine ⟨(Lib.alloc_old _ _ _ (by omega)).trans h1.store, ?_, h1.bel.alloc (by omega) _⟩
  rw [← hsz]
  exact heap_alloc_new _ _
theorem ext_nd {l m : List Nd} (h : l.length = m.length) (hq : ∀ q, q < l.length → l.getD q deadN = m.getD q deadN) : l = m := by
  refine List.ext_getElem h fun i h1 h2 => ?_
  have := hq i h1
  simpa [List.getD, h1, h2] using this

set_option maxHeartbeats 4000000 in
set_option maxRecDepth 100000 in
theorem refSame6_any (A : Option Addr) (l : List Nd) (c : Nat) (room : Int) (B : Option Addr) (m : List Nd) (d : Nat) (ro : Int) (w : World) (hR : RdN w w.heap.size A l) (hS : RdN w w.heap.size B m) (hl : l.length ≤ 1000000) (hm : m.length ≤ 1000000) :
    Calls Try.prog 12 #[storeV A l.length c room, storeV B m.length d ro] w fun e w' => e = .returned (.bool (decide (room = ro ∧ l = m))) ∧ Below w.heap.size w w' := by
  have HH0 := Lib.hid (twoAt_0 w A l.length c room B m.length d ro)
  have a0 := HH0.out.a0
  have a1 := HH0.out.a1
  have b0 := HH0.out.b0
  have b1 := HH0.out.b1
  have hbel := HH0.out.bel
  unfold storeV
  by_cases h1 : room = ro
  · subst h1
    by_cases h2 : l.length = m.length
    · have h2z : (l.length : Int) = (m.length : Int) := by omega
      have hyes : (∀ q, q < l.length → l.getD q deadN = m.getD q deadN) → decide (room = room ∧ l = m) = true := fun h => decide_eq_true ⟨rfl, ext_nd h2 h⟩
      have hno : ∀ q, l.getD q deadN ≠ m.getD q deadN → decide (room = room ∧ l = m) = false := fun q h => decide_eq_false fun hh => h (by rw [hh.2])
      generalize decide (room = room ∧ l = m) = r at *
      have HY := Lib.hid hyes
      have HN := Lib.hid hno
      have H2 := Lib.hid h2
      rw [← h2] at b0 hm
      clear hyes hno h2z
      go_enter Try.func12, Try.ntmps12
      rw [← h2]
      clear h2
      go_wp2
      clear a0 a1 b0 b1 hbel
      go_loopw [5] (fun i wr => ∃ j : Nat, j ≤ l.length ∧ i = .int .i64 j ∧ Hid (TwoAt w wr A l.length c room B l.length d room ∧ ∀ q, q < j → l.getD q deadN = m.getD q deadN)) (fun i _ => l.length - (intOf i).toNat)
      case atStart => exact ⟨0, Nat.zero_le _, rfl, H2.out ▸ HH0.out, fun q h => absurd h (Nat.not_lt_zero q)⟩
      case round =>
        obtain ⟨j, hj, rfl, HH⟩ := hrel
        have H := HH.out.1
        have s0 := H.a0
        by_cases hlt : j < l.length
        · have hltz : (j : Int) < (l.length : Int) := by omega
          obtain ⟨c0, off, rfl, hbB, hcell⟩ := hR.at_ (by omega)
          obtain ⟨n0, n1, n2, n3, n4, n5⟩ := hcell j hlt
          obtain ⟨e0, off2, rfl, hbE, hcel2⟩ := hS.at_ (by have := H2.out; omega)
          obtain ⟨m0, m1, m2, m3, m4, m5⟩ := hcel2 j (by have := H2.out; omega)
          have hne := fun W => neqN (l.getD j deadN) (m.getD j deadN) W
          have hn := HN.out j
          have hstep : l.getD j deadN = m.getD j deadN → ∀ q, q < j + 1 → l.getD q deadN = m.getD q deadN := by
            intro he q hq
            rcases Nat.lt_or_ge q j with h | h
            · exact HH.out.2 q h
            · obtain rfl : q = j := by omega
              exact he
          have HS := Lib.hid hstep
          obtain ⟨x, hx⟩ : ∃ x, x = l.getD j deadN := ⟨_, rfl⟩
          obtain ⟨y, hy⟩ : ∃ y, y = m.getD j deadN := ⟨_, rfl⟩
          rw [← hx] at n0 n1 n2 n3 n4 n5
          rw [← hy] at m0 m1 m2 m3 m4 m5
          rw [← hx, ← hy] at hne hn
          have HX := Lib.hid (show (x = y → l.getD j deadN = m.getD j deadN) from fun h => by rw [← hx, ← hy, h])
          have q0 := Qt.cell_in (Qt.keep H.bel n0)
          have q1 := Qt.cell_in (Qt.keep H.bel n1)
          have q2 := Qt.cell_in (Qt.keep H.bel n2)
          have q3 := Qt.cell_in (Qt.keep H.bel n3)
          have q4 := Qt.cell_in (Qt.keep H.bel n4)
          have q5 := Qt.cell_in (Qt.keep H.bel n5)
          have p0 := Qt.cell_in (Qt.keep H.bel m0)
          have p1 := Qt.cell_in (Qt.keep H.bel m1)
          have p2 := Qt.cell_in (Qt.keep H.bel m2)
          have p3 := Qt.cell_in (Qt.keep H.bel m3)
          have p4 := Qt.cell_in (Qt.keep H.bel m4)
          have p5 := Qt.cell_in (Qt.keep H.bel m5)
          have t0 := Qt.cell_in H.a0
          have t1 := Qt.cell_in H.b0
          clear n0 n1 n2 n3 n4 n5 m0 m1 m2 m3 m4 m5 hstep hx hy hcell hcel2
          by_cases hxy : x = y
          · have HE := HX.out hxy
            rw [decide_eq_true hxy] at hne
            clear hn hxy
            go_wp2_with fail
            refine Qt.below_all (by kernel_rfl) (by kernel_rfl) ?_
            repeat (go_big_quiet_step (fail))
            refine wpQuiet_nil ?_
            intro w1 hb1
            have H1 := H.below hb1
            clear q0 q1 q2 q3 q4 q5 p0 p1 p2 p3 p4 p5 t0 t1 hne s0 H hb1
            have HN2 : Hid (TwoAt w w1 (some ⟨c0, off, none⟩) l.length c room (some ⟨e0, off2, none⟩) l.length d room ∧ ∀ q, q < j + 1 → l.getD q deadN = m.getD q deadN) := ⟨H1, HS.out HE⟩
            clear HE HX HS HH H1
            go_wp2
            go_roundw
            case measure => simp [intOf]; omega
            case rel => exact ⟨j + 1, by omega, by go_num, HN2.out⟩
          · have hr := hn hxy
            rw [decide_eq_false hxy] at hne
            subst hr
            clear hn HX HS HH hxy
            go_wp2_with fail
            refine Qt.below_all (by kernel_rfl) (by kernel_rfl) ?_
            repeat (go_big_quiet_step (fail))
            refine wpQuiet_nil ?_
            intro w1 hb1
            have H1 := H.below hb1
            clear q0 q1 q2 q3 q4 q5 p0 p1 p2 p3 p4 p5 t0 t1 hne s0 H hb1
            have hbel := H1.bel
            clear H1
            go_wp2
            go_ret
            exact ⟨rfl, hbel⟩
        · obtain rfl : j = l.length := by omega
          have hltz : ¬ (l.length : Int) < (l.length : Int) := by omega
          have hr := HY.out HH.out.2
          subst hr
          have hbel := H.bel
          clear HH H
          go_wp2
          go_ret
          exact ⟨rfl, hbel⟩
    · have hf : decide (room = room ∧ l = m) = false := decide_eq_false fun h => h2 (by rw [h.2])
      rw [hf]
      have h2z : ¬ (l.length : Int) = (m.length : Int) := by omega
      clear hf
      go_enter Try.func12, Try.ntmps12
      go_wp2
      go_ret
      exact ⟨rfl, hbel⟩
  · have hf : decide (room = ro ∧ l = m) = false := decide_eq_false fun h => h1 h.1
    rw [hf]
    clear hf
    go_enter Try.func12, Try.ntmps12
    go_wp2
    go_ret
    exact ⟨rfl, hbel⟩
end Go.Proofs.Ytcmdhochofoohaa
namespace Go.Proofs.Ytcmdhochofoohaa
set_option linter.unusedVariables false
set_option linter.unusedSimpArgs false
open Go.RowKit Go.Sort

theorem pow_bd {y : Nat} (h : y ≤ 61) : 1 ≤ 2 ^ y ∧ 2 ^ y ≤ 2305843009213693952 := by
  have h1 := Nat.pow_le_pow_right (n := 2) (by decide) h
  have h2 : (2 : Nat) ^ 61 = 2305843009213693952 := by decide
  have h3 : 0 < 2 ^ y := Nat.pow_pos (by decide)
  omega
theorem sum_away {l : List Int} {k : Nat} (h : k < l.length) (hb : l.getD k 0 < 0 ∨ 61 < l.getD k 0) : sumL l = (0, 1) := by
  unfold sumL
  rw [if_pos]
  unfold awayB
  rw [List.any_eq_true]
  refine ⟨l.getD k 0, ?_, by simpa using hb⟩
  rw [List.getD_eq_getElem?_getD, List.getElem?_eq_getElem h]
  exact List.getElem_mem _
theorem all_in {l : List Int} (h : ∀ j, j < l.length → 0 ≤ l.getD j 0 ∧ l.getD j 0 ≤ 61) : ∀ e ∈ l, 0 ≤ e ∧ e ≤ 61 := by
  intro e he
  obtain ⟨j, hj, rfl⟩ := List.getElem_of_mem he
  have := h j hj
  rwa [List.getD_eq_getElem?_getD, List.getElem?_eq_getElem hj] at this
theorem sum_big {l : List Int} (h : ∀ j, j < l.length → 0 ≤ l.getD j 0 ∧ l.getD j 0 ≤ 61) (ht : 4611686018427387903 < total l) : sumL l = (0, 21) := by
  unfold sumL
  rw [awayB_no (all_in h), if_neg (by decide), if_pos ht]
theorem sum_fits {l : List Int} (h : ∀ j, j < l.length → 0 ≤ l.getD j 0 ∧ l.getD j 0 ≤ 61) (ht : ¬ 4611686018427387903 < total l) : sumL l = ((total l : Int), 0) := by
  unfold sumL
  rw [awayB_no (all_in h), if_neg (by decide), if_neg ht]
theorem in_to {l : List Int} {k : Nat} (hk : ∀ j, j < k → 0 ≤ l.getD j 0 ∧ l.getD j 0 ≤ 61) (hd : 0 ≤ l.getD k 0 ∧ l.getD k 0 ≤ 61) : ∀ j, j < k + 1 → 0 ≤ l.getD j 0 ∧ l.getD j 0 ≤ 61 := by
  intro j hj
  by_cases e : j = k
  · subst e; exact hd
  · exact hk j (by omega)

theorem min_step (t p : Nat) : min (min t 4611686018427387904 + p) 4611686018427387904 = min (t + p) 4611686018427387904 := by omega

def PairR (p : Int × Int) (w : World) (e : Ending) (w' : World) : Prop := e = .returned (.tuple #[.int .i64 p.1, .int .i64 p.2]) ∧ Below w.heap.size w w'

end Go.Proofs.Ytcmdhochofoohaa
namespace Go.Proofs.Ytcmdhochofoohaa
set_option linter.unusedVariables false
set_option linter.unusedSimpArgs false
open Go.RowKit Go.Sort

theorem eq_of_all {l m : List Int} (hlen : l.length = m.length) (h : ∀ j, j < l.length → l.getD j 0 = m.getD j 0) : l = m := by
  refine List.ext_getElem hlen fun j h1 h2 => ?_
  have := h j h1
  rwa [List.getD_eq_getElem?_getD, List.getD_eq_getElem?_getD, List.getElem?_eq_getElem h1, List.getElem?_eq_getElem h2] at this

theorem ints_len (A A' : Option Addr) (n m c c' : Nat) (w : World) (hne : n ≠ m) :
    Calls Try.prog 26 #[.slice A n c, .slice A' m c'] w fun e w' => e = .returned (.bool false) ∧ Below w.heap.size w w' := by
  have hz : ((n : Int) == (m : Int)) = false := beq_eq_false_iff_ne.2 (by omega)
  have hz2 : ((n : Int) != (m : Int)) = true := by rw [bne, hz]; rfl
  go_enter Try.func26, Try.ntmps26
  go_wp2
  go_ret
  exact ⟨rfl, Below.refl _ _⟩

theorem ints_same (A A' : Option Addr) (l m : List Int) (c c' : Nat) (w : World) (hR : Now w A l) (hR' : Now w A' m) (hl : l.length ≤ 1000000) (hlm : l.length = m.length) :
    Calls Try.prog 26 #[.slice A l.length c, .slice A' l.length c'] w fun e w' => e = .returned (.bool (decide (l = m))) ∧ Below w.heap.size w w' := by
  generalize hr : decide (l = m) = r
  have HR := Lib.hid hr
  have HLM := Lib.hid hlm
  clear hr hlm
  go_enter Try.func26, Try.ntmps26
  go_wp2
  go_loopw [5] (fun i wr => ∃ k : Nat, k ≤ l.length ∧ i = .int .i64 k ∧ Hid (∀ j, j < k → l.getD j 0 = m.getD j 0) ∧ Below w.heap.size w wr) (fun i _ => l.length - (intOf i).toNat)
  case atStart => exact ⟨0, Nat.zero_le _, rfl, (show Hid _ from fun j hj => absurd hj (Nat.not_lt_zero j)), Below.refl _ _⟩
  case round =>
    obtain ⟨k, hk, rfl, HK, hb⟩ := hrel
    by_cases hlt : k < l.length
    · have hltz : (k : Int) < (l.length : Int) := by omega
      obtain ⟨b, off, rfl, hbB, hcell⟩ := hR.at_ (by omega)
      obtain ⟨b2, off2, rfl, hbB2, hcell2⟩ := hR'.at_ (by have := HLM.out; omega)
      obtain ⟨x, hx⟩ : ∃ p, p = l.getD k 0 := ⟨_, rfl⟩
      obtain ⟨y, hy⟩ : ∃ p, p = m.getD k 0 := ⟨_, rfl⟩
      have a0 := hcell k hlt
      have e0 := hcell2 k (by have := HLM.out; omega)
      rw [← hx] at a0
      rw [← hy] at e0
      have k0 := Qt.cell_in (Qt.keep hb a0)
      have k2 := Qt.cell_in (Qt.keep hb e0)
      have HX := Lib.hid hx
      have HY := Lib.hid hy
      clear hx hy hcell hcell2 a0 e0
      by_cases hxy : x = y
      · subst hxy
        go_wp2
        refine Qt.below_all (by kernel_rfl) (by kernel_rfl) ?_
        repeat (go_big_quiet_step (fail))
        refine wpQuiet_nil ?_
        intro w1 hb1
        clear k0 k2
        go_wp2
        go_roundw
        case measure => simp [intOf]; omega
        case rel =>
          refine ⟨k + 1, by omega, by go_num, (show Hid _ from fun j hj => ?_), Qt.more hb hb.size hb1⟩
          by_cases hjk : j = k
          · subst hjk; rw [← HX.out, ← HY.out]
          · exact HK.out j (by omega)
      · have hne : l ≠ m := by
          intro e
          subst e
          exact hxy (HX.out.trans HY.out.symm)
        have HNE := Lib.hid hne
        clear hne
        go_wp2
        refine Qt.below_all (by kernel_rfl) (by kernel_rfl) ?_
        repeat (go_big_quiet_step (fail))
        refine wpQuiet_nil ?_
        intro w1 hb1
        clear k0 k2
        go_wp2
        go_ret
        exact ⟨by rw [← HR.out, decide_eq_false HNE.out]; rfl, Qt.more hb hb.size hb1⟩
    · have hltz : ¬ (k : Int) < (l.length : Int) := by omega
      have he : l = m := eq_of_all HLM.out fun j hj => HK.out j (by omega)
      have HE := Lib.hid he
      clear he
      go_wp2
      go_ret
      exact ⟨by rw [← HR.out, decide_eq_true HE.out]; rfl, hb⟩

theorem ints_any {A A' : Option Addr} {l m : List Int} {n n' c c' : Nat} {w : World} (hR : Now w A l) (hR' : Now w A' m) (hn : n = l.length) (hn' : n' = m.length) (hl : n ≤ 1000000) :
    Calls Try.prog 26 #[.slice A n c, .slice A' n' c'] w fun e w' => e = .returned (.bool (decide (l = m))) ∧ Below w.heap.size w w' := by
  subst hn hn'
  by_cases h : l.length = m.length
  · have := ints_same A A' l m c c' w hR hR' hl h
    rwa [← h]
  · rw [decide_eq_false fun e => h (congrArg List.length e)]
    exact ints_len A A' _ _ c c' w h
theorem ints_yes {A A' : Option Addr} {l m : List Int} {n n' c c' : Nat} {w : World} (hR : Now w A l) (hR' : Now w A' m) (hn : n = l.length) (hn' : n' = m.length) (hl : n ≤ 1000000) (he : l = m) :
    Calls Try.prog 26 #[.slice A n c, .slice A' n' c'] w fun e w' => e = .returned (.bool true) ∧ Below w.heap.size w w' := by
  have := ints_any (c := c) (c' := c') hR hR' hn hn' hl
  rwa [decide_eq_true he] at this

theorem total_bound {l : List Int} {k x : Nat} (h : k < l.length) (hx : (x : Int) = l.getD k 0) (hn : 4611686018427387903 < total (l.take k) + 2 ^ x) : 4611686018427387903 < total l := by
  have h1 := total_take_le l (k + 1)
  rw [total_take_succ h, ← hx] at h1
  simp only [Int.toNat_natCast] at h1
  omega

end Go.Proofs.Ytcmdhochofoohaa
