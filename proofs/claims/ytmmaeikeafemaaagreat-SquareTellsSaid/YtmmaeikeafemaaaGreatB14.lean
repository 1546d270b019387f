/-
  Texts that the claims of this seat share, part 14.
-/
import Derived.Test.YtmmaeikeafemaaaGreatB13
import Derived.Test.YtmmaeikeafemaaaGreatB04
import Derived.Test.YtmmaeikeafemaaaGreatB05
set_option linter.unusedVariables false
set_option linter.unusedSimpArgs false
namespace Go.Proofs.YtmmaeikeafemaaaGreat
set_option maxRecDepth 100000
set_option linter.unusedVariables false
set_option linter.unusedSimpArgs false
open Go.RowKit Go.Sort

theorem storeR_box7 {l : List Nd} {room : Int} {w : World} {e : Ending} {w' : World} (h : StoreR l room w e w') : ∃ A c, e = .returned (.agg #[.slice A l.length c, .int .i64 room]) ∧ l.length ≤ c ∧ NowN w' A l ∧ Below w.heap.size w w' := by
  obtain ⟨v, rfl, ⟨A, c, rfl, hc, hN⟩, hb⟩ := h
  exact ⟨A, c, rfl, hc, hN, hb⟩
theorem rdC_one (W : World) (x y : Int) : RdC (W.alloc (.cells #[.int .i64 x, .int .i64 y] 28)) (W.alloc (.cells #[.int .i64 x, .int .i64 y] 28)).heap.size (some ⟨W.heap.size, 0, none⟩) [(x, y)] := fun j hj => by
  have hj0 : j = 0 := by simp at hj; omega
  subst hj0
  have hn := heap_alloc_new W (.cells #[.int .i64 x, .int .i64 y] 28 (0, 0))
  refine ⟨W.heap.size, 0, rfl, by simp, ?_, ?_⟩ <;> · rw [Lib.cell_of_heap hn]; rfl
theorem rdC_one' (W : World) (x y : Int) (b : Nat) (h : W.heap.size = b) : RdC (W.alloc (.cells #[.int .i64 x, .int .i64 y] 28)) (W.alloc (.cells #[.int .i64 x, .int .i64 y] 28)).heap.size (some ⟨b, 0, none⟩) [(x, y)] := by
  subst h
  exact rdC_one W x y
def BxB (w : World) (b : Nat) (x y u v : Int) : Prop := w.heap[b]? = some (.cells #[.int .i64 x, .int .i64 y, .int .i64 u, .int .i64 v] 45 (0, 0))
theorem BxB.below {w w' : World} {b : Nat} {x y u v : Int} (h : BxB w b x y u v) (hb : Below w.heap.size w w') : BxB w' b x y u v := (hb.block _ (lt_heap6 h)).trans h
theorem BxB.s0 {w : World} {b : Nat} {x y u v : Int} (h : BxB w b x y u v) : w.cell? ⟨b, 0, none⟩ = some (.int .i64 x) := by rw [Lib.cell_of_heap h]; rfl
theorem BxB.s1 {w : World} {b : Nat} {x y u v : Int} (h : BxB w b x y u v) : w.cell? ⟨b, 1, none⟩ = some (.int .i64 y) := by rw [Lib.cell_of_heap h]; rfl
theorem BxB.s2 {w : World} {b : Nat} {x y u v : Int} (h : BxB w b x y u v) : w.cell? ⟨b, 2, none⟩ = some (.int .i64 u) := by rw [Lib.cell_of_heap h]; rfl
theorem BxB.s3 {w : World} {b : Nat} {x y u v : Int} (h : BxB w b x y u v) : w.cell? ⟨b, 3, none⟩ = some (.int .i64 v) := by rw [Lib.cell_of_heap h]; rfl
theorem i64_of (x : Int) (h : -1000 ≤ x ∧ x ≤ 1000) : I64 x := by unfold I64; omega
set_option maxHeartbeats 16000000 in
set_option maxRecDepth 100000 in
theorem awake7_any (w : World) : Calls Tryz.prog 4 #[] w fun e w' => e = .returned (.bool true) ∧ Below w.heap.size w w' := by
  have hn := refNew6_any 50 w
  rw [show newL 50 = new6 from rfl, show newRoom 50 = 50 from rfl] at hn
  go_enter Tryz.func4, Tryz.ntmps4
  go_wp2_with fail
  refine hn.mono ?_
  clear hn
  intro e w1 h1
  obtain ⟨A1, c1, rfl, hcap1, N1, hb1⟩ := storeR_box7 h1
  have hal1 := (Below.refl w1.heap.size w1).alloc (Nat.le_refl _) (.cells #[.int .i64 0, .int .i64 0] 28)
  have HC1 := rdC_one w1 0 0
  have hB1 := Qt.more hb1 hb1.size hal1
  have hc2 := make7_any A1 new6 c1 50 (some ⟨w1.heap.size, 0, none⟩) [(0, 0)] 1 1 _ (N1.below hal1) (by decide) hcap1 HC1 (by decide) (by decide)
  rw [aw7_1] at hc2
  unfold storeV at hc2
  clear h1 HC1 N1
  go_wp2_with fail
  refine hc2.mono ?_
  generalize (w1.alloc (.cells #[.int .i64 0, .int .i64 0] 28)) = v1 at *
  intro e w2 h2
  obtain ⟨A2, c2, rfl, hcap2, N2, hb2⟩ := putR_box h2
  have hB2 := Qt.more hB1 hB1.size hb2
  have hal := fun o => (Below.refl w2.heap.size w2).alloc (Nat.le_refl _) o
  have HS := Lib.hid (stB_new N2 hcap2 50)
  have HB := Lib.hid (Qt.more hB2 hB2.size (hal (.cells #[.slice A2 aw7S.length c2, .int .i64 50] 26)))
  clear h2 hc2 hb1 hb2 hB1 hB2 N2 hal hal1
  go_wp2_with fail
  generalize (w2.alloc (.cells #[.slice A2 aw7S.length c2, .int .i64 50] 26)) = v2 at *
  generalize w2.heap.size = b2 at *
  have hc2 := grow7_any A2 aw7S c2 50 2 v2 HS.out.rd (by decide) hcap2
  rw [aw7_2] at hc2
  unfold storeV at hc2
  refine hc2.mono ?_
  intro e w3 h
  obtain ⟨A3, c3, rfl, hcap3, N, hb⟩ := putR_box h
  have hal := fun o => (Below.refl w3.heap.size w3).alloc (Nat.le_refl _) o
  have HT := Lib.hid (stB_new N hcap3 50)
  have HS3 := Lib.hid ((HS.out.below hb).below (hal (.cells #[.slice A3 aw7T.length c3, .int .i64 50] 26)))
  have HB3 := Lib.hid (Qt.more (Qt.more HB.out HB.out.size hb) (Qt.more HB.out HB.out.size hb).size (hal (.cells #[.slice A3 aw7T.length c3, .int .i64 50] 26)))
  clear h hc2 hb N hal HB HS
  go_wp2_with fail
  generalize (w3.alloc (.cells #[.slice A3 aw7T.length c3, .int .i64 50] 26)) = v3 at *
  generalize w3.heap.size = b3 at *
  have hc2 := cells7_any A3 aw7T c3 50 5 v3 HT.out.rd (by decide) hcap3
  rw [aw7_3] at hc2
  unfold storeV at hc2
  refine hc2.mono ?_
  intro e w4 h
  obtain ⟨A4, c4, rfl, hcap4, hC4, hb⟩ := h
  have HC4 := Lib.hid hC4
  have HS4 := Lib.hid (HS3.out.below hb)
  have HT4 := Lib.hid (HT.out.below hb)
  have HB4 := Lib.hid (Qt.more HB3.out HB3.out.size hb)
  have t0 := HT4.out.s0
  have t1 := HT4.out.s1
  clear hc2 hb hC4 HB3 HS3 HT
  go_wp2_with fail
  have hc2 := get7_any A3 aw7T c3 50 5 (0, 0) w4 HT4.out.rd (by decide) hcap3 (i64_of _ (by decide)) (i64_of _ (by decide))
  rw [aw7_4] at hc2
  unfold storeV cellV at hc2
  clear t0 t1
  refine hc2.mono ?_
  rintro e w5 ⟨rfl, hb⟩
  have HC5 := Lib.hid ((HC4.out.below hb (Nat.le_refl _)).more hb.size)
  have HS5 := Lib.hid (HS4.out.below hb)
  have HT5 := Lib.hid (HT4.out.below hb)
  have HB5 := Lib.hid (Qt.more HB4.out HB4.out.size hb)
  have t0 := HT5.out.s0
  have t1 := HT5.out.s1
  clear hc2 hb HC4 HB4 HS4 HT4
  go_wp2_with fail
  clear t0 t1
  have hc2 := set7_any A3 aw7T c3 50 5 (-2, 1) true w5 HT5.out.rd (by decide) hcap3 (i64_of _ (by decide)) (i64_of _ (by decide))
  rw [aw7_5] at hc2
  unfold storeV cellV at hc2
  refine hc2.mono ?_
  intro e w6 h
  obtain ⟨A6, c6, rfl, hcap6, N, hb⟩ := putR_box h
  have hal := fun o => (Below.refl w6.heap.size w6).alloc (Nat.le_refl _) o
  have hb' := Qt.more (B := w5.heap.size) hb hb.size (hal (.cells #[.slice A6 aw7U.length c6, .int .i64 50] 26))
  have HU6 := Lib.hid (stB_new N hcap6 50)
  have HC6 := Lib.hid ((HC5.out.below hb' (Nat.le_refl _)).more hb'.size)
  have HS6 := Lib.hid (HS5.out.below hb')
  have HT6 := Lib.hid (HT5.out.below hb')
  have HB6 := Lib.hid (Qt.more HB5.out HB5.out.size hb')
  clear h hc2 hb hb' N hal HC5 HB5 HS5 HT5
  go_wp2_with fail
  generalize (w6.alloc (.cells #[.slice A6 aw7U.length c6, .int .i64 50] 26)) = v6 at *
  generalize w6.heap.size = b6 at *
  have hc2 := box7_any A6 aw7U c6 50 7 v6 HU6.out.rd (by decide) hcap6
  rw [aw7_6] at hc2
  unfold storeV at hc2
  refine hc2.mono ?_
  rintro e w7 ⟨rfl, hb⟩
  have hal := (Below.refl w7.heap.size w7).alloc (Nat.le_refl _) (.cells #[.int .i64 (-2), .int .i64 0, .int .i64 3, .int .i64 2] 45)
  have hb' := Qt.more (B := v6.heap.size) hb hb.size hal
  have HX7 := Lib.hid (show BxB (w7.alloc (.cells #[.int .i64 (-2), .int .i64 0, .int .i64 3, .int .i64 2] 45)) w7.heap.size (-2) 0 3 2 from heap_alloc_new w7 _)
  have HC7 := Lib.hid ((HC6.out.below hb' (Nat.le_refl _)).more hb'.size)
  have HS7 := Lib.hid (HS6.out.below hb')
  have HT7 := Lib.hid (HT6.out.below hb')
  have HB7 := Lib.hid (Qt.more HB6.out HB6.out.size hb')
  have s0o := fun o => ((HS6.out.below hb).below ((Below.refl w7.heap.size w7).alloc (Nat.le_refl _) o)).s0
  have s1o := fun o => ((HS6.out.below hb).below ((Below.refl w7.heap.size w7).alloc (Nat.le_refl _) o)).s1
  clear hc2 hb hb' hal HC6 HB6 HS6 HT6 HU6
  go_wp2_with fail
  clear s0o s1o
  have hs7 : (w7.alloc (.cells #[.int .i64 (-2), .int .i64 0, .int .i64 3, .int .i64 2] 45)).heap.size = w7.heap.size + 1 := by simp
  have hal := (Below.refl (w7.alloc (.cells #[.int .i64 (-2), .int .i64 0, .int .i64 3, .int .i64 2] 45)).heap.size (w7.alloc (.cells #[.int .i64 (-2), .int .i64 0, .int .i64 3, .int .i64 2] 45))).alloc (Nat.le_refl _) (.cells #[.int .i64 1, .int .i64 0] 28)
  have HR := rdC_one' (w7.alloc (.cells #[.int .i64 (-2), .int .i64 0, .int .i64 3, .int .i64 2] 45)) 1 0 _ hs7
  have HS8 := Lib.hid (HS7.out.below hal)
  have HT8 := Lib.hid (HT7.out.below hal)
  have HX8 := Lib.hid (HX7.out.below hal)
  have HC8 := Lib.hid ((HC7.out.below hal (Nat.le_refl _)).more hal.size)
  have HB8 := Lib.hid (Qt.more HB7.out HB7.out.size hal)
  have hc2 := make7_any A2 aw7S c2 50 (some ⟨w7.heap.size + 1, 0, none⟩) [(1, 0)] 1 1 _ HS8.out.rd (by decide) hcap2 HR (by decide) (by decide)
  rw [aw7_7] at hc2
  unfold storeV at hc2
  clear HS7 HT7 HX7 HC7 HB7 hal HR hs7
  refine hc2.mono ?_
  generalize ((w7.alloc (.cells #[.int .i64 (-2), .int .i64 0, .int .i64 3, .int .i64 2] 45)).alloc (.cells #[.int .i64 1, .int .i64 0] 28)) = v8 at *
  generalize w7.heap.size = b7 at *
  intro e w9 h
  obtain ⟨A9, c9, rfl, hcap9, N, hb⟩ := putR_box h
  have hal := (Below.refl w9.heap.size w9).alloc (Nat.le_refl _) (.cells #[.slice A9 aw7S.length c9, .int .i64 50] 26)
  have hb' := Qt.more (B := v8.heap.size) hb hb.size hal
  have HX9 := Lib.hid (HX8.out.below hb')
  have HC9 := Lib.hid ((HC8.out.below hb' (Nat.le_refl _)).more hb'.size)
  have HS9 := Lib.hid (HS8.out.below hb')
  have HT9 := Lib.hid (HT8.out.below hb')
  have HB9 := Lib.hid (Qt.more HB8.out HB8.out.size hb')
  have s0o := fun o => ((HS8.out.below hb).below ((Below.refl w9.heap.size w9).alloc (Nat.le_refl _) o)).s0
  have s1o := fun o => ((HS8.out.below hb).below ((Below.refl w9.heap.size w9).alloc (Nat.le_refl _) o)).s1
  clear h hc2 hb hb' hal N HC8 HX8 HB8 HS8 HT8
  go_wp2_with fail
  clear s0o s1o
  generalize (w9.alloc (.cells #[.slice A9 aw7S.length c9, .int .i64 50] 26)) = v9 at *
  have hc2 := box7_any A2 aw7S c2 50 0 v9 HS9.out.rd (by decide) hcap2
  rw [aw7_8] at hc2
  unfold storeV at hc2
  refine hc2.mono ?_
  rintro e w10 ⟨rfl, hb⟩
  have hbo := fun o => Qt.more (B := v9.heap.size) hb hb.size ((Below.refl w10.heap.size w10).alloc (Nat.le_refl _) o)
  have HB := Lib.hid (Qt.more HB9.out HB9.out.size (hbo (.cells #[.int .i64 0, .int .i64 0, .int .i64 0, .int .i64 0] 45)))
  have haS : (aw7S.length : Int) = 3 := rfl
  have haT : (aw7T.length : Int) = 6 := rfl
  have haC : (([(0, 0)] : List (Int × Int)).length : Int) = 1 := rfl
  have s0 := fun o => (HS9.out.below (hbo o)).s0
  have t0 := fun o => (HT9.out.below (hbo o)).s0
  have p0 := fun o => (HX9.out.below (hbo o)).s0
  have p1 := fun o => (HX9.out.below (hbo o)).s1
  have p2 := fun o => (HX9.out.below (hbo o)).s2
  have p3 := fun o => (HX9.out.below (hbo o)).s3
  obtain ⟨qs, os, rfl, hls, hns⟩ := HS9.out.nd (by decide)
  obtain ⟨qt, ot, rfl, hlt, hnt⟩ := HT9.out.nd (by decide)
  obtain ⟨qc, oc, rfl, hlc, hc⟩ := HC9.out.at_ (by decide)
  obtain ⟨_, y1, y2, y3, y4, _⟩ := hns 2 (by decide)
  have y5 := (hnt 5 (by decide)).1
  obtain ⟨y6, y7⟩ := hc 0 (by decide)
  have x1 : ∀ o, (w10.alloc o).cell? ⟨qs, os + 2 * 6 + 1, none⟩ = some (.int .i64 0) := fun o => ((hbo o).cell hls).trans y1
  have x2 : ∀ o, (w10.alloc o).cell? ⟨qs, os + 2 * 6 + 2, none⟩ = some (.int .i64 0) := fun o => ((hbo o).cell hls).trans y2
  have x3 : ∀ o, (w10.alloc o).cell? ⟨qs, os + 2 * 6 + 3, none⟩ = some (.int .i64 0) := fun o => ((hbo o).cell hls).trans y3
  have x4 : ∀ o, (w10.alloc o).cell? ⟨qs, os + 2 * 6 + 4, none⟩ = some (.int .i64 1) := fun o => ((hbo o).cell hls).trans y4
  have x5 : ∀ o, (w10.alloc o).cell? ⟨qt, ot + 5 * 6, none⟩ = some (.int .i64 2) := fun o => ((hbo o).cell hlt).trans y5
  have x6 : ∀ o, (w10.alloc o).cell? ⟨qc, oc, none⟩ = some (.int .i64 0) := fun o => ((hbo o).cell hlc).trans y6
  have x7 : ∀ o, (w10.alloc o).cell? ⟨qc, oc + 1, none⟩ = some (.int .i64 0) := fun o => ((hbo o).cell hlc).trans y7
  have he := fun W => eqlK (0, 0, 0, 1) (0, 0, 0, 1) W
  dsimp only at he
  clear hc2 hb hbo HB9 HC9 HX9 HS9 HT9 hns hnt hc y1 y2 y3 y4 y5 y6 y7
  go_wp2_with fail
  go_ret
  exact ⟨rfl, HB.out⟩
end Go.Proofs.YtmmaeikeafemaaaGreat
namespace Go.Proofs.YtmmaeikeafemaaaGreat
set_option linter.unusedVariables false
set_option linter.unusedSimpArgs false
open Go.RowKit Go.Sort

/-- Two stores as they lie in boxes. -/
structure TwoAt (w wr : World) (A : Option Addr) (n c : Nat) (room : Int) (B : Option Addr) (m d : Nat) (ro : Int) : Prop where
  one : wr.heap[w.heap.size]? = some (.cells #[.slice A n c, .int .i64 room] 26 (0, 0))
  two : wr.heap[w.heap.size + 1]? = some (.cells #[.slice B m d, .int .i64 ro] 26 (0, 0))
  bel : Below w.heap.size w wr
section
variable {w wr w' : World} {A B : Option Addr} {n c m d : Nat} {room ro : Int}
theorem TwoAt.below (h : TwoAt w wr A n c room B m d ro) (hb : Below wr.heap.size wr w') : TwoAt w w' A n c room B m d ro :=
  ⟨(hb.block _ (lt_heap6 h.one)).trans h.one, (hb.block _ (lt_heap6 h.two)).trans h.two, Qt.more h.bel h.bel.size hb⟩
theorem TwoAt.a0 (h : TwoAt w wr A n c room B m d ro) : wr.cell? ⟨w.heap.size, 0, none⟩ = some (.slice A n c) := by rw [Lib.cell_of_heap h.one]; rfl
theorem TwoAt.a1 (h : TwoAt w wr A n c room B m d ro) : wr.cell? ⟨w.heap.size, 1, none⟩ = some (.int .i64 room) := by rw [Lib.cell_of_heap h.one]; rfl
theorem TwoAt.b0 (h : TwoAt w wr A n c room B m d ro) : wr.cell? ⟨w.heap.size + 1, 0, none⟩ = some (.slice B m d) := by rw [Lib.cell_of_heap h.two]; rfl
theorem TwoAt.b1 (h : TwoAt w wr A n c room B m d ro) : wr.cell? ⟨w.heap.size + 1, 1, none⟩ = some (.int .i64 ro) := by rw [Lib.cell_of_heap h.two]; rfl
end
theorem twoAt_0 (w : World) (A : Option Addr) (n c : Nat) (room : Int) (B : Option Addr) (m d : Nat) (ro : Int) : TwoAt w ((w.alloc (.cells #[.slice A n c, .int .i64 room] 26)).alloc (.cells #[.slice B m d, .int .i64 ro] 26)) A n c room B m d ro := by
  have h1 := storeAt_0 w A n c room
  have hs := lt_heap6 h1.store
  have hsz : (w.alloc (.cells #[.slice A n c, .int .i64 room] 26)).heap.size = w.heap.size + 1 := by simp
  refine ⟨(Lib.alloc_old _ _ _ (by omega)).trans h1.store, ?_, h1.bel.alloc (by omega) _⟩
  rw [← hsz]
  exact heap_alloc_new _ _
theorem ext_nd {l m : List Nd} (h : l.length = m.length) (hq : ∀ q, q < l.length → l.getD q deadN = m.getD q deadN) : l = m := by
  refine List.ext_getElem h fun i h1 h2 => ?_
  have := hq i h1
  simpa [List.getD, h1, h2] using this

set_option maxHeartbeats 4000000 in
set_option maxRecDepth 100000 in
theorem refSame6_any (A : Option Addr) (l : List Nd) (c : Nat) (room : Int) (B : Option Addr) (m : List Nd) (d : Nat) (ro : Int) (w : World) (hR : RdN w w.heap.size A l) (hS : RdN w w.heap.size B m) (hl : l.length ≤ 1000000) (hm : m.length ≤ 1000000) :
    Calls Tryz.prog 10 #[storeV A l.length c room, storeV B m.length d ro] w fun e w' => e = .returned (.bool (decide (room = ro ∧ l = m))) ∧ Below w.heap.size w w' := by
  have HH0 := Lib.hid (twoAt_0 w A l.length c room B m.length d ro)
  have a0 := HH0.out.a0
  have a1 := HH0.out.a1
  have b0 := HH0.out.b0
  have b1 := HH0.out.b1
  have hbel := HH0.out.bel
  unfold storeV
  by_cases h1 : room = ro
  · subst h1
    by_cases h2 : l.length = m.length
    · have h2z : (l.length : Int) = (m.length : Int) := by omega
      have hyes : (∀ q, q < l.length → l.getD q deadN = m.getD q deadN) → decide (room = room ∧ l = m) = true := fun h => decide_eq_true ⟨rfl, ext_nd h2 h⟩
      have hno : ∀ q, l.getD q deadN ≠ m.getD q deadN → decide (room = room ∧ l = m) = false := fun q h => decide_eq_false fun hh => h (by rw [hh.2])
      generalize decide (room = room ∧ l = m) = r at *
      have HY := Lib.hid hyes
      have HN := Lib.hid hno
      have H2 := Lib.hid h2
      rw [← h2] at b0 hm
      clear hyes hno h2z
      go_enter Tryz.func10, Tryz.ntmps10
      rw [← h2]
      clear h2
      go_wp2
      clear a0 a1 b0 b1 hbel
      go_loopw [5] (fun i wr => ∃ j : Nat, j ≤ l.length ∧ i = .int .i64 j ∧ Hid (TwoAt w wr A l.length c room B l.length d room ∧ ∀ q, q < j → l.getD q deadN = m.getD q deadN)) (fun i _ => l.length - (intOf i).toNat)
      case atStart => exact ⟨0, Nat.zero_le _, rfl, H2.out ▸ HH0.out, fun q h => absurd h (Nat.not_lt_zero q)⟩
      case round =>
        obtain ⟨j, hj, rfl, HH⟩ := hrel
        have H := HH.out.1
        have s0 := H.a0
        by_cases hlt : j < l.length
        · have hltz : (j : Int) < (l.length : Int) := by omega
          obtain ⟨c0, off, rfl, hbB, hcell⟩ := hR.at_ (by omega)
          obtain ⟨n0, n1, n2, n3, n4, n5⟩ := hcell j hlt
          obtain ⟨e0, off2, rfl, hbE, hcel2⟩ := hS.at_ (by have := H2.out; omega)
          obtain ⟨m0, m1, m2, m3, m4, m5⟩ := hcel2 j (by have := H2.out; omega)
          have hne := fun W => neqN (l.getD j deadN) (m.getD j deadN) W
          have hn := HN.out j
          have hstep : l.getD j deadN = m.getD j deadN → ∀ q, q < j + 1 → l.getD q deadN = m.getD q deadN := by
            intro he q hq
            rcases Nat.lt_or_ge q j with h | h
            · exact HH.out.2 q h
            · obtain rfl : q = j := by omega
              exact he
          have HS := Lib.hid hstep
          obtain ⟨x, hx⟩ : ∃ x, x = l.getD j deadN := ⟨_, rfl⟩
          obtain ⟨y, hy⟩ : ∃ y, y = m.getD j deadN := ⟨_, rfl⟩
          rw [← hx] at n0 n1 n2 n3 n4 n5
          rw [← hy] at m0 m1 m2 m3 m4 m5
          rw [← hx, ← hy] at hne hn
          have HX := Lib.hid (show (x = y → l.getD j deadN = m.getD j deadN) from fun h => by rw [← hx, ← hy, h])
          have q0 := Qt.cell_in (Qt.keep H.bel n0)
          have q1 := Qt.cell_in (Qt.keep H.bel n1)
          have q2 := Qt.cell_in (Qt.keep H.bel n2)
          have q3 := Qt.cell_in (Qt.keep H.bel n3)
          have q4 := Qt.cell_in (Qt.keep H.bel n4)
          have q5 := Qt.cell_in (Qt.keep H.bel n5)
          have p0 := Qt.cell_in (Qt.keep H.bel m0)
          have p1 := Qt.cell_in (Qt.keep H.bel m1)
          have p2 := Qt.cell_in (Qt.keep H.bel m2)
          have p3 := Qt.cell_in (Qt.keep H.bel m3)
          have p4 := Qt.cell_in (Qt.keep H.bel m4)
          have p5 := Qt.cell_in (Qt.keep H.bel m5)
          have t0 := Qt.cell_in H.a0
          have t1 := Qt.cell_in H.b0
          clear n0 n1 n2 n3 n4 n5 m0 m1 m2 m3 m4 m5 hstep hx hy hcell hcel2
          by_cases hxy : x = y
          · have HE := HX.out hxy
            rw [decide_eq_true hxy] at hne
            clear hn hxy
            go_wp2_with fail
            refine Qt.below_all (by kernel_rfl) (by kernel_rfl) ?_
            repeat (go_big_quiet_step (fail))
            refine wpQuiet_nil ?_
            intro w1 hb1
            have H1 := H.below hb1
            clear q0 q1 q2 q3 q4 q5 p0 p1 p2 p3 p4 p5 t0 t1 hne s0 H hb1
            have HN2 : Hid (TwoAt w w1 (some ⟨c0, off, none⟩) l.length c room (some ⟨e0, off2, none⟩) l.length d room ∧ ∀ q, q < j + 1 → l.getD q deadN = m.getD q deadN) := ⟨H1, HS.out HE⟩
            clear HE HX HS HH H1
            go_wp2
            go_roundw
            case measure => simp [intOf]; omega
            case rel => exact ⟨j + 1, by omega, by go_num, HN2.out⟩
          · have hr := hn hxy
            rw [decide_eq_false hxy] at hne
            subst hr
            clear hn HX HS HH hxy
            go_wp2_with fail
            refine Qt.below_all (by kernel_rfl) (by kernel_rfl) ?_
            repeat (go_big_quiet_step (fail))
            refine wpQuiet_nil ?_
            intro w1 hb1
            have H1 := H.below hb1
            clear q0 q1 q2 q3 q4 q5 p0 p1 p2 p3 p4 p5 t0 t1 hne s0 H hb1
            have hbel := H1.bel
            clear H1
            go_wp2
            go_ret
            exact ⟨rfl, hbel⟩
        · obtain rfl : j = l.length := by omega
          have hltz : ¬ (l.length : Int) < (l.length : Int) := by omega
          have hr := HY.out HH.out.2
          subst hr
          have hbel := H.bel
          clear HH H
          go_wp2
          go_ret
          exact ⟨rfl, hbel⟩
    · have hf : decide (room = room ∧ l = m) = false := decide_eq_false fun h => h2 (by rw [h.2])
      rw [hf]
      have h2z : ¬ (l.length : Int) = (m.length : Int) := by omega
      clear hf
      go_enter Tryz.func10, Tryz.ntmps10
      go_wp2
      go_ret
      exact ⟨rfl, hbel⟩
  · have hf : decide (room = ro ∧ l = m) = false := decide_eq_false fun h => h1 h.1
    rw [hf]
    clear hf
    go_enter Tryz.func10, Tryz.ntmps10
    go_wp2
    go_ret
    exact ⟨rfl, hbel⟩
end Go.Proofs.YtmmaeikeafemaaaGreat
namespace Go.Proofs.YtmmaeikeafemaaaGreat
set_option linter.unusedVariables false
set_option linter.unusedSimpArgs false
open Go.RowKit Go.Sort

theorem eq_of_all {l m : List Int} (hlen : l.length = m.length) (h : ∀ j, j < l.length → l.getD j 0 = m.getD j 0) : l = m := by
  refine List.ext_getElem hlen fun j h1 h2 => ?_
  have := h j h1
  rwa [List.getD_eq_getElem?_getD, List.getD_eq_getElem?_getD, List.getElem?_eq_getElem h1, List.getElem?_eq_getElem h2] at this

end Go.Proofs.YtmmaeikeafemaaaGreat
