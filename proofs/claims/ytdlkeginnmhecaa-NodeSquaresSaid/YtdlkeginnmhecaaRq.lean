/-
  The law NodeFull.
-/
import Derived.Test.YtdlkeginnmhecaaRo
namespace Go.Proofs.Ytdlkeginnmhecaa
set_option linter.unusedVariables false
set_option linter.unusedSimpArgs false
open Go.RowKit Go.Sort

/-- Four numbers in a box. -/
structure KdB (w : World) (b : Nat) (k : Kd) : Prop where
  row : w.heap[b]? = some (.cells #[.int .i64 k.1, .int .i64 k.2.1, .int .i64 k.2.2.1, .int .i64 k.2.2.2] 26 (0, 0))
section
variable {w w' : World} {b : Nat} {k : Kd}
theorem KdB.below (h : KdB w b k) (hb : Below w.heap.size w w') : KdB w' b k := ⟨(hb.block _ (lt_heap6 h.row)).trans h.row⟩
theorem KdB.c0 (h : KdB w b k) : w.cell? ⟨b, 0, none⟩ = some (.int .i64 k.1) := by rw [Lib.cell_of_heap h.row]; rfl
theorem KdB.c1 (h : KdB w b k) : w.cell? ⟨b, 1, none⟩ = some (.int .i64 k.2.1) := by rw [Lib.cell_of_heap h.row]; rfl
theorem KdB.c2 (h : KdB w b k) : w.cell? ⟨b, 2, none⟩ = some (.int .i64 k.2.2.1) := by rw [Lib.cell_of_heap h.row]; rfl
theorem KdB.c3 (h : KdB w b k) : w.cell? ⟨b, 3, none⟩ = some (.int .i64 k.2.2.2) := by rw [Lib.cell_of_heap h.row]; rfl
theorem kdB_new (k : Kd) : KdB (w.alloc (.cells #[.int .i64 k.1, .int .i64 k.2.1, .int .i64 k.2.2.1, .int .i64 k.2.2.2] 26)) w.heap.size k := ⟨heap_alloc_new w _⟩
end
/-- Five numbers in a box. -/
structure RawB (w : World) (b : Nat) (r : Raw5) : Prop where
  row : w.heap[b]? = some (.cells #[.int .i64 r.1, .int .i64 r.2.1, .int .i64 r.2.2.1, .int .i64 r.2.2.2.1, .int .i64 r.2.2.2.2] 27 (0, 0))
section
variable {w w' : World} {b : Nat} {r : Raw5}
theorem RawB.below (h : RawB w b r) (hb : Below w.heap.size w w') : RawB w' b r := ⟨(hb.block _ (lt_heap6 h.row)).trans h.row⟩
theorem RawB.c0 (h : RawB w b r) : w.cell? ⟨b, 0, none⟩ = some (.int .i64 r.1) := by rw [Lib.cell_of_heap h.row]; rfl
theorem RawB.c1 (h : RawB w b r) : w.cell? ⟨b, 1, none⟩ = some (.int .i64 r.2.1) := by rw [Lib.cell_of_heap h.row]; rfl
theorem RawB.c2 (h : RawB w b r) : w.cell? ⟨b, 2, none⟩ = some (.int .i64 r.2.2.1) := by rw [Lib.cell_of_heap h.row]; rfl
theorem RawB.c3 (h : RawB w b r) : w.cell? ⟨b, 3, none⟩ = some (.int .i64 r.2.2.2.1) := by rw [Lib.cell_of_heap h.row]; rfl
theorem RawB.c4 (h : RawB w b r) : w.cell? ⟨b, 4, none⟩ = some (.int .i64 r.2.2.2.2) := by rw [Lib.cell_of_heap h.row]; rfl
theorem rawB_new (r : Raw5) : RawB (w.alloc (.cells #[.int .i64 r.1, .int .i64 r.2.1, .int .i64 r.2.2.1, .int .i64 r.2.2.2.1, .int .i64 r.2.2.2.2] 27)) w.heap.size r := ⟨heap_alloc_new w _⟩
end
theorem hadTo_succ (l : List Nd) (k : Kd) (n : Nat) (h2 : 2 ≤ n) : hadTo l k (n + 1) = if (l.getD n deadN).2.1 = k then (n : Int) else hadTo l k n := by
  show (if 2 ≤ n ∧ (l.getD n deadN).2.1 = k then (n : Int) else hadTo l k n) = _
  by_cases h : (l.getD n deadN).2.1 = k
  · rw [if_pos ⟨h2, h⟩, if_pos h]
  · rw [if_neg (fun hh => h hh.2), if_neg h]

theorem hadTo_2 (l : List Nd) (k : Kd) : hadTo l k 2 = -1 := by simp [hadTo]

set_option maxHeartbeats 16000000 in
set_option maxRecDepth 100000 in
theorem nodeFull_law (room : Int) (A : Option Addr) (raw : List Raw5) (c : Nat) (r : Raw5) (w : World) (hI : I64 room) (hR : RdR w w.heap.size A raw) (hl : raw.length ≤ 9223372036854775807) (hF : ∀ j, j < raw.length → Fine5 (raw.getD j dead5)) (hr : Fine5 r) :
    Calls Try.prog 9 #[.int .i64 room, .slice A raw.length c, rawV r] w fun e w' => e = .returned (.bool true) ∧ Below w.heap.size w w' := by
  obtain ⟨hS, hSl⟩ := store_right room raw
  have hpb := pick6_bd room 60 (by decide)
  have hst := fun W hR' => store6_any A raw c room W hR' hl hI hF
  obtain ⟨R, hRR⟩ : ∃ R, R = 2 + pick6 room 60 := ⟨_, rfl⟩
  rw [← hRR] at hS hst
  obtain ⟨l, hll⟩ : ∃ l, l = store6 room raw := ⟨_, rfl⟩
  rw [← hll] at hS hst hSl
  have hkf := kids_fit hS (by omega) r
  have hkd := fun A2 c2 W hW => kids6_any A2 l c2 R r W hW (by omega) hr
  obtain ⟨k, hk⟩ : ∃ k, k = kids6 l r := ⟨_, rfl⟩
  rw [← hk] at hkf hkd
  have hcase := full_case hS hkf (by omega)
  have h2l := hS.two
  have hRb : R ≤ 1000 ∧ 0 ≤ R := by omega
  have HC := Lib.hid hcase
  have HS := Lib.hid hS
  have HSl := Lib.hid hSl
  have HRR := Lib.hid hR
  have heql := eqlK
  unfold rawV
  unfold storeV kidsV rawV at hkd
  clear hcase hS hSl hR hpb hRR hll hI hF hk hkf hr
  go_enter Try.func9, Try.ntmps9
  go_wp2_with fail
  have hal := (Below.refl w.heap.size w).alloc (Nat.le_refl _) (.cells #[.int .i64 r.1, .int .i64 r.2.1, .int .i64 r.2.2.1, .int .i64 r.2.2.2.1, .int .i64 r.2.2.2.2] 27)
  have HQ := Lib.hid (rawB_new (w := w) r)
  have HB := Lib.hid hal
  have HR1 := Lib.hid ((HRR.out.below hal (Nat.le_refl _)).more hal.size)
  clear HRR hal
  generalize (w.alloc (.cells #[.int .i64 r.1, .int .i64 r.2.1, .int .i64 r.2.2.1, .int .i64 r.2.2.2.1, .int .i64 r.2.2.2.2] 27)) = v0 at *
  generalize hb0 : w.heap.size = b0 at *
  refine (awake6_any v0).mono ?_
  rintro e w1 ⟨rfl, hb1⟩
  have hst1 := hst w1 ((HR1.out.below hb1 (Nat.le_refl _)).more hb1.size)
  have HQ1 := Lib.hid (HQ.out.below hb1)
  have HB1 := Lib.hid (Qt.more HB.out (hb0 ▸ HB.out.size) hb1)
  clear hst HR1 HQ HB hb1
  go_wp2_with fail
  refine hst1.mono ?_
  intro e w2 h
  obtain ⟨A2, c2, rfl, hcap2, N2, hb2⟩ := storeR_box h
  have hal := (Below.refl w2.heap.size w2).alloc (Nat.le_refl _) (.cells #[.slice A2 l.length c2, .int .i64 R] 25)
  have HS2 := Lib.hid (stB_new N2 hcap2 R)
  have HQ2 := Lib.hid ((HQ1.out.below hb2).below hal)
  have hB2 := Qt.more HB1.out (hb0 ▸ HB1.out.size) hb2
  have HB2 := Lib.hid (Qt.more hB2 (hb0 ▸ hB2.size) hal)
  have c0 := HQ2.out.c0
  have c1 := HQ2.out.c1
  have c2' := HQ2.out.c2
  have c3 := HQ2.out.c3
  have c4 := HQ2.out.c4
  clear h hst1 hb2 HB1 HQ1 N2 hal hB2
  go_wp2_with fail
  generalize (w2.alloc (.cells #[.slice A2 l.length c2, .int .i64 R] 25)) = v2 at *
  generalize w2.heap.size = b2 at *
  refine (hkd A2 c2 v2 HS2.out.rd).mono ?_
  rintro e w3 ⟨rfl, hb3⟩
  clear c0 c1 c2' c3 c4 hkd
  have hal := (Below.refl w3.heap.size w3).alloc (Nat.le_refl _) (.cells #[.int .i64 k.1, .int .i64 k.2.1, .int .i64 k.2.2.1, .int .i64 k.2.2.2] 26)
  have HK3 := Lib.hid (kdB_new (w := w3) k)
  have HS3 := Lib.hid ((HS2.out.below hb3).below hal)
  have hB3 := Qt.more HB2.out (hb0 ▸ HB2.out.size) hb3
  have HB3 := Lib.hid (Qt.more hB3 (hb0 ▸ hB3.size) hal)
  clear hb3 HB2 HQ2 HS2 hal hB3
  go_wp2_with fail
  generalize (w3.alloc (.cells #[.int .i64 k.1, .int .i64 k.2.1, .int .i64 k.2.2.1, .int .i64 k.2.2.2] 26)) = v3 at *
  generalize w3.heap.size = b3 at *
  obtain ⟨q2, o2, rfl, hq2, hnd⟩ := HS3.out.nd (by omega)
  have HN := Lib.hid hnd
  have h42 : l.length ≤ 42 := HSl.out
  clear hnd
  go_loopw [10, 11] (fun h i wr => ∃ j : Nat, 2 ≤ j ∧ j ≤ l.length ∧ i = .int .i64 j ∧ h = .int .i64 (hadTo l k j) ∧ Hid (Below v3.heap.size v3 wr)) (fun _ i _ => l.length - (intOf i).toNat)
  case atStart => exact ⟨2, Nat.le_refl _, h2l, rfl, by rw [hadTo_2], Below.refl _ _⟩
  case round =>
    obtain ⟨j, hj2, hj, rfl, rfl, HB⟩ := hrel
    have s0 := (HS3.out.below HB.out).s0
    by_cases hlt : j < l.length
    · have hltz : (j : Int) < (l.length : Int) := by omega
      obtain ⟨n0, n1, n2, n3, n4, n5⟩ := HN.out j hlt
      obtain ⟨⟨lv, kk, pp⟩, hx⟩ : ∃ x, x = l.getD j deadN := ⟨_, rfl⟩
      rw [← hx] at n0 n1 n2 n3 n4 n5
      simp only at n0 n1 n2 n3 n4 n5
      have hstep := hadTo_succ l k j hj2
      rw [← hx] at hstep
      have HST := Lib.hid hstep
      have q1 := Qt.cell_in (Qt.keep HB.out n1)
      have q2 := Qt.cell_in (Qt.keep HB.out n2)
      have q3 := Qt.cell_in (Qt.keep HB.out n3)
      have q4 := Qt.cell_in (Qt.keep HB.out n4)
      have p0 := Qt.cell_in s0
      have p1 := Qt.cell_in (HK3.out.below HB.out).c0
      have p2 := Qt.cell_in (HK3.out.below HB.out).c1
      have p3 := Qt.cell_in (HK3.out.below HB.out).c2
      have p4 := Qt.cell_in (HK3.out.below HB.out).c3
      have he := fun W => heql kk k W
      have d1 : decide ((j : Int) < 0) = false := decide_eq_false (by omega)
      have d2 : decide (l.length ≤ j) = false := decide_eq_false (by omega)
      generalize hadTo l k j = hv at *
      clear hstep hx n0 n1 n2 n3 n4 n5
      go_wp2_with fail
      refine Qt.below_all (by kernel_rfl) (by kernel_rfl) ?_
      repeat (go_big_quiet_step (fail))
      refine wpQuiet_nil ?_
      intro w4 hb4
      have HB4 := Lib.hid (Qt.more HB.out HB.out.size hb4)
      clear p0 p1 p2 p3 p4 q1 q2 q3 q4 he s0 hb4
      by_cases hkk : kk = k
      · have hrr := HST.out
        rw [if_pos hkk] at hrr
        have HRR := Lib.hid hrr
        clear hrr HST
        go_wp2_with fail
        go_roundw
        case measure => simp [intOf]; omega
        case rel => exact ⟨j + 1, by omega, by omega, by go_num, by rw [HRR.out], HB4.out⟩
      · have hrr := HST.out
        rw [if_neg hkk] at hrr
        have HRR := Lib.hid hrr
        clear hrr HST
        go_wp2_with fail
        go_roundw
        case measure => simp [intOf]; omega
        case rel => exact ⟨j + 1, by omega, by omega, by go_num, by rw [HRR.out], HB4.out⟩
    · have hltz : ¬ (j : Int) < (l.length : Int) := by omega
      obtain rfl : j = l.length := by omega
      have s1 := (HS3.out.below HB.out).s1
      have hb := HB.out
      rcases HC.out with ⟨n, e1, e2, e3⟩ | ⟨x, e1, e2, e3⟩
      · rw [e1]
        have h34 : v3.heap.size ≤ wr.heap.size := hb.size
        have s0o := fun o => (HS3.out.below (hb.alloc hb.size o)).s0
        have s1o := fun o => (HS3.out.below (hb.alloc hb.size o)).s1
        have x0o := fun o => (HK3.out.below (hb.alloc hb.size o)).c0
        have x1o := fun o => (HK3.out.below (hb.alloc hb.size o)).c1
        have x2o := fun o => (HK3.out.below (hb.alloc hb.size o)).c2
        have x3o := fun o => (HK3.out.below (hb.alloc hb.size o)).c3
        go_wp2_with fail
        clear s0o s1o x0o x1o x2o x3o s0 s1
        have hBv := Lib.hid (hb.alloc (hb.size) (.cells #[.slice (some ⟨q2, o2, none⟩) l.length c2, .int .i64 (l.length : Int)] 25))
        have hrow4 := Lib.hid (heap_alloc_new wr (.cells #[.slice (some ⟨q2, o2, none⟩) l.length c2, .int .i64 (l.length : Int)] 25 (0, 0)))
        clear hb HB
        generalize (wr.alloc (.cells #[.slice (some ⟨q2, o2, none⟩) l.length c2, .int .i64 (l.length : Int)] 25)) = v4 at *
        generalize wr.heap.size = b4 at *
        have h4lt : b4 < v4.heap.size := lt_heap6 hrow4.out
        have hin := nodeIntern_any (some ⟨q2, o2, none⟩) l c2 (l.length : Int) k v4 (HS3.out.below hBv.out).rd (by omega) hcap2
        rw [e2] at hin
        unfold storeV kidsV at hin
        refine hin.mono ?_
        intro e w5 h
        obtain ⟨A5, c5, rfl, hcap5, N5, hb5⟩ := putR_box h
        have hB5 := Qt.more hBv.out hBv.out.size hb5
        have hrow4o := fun o => ((hb5.alloc hb5.size o).block b4 h4lt).trans hrow4.out
        have g0o := fun o => (show (w5.alloc o).cell? ⟨b4, 0, none⟩ = some (.slice (some ⟨q2, o2, none⟩) l.length c2) by rw [Lib.cell_of_heap (hrow4o o)]; rfl)
        have g1o := fun o => (show (w5.alloc o).cell? ⟨b4, 1, none⟩ = some (.int .i64 (l.length : Int)) by rw [Lib.cell_of_heap (hrow4o o)]; rfl)
        have f1o := fun o => (show (w5.alloc o).frozen? ⟨b4, 1, none⟩ = false from Lib.frozen_of_heap (hrow4o o) 1)
        have s0o := fun o => (HS3.out.below (hB5.alloc hB5.size o)).s0
        have hBu := hB5.setCell (p := ⟨b4, 1, none⟩) h34 (.int .i64 ((l.length : Int) + 1))
        have hrowu : (w5.setCell ⟨b4, 1, none⟩ (.int .i64 ((l.length : Int) + 1))).heap[b4]? = some (.cells #[.slice (some ⟨q2, o2, none⟩) l.length c2, .int .i64 ((l.length : Int) + 1)] 25 (0, 0)) := by
          have hr := (hb5.block b4 h4lt).trans hrow4.out
          simp [World.setCell, Array.getElem?_modify, hr]
        have hrowuo := fun o => (Lib.alloc_old (w5.setCell ⟨b4, 1, none⟩ (.int .i64 ((l.length : Int) + 1))) o b4 (lt_heap6 hrowu)).trans hrowu
        have k0o := fun o => (show ((w5.setCell ⟨b4, 1, none⟩ (.int .i64 ((l.length : Int) + 1))).alloc o).cell? ⟨b4, 0, none⟩ = some (.slice (some ⟨q2, o2, none⟩) l.length c2) by rw [Lib.cell_of_heap (hrowuo o)]; rfl)
        have k1o := fun o => (show ((w5.setCell ⟨b4, 1, none⟩ (.int .i64 ((l.length : Int) + 1))).alloc o).cell? ⟨b4, 1, none⟩ = some (.int .i64 ((l.length : Int) + 1)) by rw [Lib.cell_of_heap (hrowuo o)]; rfl)
        have x0o := fun o => (HK3.out.below (hBu.alloc hBu.size o)).c0
        have x1o := fun o => (HK3.out.below (hBu.alloc hBu.size o)).c1
        have x2o := fun o => (HK3.out.below (hBu.alloc hBu.size o)).c2
        have x3o := fun o => (HK3.out.below (hBu.alloc hBu.size o)).c3
        have hBs := Lib.hid (hBu.alloc hBu.size (.cells #[.slice A5 l.length c5, .int .i64 (l.length : Int)] 25))
        have h45 : b4 < w5.heap.size := Nat.lt_of_lt_of_le h4lt hb5.size
        have hsz : (w5.setCell ⟨b4, 1, none⟩ (.int .i64 ((l.length : Int) + 1))).heap.size = w5.heap.size := by simp [World.setCell]
        have hrow5 : Hid (((w5.setCell ⟨b4, 1, none⟩ (.int .i64 ((l.length : Int) + 1))).alloc (.cells #[.slice A5 l.length c5, .int .i64 (l.length : Int)] 25)).heap[w5.heap.size]? = some (.cells #[.slice A5 l.length c5, .int .i64 (l.length : Int)] 25 (0, 0))) := by
          show _ = _
          rw [← hsz]
          exact heap_alloc_new _ _
        have hin2 := nodeIntern_any (some ⟨q2, o2, none⟩) l c2 ((l.length : Int) + 1) k _ (HS3.out.below hBs.out).rd (by omega) hcap2
        rw [e3] at hin2
        unfold storeV kidsV at hin2
        clear h hin hb5 hrow4o hB5 hBv hrow4 hBu hrowu hrowuo hsz
        go_wp2_with fail
        clear x0o x1o x2o x3o k0o k1o g0o g1o f1o s0o
        generalize ((w5.setCell ⟨b4, 1, none⟩ (.int .i64 ((l.length : Int) + 1))).alloc (.cells #[.slice A5 l.length c5, .int .i64 (l.length : Int)] 25)) = v5 at *
        generalize w5.heap.size = b5 at *
        refine hin2.mono ?_
        intro e w6 h
        obtain ⟨A6, c6, rfl, hcap6, N6, hb6⟩ := putR_box h
        have hB6 := Qt.more hBs.out hBs.out.size hb6
        have hrow5o := fun o => ((hb6.alloc hb6.size o).block b5 (lt_heap6 hrow5.out)).trans hrow5.out
        have g0o := fun o => (show (w6.alloc o).cell? ⟨b5, 0, none⟩ = some (.slice A5 l.length c5) by rw [Lib.cell_of_heap (hrow5o o)]; rfl)
        have s0o := fun o => (HS3.out.below (hB6.alloc hB6.size o)).s0
        have hBf := Lib.hid (Qt.more HB3.out (hb0 ▸ HB3.out.size) (hB6.alloc hB6.size (.cells #[.slice A6 l.length c6, .int .i64 ((l.length : Int) + 1)] 25)))
        clear h hin2 hb6 hrow5o hB6
        go_wp2_with fail
        go_ret
        first
          | exact ⟨rfl, hBf.out⟩
          | exact ⟨rfl, hb0 ▸ hBf.out⟩
      · rw [e1]
        have h34 : v3.heap.size ≤ wr.heap.size := hb.size
        have s0o := fun o => (HS3.out.below (hb.alloc hb.size o)).s0
        have s1o := fun o => (HS3.out.below (hb.alloc hb.size o)).s1
        have x0o := fun o => (HK3.out.below (hb.alloc hb.size o)).c0
        have x1o := fun o => (HK3.out.below (hb.alloc hb.size o)).c1
        have x2o := fun o => (HK3.out.below (hb.alloc hb.size o)).c2
        have x3o := fun o => (HK3.out.below (hb.alloc hb.size o)).c3
        go_wp2_with fail
        clear s0o s1o x0o x1o x2o x3o s0 s1
        have hBv := Lib.hid (hb.alloc (hb.size) (.cells #[.slice (some ⟨q2, o2, none⟩) l.length c2, .int .i64 (l.length : Int)] 25))
        have hrow4 := Lib.hid (heap_alloc_new wr (.cells #[.slice (some ⟨q2, o2, none⟩) l.length c2, .int .i64 (l.length : Int)] 25 (0, 0)))
        clear hb HB
        generalize (wr.alloc (.cells #[.slice (some ⟨q2, o2, none⟩) l.length c2, .int .i64 (l.length : Int)] 25)) = v4 at *
        generalize wr.heap.size = b4 at *
        have h4lt : b4 < v4.heap.size := lt_heap6 hrow4.out
        have hin := nodeIntern_any (some ⟨q2, o2, none⟩) l c2 (l.length : Int) k v4 (HS3.out.below hBv.out).rd (by omega) hcap2
        rw [e2] at hin
        unfold storeV kidsV at hin
        refine hin.mono ?_
        intro e w5 h
        obtain ⟨A5, c5, rfl, hcap5, N5, hb5⟩ := putR_box h
        have hB5 := Qt.more hBv.out hBv.out.size hb5
        have hrow4o := fun o => ((hb5.alloc hb5.size o).block b4 h4lt).trans hrow4.out
        have g0o := fun o => (show (w5.alloc o).cell? ⟨b4, 0, none⟩ = some (.slice (some ⟨q2, o2, none⟩) l.length c2) by rw [Lib.cell_of_heap (hrow4o o)]; rfl)
        have g1o := fun o => (show (w5.alloc o).cell? ⟨b4, 1, none⟩ = some (.int .i64 (l.length : Int)) by rw [Lib.cell_of_heap (hrow4o o)]; rfl)
        have f1o := fun o => (show (w5.alloc o).frozen? ⟨b4, 1, none⟩ = false from Lib.frozen_of_heap (hrow4o o) 1)
        have s0o := fun o => (HS3.out.below (hB5.alloc hB5.size o)).s0
        have hBu := hB5.setCell (p := ⟨b4, 1, none⟩) h34 (.int .i64 ((l.length : Int) + 1))
        have hrowu : (w5.setCell ⟨b4, 1, none⟩ (.int .i64 ((l.length : Int) + 1))).heap[b4]? = some (.cells #[.slice (some ⟨q2, o2, none⟩) l.length c2, .int .i64 ((l.length : Int) + 1)] 25 (0, 0)) := by
          have hr := (hb5.block b4 h4lt).trans hrow4.out
          simp [World.setCell, Array.getElem?_modify, hr]
        have hrowuo := fun o => (Lib.alloc_old (w5.setCell ⟨b4, 1, none⟩ (.int .i64 ((l.length : Int) + 1))) o b4 (lt_heap6 hrowu)).trans hrowu
        have k0o := fun o => (show ((w5.setCell ⟨b4, 1, none⟩ (.int .i64 ((l.length : Int) + 1))).alloc o).cell? ⟨b4, 0, none⟩ = some (.slice (some ⟨q2, o2, none⟩) l.length c2) by rw [Lib.cell_of_heap (hrowuo o)]; rfl)
        have k1o := fun o => (show ((w5.setCell ⟨b4, 1, none⟩ (.int .i64 ((l.length : Int) + 1))).alloc o).cell? ⟨b4, 1, none⟩ = some (.int .i64 ((l.length : Int) + 1)) by rw [Lib.cell_of_heap (hrowuo o)]; rfl)
        have x0o := fun o => (HK3.out.below (hBu.alloc hBu.size o)).c0
        have x1o := fun o => (HK3.out.below (hBu.alloc hBu.size o)).c1
        have x2o := fun o => (HK3.out.below (hBu.alloc hBu.size o)).c2
        have x3o := fun o => (HK3.out.below (hBu.alloc hBu.size o)).c3
        have hBs := Lib.hid (hBu.alloc hBu.size (.cells #[.slice A5 l.length c5, .int .i64 (l.length : Int)] 25))
        have h45 : b4 < w5.heap.size := Nat.lt_of_lt_of_le h4lt hb5.size
        have hsz : (w5.setCell ⟨b4, 1, none⟩ (.int .i64 ((l.length : Int) + 1))).heap.size = w5.heap.size := by simp [World.setCell]
        have hrow5 : Hid (((w5.setCell ⟨b4, 1, none⟩ (.int .i64 ((l.length : Int) + 1))).alloc (.cells #[.slice A5 l.length c5, .int .i64 (l.length : Int)] 25)).heap[w5.heap.size]? = some (.cells #[.slice A5 l.length c5, .int .i64 (l.length : Int)] 25 (0, 0))) := by
          show _ = _
          rw [← hsz]
          exact heap_alloc_new _ _
        have hin2 := nodeIntern_any (some ⟨q2, o2, none⟩) l c2 ((l.length : Int) + 1) k _ (HS3.out.below hBs.out).rd (by omega) hcap2
        rw [e3] at hin2
        unfold storeV kidsV at hin2
        clear h hin hb5 hrow4o hB5 hBv hrow4 hBu hrowu hrowuo hsz
        go_wp2_with fail
        clear x0o x1o x2o x3o k0o k1o g0o g1o f1o s0o
        generalize ((w5.setCell ⟨b4, 1, none⟩ (.int .i64 ((l.length : Int) + 1))).alloc (.cells #[.slice A5 l.length c5, .int .i64 (l.length : Int)] 25)) = v5 at *
        generalize w5.heap.size = b5 at *
        refine hin2.mono ?_
        intro e w6 h
        obtain ⟨A6, c6, rfl, hcap6, N6, hb6⟩ := putR_box h
        have hB6 := Qt.more hBs.out hBs.out.size hb6
        have hrow5o := fun o => ((hb6.alloc hb6.size o).block b5 (lt_heap6 hrow5.out)).trans hrow5.out
        have g0o := fun o => (show (w6.alloc o).cell? ⟨b5, 0, none⟩ = some (.slice A5 l.length c5) by rw [Lib.cell_of_heap (hrow5o o)]; rfl)
        have s0o := fun o => (HS3.out.below (hB6.alloc hB6.size o)).s0
        have hBf := Lib.hid (Qt.more HB3.out (hb0 ▸ HB3.out.size) (hB6.alloc hB6.size (.cells #[.slice A6 (l.length + 1) c6, .int .i64 ((l.length : Int) + 1)] 25)))
        clear h hin2 hb6 hrow5o hB6
        go_wp2_with fail
        go_ret
        first
          | exact ⟨rfl, hBf.out⟩
          | exact ⟨rfl, hb0 ▸ hBf.out⟩
end Go.Proofs.Ytdlkeginnmhecaa
