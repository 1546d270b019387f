/-
  Box: the least one about a set.
-/
import Derived.Test.YtafoleafhkadiaaCl
import Derived.Laws.ResultCell
import Derived.BigRegion
namespace Go.Proofs.Ytafoleafhkadiaa
open Go.RowKit Go.Sort

/-- the least and the greatest X of the first k cells -/
def loX (l : List (Int × Int)) (k : Nat) : Int := (l.take k).foldl (fun m c => min m c.1) (l.getD 0 (0, 0)).1
def hiX (l : List (Int × Int)) (k : Nat) : Int := (l.take k).foldl (fun m c => max m c.1) (l.getD 0 (0, 0)).1
theorem loX_zero (l : List (Int × Int)) : loX l 0 = (l.getD 0 (0, 0)).1 := rfl
theorem hiX_zero (l : List (Int × Int)) : hiX l 0 = (l.getD 0 (0, 0)).1 := rfl
theorem loX_succ {l : List (Int × Int)} {k : Nat} (hk : k < l.length) : loX l (k + 1) = min (loX l k) (l.getD k (0, 0)).1 := by
  unfold loX; rw [take_snoc hk, List.foldl_append]; rfl
theorem hiX_succ {l : List (Int × Int)} {k : Nat} (hk : k < l.length) : hiX l (k + 1) = max (hiX l k) (l.getD k (0, 0)).1 := by
  unfold hiX; rw [take_snoc hk, List.foldl_append]; rfl

theorem fold_min_bd {m : List (Int × Int)} {a : Int} (h : ∀ p ∈ m, inB p = true) (ha : -1099511627776 ≤ a ∧ a ≤ 1099511627776) : -1099511627776 ≤ m.foldl (fun m c => min m c.1) a ∧ m.foldl (fun m c => min m c.1) a ≤ 1099511627776 := by
  induction m generalizing a with
  | nil => exact ha
  | cons p m ih =>
    have hp := (inB_iff _).1 (h p (List.mem_cons_self ..))
    exact ih (fun q hq => h q (List.mem_cons_of_mem _ hq)) (by show _ ≤ min a p.1 ∧ min a p.1 ≤ _; omega)
theorem fold_max_bd {m : List (Int × Int)} {a : Int} (h : ∀ p ∈ m, inB p = true) (ha : -1099511627776 ≤ a ∧ a ≤ 1099511627776) : -1099511627776 ≤ m.foldl (fun m c => max m c.1) a ∧ m.foldl (fun m c => max m c.1) a ≤ 1099511627776 := by
  induction m generalizing a with
  | nil => exact ha
  | cons p m ih =>
    have hp := (inB_iff _).1 (h p (List.mem_cons_self ..))
    exact ih (fun q hq => h q (List.mem_cons_of_mem _ hq)) (by show _ ≤ max a p.1 ∧ max a p.1 ≤ _; omega)
theorem loX_bd {l : List (Int × Int)} (h : ∀ p ∈ l, inB p = true) (h0 : 0 < l.length) (k : Nat) : -1099511627776 ≤ loX l k ∧ loX l k ≤ 1099511627776 := by
  have h1 := (inB_iff _).1 (h _ (getD_mem h0))
  exact fold_min_bd (fun p hp => h p (List.mem_of_mem_take hp)) (by omega)
theorem hiX_bd {l : List (Int × Int)} (h : ∀ p ∈ l, inB p = true) (h0 : 0 < l.length) (k : Nat) : -1099511627776 ≤ hiX l k ∧ hiX l k ≤ 1099511627776 := by
  have h1 := (inB_iff _).1 (h _ (getD_mem h0))
  exact fold_max_bd (fun p hp => h p (List.mem_of_mem_take hp)) (by omega)

def boxV (l : List (Int × Int)) : Value := .agg #[.int .i64 (loX l l.length), .int .i64 (l.getD 0 (0, 0)).2, .int .i64 (hiX l l.length - loX l l.length + 1), .int .i64 ((l.getD (l.length - 1) (0, 0)).2 - (l.getD 0 (0, 0)).2 + 1)]
def noBox : Value := .agg #[.int .i64 0, .int .i64 0, .int .i64 0, .int .i64 0]

/-- a block that is known whole -/
def Whole (w : World) (g T : Nat) (cs : Array Value) : Prop := w.heap[g]? = some (.cells cs T (0, 0))
section
variable {w w' : World} {g T : Nat} {cs : Array Value}
theorem Whole.lt (h : Whole w g T cs) : g < w.heap.size := by
  rcases Nat.lt_or_ge g w.heap.size with h' | h'
  · exact h'
  · unfold Whole at h; rw [Array.getElem?_eq_none h'] at h; cases h
theorem Whole.below (h : Whole w g T cs) (hb : Below w.heap.size w w') : Whole w' g T cs := (hb.block g h.lt).trans h
theorem Whole.cell (h : Whole w g T cs) (i : Nat) : w.cell? ⟨g, i, none⟩ = cs[i]? := cell_of_row w g i cs T (0, 0) h
theorem Whole.free (h : Whole w g T cs) (i : Nat) : w.frozen? ⟨g, i, none⟩ = false := frozen_of_row w g i cs T h
theorem Whole.new (w : World) (T : Nat) (cs : Array Value) : Whole (w.alloc (.cells cs T)) w.heap.size T cs := heap_alloc_new w _
end

/-- a Box's block: its cells, none frozen -/
theorem Whole.four {w : World} {g T : Nat} {a b c d : Value} (h : Whole w g T #[a, b, c, d]) :
    w.cell? ⟨g, 0, none⟩ = some a ∧ w.cell? ⟨g, 1, none⟩ = some b ∧ w.cell? ⟨g, 2, none⟩ = some c ∧ w.cell? ⟨g, 3, none⟩ = some d ∧
    w.frozen? ⟨g, 0, none⟩ = false ∧ w.frozen? ⟨g, 1, none⟩ = false ∧ w.frozen? ⟨g, 2, none⟩ = false ∧ w.frozen? ⟨g, 3, none⟩ = false :=
  ⟨h.cell 0, h.cell 1, h.cell 2, h.cell 3, h.free 0, h.free 1, h.free 2, h.free 3⟩

theorem box_nil (A : Option Addr) (c : Nat) (w : World) :
    Calls Try.prog 19 #[.slice A 0 c] w fun e w' => e = .returned (.tuple #[noBox, .bool false]) ∧ Below w.heap.size w w' := by
  go_enter Try.func19, Try.ntmps19
  go_wp2
  refine bodyPost_ret (v := .tuple #[noBox, .bool false]) (by simp [results, Try.results19, go_sem, noBox]) rfl ⟨rfl, (Below.refl _ _).alloc (Nat.le_refl _) _⟩

theorem box_bad (A : Option Addr) (l : List (Int × Int)) (c : Nat) (w : World) (hR : Rd w w.heap.size A l) (hl : l.length ≤ 1000000) (hc : l.length ≤ c) (h0 : 0 < l.length) (hr : rightB l = false) :
    Calls Try.prog 19 #[.slice A l.length c] w fun e w' => e = .returned (.tuple #[noBox, .bool false]) ∧ Below w.heap.size w w' := by
  have hb0 : Below w.heap.size w (w.alloc (.cells #[.int .i64 0, .int .i64 0, .int .i64 0, .int .i64 0] 35)) := (Below.refl _ w).alloc (Nat.le_refl _) _
  have h := right_no (w := w.alloc (.cells #[.int .i64 0, .int .i64 0, .int .i64 0, .int .i64 0] 35)) ((hR.below hb0 (Nat.le_refl _)).more (by simp)) hl hc hr
  have hz : ((l.length : Int) == 0) = false := beq_eq_false_iff_ne.2 (by omega)
  have HW := Lib.hid (Whole.new w 35 #[.int .i64 0, .int .i64 0, .int .i64 0, .int .i64 0])
  clear hr
  go_enter Try.func19, Try.ntmps19
  go_wp2_with (go_at_call 17; refine h.mono ?_; rintro e w1 ⟨rfl, hb1⟩; obtain ⟨q0, q1, q2, q3, f0, f1, f2, f3⟩ := (HW.out.below hb1).four)
  refine bodyPost_ret (v := .tuple #[noBox, .bool false]) (by simp [results, Try.results19, go_sem, noBox, q0, q1, q2, q3, f0, f1, f2, f3]) rfl ⟨rfl, ?_⟩
  exact ((((Qt.more hb0 hb0.size hb1).setCell (Nat.le_refl _) _).setCell (Nat.le_refl _) _).setCell (Nat.le_refl _) _).setCell (Nat.le_refl _) _

set_option maxHeartbeats 1000000 in
theorem box_any (A : Option Addr) (l : List (Int × Int)) (c : Nat) (w : World) (hR : Rd w w.heap.size A l) (hl : l.length ≤ 1000000) (hc : l.length ≤ c) (h0 : 0 < l.length) (hr : rightB l = true) (hin : ∀ p ∈ l, inB p = true) :
    Calls Try.prog 19 #[.slice A l.length c] w fun e w' => e = .returned (.tuple #[boxV l, .bool true]) ∧ Below w.heap.size w w' := by
  have hb0 : Below w.heap.size w (w.alloc (.cells #[.int .i64 0, .int .i64 0, .int .i64 0, .int .i64 0] 35)) := (Below.refl _ w).alloc (Nat.le_refl _) _
  have h := right_yes (w := w.alloc (.cells #[.int .i64 0, .int .i64 0, .int .i64 0, .int .i64 0] 35)) ((hR.below hb0 (Nat.le_refl _)).more (by simp)) hl hc hr
  have hz : ((l.length : Int) == 0) = false := beq_eq_false_iff_ne.2 (by omega)
  have HW := Lib.hid (Whole.new w 35 #[.int .i64 0, .int .i64 0, .int .i64 0, .int .i64 0])
  have HIN := Lib.hid hin
  obtain ⟨b, off, rfl, hbB, hcell⟩ := hR.at_ h0
  obtain ⟨⟨fx, fy⟩, hf⟩ : ∃ p, p = l.getD 0 (0, 0) := ⟨_, rfl⟩
  obtain ⟨⟨ex, ey⟩, he⟩ : ∃ p, p = l.getD (l.length - 1) (0, 0) := ⟨_, rfl⟩
  have a0 := (hcell 0 h0).1
  have a1 := (hcell 0 h0).2
  have z0 := (hcell (l.length - 1) (by omega)).1
  have z1 := (hcell (l.length - 1) (by omega)).2
  rw [← hf] at a0 a1
  rw [← he] at z0 z1
  simp only [Nat.zero_mul, Nat.add_zero] at a0 a1 z0 z1
  have HF := Lib.hid hf
  have HE := Lib.hid he
  have HC := Lib.hid hcell
  have hlz : (1 : Int) ≤ (l.length : Int) := by omega
  clear hr hin hf he hcell
  go_enter Try.func19, Try.ntmps19
  go_wp2_with (go_at_call 17; refine h.mono ?_; rintro e w1 ⟨rfl, hb1⟩)
  have HB1 : Below w.heap.size w w1 := Qt.more hb0 hb0.size hb1
  have k0 := Qt.keep HB1 a0
  have k1 := Qt.keep HB1 a1
  have k2 := Qt.keep HB1 z0
  have k3 := Qt.keep HB1 z1
  have hA1 : ∀ O, Below w1.heap.size w1 (w1.alloc O) := fun O => (Below.refl _ _).alloc (Nat.le_refl _) _
  have hA2 : ∀ O O', Below w1.heap.size w1 ((w1.alloc O).alloc O') := fun O O' => (hA1 O).alloc (by simp) _
  have p0 := fun O => Qt.keep (hA1 O) k0
  have p1 := fun O => Qt.keep (hA1 O) k1
  have p2 := fun O => Qt.keep (hA1 O) k2
  have p3 := fun O => Qt.keep (hA1 O) k3
  have r0 := fun O O' => Qt.keep (hA2 O O') k0
  have r1 := fun O O' => Qt.keep (hA2 O O') k1
  have r2 := fun O O' => Qt.keep (hA2 O O') k2
  have r3 := fun O O' => Qt.keep (hA2 O O') k3
  go_region
  · have e0 : (((w1.alloc (.cells #[.int .i64 fx, .int .i64 fy] 25)).alloc (.cells #[.int .i64 ex, .int .i64 ey] 25)).drew).cell? ⟨w1.heap.size, 0, none⟩ = some (.int .i64 fx) := by simp
    have e1 : (((w1.alloc (.cells #[.int .i64 fx, .int .i64 fy] 25)).alloc (.cells #[.int .i64 ex, .int .i64 ey] 25)).drew).cell? ⟨w1.heap.size, 1, none⟩ = some (.int .i64 fy) := by simp
    have e2 : (((w1.alloc (.cells #[.int .i64 fx, .int .i64 fy] 25)).alloc (.cells #[.int .i64 ex, .int .i64 ey] 25)).drew).cell? ⟨w1.heap.size + 1, 1, none⟩ = some (.int .i64 ey) := by simp
    have HBW : Below w1.heap.size w1 (((w1.alloc (.cells #[.int .i64 fx, .int .i64 fy] 25)).alloc (.cells #[.int .i64 ex, .int .i64 ey] 25)).drew) := (hA2 _ _).drew
    clear p0 p1 p2 p3 r0 r1 r2 r3 k0 k1 k2 k3 hA1 hA2
    generalize ((w1.alloc (.cells #[.int .i64 fx, .int .i64 fy] 25)).alloc (.cells #[.int .i64 ex, .int .i64 ey] 25)).drew = W at *
    have u0 := Qt.cell_in e0
    go_wp2
    refine Qt.below_all (by kernel_rfl) (by kernel_rfl) ?_
    repeat (go_big_quiet_step (fail))
    refine wpQuiet_nil ?_
    intro w2 hb2
    have e1 := Qt.keep hb2 e1
    have e2 := Qt.keep hb2 e2
    have HB2 : Below w.heap.size w w2 := Qt.more (Qt.more HB1 HB1.size HBW) (Nat.le_trans HB1.size HBW.size) hb2
    have HW2 := Lib.hid ((HW.out.below (show Below (w.alloc (.cells #[.int .i64 0, .int .i64 0, .int .i64 0, .int .i64 0] 35)).heap.size _ w2 from Qt.more (Qt.more hb1 hb1.size HBW) (Nat.le_trans hb1.size HBW.size) hb2)))
    clear u0 e0 hb2 HBW
    go_wp2
    go_loopw [6, 7, 34] (fun sl sr si wr => ∃ k : Nat, k ≤ l.length ∧ si = .int .i64 k ∧ sl = .int .i64 (loX l k) ∧ sr = .int .i64 (hiX l k) ∧ Below w2.heap.size w2 wr) (fun _ _ i _ => l.length - (intOf i).toNat)
    case atStart => exact ⟨0, Nat.zero_le _, rfl, by rw [loX_zero, ← HF.out], by rw [hiX_zero, ← HF.out], Below.refl _ _⟩
    case round =>
      obtain ⟨k, hk, rfl, rfl, rfl, hbr⟩ := hrel
      obtain ⟨lo, hlo⟩ : ∃ x, x = loX l k := ⟨_, rfl⟩
      obtain ⟨hi, hhi⟩ : ∃ x, x = hiX l k := ⟨_, rfl⟩
      rw [← hlo, ← hhi]
      have HLO := Lib.hid hlo
      have HHI := Lib.hid hhi
      clear hlo hhi
      by_cases hlt : k < l.length
      · have hltz : (k : Int) < (l.length : Int) := by omega
        obtain ⟨⟨x, y⟩, hxy⟩ : ∃ p, p = l.getD k (0, 0) := ⟨_, rfl⟩
        obtain ⟨c0, c1⟩ := HC.out k hlt
        rw [← hxy] at c0 c1
        simp only at c0 c1
        have c0 := Qt.keep hbr (Qt.keep HB2 c0)
        have c1 := Qt.keep hbr (Qt.keep HB2 c1)
        have HXY := Lib.hid hxy
        have d0 := Qt.cell_in (w := wr.alloc (.cells #[.int .i64 x, .int .i64 y] 25)) (a := ⟨wr.heap.size, 0, none⟩) (v := .int .i64 x) (by simp)
        clear hxy
        go_wp2
        refine Qt.below_all (by kernel_rfl) (by kernel_rfl) ?_
        repeat (go_big_quiet_step (fail))
        refine wpQuiet_nil ?_
        intro w3 hb3
        go_wp2
        go_roundw
        case measure => simp [intOf]; omega
        case rel =>
          refine ⟨k + 1, by omega, by go_num, ?_, ?_, (hbr.alloc hbr.size _).trans (hb3.mono (by have := hbr.size; simp; omega))⟩
          · rw [loX_succ hlt, ← HXY.out, HLO.out]
          · rw [hiX_succ hlt, ← HXY.out, HHI.out]
      · have hltz : ¬ (k : Int) < (l.length : Int) := by omega
        have hkl : k = l.length := by omega
        have hbl := loX_bd HIN.out h0 k
        have hbh := hiX_bd HIN.out h0 k
        rw [← HLO.out] at hbl
        rw [← HHI.out] at hbh
        have hfb := (inB_iff _).1 (HIN.out _ (getD_mem h0))
        have heb := (inB_iff _).1 (HIN.out _ (getD_mem (l := l) (k := l.length - 1) (by omega)))
        rw [← HF.out] at hfb
        rw [← HE.out] at heb
        simp only at hfb heb
        obtain ⟨hbl1, hbl2⟩ := hbl
        obtain ⟨hbh1, hbh2⟩ := hbh
        obtain ⟨_, _, hfb1, hfb2⟩ := hfb
        obtain ⟨_, _, heb1, heb2⟩ := heb
        have HKL := Lib.hid hkl
        have e1 := Qt.keep hbr e1
        have e2 := Qt.keep hbr e2
        obtain ⟨q0, q1, q2, q3, f0, f1, f2, f3⟩ := (HW2.out.below hbr).four
        clear hkl
        go_wp2
        have hv : boxV l = .agg #[.int .i64 lo, .int .i64 fy, .int .i64 (hi - lo + 1), .int .i64 (ey - fy + 1)] := by
          unfold boxV
          rw [← HKL.out, ← HLO.out, ← HHI.out, ← HF.out, HKL.out, ← HE.out]
        rw [hv]
        refine bodyPost_ret (v := .tuple #[.agg #[.int .i64 lo, .int .i64 fy, .int .i64 (hi - lo + 1), .int .i64 (ey - fy + 1)], .bool true]) (by simp [results, Try.results19, go_sem, q0, q1, q2, q3, f0, f1, f2, f3]) rfl ⟨rfl, ?_⟩
        exact ((((Qt.more HB2 HB2.size hbr).setCell (Nat.le_refl _) _).setCell (Nat.le_refl _) _).setCell (Nat.le_refl _) _).setCell (Nat.le_refl _) _
  · have e0 : (((w1.alloc (.cells #[.int .i64 ex, .int .i64 ey] 25)).alloc (.cells #[.int .i64 fx, .int .i64 fy] 25)).drew).cell? ⟨w1.heap.size + 1, 0, none⟩ = some (.int .i64 fx) := by simp
    have e1 : (((w1.alloc (.cells #[.int .i64 ex, .int .i64 ey] 25)).alloc (.cells #[.int .i64 fx, .int .i64 fy] 25)).drew).cell? ⟨w1.heap.size + 1, 1, none⟩ = some (.int .i64 fy) := by simp
    have e2 : (((w1.alloc (.cells #[.int .i64 ex, .int .i64 ey] 25)).alloc (.cells #[.int .i64 fx, .int .i64 fy] 25)).drew).cell? ⟨w1.heap.size, 1, none⟩ = some (.int .i64 ey) := by simp
    have HBW : Below w1.heap.size w1 (((w1.alloc (.cells #[.int .i64 ex, .int .i64 ey] 25)).alloc (.cells #[.int .i64 fx, .int .i64 fy] 25)).drew) := (hA2 _ _).drew
    clear p0 p1 p2 p3 r0 r1 r2 r3 k0 k1 k2 k3 hA1 hA2
    generalize ((w1.alloc (.cells #[.int .i64 ex, .int .i64 ey] 25)).alloc (.cells #[.int .i64 fx, .int .i64 fy] 25)).drew = W at *
    have u0 := Qt.cell_in e0
    go_wp2
    refine Qt.below_all (by kernel_rfl) (by kernel_rfl) ?_
    repeat (go_big_quiet_step (fail))
    refine wpQuiet_nil ?_
    intro w2 hb2
    have e1 := Qt.keep hb2 e1
    have e2 := Qt.keep hb2 e2
    have HB2 : Below w.heap.size w w2 := Qt.more (Qt.more HB1 HB1.size HBW) (Nat.le_trans HB1.size HBW.size) hb2
    have HW2 := Lib.hid ((HW.out.below (show Below (w.alloc (.cells #[.int .i64 0, .int .i64 0, .int .i64 0, .int .i64 0] 35)).heap.size _ w2 from Qt.more (Qt.more hb1 hb1.size HBW) (Nat.le_trans hb1.size HBW.size) hb2)))
    clear u0 e0 hb2 HBW
    go_wp2
    go_loopw [6, 7, 34] (fun sl sr si wr => ∃ k : Nat, k ≤ l.length ∧ si = .int .i64 k ∧ sl = .int .i64 (loX l k) ∧ sr = .int .i64 (hiX l k) ∧ Below w2.heap.size w2 wr) (fun _ _ i _ => l.length - (intOf i).toNat)
    case atStart => exact ⟨0, Nat.zero_le _, rfl, by rw [loX_zero, ← HF.out], by rw [hiX_zero, ← HF.out], Below.refl _ _⟩
    case round =>
      obtain ⟨k, hk, rfl, rfl, rfl, hbr⟩ := hrel
      obtain ⟨lo, hlo⟩ : ∃ x, x = loX l k := ⟨_, rfl⟩
      obtain ⟨hi, hhi⟩ : ∃ x, x = hiX l k := ⟨_, rfl⟩
      rw [← hlo, ← hhi]
      have HLO := Lib.hid hlo
      have HHI := Lib.hid hhi
      clear hlo hhi
      by_cases hlt : k < l.length
      · have hltz : (k : Int) < (l.length : Int) := by omega
        obtain ⟨⟨x, y⟩, hxy⟩ : ∃ p, p = l.getD k (0, 0) := ⟨_, rfl⟩
        obtain ⟨c0, c1⟩ := HC.out k hlt
        rw [← hxy] at c0 c1
        simp only at c0 c1
        have c0 := Qt.keep hbr (Qt.keep HB2 c0)
        have c1 := Qt.keep hbr (Qt.keep HB2 c1)
        have HXY := Lib.hid hxy
        have d0 := Qt.cell_in (w := wr.alloc (.cells #[.int .i64 x, .int .i64 y] 25)) (a := ⟨wr.heap.size, 0, none⟩) (v := .int .i64 x) (by simp)
        clear hxy
        go_wp2
        refine Qt.below_all (by kernel_rfl) (by kernel_rfl) ?_
        repeat (go_big_quiet_step (fail))
        refine wpQuiet_nil ?_
        intro w3 hb3
        go_wp2
        go_roundw
        case measure => simp [intOf]; omega
        case rel =>
          refine ⟨k + 1, by omega, by go_num, ?_, ?_, (hbr.alloc hbr.size _).trans (hb3.mono (by have := hbr.size; simp; omega))⟩
          · rw [loX_succ hlt, ← HXY.out, HLO.out]
          · rw [hiX_succ hlt, ← HXY.out, HHI.out]
      · have hltz : ¬ (k : Int) < (l.length : Int) := by omega
        have hkl : k = l.length := by omega
        have hbl := loX_bd HIN.out h0 k
        have hbh := hiX_bd HIN.out h0 k
        rw [← HLO.out] at hbl
        rw [← HHI.out] at hbh
        have hfb := (inB_iff _).1 (HIN.out _ (getD_mem h0))
        have heb := (inB_iff _).1 (HIN.out _ (getD_mem (l := l) (k := l.length - 1) (by omega)))
        rw [← HF.out] at hfb
        rw [← HE.out] at heb
        simp only at hfb heb
        obtain ⟨hbl1, hbl2⟩ := hbl
        obtain ⟨hbh1, hbh2⟩ := hbh
        obtain ⟨_, _, hfb1, hfb2⟩ := hfb
        obtain ⟨_, _, heb1, heb2⟩ := heb
        have HKL := Lib.hid hkl
        have e1 := Qt.keep hbr e1
        have e2 := Qt.keep hbr e2
        obtain ⟨q0, q1, q2, q3, f0, f1, f2, f3⟩ := (HW2.out.below hbr).four
        clear hkl
        go_wp2
        have hv : boxV l = .agg #[.int .i64 lo, .int .i64 fy, .int .i64 (hi - lo + 1), .int .i64 (ey - fy + 1)] := by
          unfold boxV
          rw [← HKL.out, ← HLO.out, ← HHI.out, ← HF.out, HKL.out, ← HE.out]
        rw [hv]
        refine bodyPost_ret (v := .tuple #[.agg #[.int .i64 lo, .int .i64 fy, .int .i64 (hi - lo + 1), .int .i64 (ey - fy + 1)], .bool true]) (by simp [results, Try.results19, go_sem, q0, q1, q2, q3, f0, f1, f2, f3]) rfl ⟨rfl, ?_⟩
        exact ((((Qt.more HB2 HB2.size hbr).setCell (Nat.le_refl _) _).setCell (Nat.le_refl _) _).setCell (Nat.le_refl _) _).setCell (Nat.le_refl _) _

end Go.Proofs.Ytafoleafhkadiaa
