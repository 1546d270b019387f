/-
  Texts that the claims of this seat share, part 23.
-/
import Derived.Test.YtikgnjcjbjafaaaB17
import Derived.Test.YtikgnjcjbjafaaaB22
import Derived.BigRegion
set_option linter.unusedVariables false
set_option linter.unusedSimpArgs false
namespace Go.Proofs.Ytikgnjcjbjafaaa.Cel
open Go.RowKit Go.Sort

/-- Y told as X -/
def swL (l : List (Int × Int)) : List (Int × Int) := l.map fun p => (p.2, p.1)
theorem length_swL (l : List (Int × Int)) : (swL l).length = l.length := List.length_map _
theorem getD_swL {l : List (Int × Int)} {k : Nat} (hk : k < l.length) : (swL l).getD k (0, 0) = ((l.getD k (0, 0)).2, (l.getD k (0, 0)).1) := by
  rw [List.getD_eq_getElem?_getD, List.getD_eq_getElem?_getD, swL, List.getElem?_map, List.getElem?_eq_getElem hk]; rfl
theorem swL_in {l : List (Int × Int)} (h : ∀ p ∈ l, inB p = true) : ∀ p ∈ swL l, inB p = true := fun p hp => by
  obtain ⟨q, hq, rfl⟩ := List.mem_map.1 hp
  have := (inB_iff _).1 (h q hq)
  rw [inB_iff]
  simp only
  omega
theorem loY_first {l : List (Int × Int)} (hs : Rises l) (h0 : 0 < l.length) : loX (swL l) l.length = (l.getD 0 (0, 0)).2 := by
  have hl := length_swL l
  have h1 := loX_le (l := swL l) (k := l.length) (j := 0) h0 (by omega)
  obtain ⟨j, hj, e⟩ := loX_hit (l := swL l) (by omega) (k := l.length) (by omega)
  rw [getD_swL h0] at h1
  rw [getD_swL (by omega)] at e
  have := rises_y hs (i := 0) (j := j) (by omega) (by omega)
  simp only at h1 e
  omega
theorem hiY_last {l : List (Int × Int)} (hs : Rises l) (h0 : 0 < l.length) : hiX (swL l) l.length = (l.getD (l.length - 1) (0, 0)).2 := by
  have hl := length_swL l
  have h1 := hiX_ge (l := swL l) (k := l.length) (j := l.length - 1) (by omega) (by omega)
  obtain ⟨j, hj, e⟩ := hiX_hit (l := swL l) (by omega) (k := l.length) (by omega)
  rw [getD_swL (by omega)] at h1
  rw [getD_swL (by omega)] at e
  have := rises_y hs (i := j) (j := l.length - 1) (by omega) (by omega)
  simp only at h1 e
  omega

theorem refBox_nil (A : Option Addr) (c : Nat) (w : World) :
    Calls Try.prog 24 #[.slice A 0 c] w fun e w' => e = .returned (.tuple #[noBox, .bool false]) ∧ Below w.heap.size w w' := by
  go_enter Try.func24, Try.ntmps24
  go_wp2
  refine bodyPost_ret (v := .tuple #[noBox, .bool false]) (by simp [results, Try.results24, go_sem, noBox]) rfl ⟨rfl, (Below.refl _ _).alloc (Nat.le_refl _) _⟩

theorem refBox_bad (A : Option Addr) (l : List (Int × Int)) (c : Nat) (w : World) (hR : Rd w w.heap.size A l) (hl : l.length ≤ 1000000) (hc : l.length ≤ c) (h0 : 0 < l.length) (hr : rightB l = false) :
    Calls Try.prog 24 #[.slice A l.length c] w fun e w' => e = .returned (.tuple #[noBox, .bool false]) ∧ Below w.heap.size w w' := by
  have hb0 : Below w.heap.size w (w.alloc (.cells #[.int .i64 0, .int .i64 0, .int .i64 0, .int .i64 0] 47)) := (Below.refl _ w).alloc (Nat.le_refl _) _
  have h := refRight_any A l c (w.alloc (.cells #[.int .i64 0, .int .i64 0, .int .i64 0, .int .i64 0] 47)) ((hR.below hb0 (Nat.le_refl _)).more (by simp)) hl hc
  rw [hr] at h
  have hz : ((l.length : Int) == 0) = false := beq_eq_false_iff_ne.2 (by omega)
  have HW := Lib.hid (Whole.new w 47 #[.int .i64 0, .int .i64 0, .int .i64 0, .int .i64 0])
  clear hr
  go_enter Try.func24, Try.ntmps24
  go_wp2_with (go_at_call 56; refine h.mono ?_; rintro e w1 ⟨rfl, hb1⟩; obtain ⟨q0, q1, q2, q3, f0, f1, f2, f3⟩ := (HW.out.below hb1).four)
  refine bodyPost_ret (v := .tuple #[noBox, .bool false]) (by simp [results, Try.results24, go_sem, noBox, q0, q1, q2, q3, f0, f1, f2, f3]) rfl ⟨rfl, ?_⟩
  exact ((((Qt.more hb0 hb0.size hb1).setCell (Nat.le_refl _) _).setCell (Nat.le_refl _) _).setCell (Nat.le_refl _) _).setCell (Nat.le_refl _) _

theorem whole_two {w : World} {g T : Nat} {a b : Value} (h : Whole w g T #[a, b]) :
    w.cell? ⟨g, 0, none⟩ = some a ∧ w.cell? ⟨g, 1, none⟩ = some b ∧ w.frozen? ⟨g, 0, none⟩ = false ∧ w.frozen? ⟨g, 1, none⟩ = false :=
  ⟨h.cell 0, h.cell 1, h.free 0, h.free 1⟩

set_option maxHeartbeats 8000000 in
set_option maxRecDepth 100000 in
theorem refBox_any (A : Option Addr) (l : List (Int × Int)) (c : Nat) (w : World) (hR : Rd w w.heap.size A l) (hc : l.length ≤ c) (h0 : 0 < l.length) (hr : rightB l = true) :
    Calls Try.prog 24 #[.slice A l.length c] w fun e w' => e = .returned (.tuple #[boxV l, .bool true]) ∧ Below w.heap.size w w' := by
  obtain ⟨hl, hin, hrs⟩ := (rightB_iff l).1 hr
  have hb0 : Below w.heap.size w (w.alloc (.cells #[.int .i64 0, .int .i64 0, .int .i64 0, .int .i64 0] 47)) := (Below.refl _ w).alloc (Nat.le_refl _) _
  have h := refRight_any A l c (w.alloc (.cells #[.int .i64 0, .int .i64 0, .int .i64 0, .int .i64 0] 47)) ((hR.below hb0 (Nat.le_refl _)).more (by simp)) (by omega) hc
  rw [hr] at h
  have hz : ((l.length : Int) == 0) = false := beq_eq_false_iff_ne.2 (by omega)
  have HW := Lib.hid (Whole.new w 47 #[.int .i64 0, .int .i64 0, .int .i64 0, .int .i64 0])
  obtain ⟨b, off, rfl, hbB, hcell⟩ := hR.at_ h0
  obtain ⟨⟨fx, fy⟩, hf⟩ : ∃ p, p = l.getD 0 (0, 0) := ⟨_, rfl⟩
  have a0 := (hcell 0 h0).1
  have a1 := (hcell 0 h0).2
  rw [← hf] at a0 a1
  simp only [Nat.zero_mul, Nat.add_zero] at a0 a1
  have HF := Lib.hid hf
  have HC := Lib.hid hcell
  have hlz : (1 : Int) ≤ (l.length : Int) := by omega
  have HLX := Lib.hid (fun k => loX_bd hin h0 k)
  have HHX := Lib.hid (fun k => hiX_bd hin h0 k)
  have HLY := Lib.hid (fun k => loX_bd (swL_in hin) (by rw [length_swL]; exact h0) k)
  have HHY := Lib.hid (fun k => hiX_bd (swL_in hin) (by rw [length_swL]; exact h0) k)
  have hbox : boxV l = .agg #[.int .i64 (loX l l.length), .int .i64 (loX (swL l) l.length), .int .i64 (hiX l l.length - loX l l.length + 1), .int .i64 (hiX (swL l) l.length - loX (swL l) l.length + 1)] := by
    rw [loY_first hrs h0, hiY_last hrs h0]; rfl
  have HBX := Lib.hid hbox
  clear hr hin hf hcell hrs hbox
  go_enter Try.func24, Try.ntmps24
  go_wp2_with (go_at_call 56; refine h.mono ?_; rintro e w1 ⟨rfl, hb1⟩; have HB1 : Below w.heap.size w w1 := Qt.more hb0 hb0.size hb1; have k0 := Qt.keep HB1 a0; have k1 := Qt.keep HB1 a1; have p0 := fun O => Qt.keep ((Below.refl _ w1).alloc (Nat.le_refl _) O) k0; have p1 := fun O => Qt.keep ((Below.refl _ w1).alloc (Nat.le_refl _) O) k1)
  have HA : Hid (Whole ((w1.alloc (.cells #[.int .i64 fx, .int .i64 fy] 32)).alloc (.cells #[.int .i64 fx, .int .i64 fy] 32)) w1.heap.size 32 #[.int .i64 fx, .int .i64 fy]) := (Whole.new w1 _ _).below ((Below.refl _ _).alloc (Nat.le_refl _) _)
  have HBb : Hid (Whole ((w1.alloc (.cells #[.int .i64 fx, .int .i64 fy] 32)).alloc (.cells #[.int .i64 fx, .int .i64 fy] 32)) (w1.heap.size + 1) 32 #[.int .i64 fx, .int .i64 fy]) := by
    have := Whole.new (w1.alloc (.cells #[.int .i64 fx, .int .i64 fy] 32)) 32 #[.int .i64 fx, .int .i64 fy]
    simp only [World.size_alloc] at this
    exact this
  have HBB : Hid (∀ O O' : Obj, Below w1.heap.size w1 ((w1.alloc O).alloc O')) := fun O O' => ((Below.refl _ w1).alloc (Nat.le_refl _) O).alloc (by simp) O'
  have HW1 := Lib.hid (HW.out.below hb1)
  have hsz1 : w.heap.size < w1.heap.size := by have := hb1.size; simp at this; omega
  have H1 := Lib.hid HB1
  clear hb1 HB1 k0 k1 p0 p1 h hb0
  obtain ⟨G, hG⟩ : ∃ G, G = w1.heap.size + 1 := ⟨_, rfl⟩
  rw [← hG] at HBb ⊢
  have hGl : w1.heap.size < G := by omega
  clear hG
  go_loopw [6] (fun i wr => ∃ k : Nat, k ≤ l.length ∧ i = .int .i64 k ∧ Aside (Whole wr w1.heap.size 32 #[.int .i64 (loX l k), .int .i64 (loX (swL l) k)] ∧ Whole wr (G) 32 #[.int .i64 (hiX l k), .int .i64 (hiX (swL l) k)] ∧ Below w1.heap.size w1 wr)) (fun i _ => l.length - (intOf i).toNat)
  case atStart =>
    refine ⟨0, Nat.zero_le _, rfl, ?_⟩
    have e := HF.out
    rw [loX_zero, hiX_zero, loX_zero, hiX_zero, getD_swL h0, ← e]
    exact ⟨HA.out, HBb.out, HBB.out _ _⟩
  case round =>
    obtain ⟨k, hk, rfl, HK⟩ := hrel
    obtain ⟨q0, q1, f0, f1⟩ := whole_two HK.out.1
    obtain ⟨r0, r1, g0, g1⟩ := whole_two HK.out.2.1
    by_cases hlt : k < l.length
    · have hltz : (k : Int) < (l.length : Int) := by omega
      obtain ⟨⟨x, y⟩, hxy⟩ : ∃ p, p = l.getD k (0, 0) := ⟨_, rfl⟩
      obtain ⟨a0', a1'⟩ := HC.out k hlt
      rw [← hxy] at a0' a1'
      simp only at a0' a1'
      have c0 := Qt.keep HK.out.2.2 (Qt.keep H1.out a0')
      have c1 := Qt.keep HK.out.2.2 (Qt.keep H1.out a1')
      have A0 := Lib.hid (Qt.keep H1.out a0')
      have A1 := Lib.hid (Qt.keep H1.out a1')
      have e1 := loX_succ hlt
      have e2 := hiX_succ hlt
      have e3 := loX_succ (l := swL l) (k := k) (by rw [length_swL]; exact hlt)
      have e4 := hiX_succ (l := swL l) (k := k) (by rw [length_swL]; exact hlt)
      rw [getD_swL hlt, ← hxy] at e3 e4
      rw [← hxy] at e1 e2
      simp only at e1 e2 e3 e4
      obtain ⟨s1, hs1⟩ : ∃ s, s = loX l k := ⟨_, rfl⟩
      obtain ⟨s2, hs2⟩ : ∃ s, s = loX (swL l) k := ⟨_, rfl⟩
      obtain ⟨s3, hs3⟩ : ∃ s, s = hiX l k := ⟨_, rfl⟩
      obtain ⟨s4, hs4⟩ : ∃ s, s = hiX (swL l) k := ⟨_, rfl⟩
      rw [← hs1] at e1 q0 HK
      rw [← hs2] at e3 q1 HK
      rw [← hs3] at e2 r0 HK
      rw [← hs4] at e4 r1 HK
      have E1 := Lib.hid e1
      have E2 := Lib.hid e2
      have E3 := Lib.hid e3
      have E4 := Lib.hid e4
      clear e1 e2 e3 e4 hs1 hs2 hs3 hs4 hxy a0' a1'
      go_wp2
      go_region
      have HK2 : Hid (Whole ((wr.setCell ⟨w1.heap.size, 0, none⟩ (.int .i64 (min s1 x))).setCell ⟨w1.heap.size, 1, none⟩ (.int .i64 (min s2 y))).drew w1.heap.size 32 #[.int .i64 (min s1 x), .int .i64 (min s2 y)] ∧
          Whole ((wr.setCell ⟨w1.heap.size, 0, none⟩ (.int .i64 (min s1 x))).setCell ⟨w1.heap.size, 1, none⟩ (.int .i64 (min s2 y))).drew (G) 32 #[.int .i64 s3, .int .i64 s4] ∧
          Below w1.heap.size w1 ((wr.setCell ⟨w1.heap.size, 0, none⟩ (.int .i64 (min s1 x))).setCell ⟨w1.heap.size, 1, none⟩ (.int .i64 (min s2 y))).drew) :=
        ⟨(HK.out.1.set_ 0 _).set_ 1 _, (HK.out.2.1.far (p := ⟨w1.heap.size, 0, none⟩) (by simp; omega) _).far (p := ⟨w1.heap.size, 1, none⟩) (by simp; omega) _, ((HK.out.2.2.setCell (Nat.le_refl _) _).setCell (Nat.le_refl _) _).drew⟩
      obtain ⟨w2, hw2⟩ : ∃ w2, w2 = ((wr.setCell ⟨w1.heap.size, 0, none⟩ (.int .i64 (min s1 x))).setCell ⟨w1.heap.size, 1, none⟩ (.int .i64 (min s2 y))).drew := ⟨_, rfl⟩
      rw [← hw2] at HK2 ⊢
      clear hw2 q0 q1 f0 f1 r0 r1 g0 g1 c0 c1 HK HA HBb HBB HC HF HLX HHX HLY HHY HBX HW HW1
      obtain ⟨q0, q1, f0, f1⟩ := whole_two HK2.out.1
      obtain ⟨r0, r1, g0, g1⟩ := whole_two HK2.out.2.1
      have c0 := Qt.keep HK2.out.2.2 A0.out
      have c1 := Qt.keep HK2.out.2.2 A1.out
      have t0 := Qt.cell_in r0
      have t1 := Qt.cell_in r1
      have t2 := Qt.cell_in c0
      have t3 := Qt.cell_in c1
      go_wp2
      refine Qt.below_tail 17 (by kernel_rfl) (by kernel_rfl) ?_
      simp only [List.take_succ_cons, List.take_zero, List.drop_succ_cons, List.drop_zero]
      iterate 8 (go_big_quiet_step (fail))
      iterate 7 (go_big_quiet_step (fail))
      go_big_quiet_step (fail)
      go_big_quiet_step (fail)
      refine wpQuiet_nil ?_
      intro w3 hb3
      have HK4 : Hid (Whole w3 w1.heap.size 32 #[.int .i64 (min s1 x), .int .i64 (min s2 y)] ∧ Whole w3 G 32 #[.int .i64 s3, .int .i64 s4] ∧ Below w1.heap.size w1 w3) := ⟨HK2.out.1.below hb3, HK2.out.2.1.below hb3, Qt.more HK2.out.2.2 HK2.out.2.2.size hb3⟩
      clear t0 t1 t2 t3 q0 q1 f0 f1 r0 r1 g0 g1 c0 c1 HK2 hb3
      obtain ⟨r0, r1, g0, g1⟩ := whole_two HK4.out.2.1
      go_wp2_with fail
      have HK5 : Hid (Whole ((w3.setCell ⟨G, 0, none⟩ (.int .i64 (max s3 x))).setCell ⟨G, 1, none⟩ (.int .i64 (max s4 y))) w1.heap.size 32 #[.int .i64 (min s1 x), .int .i64 (min s2 y)] ∧
          Whole ((w3.setCell ⟨G, 0, none⟩ (.int .i64 (max s3 x))).setCell ⟨G, 1, none⟩ (.int .i64 (max s4 y))) G 32 #[.int .i64 (max s3 x), .int .i64 (max s4 y)] ∧
          Below w1.heap.size w1 ((w3.setCell ⟨G, 0, none⟩ (.int .i64 (max s3 x))).setCell ⟨G, 1, none⟩ (.int .i64 (max s4 y)))) :=
        ⟨(HK4.out.1.far (p := ⟨G, 0, none⟩) (Nat.ne_of_lt hGl) _).far (p := ⟨G, 1, none⟩) (Nat.ne_of_lt hGl) _, (HK4.out.2.1.set_ 0 _).set_ 1 _, (HK4.out.2.2.setCell (Nat.le_of_lt hGl) _).setCell (Nat.le_of_lt hGl) _⟩
      go_roundw
      case measure => simp [intOf]; omega
      case rel => exact ⟨k + 1, by omega, by go_num, by rw [E1.out, E2.out, E3.out, E4.out]; exact HK5.out⟩
    · have hltz : ¬ (k : Int) < (l.length : Int) := by omega
      obtain rfl : k = l.length := by omega
      obtain ⟨z0, z1, z2, z3, y0, y1, y2, y3⟩ := (HW1.out.below HK.out.2.2).four
      have b1 := HLX.out l.length
      have b2 := HHX.out l.length
      have b3 := HLY.out l.length
      have b4 := HHY.out l.length
      obtain ⟨s1, hs1⟩ : ∃ s, s = loX l l.length := ⟨_, rfl⟩
      obtain ⟨s2, hs2⟩ : ∃ s, s = loX (swL l) l.length := ⟨_, rfl⟩
      obtain ⟨s3, hs3⟩ : ∃ s, s = hiX l l.length := ⟨_, rfl⟩
      obtain ⟨s4, hs4⟩ : ∃ s, s = hiX (swL l) l.length := ⟨_, rfl⟩
      have HBX2 := HBX.out
      rw [← hs1] at b1 q0 HBX2
      rw [← hs2] at b3 q1 HBX2
      rw [← hs3] at b2 r0 HBX2
      rw [← hs4] at b4 r1 HBX2
      have HBX3 := Lib.hid HBX2
      have HB := Lib.hid (Qt.more H1.out H1.out.size HK.out.2.2)
      clear hs1 hs2 hs3 hs4 HBX2 HK HC HF HA HBb HBB HLX HHX HLY HHY
      go_wp2
      rw [HBX3.out]
      refine bodyPost_ret (v := .tuple #[.agg #[.int .i64 s1, .int .i64 s2, .int .i64 (s3 - s1 + 1), .int .i64 (s4 - s2 + 1)], .bool true]) (by simp [results, Try.results24, go_sem, z0, z1, z2, z3, y0, y1, y2, y3]) rfl ⟨rfl, ?_⟩
      exact (((HB.out.setCell (Nat.le_refl _) _).setCell (Nat.le_refl _) _).setCell (Nat.le_refl _) _).setCell (Nat.le_refl _) _

end Go.Proofs.Ytikgnjcjbjafaaa.Cel
