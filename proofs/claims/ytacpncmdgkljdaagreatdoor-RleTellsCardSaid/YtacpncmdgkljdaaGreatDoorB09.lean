/-
  Texts that the claims of this seat share, part 9.
-/
import Derived.Test.YtacpncmdgkljdaaGreatDoorB03
import Derived.Test.YtacpncmdgkljdaaGreatDoorB07
import Derived.Test.YtacpncmdgkljdaaGreatDoorB08
import Derived.Test.YtacpncmdgkljdaaGreatDoorB04
import Derived.Test.YtacpncmdgkljdaaGreatDoorB06
set_option linter.unusedVariables false
set_option linter.unusedSimpArgs false
namespace Go.Proofs.YtacpncmdgkljdaaGreatDoor.Cel
open Go.RowKit Go.Sort

theorem eq_of_all {l m : List (Int × Int)} (hlen : l.length = m.length) (h : ∀ j, j < l.length → l.getD j (0, 0) = m.getD j (0, 0)) : l = m := by
  refine List.ext_getElem hlen fun j h1 h2 => ?_
  have := h j h1
  rwa [List.getD_eq_getElem?_getD, List.getD_eq_getElem?_getD, List.getElem?_eq_getElem h1, List.getElem?_eq_getElem h2] at this

theorem same_len (A A' : Option Addr) (n m c c' : Nat) (w : World) (hne : n ≠ m) :
    Calls Tryz.prog 11 #[.slice A n c, .slice A' m c'] w fun e w' => e = .returned (.bool false) ∧ Below w.heap.size w w' := by
  have hz : ((n : Int) == (m : Int)) = false := beq_eq_false_iff_ne.2 (by omega)
  have hz2 : ((n : Int) != (m : Int)) = true := by rw [bne, hz]; rfl
  go_enter Tryz.func11, Tryz.ntmps11
  go_wp2
  go_ret
  exact ⟨rfl, Below.refl _ _⟩

theorem same_any (A A' : Option Addr) (l m : List (Int × Int)) (c c' : Nat) (w : World) (hR : Rd w w.heap.size A l) (hR' : Rd w w.heap.size A' m) (hl : l.length ≤ 1000000) (hlm : l.length = m.length) :
    Calls Tryz.prog 11 #[.slice A l.length c, .slice A' l.length c'] w fun e w' => e = .returned (.bool (decide (l = m))) ∧ Below w.heap.size w w' := by
  generalize hr : decide (l = m) = r
  have HR := Lib.hid hr
  have HLM := Lib.hid hlm
  clear hr hlm
  go_enter Tryz.func11, Tryz.ntmps11
  go_wp2
  go_loopw [5] (fun i wr => ∃ k : Nat, k ≤ l.length ∧ i = .int .i64 k ∧ Hid (∀ j, j < k → l.getD j (0, 0) = m.getD j (0, 0)) ∧ Below w.heap.size w wr) (fun i _ => l.length - (intOf i).toNat)
  case atStart => exact ⟨0, Nat.zero_le _, rfl, (show Hid _ from fun j hj => absurd hj (Nat.not_lt_zero j)), Below.refl _ _⟩
  case round =>
    obtain ⟨k, hk, rfl, HK, hb⟩ := hrel
    by_cases hlt : k < l.length
    · have hltz : (k : Int) < (l.length : Int) := by omega
      obtain ⟨b, off, rfl, hbB, hcell⟩ := hR.at_ (by omega)
      obtain ⟨b2, off2, rfl, hbB2, hcell2⟩ := hR'.at_ (by have := HLM.out; omega)
      obtain ⟨⟨x, y⟩, hxy⟩ : ∃ p, p = l.getD k (0, 0) := ⟨_, rfl⟩
      obtain ⟨⟨cx, cy⟩, hcxy⟩ : ∃ p, p = m.getD k (0, 0) := ⟨_, rfl⟩
      obtain ⟨a0, a1⟩ := hcell k hlt
      obtain ⟨e0, e1⟩ := hcell2 k (by have := HLM.out; omega)
      rw [← hxy] at a0 a1
      rw [← hcxy] at e0 e1
      simp only at a0 a1 e0 e1
      have k0 := Qt.cell_in (Qt.keep hb a0)
      have k1 := Qt.cell_in (Qt.keep hb a1)
      have k2 := Qt.cell_in (Qt.keep hb e0)
      have k3 := Qt.cell_in (Qt.keep hb e1)
      have HXY := Lib.hid hxy
      have HCXY := Lib.hid hcxy
      clear hxy hcxy hcell hcell2 a0 a1 e0 e1
      have hcase : (x = cx ∧ y = cy) ∨ (x = cx ∧ ¬ y = cy) ∨ ¬ x = cx := by
        by_cases h1 : x = cx <;> by_cases h2 : y = cy <;> simp [h1, h2]
      rcases hcase with ⟨rfl, rfl⟩ | ⟨rfl, hy⟩ | hx
      · go_wp2
        refine Qt.below_all (by kernel_rfl) (by kernel_rfl) ?_
        repeat (go_big_quiet_step (fail))
        refine wpQuiet_nil ?_
        intro w1 hb1
        clear k0 k1 k2 k3
        go_wp2
        go_roundw
        case measure => simp [intOf]; omega
        case rel =>
          refine ⟨k + 1, by omega, by go_num, (show Hid _ from fun j hj => ?_), Qt.more hb hb.size hb1⟩
          by_cases hjk : j = k
          · subst hjk; rw [← HXY.out, ← HCXY.out]
          · exact HK.out j (by omega)
      all_goals
        have hne : l ≠ m := by
          intro e
          subst e
          have := HXY.out.trans HCXY.out.symm
          simp at this
          omega
        have HNE := Lib.hid hne
        clear hne
        go_wp2
        refine Qt.below_all (by kernel_rfl) (by kernel_rfl) ?_
        repeat (go_big_quiet_step (fail))
        refine wpQuiet_nil ?_
        intro w1 hb1
        clear k0 k1 k2 k3
        go_wp2
        go_ret
        exact ⟨by rw [← HR.out, decide_eq_false HNE.out]; rfl, Qt.more hb hb.size hb1⟩
    · have hltz : ¬ (k : Int) < (l.length : Int) := by omega
      have he : l = m := eq_of_all HLM.out fun j hj => HK.out j (by omega)
      have HE := Lib.hid he
      clear he
      go_wp2
      go_ret
      exact ⟨by rw [← HR.out, decide_eq_true HE.out]; rfl, hb⟩

/-- .. of slices that read as lists, whatever their places. -/
theorem same_holds {A A' : Option Addr} {l m : List (Int × Int)} {c c' : Nat} {w : World} (hR : Rd w w.heap.size A l) (hR' : Rd w w.heap.size A' m) (hl : l.length ≤ 1000000) :
    Calls Tryz.prog 11 #[.slice A l.length c, .slice A' m.length c'] w fun e w' => e = .returned (.bool (decide (l = m))) ∧ Below w.heap.size w w' := by
  by_cases h : l.length = m.length
  · have := same_any A A' l m c c' w hR hR' hl h
    rwa [← h]
  · rw [decide_eq_false fun e => h (congrArg List.length e)]
    exact same_len A A' _ _ c c' w h

end Go.Proofs.YtacpncmdgkljdaaGreatDoor.Cel
namespace Go.Proofs.YtacpncmdgkljdaaGreatDoor
set_option linter.unusedVariables false
set_option linter.unusedSimpArgs false
open Go.RowKit Go.Sort

def s5p : List UInt8 := [120, 32, 61, 32, 51, 44, 32, 121, 32, 61, 32, 50, 44, 32, 114, 117, 108, 101, 32, 61, 32, 66, 51, 47, 83, 50, 51, 10, 98, 50, 111, 36, 111, 33, 10]
def s5a : List UInt8 := [35, 67, 32, 120, 10, 120, 32, 61, 32, 48, 44, 32, 121, 32, 61, 32, 55, 10, 10, 32, 98, 111, 50, 36, 51, 111, 33, 120]
def s5b : List UInt8 := [35, 67, 32, 120, 10, 120, 32, 61, 32, 48, 44, 121, 32, 61, 32, 55, 10, 33]
def s5c : List UInt8 := [120, 32, 61, 32, 48, 44, 32, 121, 32, 61, 32, 55, 10, 98, 50, 120, 33]
def s5d : List UInt8 := [120, 32, 61, 32, 48, 44, 32, 121, 32, 61, 32, 55, 10, 98, 49, 48, 57, 57, 53, 49, 49, 54, 50, 55, 55, 55, 54, 111, 33]
theorem aw_right : Cel.rightB [(5, 5), (6, 5), (4, 6)] = true := by decide
theorem aw_p : printL [(5, 5), (6, 5), (4, 6)] = s5p := by
  have e1 : (wideL [(5, 5), (6, 5), (4, 6)]).toNat = 3 := by decide
  have e2 : (highL [(5, 5), (6, 5), (4, 6)]).toNat = 2 := by decide
  have e3 : homeL [(5, 5), (6, 5), (4, 6)] = [(1, 0), (2, 0), (0, 1)] := by decide
  have e4 : (tellL [(1, 0), (2, 0), (0, 1)]).1 = [(98, 1), (111, 2), (36, 1), (111, 1)] := by decide
  unfold printL printP
  rw [e1, e2, e3, e4]
  unfold headText
  rw [dec_small (by omega), dec_small (by omega)]
  simp [textL, itemsT, itemL, goodI, tagB, numL, dec_small]
  decide
theorem aw_a : parseP s5a = ([(1, 0), (0, 2), (1, 2), (2, 2)], 0, 0) := by kernel_rfl
theorem aw_b : parseP s5b = ([], 32, 5) := by kernel_rfl
theorem aw_c : parseP s5c = ([], 30, 14) := by kernel_rfl
theorem aw_d : parseP s5d = ([], 2, 14) := by kernel_rfl

set_option maxHeartbeats 4000000 in
set_option maxRecDepth 100000 in
theorem awake5_any (w : World) (hT : Tab w) (hM : Mx w) :
    Calls Tryz.prog 4 #[] w fun e w' => e = .returned (.bool true) ∧ Below w.heap.size w w' := by
  have hb0 : Below w.heap.size w (w.alloc (.cells #[.int .i64 5, .int .i64 5, .int .i64 6, .int .i64 5, .int .i64 4, .int .i64 6] 37)) := (Below.refl _ _).alloc (Nat.le_refl _) _
  have hRd : Cel.Rd (w.alloc (.cells #[.int .i64 5, .int .i64 5, .int .i64 6, .int .i64 5, .int .i64 4, .int .i64 6] 37)) (w.alloc (.cells #[.int .i64 5, .int .i64 5, .int .i64 6, .int .i64 5, .int .i64 4, .int .i64 6] 37)).heap.size (some ⟨w.heap.size, 0, none⟩) [(5, 5), (6, 5), (4, 6)] := fun j hj => by
    have h3 : j = 0 ∨ j = 1 ∨ j = 2 := by simp at hj; omega
    rcases h3 with rfl | rfl | rfl <;> exact ⟨w.heap.size, 0, rfl, by simp, by simp, by simp⟩
  have h1 : Calls Tryz.prog 6 #[.slice (some ⟨w.heap.size, 0, none⟩) 3 3] (w.alloc (.cells #[.int .i64 5, .int .i64 5, .int .i64 6, .int .i64 5, .int .i64 4, .int .i64 6] 37)) fun e w' => e = .returned (.tuple #[.string (str s5p), .int .i64 0]) ∧ Below (w.alloc (.cells #[.int .i64 5, .int .i64 5, .int .i64 6, .int .i64 5, .int .i64 4, .int .i64 6] 37)).heap.size (w.alloc (.cells #[.int .i64 5, .int .i64 5, .int .i64 6, .int .i64 5, .int .i64 4, .int .i64 6] 37)) w' := by
    have h := print_good (some ⟨w.heap.size, 0, none⟩) [(5, 5), (6, 5), (4, 6)] 3 _ hRd (by decide) aw_right (hT.below hb0)
    rw [aw_p] at h
    exact h
  have hp := fun (s : List UInt8) (hs : s.length ≤ 1000) W (hb : Below w.heap.size w W) => rleParse_any s W (by omega) (hM.below hb)
  have pa := hp s5a (by decide)
  have pb := hp s5b (by decide)
  have pc := hp s5c (by decide)
  have pd := hp s5d (by decide)
  rw [aw_a] at pa
  rw [aw_b] at pb
  rw [aw_c] at pc
  rw [aw_d] at pd
  unfold SetR at pa pb pc pd
  clear hp hRd
  go_enter Tryz.func4, Tryz.ntmps4
  go_wp2_with fail
  refine h1.mono ?_
  rintro e w1 ⟨rfl, hb1⟩
  have B1 := Qt.more hb0 hb0.size hb1
  clear h1 hb0 hb1
  go_wp2_with fail
  refine (pa _ B1).mono ?_
  rintro e w2 ⟨v2, rfl, ⟨A2, c2, rfl, hc2, hR2⟩, hb2⟩
  have B2 := Qt.more B1 B1.size hb2
  clear pa hb2 B1
  go_wp2_with fail
  refine (pb _ B2).mono ?_
  rintro e w3 ⟨v3, rfl, ⟨A3, c3, rfl, hc3, hR3⟩, hb3⟩
  have hR2 := (hR2.below hb3 (Nat.le_refl _)).more hb3.size
  have B3 := Qt.more B2 B2.size hb3
  clear pb hb3 B2 hR3
  go_wp2_with fail
  refine (pc _ B3).mono ?_
  rintro e w4 ⟨v4, rfl, ⟨A4, c4, rfl, hc4, hR4⟩, hb4⟩
  have hR2 := (hR2.below hb4 (Nat.le_refl _)).more hb4.size
  have B4 := Qt.more B3 B3.size hb4
  clear pc hb4 B3 hR4
  go_wp2_with fail
  refine (pd _ B4).mono ?_
  rintro e w5 ⟨v5, rfl, ⟨A5, c5, rfl, hc5, hR5⟩, hb5⟩
  have hR2 := (hR2.below hb5 (Nat.le_refl _)).more hb5.size
  have B5 := Qt.more B4 B4.size hb5
  clear pd hb5 B4 hR5
  obtain ⟨b, off, rfl, _, hcell⟩ := hR2.at_ (by decide)
  have a0 := (hcell 0 (by decide)).1
  have a1 := (hcell 0 (by decide)).2
  have a2 := (hcell 3 (by decide)).1
  have a3 := (hcell 3 (by decide)).2
  simp only [Nat.zero_mul, Nat.add_zero] at a0 a1
  clear hcell hR2
  have hs : str s5p = { data := #[120, 32, 61, 32, 51, 44, 32, 121, 32, 61, 32, 50, 44, 32, 114, 117, 108, 101, 32, 61, 32, 66, 51, 47, 83, 50, 51, 10, 98, 50, 111, 36, 111, 33, 10] } := rfl
  rw [hs]
  go_wp2
  trace_state
  go_ret
  exact ⟨rfl, B5⟩
end Go.Proofs.YtacpncmdgkljdaaGreatDoor
namespace Go.Proofs.YtacpncmdgkljdaaGreatDoor
set_option linter.unusedVariables false
set_option linter.unusedSimpArgs false
open Go.RowKit Go.Sort
open Cel (setL putL rawSet)

theorem rem3 (k : Nat) : (Int.tmod (k : Int) 3 == 1) = decide (k % 3 = 1) := by
  have e : Int.tmod (k : Int) 3 = ((k % 3 : Nat) : Int) := by
    rw [Int.tmod_eq_emod_of_nonneg (by omega)]
    omega
  rw [e, Bool.eq_iff_iff, beq_iff_eq, decide_eq_true_eq]
  omega
theorem rem3e (k : Nat) : (((k : Int) % 3) == 1) = decide (k % 3 = 1) := by
  rw [Bool.eq_iff_iff, beq_iff_eq, decide_eq_true_eq]
  omega
theorem farTo_setlen (f : Bool) (l : List (Int × Int)) (k : Nat) : (setL (farTo f l k)).length ≤ k := by
  have := Cel.length_setL (farTo f l k)
  rwa [farTo_len] at this
theorem rawSet_bd (raw : List (Int × Int)) : ∀ c ∈ rawSet raw, -8 ≤ c.1 ∧ c.1 ≤ 7 ∧ -8 ≤ c.2 ∧ c.2 ≤ 7 := fun c hc => Cel.rawTo_bd ((Cel.mem_setL _ _).1 hc)

set_option maxHeartbeats 8000000 in
set_option maxRecDepth 100000 in
theorem far_any (A : Option Addr) (raw : List (Int × Int)) (c : Nat) (far : Int) (w : World) (hR : Cel.Rd w w.heap.size A raw) (hl : raw.length ≤ 9223372036854775807) (hc : raw.length ≤ c) (hw : ∀ p ∈ raw, I64 p.1 ∧ I64 p.2) (hf : I64 far) :
    Calls Tryz.prog 5 #[.slice A raw.length c, .int .i64 far] w fun e w' => ∃ v, e = .returned v ∧ Cel.Reads w' v (farL (decide (pickI far 5 = 4)) (rawSet raw)) ∧ Below w.heap.size w w' := by
  have h1 := Cel.set_any A raw c w hR hl hc hw
  have hp := fun W => pick_any far 5 W hf.1 hf.2 (by omega) (by omega)
  have hsl := Cel.rawSet_len raw
  have hbd := rawSet_bd raw
  obtain ⟨p5, hp5⟩ : ∃ z, z = pickI far 5 := ⟨_, rfl⟩
  have hp5b := pickI_bd far 5 (by omega)
  rw [← hp5] at hp hp5b ⊢
  generalize rawSet raw = l at *
  have HBD := Lib.hid hbd
  have HF := Lib.hid (show farL (decide (p5 = 4)) l = setL (farTo (decide (p5 = 4)) l l.length) from rfl)
  have HSTEP := Lib.hid (fun k => far_step (decide (p5 = 4)) l k)
  have HCB := Lib.hid (fun k (hk : k < l.length) => farC_bd (f := decide (p5 = 4)) hbd hk)
  clear hbd hp5
  generalize farL (decide (p5 = 4)) l = FL at *
  go_enter Tryz.func5, Tryz.ntmps5
  go_wp2_with fail
  refine h1.mono ?_
  rintro e w1 ⟨v1, rfl, ⟨A1, c1, rfl, hc1, hR1⟩, hb1⟩
  have HR1 := Lib.hid hR1
  clear h1 hR1
  go_wp2
  go_loopw [6, 7] (fun u i wr => ∃ (k : Nat) (A2 : Option Addr) (c2 : Nat) (s : List (Int × Int)), k ≤ l.length ∧ i = .int .i64 k ∧ u = .slice A2 s.length c2 ∧ s.length ≤ c2 ∧ s.length ≤ k ∧ Hid (s = setL (farTo (decide (p5 = 4)) l k)) ∧ Hid (Cel.Rd wr wr.heap.size A2 s) ∧ Below w.heap.size w wr ∧ Below w1.heap.size w1 wr) (fun _ i _ => l.length - (intOf i).toNat)
  case atStart => exact ⟨0, none, 0, [], Nat.zero_le _, rfl, rfl, Nat.le_refl _, Nat.le_refl _, (rfl : _ = _), Cel.Rd.nil _ _ _, hb1, Below.refl _ _⟩
  case round =>
    obtain ⟨k, A2, c2, s, hk, rfl, rfl, hc2, hsk, HS, HRD, hb, hbw1⟩ := hrel
    by_cases hlt : k < l.length
    · have hltz : (k : Int) < (l.length : Int) := by omega
      obtain ⟨b, off, rfl, hbB, hcell⟩ := HR1.out.at_ (by omega)
      have a0 := Qt.keep hbw1 (hcell k hlt).1
      have a1 := Qt.keep hbw1 (hcell k hlt).2
      have hcb := HCB.out k hlt
      have hst := HSTEP.out k
      have hxb := HBD.out _ (Cel.getD_mem hlt)
      unfold farC at hcb hst
      obtain ⟨⟨x, y⟩, hxy⟩ : ∃ p, p = l.getD k (0, 0) := ⟨_, rfl⟩
      rw [← hxy] at a0 a1 hcb hst hxb
      simp only at a0 a1 hxb
      rw [← HS.out] at hst
      have hal : Below wr.heap.size wr (wr.alloc (.cells #[.int .i64 x, .int .i64 y] 37)) := (Below.refl _ _).alloc (Nat.le_refl _) _
      have hrow : (wr.alloc (.cells #[.int .i64 x, .int .i64 y] 37)).heap[wr.heap.size]? = some (.cells #[.int .i64 x, .int .i64 y] 37 (0, 0)) := heap_alloc_new wr _
      by_cases h4 : p5 = 4
      · by_cases h3 : k % 3 = 1
        · rw [if_pos ⟨by rw [decide_eq_true h4], h3⟩] at hst hcb
          simp only at hst hcb
          have HST := Lib.hid hst
          have hm : (Int.tmod (k : Int) 3 == 1) = true := by rw [rem3, decide_eq_true h3]
          have hm2 : (((k : Int) % 3) == 1) = true := by rw [rem3e, decide_eq_true h3]
          have hp4 : (p5 == 4) = true := by rw [beq_iff_eq]; exact h4
          have k0 := Lib.cell_of_heap hrow
          have f0 : (wr.alloc (.cells #[.int .i64 x, .int .i64 y] 37)).frozen? ⟨wr.heap.size, 0, none⟩ = false := Lib.frozen_of_heap hrow 0
          have f1 : (wr.alloc (.cells #[.int .i64 x, .int .i64 y] 37)).frozen? ⟨wr.heap.size, 1, none⟩ = false := Lib.frozen_of_heap hrow 1
          have hW : Below wr.heap.size wr (wr.alloc (.cells #[.int .i64 (x * 100000), .int .i64 (y * 1000000)] 37)) := (Below.refl _ _).alloc (Nat.le_refl _) _
          have hrowW : (wr.alloc (.cells #[.int .i64 (x * 100000), .int .i64 (y * 1000000)] 37)).heap[wr.heap.size]? = some (.cells #[.int .i64 (x * 100000), .int .i64 (y * 1000000)] 37 (0, 0)) := heap_alloc_new wr _
          clear hst h4 h3
          go_wp2_with fail
          refine (hp _).mono ?_
          rintro e w2 ⟨rfl, rfl⟩
          have HB := Lib.hid hW
          have d0 := Lib.cell_of_heap hrowW 0
          have d1 := Lib.cell_of_heap hrowW 1
          have k00 := k0 0
          have k01 := k0 1
          clear k0 hrow hrowW hW
          go_wp2_with fail
          have hput := Cel.put_any A2 s c2 (x * 100000, y * 1000000) (wr.alloc (.cells #[.int .i64 (x * 100000), .int .i64 (y * 1000000)] 37)) ((HRD.out.below HB.out (Nat.le_refl _)).more HB.out.size) (by omega) hc2
          rw [← HST.out] at hput
          refine hput.mono ?_
          rintro e w5 ⟨v5, rfl, hown5, hb5⟩
          have hb05 := Qt.more (Qt.more hb hb.size HB.out) (Nat.le_trans hb.size HB.out.size) hb5
          have hb15 := Qt.more (Qt.more hbw1 hbw1.size HB.out) (Nat.le_trans hbw1.size HB.out.size) hb5
          obtain ⟨A5, c5, rfl, hc5, hR5⟩ := hown5.rd
          have hlen5 := farTo_setlen (decide (p5 = 4)) l (k + 1)
          generalize hz : setL (farTo (decide (p5 = 4)) l (k + 1)) = z at *
          have HZ := Lib.hid hz.symm
          have HR5 := Lib.hid hR5
          clear hput hown5 hb5 hz hR5
          go_wp2
          go_roundw
          case measure => simp [intOf]; omega
          case rel => exact ⟨k + 1, A5, c5, z, by omega, by go_num, rfl, hc5, by omega, HZ, HR5, hb05, hb15⟩
        · rw [if_neg (fun e => h3 e.2)] at hst hcb
          have HST := Lib.hid hst
          have hm2 : (((k : Int) % 3) == 1) = false := by rw [rem3e, decide_eq_false h3]
          have hp4 : (p5 == 4) = true := by rw [beq_iff_eq]; exact h4
          have k00 := Lib.cell_of_heap hrow 0
          have k01 := Lib.cell_of_heap hrow 1
          have HB := Lib.hid hal
          clear hst hrow hal
          go_wp2_with fail
          refine (hp _).mono ?_
          rintro e w2 ⟨rfl, rfl⟩
          go_wp2_with fail
          have hput := Cel.put_any A2 s c2 (x, y) (wr.alloc (.cells #[.int .i64 x, .int .i64 y] 37)) ((HRD.out.below HB.out (Nat.le_refl _)).more HB.out.size) (by omega) hc2
          rw [← HST.out] at hput
          refine hput.mono ?_
          rintro e w5 ⟨v5, rfl, hown5, hb5⟩
          have hb05 := Qt.more (Qt.more hb hb.size HB.out) (Nat.le_trans hb.size HB.out.size) hb5
          have hb15 := Qt.more (Qt.more hbw1 hbw1.size HB.out) (Nat.le_trans hbw1.size HB.out.size) hb5
          obtain ⟨A5, c5, rfl, hc5, hR5⟩ := hown5.rd
          have hlen5 := farTo_setlen (decide (p5 = 4)) l (k + 1)
          generalize hz : setL (farTo (decide (p5 = 4)) l (k + 1)) = z at *
          have HZ := Lib.hid hz.symm
          have HR5 := Lib.hid hR5
          clear hput hown5 hb5 hz hR5
          go_wp2
          go_roundw
          case measure => simp [intOf]; omega
          case rel => exact ⟨k + 1, A5, c5, z, by omega, by go_num, rfl, hc5, by omega, HZ, HR5, hb05, hb15⟩
      · rw [if_neg (fun e => h4 (of_decide_eq_true e.1))] at hst hcb
        have HST := Lib.hid hst
        have hp4 : (p5 == 4) = false := by rw [beq_eq_false_iff_ne]; exact h4
        have k00 := Lib.cell_of_heap hrow 0
        have k01 := Lib.cell_of_heap hrow 1
        have HB := Lib.hid hal
        clear hst hrow hal
        go_wp2_with fail
        refine (hp _).mono ?_
        rintro e w2 ⟨rfl, rfl⟩
        go_wp2_with fail
        have hput := Cel.put_any A2 s c2 (x, y) (wr.alloc (.cells #[.int .i64 x, .int .i64 y] 37)) ((HRD.out.below HB.out (Nat.le_refl _)).more HB.out.size) (by omega) hc2
        rw [← HST.out] at hput
        refine hput.mono ?_
        rintro e w5 ⟨v5, rfl, hown5, hb5⟩
        have hb05 := Qt.more (Qt.more hb hb.size HB.out) (Nat.le_trans hb.size HB.out.size) hb5
        have hb15 := Qt.more (Qt.more hbw1 hbw1.size HB.out) (Nat.le_trans hbw1.size HB.out.size) hb5
        obtain ⟨A5, c5, rfl, hc5, hR5⟩ := hown5.rd
        have hlen5 := farTo_setlen (decide (p5 = 4)) l (k + 1)
        generalize hz : setL (farTo (decide (p5 = 4)) l (k + 1)) = z at *
        have HZ := Lib.hid hz.symm
        have HR5 := Lib.hid hR5
        clear hput hown5 hb5 hz hR5
        go_wp2
        go_roundw
        case measure => simp [intOf]; omega
        case rel => exact ⟨k + 1, A5, c5, z, by omega, by go_num, rfl, hc5, by omega, HZ, HR5, hb05, hb15⟩
    · have hltz : ¬ (k : Int) < (l.length : Int) := by omega
      obtain rfl : k = l.length := by omega
      have he : s = FL := by rw [HS.out, HF.out]
      have HE := Lib.hid he
      clear hlt hk
      go_wp2
      go_ret
      refine ⟨_, rfl, ⟨A2, c2, ?_, ?_, ?_⟩, hb⟩
      · rw [← HE.out]; rfl
      · rw [← HE.out]; exact hc2
      · rw [← HE.out]; exact HRD.out
end Go.Proofs.YtacpncmdgkljdaaGreatDoor
namespace Go.Proofs.YtacpncmdgkljdaaGreatDoor
set_option linter.unusedVariables false
set_option linter.unusedSimpArgs false
open Go.RowKit Go.Sort
open Cel (boxV noBox loX hiX shL rightB)

theorem loX_sh (dx dy : Int) {l : List (Int × Int)} (h0 : 0 < l.length) : ∀ k, k ≤ l.length → loX (shL dx dy l) k = loX l k + dx := by
  intro k
  induction k with
  | zero => intro _; rw [Cel.loX_zero, Cel.loX_zero, Cel.getD_shL _ _ _ h0]
  | succ k ih =>
    intro hk
    rw [Cel.loX_succ (by rw [Cel.length_shL]; omega), Cel.loX_succ (by omega), ih (by omega), Cel.getD_shL _ _ _ (by omega)]
    simp only
    omega
theorem hiX_sh (dx dy : Int) {l : List (Int × Int)} (h0 : 0 < l.length) : ∀ k, k ≤ l.length → hiX (shL dx dy l) k = hiX l k + dx := by
  intro k
  induction k with
  | zero => intro _; rw [Cel.hiX_zero, Cel.hiX_zero, Cel.getD_shL _ _ _ h0]
  | succ k ih =>
    intro hk
    rw [Cel.hiX_succ (by rw [Cel.length_shL]; omega), Cel.hiX_succ (by omega), ih (by omega), Cel.getD_shL _ _ _ (by omega)]
    simp only
    omega
theorem printL_sh (dx dy : Int) (l : List (Int × Int)) : printL (shL dx dy l) = printL l := by
  by_cases h0 : l.length = 0
  · have : l = [] := List.eq_nil_of_length_eq_zero h0
    subst this
    rfl
  · have hp : 0 < l.length := by omega
    have e1 : wideL (shL dx dy l) = wideL l := by
      unfold wideL
      rw [Cel.length_shL, if_neg h0, if_neg h0, hiX_sh dx dy hp _ (Nat.le_refl _), loX_sh dx dy hp _ (Nat.le_refl _)]
      omega
    have e2 : highL (shL dx dy l) = highL l := by
      unfold highL
      rw [Cel.length_shL, if_neg h0, if_neg h0, Cel.getD_shL _ _ _ (by omega), Cel.getD_shL _ _ _ (by omega)]
      simp only
      omega
    have e3 : homeL (shL dx dy l) = homeL l := by
      unfold homeL
      rw [Cel.length_shL, loX_sh dx dy hp _ (Nat.le_refl _), Cel.getD_shL _ _ _ hp]
      exact fromC_shift _ _ dx dy l
    unfold printL
    rw [e1, e2, e3]

/-- the set from its box's corner on -/
def cornerL (l : List (Int × Int)) : List (Int × Int) := shL (-(loX l l.length)) (-((l.getD 0 (0, 0)).2)) l
theorem home_up {l : List (Int × Int)} (hr : rightB l = true) : (homeL l).map upC = cornerL l := by
  obtain ⟨q1, _⟩ := right_home hr
  unfold homeL cornerL
  rw [fromC_up (fun c hc => ⟨(q1 c hc).1, (q1 c hc).2.1⟩)]
  rfl
/-- sets whose box is not too wide -/
def Small (l : List (Int × Int)) : Prop := ∀ p ∈ l, p.1 - loX l l.length < 1099511627776 ∧ p.2 - (l.getD 0 (0, 0)).2 ≤ 1099511627776
theorem home_in {l : List (Int × Int)} (hr : rightB l = true) (hs : Small l) : ∀ c ∈ homeL l, c.1 < 1099511627776 ∧ c.2 ≤ 1099511627776 := by
  obtain ⟨q1, _⟩ := right_home hr
  exact fromC_within fun c hc => ⟨(q1 c hc).1, (q1 c hc).2.1, (hs c hc).1, (hs c hc).2⟩
theorem home_len (l : List (Int × Int)) : (homeL l).length = l.length := fromC_len _ _ _
theorem parse_home {l : List (Int × Int)} (hr : rightB l = true) (hs : Small l) (hl : (printL l).length ≤ 20000) : parseP (printL l) = (cornerL l, 0, 0) := by
  obtain ⟨q1, q2, q3, q4, q5, q6, q7, q8⟩ := right_home hr
  have h := parse_print (wideL l).toNat (highL l).toNat (by omega) (by omega) (homeL l) q4 (home_in hr hs) (by rw [home_len]; exact ((Cel.rightB_iff l).1 hr).1) hl
  rw [home_up hr] at h
  exact h
theorem printL_len {l : List (Int × Int)} (hr : rightB l = true) : (printL l).length ≤ 66 + 42 * l.length := by
  obtain ⟨q1, q2, q3, q4, q5, q6, q7, q8⟩ := right_home hr
  have h := print_len (wideL l).toNat (highL l).toNat (by omega) (by omega) (homeL l)
  rw [home_len] at h
  exact h
/-- a set of the laws' own -/
structure Own5 (l : List (Int × Int)) : Prop where
  right : rightB l = true
  len : l.length ≤ 60
  bd : ∀ c ∈ l, -800000 ≤ c.1 ∧ c.1 ≤ 700000 ∧ -8000000 ≤ c.2 ∧ c.2 ≤ 7000000
theorem own5_far (f : Bool) (raw : List (Int × Int)) : Own5 (farL f (Cel.rawSet raw)) := by
  have hl := Cel.rawSet_len raw
  have hb := rawSet_bd raw
  refine ⟨farL_right hb hl, Nat.le_trans (farL_len f _) hl, farL_bd hb⟩
theorem own5_raw (raw : List (Int × Int)) : Own5 (Cel.rawSet raw) := by
  have := own5_far false raw
  rwa [far_not (Cel.rawSet_rises raw)] at this
theorem Own5.corner {l : List (Int × Int)} (h : Own5 l) : -800000 ≤ loX l l.length ∧ loX l l.length ≤ 700000 ∧ -8000000 ≤ (l.getD 0 (0, 0)).2 ∧ (l.getD 0 (0, 0)).2 ≤ 7000000 := by
  by_cases h0 : l.length = 0
  · have : l = [] := List.eq_nil_of_length_eq_zero h0
    subst this
    decide
  · obtain ⟨j, hj, e⟩ := Cel.loX_hit (l := l) (by omega) (Nat.le_refl _)
    have h1 := h.bd _ (Cel.getD_mem hj)
    have h2 := h.bd _ (Cel.getD_mem (l := l) (k := 0) (by omega))
    omega
theorem Own5.small {l : List (Int × Int)} (h : Own5 l) : Small l := by
  have hc := h.corner
  intro p hp
  have := h.bd p hp
  omega
theorem Own5.short {l : List (Int × Int)} (h : Own5 l) : (printL l).length ≤ 2600 := by
  have h1 := printL_len h.right
  have h2 := h.len
  omega
theorem shift_in {l : List (Int × Int)} {dx dy : Int} (hr : rightB l = true) (h : ∀ c ∈ l, -1099511627776 ≤ c.1 + dx ∧ c.1 + dx ≤ 1099511627776 ∧ -1099511627776 ≤ c.2 + dy ∧ c.2 + dy ≤ 1099511627776) :
    Cel.shiftR l dx dy = (0, shL dx dy l) ∧ rightB (shL dx dy l) = true := by
  obtain ⟨h2000, hin, hrs⟩ := (Cel.rightB_iff l).1 hr
  have hall : ∀ p ∈ shL dx dy l, Cel.inB p = true := by
    intro p hp
    unfold shL at hp
    obtain ⟨q, hq, rfl⟩ := List.mem_map.1 hp
    rw [Cel.inB_iff]
    simp only
    have := h q hq
    omega
  have ha : (shL dx dy l).all Cel.inB = true := List.all_eq_true.2 hall
  refine ⟨by unfold Cel.shiftR; rw [if_pos hr, if_pos ha], ?_⟩
  rw [Cel.rightB_iff]
  refine ⟨by rw [Cel.length_shL]; exact h2000, hall, ?_⟩
  unfold Cel.Rises at hrs ⊢
  unfold shL
  rw [List.pairwise_map]
  refine List.Pairwise.imp (fun {a b} hab => ?_) hrs
  rw [Cel.lessB_iff] at hab ⊢
  simp only
  omega
theorem corner_in {l : List (Int × Int)} (hr : rightB l = true) (hs : Small l) : Cel.shiftR l (-(loX l l.length)) (-((l.getD 0 (0, 0)).2)) = (0, cornerL l) := by
  obtain ⟨q1, _⟩ := right_home hr
  exact (shift_in hr fun c hc => by
    have h1 := q1 c hc
    have h2 := hs c hc
    omega).1
end Go.Proofs.YtacpncmdgkljdaaGreatDoor
namespace Go.Proofs.YtacpncmdgkljdaaGreatDoor
set_option linter.unusedVariables false
set_option linter.unusedSimpArgs false
open Go.RowKit Go.Sort
open Cel (boxV noBox loX hiX shL rightB rawSet)

theorem refBoxed (A : Option Addr) (l : List (Int × Int)) (c : Nat) (w : World) (hR : Cel.Rd w w.heap.size A l) (hc : l.length ≤ c) (hr : rightB l = true) :
    Calls Tryz.prog 20 #[.slice A l.length c] w fun e w' => e = .returned (.tuple #[boxT l, .bool (decide ((0 : Int) < (l.length : Int)))]) ∧ Below w.heap.size w w' := by
  by_cases h0 : l.length = 0
  · have : l = [] := List.eq_nil_of_length_eq_zero h0
    subst this
    exact Cel.refBox_nil A c w
  · have h := Cel.refBox_any A l c w hR hc (by omega) hr
    have e : boxV l = boxT l := by unfold boxV boxT wideL highL; rw [if_neg h0, if_neg h0]
    rw [e] at h
    rw [decide_eq_true (by omega)]
    exact h
/-- a set is told -/
theorem print_reads {A : Option Addr} {l : List (Int × Int)} {c : Nat} {w : World} (hR : Cel.Rd w w.heap.size A l) (hc : l.length ≤ c) (hr : rightB l = true) (hT : Tab w) {S : ByteArray} (hS : str (printL l) = S) :
    Calls Tryz.prog 6 #[.slice A l.length c] w fun e w' => e = .returned (.tuple #[.string S, .int .i64 0]) ∧ Below w.heap.size w w' := by
  rw [← hS]; exact print_good A l c w hR hc hr hT

end Go.Proofs.YtacpncmdgkljdaaGreatDoor
namespace Go.Proofs.YtacpncmdgkljdaaGreatDoor
set_option linter.unusedVariables false
set_option linter.unusedSimpArgs false
open Go.RowKit Go.Sort

theorem byte_eq (t : UInt8) (n : Nat) (h : n < 256) : (t == UInt8.ofNat n) = ((t.toNat : Int) == (n : Int)) := by
  rw [Bool.eq_iff_iff, beq_iff_eq, beq_iff_eq, ← UInt8.toNat_inj]
  have : (UInt8.ofNat n).toNat = n := by simp; omega
  rw [this]
  omega
theorem refTag_any (t : UInt8) (w : World) : Calls Tryz.prog 44 #[.int .u8 t.toNat] w fun e w' => e = .returned (.bool (tagB t)) ∧ w = w' := by
  have h1 : (t == 98) = ((t.toNat : Int) == 98) := byte_eq t 98 (by decide)
  have h2 : (t == 111) = ((t.toNat : Int) == 111) := byte_eq t 111 (by decide)
  have h3 : (t == 36) = ((t.toNat : Int) == 36) := byte_eq t 36 (by decide)
  have hr : tagB t = (((t.toNat : Int) == 98) || ((t.toNat : Int) == 111) || ((t.toNat : Int) == 36)) := by unfold tagB; rw [h1, h2, h3]
  rw [hr]
  clear h1 h2 h3 hr
  generalize (t.toNat : Int) = n
  cases e1 : (n == 98)
  · cases e2 : (n == 111)
    · cases e3 : (n == 36)
      all_goals
        go_enter Tryz.func44, Tryz.ntmps44
        go_wp2
        all_goals go_ret
        all_goals exact ⟨rfl, rfl⟩
    · go_enter Tryz.func44, Tryz.ntmps44
      go_wp2
      all_goals go_ret
      all_goals exact ⟨rfl, rfl⟩
  · go_enter Tryz.func44, Tryz.ntmps44
    go_wp2
    all_goals go_ret
    all_goals exact ⟨rfl, rfl⟩
theorem refBlank_any (t : UInt8) (w : World) : Calls Tryz.prog 59 #[.int .u8 t.toNat] w fun e w' => e = .returned (.bool (blankB t)) ∧ w = w' := by
  have h1 : (t == 32) = ((t.toNat : Int) == 32) := byte_eq t 32 (by decide)
  have h2 : (t == 9) = ((t.toNat : Int) == 9) := byte_eq t 9 (by decide)
  have h3 : (t == 10) = ((t.toNat : Int) == 10) := byte_eq t 10 (by decide)
  have h4 : (t == 13) = ((t.toNat : Int) == 13) := byte_eq t 13 (by decide)
  have hr : blankB t = (((t.toNat : Int) == 32) || ((t.toNat : Int) == 9) || ((t.toNat : Int) == 10) || ((t.toNat : Int) == 13)) := by unfold blankB; rw [h1, h2, h3, h4]
  rw [hr]
  clear h1 h2 h3 h4 hr
  generalize (t.toNat : Int) = n
  cases e1 : (n == 32)
  · cases e2 : (n == 9)
    · cases e3 : (n == 10)
      · cases e4 : (n == 13)
        all_goals
          go_enter Tryz.func59, Tryz.ntmps59
          go_wp2
          all_goals go_ret
          all_goals exact ⟨rfl, rfl⟩
      · go_enter Tryz.func59, Tryz.ntmps59
        go_wp2
        all_goals go_ret
        all_goals exact ⟨rfl, rfl⟩
    · go_enter Tryz.func59, Tryz.ntmps59
      go_wp2
      all_goals go_ret
      all_goals exact ⟨rfl, rfl⟩
  · go_enter Tryz.func59, Tryz.ntmps59
    go_wp2
    all_goals go_ret
    all_goals exact ⟨rfl, rfl⟩
theorem refDigit_any (t : UInt8) (w : World) : Calls Tryz.prog 60 #[.int .u8 t.toNat] w fun e w' => e = .returned (.bool (digB t)) ∧ w = w' := by
  by_cases h1 : 48 ≤ t.toNat
  · have d1 : (48 : Int) ≤ (t.toNat : Int) := by omega
    by_cases h2 : t.toNat ≤ 57
    · have d2 : (t.toNat : Int) ≤ 57 := by omega
      have hr : digB t = true := (digB_iff t).2 ⟨h1, h2⟩
      rw [hr]
      go_enter Tryz.func60, Tryz.ntmps60
      go_wp2
      all_goals go_ret
      all_goals exact ⟨by first | rfl | (simp [*]; done), rfl⟩
    · have d2 : ¬ (t.toNat : Int) ≤ 57 := by omega
      have hr : digB t = false := by unfold digB; rw [decide_eq_true h1, decide_eq_false h2]; rfl
      rw [hr]
      go_enter Tryz.func60, Tryz.ntmps60
      go_wp2
      all_goals go_ret
      all_goals exact ⟨by first | rfl | (simp [*]; done), rfl⟩
  · have d1 : ¬ (48 : Int) ≤ (t.toNat : Int) := by omega
    have hr : digB t = false := by unfold digB; rw [decide_eq_false h1]; rfl
    rw [hr]
    go_enter Tryz.func60, Tryz.ntmps60
    go_wp2
    all_goals go_ret
    all_goals exact ⟨by first | rfl | (simp [*]; done), rfl⟩

theorem conv_byteR (x : UInt8) (w : World) : (convert 69 9 (.slice (some ⟨w.heap.size, 0, none⟩) 1 1)).run Tryz.prog (w.alloc (.cells #[.int .u8 x.toNat] 5)) = .ok (.string (str [x])) (w.alloc (.cells #[.int .u8 x.toNat] 5)) := by
  refine run_convert_bytes_back (P := Tryz.prog) _ 69 9 5 ⟨w.heap.size, 0, none⟩ 1 [x] Tryz.underlying69 Tryz.underlying5 Tryz.underlying9 fun j hj => ?_
  have hj0 : j = 0 := by simp at hj; omega
  subst hj0
  simp [Addr.add]

set_option maxHeartbeats 4000000 in
set_option maxRecDepth 100000 in
theorem refTextE_any (A : Option Addr) (l : List Ite) (c : Nat) (w : World) (hR : NowE w A l) (hl : l.length * 24 ≤ 140737488351232) (hw : ∀ x ∈ l, I64 x.2.1) :
    Calls Tryz.prog 23 #[.slice A l.length c] w (TextR l w) := by
  have HW := Lib.hid hw
  clear hw
  go_enter Tryz.func23, Tryz.ntmps23
  go_wp2
  go_loopw [3, 4] (fun s i wr => ∃ k : Nat, k ≤ l.length ∧ i = .int .i64 k ∧ s = .string (str (textE (l.take k))) ∧ Below w.heap.size w wr) (fun _ i _ => l.length - (intOf i).toNat)
  case atStart => exact ⟨0, Nat.zero_le _, rfl, rfl, Below.refl _ _⟩
  case round =>
    obtain ⟨k, hk, rfl, rfl, hb⟩ := hrel
    by_cases hlt : k < l.length
    · have hltz : (k : Int) < (l.length : Int) := by omega
      obtain ⟨b0, off, rfl, hbB, hcell⟩ := hR.at_ (by omega)
      have a0 := Qt.keep hb (hcell k hlt).1
      have a1 := Qt.keep hb (hcell k hlt).2.1
      have hsucc := textE_succ hlt
      have hx64 := HW.out (l.getD k noE) (getD_memE hlt)
      have htl := textE_take_len k hk
      obtain ⟨⟨t, n, p⟩, hx⟩ : ∃ x, x = l.getD k noE := ⟨_, rfl⟩
      rw [← hx] at a0 a1 hsucc hx64
      simp only at a0 a1 hx64
      have HS := Lib.hid hsucc
      have htg := fun W => refTag_any t W
      have hss := str_size (textE (l.take k))
      have hss2 : (str (textE (l.take k))).size ≤ 140737488351232 := by omega
      generalize hs0 : str (textE (l.take k)) = s at *
      have HS0 := Lib.hid hs0
      clear hcell hx hsucc hs0 hss htl
      cases hok : okE (t, n, p) with
      | false =>
        have he : textE (l.take (k + 1)) = textE (l.take k) := by rw [HS.out, itemE_no hok, List.append_nil]
        have hcase : tagB t = false ∨ (tagB t = true ∧ n < 1) ∨ (tagB t = true ∧ ¬ n < 1 ∧ 1099511627776 < n) := by
          unfold okE at hok
          cases hb : tagB t
          · exact .inl rfl
          · rw [hb] at hok
            simp only [Bool.true_and, Bool.and_eq_false_iff, decide_eq_false_iff_not] at hok
            simp only [reduceCtorEq, true_and, false_or]
            omega
        have HE := Lib.hid he
        clear hok he HS
        rcases hcase with h | ⟨h, h1⟩ | ⟨h, h1, h2⟩
        all_goals
          rw [h] at htg
          go_wp2_with fail
          refine (htg _).mono ?_
          rintro e w1 ⟨rfl, rfl⟩
          go_wp2
          go_roundw
          case measure => simp [intOf]; omega
          case rel => exact ⟨k + 1, by omega, by go_num, (by rw [HE.out, HS0.out]), hb⟩
      | true =>
        have hok3 := (okE_iff _).1 hok
        simp only at hok3
        rw [hok3.1] at htg
        have hn1 : ¬ n < 1 := by omega
        have hn2 : ¬ 1099511627776 < n := by omega
        have hsx : (str [t]).size = 1 := by rw [str_size]; rfl
        by_cases h1 : n = 1
        · subst h1
          have he : textE (l.take (k + 1)) = textE (l.take k) ++ [t] := by rw [HS.out, itemE_one hok rfl]
          have HE : Hid (str (textE (l.take (k + 1))) = s ++ str [t]) := by show _ = _; rw [he, ← str_append, HS0.out]
          have hcv := conv_byteR t wr
          have hba : Below w.heap.size w (wr.alloc (.cells #[.int .u8 t.toNat] 5)) := hb.alloc hb.size _
          clear hok he HS hok3
          generalize str [t] = sx at *
          go_wp2_with fail
          refine (htg _).mono ?_
          rintro e w1 ⟨rfl, rfl⟩
          go_wp2
          go_roundw
          case measure => simp [intOf]; omega
          case rel => exact ⟨k + 1, by omega, by go_num, (by rw [HE.out]), hba⟩
        · have he : textE (l.take (k + 1)) = textE (l.take k) ++ (txt n).data.toList ++ [t] := by rw [HS.out, itemE_many hok h1, List.append_assoc]; rfl
          have HE : Hid (str (textE (l.take (k + 1))) = s ++ txt n ++ str [t]) := by show _ = _; rw [he, ← str_append, ← str_append, HS0.out, str_list]
          have hts : (txt n).size ≤ 19 := txt_size n
          have hgt : 1 < n := by omega
          have hcv := fun W => conv_byteR t W
          clear hok he HS hok3 h1
          generalize str [t] = sx at *
          go_wp2_with fail
          refine (htg _).mono ?_
          rintro e w1 ⟨rfl, rfl⟩
          go_wp2_with fail
          refine (refText_any n _ hx64).mono ?_
          rintro e w2 ⟨rfl, hb2⟩
          have a0b := Qt.keep hb2 a0
          have hcv2 := hcv w2
          have hb3 := Qt.more hb hb.size hb2
          have hba : Below w.heap.size w (w2.alloc (.cells #[.int .u8 t.toNat] 5)) := hb3.alloc hb3.size _
          generalize txt n = tn at *
          have hz : (s ++ tn).size ≤ 140737488351300 := by rw [ByteArray.size_append]; omega
          clear hcv a0 a1 hb2 htg
          go_wp2
          go_roundw
          case measure => simp [intOf]; omega
          case rel => exact ⟨k + 1, by omega, by go_num, (by rw [HE.out]), hba⟩
    · have hltz : ¬ (k : Int) < (l.length : Int) := by omega
      have hfull : l.take k = l := List.take_of_length_le (by omega)
      rw [hfull]
      clear hfull
      go_wp2
      go_ret
      exact ⟨rfl, hb⟩

end Go.Proofs.YtacpncmdgkljdaaGreatDoor
namespace Go.Proofs.YtacpncmdgkljdaaGreatDoor
set_option linter.unusedVariables false
set_option linter.unusedSimpArgs false
open Go.RowKit Go.Sort
open Cel (boxV noBox loX hiX rightB)

theorem refPrint_bad (A : Option Addr) (l : List (Int × Int)) (c : Nat) (w : World) (hR : Cel.Rd w w.heap.size A l) (hl : l.length ≤ 1000000) (hc : l.length ≤ c) (hr : rightB l = false) :
    Calls Tryz.prog 7 #[.slice A l.length c] w fun e w' => e = .returned (.tuple #[.string (str []), .int .i64 1]) ∧ Below w.heap.size w w' := by
  have h := Cel.refRight_any A l c w hR hl hc
  rw [hr] at h
  go_enter Tryz.func7, Tryz.ntmps7
  go_wp2_with fail
  refine h.mono ?_
  rintro e w1 ⟨rfl, hb1⟩
  go_wp2
  go_ret2
  exact ⟨rfl, hb1⟩

/-- What is known within the loop: the box, where one stands, the items, of the call's own. -/
structure PrAt (w wr : World) (bx b_y wd ht px py : Int) (q : List Tn) (v : Value) : Prop where
  box : wr.heap[w.heap.size]? = some (.cells #[.int .i64 bx, .int .i64 b_y, .int .i64 wd, .int .i64 ht] 42 (0, 0))
  pos : wr.heap[w.heap.size + 1]? = some (.cells #[.int .i64 px, .int .i64 py] 37 (0, 0))
  own : OwnE wr (w.heap.size + 2) v (ups q)
  bel : Below w.heap.size w wr
section
variable {w wr w' : World} {bx b_y wd ht px py : Int} {q q' : List Tn} {v v' : Value}
theorem PrAt.size (h : PrAt w wr bx b_y wd ht px py q v) : w.heap.size + 2 ≤ wr.heap.size := lt_heap h.pos
theorem PrAt.below (h : PrAt w wr bx b_y wd ht px py q v) (hb : Below wr.heap.size wr w') : PrAt w w' bx b_y wd ht px py q v :=
  ⟨(hb.block _ (lt_heap h.box)).trans h.box, (hb.block _ (lt_heap h.pos)).trans h.pos, h.own.below hb, Qt.more h.bel h.bel.size hb⟩
theorem PrAt.moved (h : PrAt w wr bx b_y wd ht px py q v) (hM : MR (w.heap.size + 2) wr w') (hO : OwnE w' (w.heap.size + 2) v' (ups q')) : PrAt w w' bx b_y wd ht px py q' v' :=
  ⟨hM.row h.box (by decide), hM.row h.pos (by decide), hO, h.bel.trans (hM.1.mono (by omega))⟩
theorem PrAt.ne (h : PrAt w wr bx b_y wd ht px py q v) : v.ownBlock = none ∨ v.ownBlock ≠ some (w.heap.size + 1) := by
  cases hv : v.ownBlock with
  | none => exact .inl rfl
  | some g => exact .inr (fun h2 => by injection h2 with h2; have := (own_kind h.own g hv).1; omega)
theorem PrAt.set1 (h : PrAt w wr bx b_y wd ht px py q v) (x : Int) : PrAt w (wr.setCell ⟨w.heap.size + 1, 0, none⟩ (.int .i64 x)) bx b_y wd ht x py q v := by
  refine ⟨(Below.heap_setCell _ _ _ _ (by simp)).trans h.box, ?_, World.ownsRow.kept h.own (But.setCell 0 _) h.ne, h.bel.setCell (by show _ ≤ _ + 1; omega) _⟩
  have hp := h.pos
  simp [World.setCell, Array.getElem?_modify, hp]
theorem PrAt.set2 (h : PrAt w wr bx b_y wd ht px py q v) (x y : Int) : PrAt w ((wr.setCell ⟨w.heap.size + 1, 0, none⟩ (.int .i64 x)).setCell ⟨w.heap.size + 1, 1, none⟩ (.int .i64 y)) bx b_y wd ht x y q v := by
  have h1 := h.set1 x
  refine ⟨(Below.heap_setCell _ _ _ _ (by simp)).trans h1.box, ?_, World.ownsRow.kept h1.own (But.setCell 1 _) h1.ne, h1.bel.setCell (by show _ ≤ _ + 1; omega) _⟩
  have hp := h1.pos
  generalize wr.setCell ⟨w.heap.size + 1, 0, none⟩ (.int .i64 x) = wz at *
  simp [World.setCell, Array.getElem?_modify, hp]
theorem PrAt.b0 (h : PrAt w wr bx b_y wd ht px py q v) : wr.cell? ⟨w.heap.size, 0, none⟩ = some (.int .i64 bx) := by rw [Lib.cell_of_heap h.box]; rfl
theorem PrAt.b2 (h : PrAt w wr bx b_y wd ht px py q v) : wr.cell? ⟨w.heap.size, 2, none⟩ = some (.int .i64 wd) := by rw [Lib.cell_of_heap h.box]; rfl
theorem PrAt.b3 (h : PrAt w wr bx b_y wd ht px py q v) : wr.cell? ⟨w.heap.size, 3, none⟩ = some (.int .i64 ht) := by rw [Lib.cell_of_heap h.box]; rfl
theorem PrAt.c0 (h : PrAt w wr bx b_y wd ht px py q v) : wr.cell? ⟨w.heap.size + 1, 0, none⟩ = some (.int .i64 px) := by rw [Lib.cell_of_heap h.pos]; rfl
theorem PrAt.c1 (h : PrAt w wr bx b_y wd ht px py q v) : wr.cell? ⟨w.heap.size + 1, 1, none⟩ = some (.int .i64 py) := by rw [Lib.cell_of_heap h.pos]; rfl
theorem PrAt.f (h : PrAt w wr bx b_y wd ht px py q v) (j : Nat) : wr.frozen? ⟨w.heap.size + 1, j, none⟩ = false := Lib.frozen_of_heap h.pos j
end
/-- put, where one stands -/
theorem PrAt.put {w wr : World} {bx b_y wd ht px py : Int} {q : List Tn} {v : Value} (h : PrAt w wr bx b_y wd ht px py q v) (t : UInt8) (n : Nat) (hl : q.length ≤ 900000) (hq : ∀ x ∈ q, x.2 ≤ 4000000000000000000) (hn : n ≤ 4000000000000000000) :
    Calls Tryz.prog 21 #[v, .int .u8 t.toNat, .int .i64 n] wr fun e w' => ∃ v', e = .returned v' ∧ PrAt w w' bx b_y wd ht px py (putI q t n) v' :=
  (refPut_any q t n h.own h.size hl hq hn).mono fun e w' ⟨v', he, hO, hM⟩ => ⟨v', he, h.moved hM hO⟩
theorem prAt_0 (w : World) (bx b_y wd ht : Int) : PrAt w ((w.alloc (.cells #[.int .i64 bx, .int .i64 b_y, .int .i64 wd, .int .i64 ht] 42)).alloc (.cells #[.int .i64 bx, .int .i64 b_y] 37)) bx b_y wd ht bx b_y [] (.slice none 0 0) := by
  have hb1 : Below w.heap.size w (w.alloc (.cells #[.int .i64 bx, .int .i64 b_y, .int .i64 wd, .int .i64 ht] 42)) := (Below.refl _ _).alloc (Nat.le_refl _) _
  have hs1 : (w.alloc (.cells #[.int .i64 bx, .int .i64 b_y, .int .i64 wd, .int .i64 ht] 42)).heap.size = w.heap.size + 1 := by simp
  refine ⟨?_, ?_, World.ownsRow_nil _ _ _ _, hb1.alloc (by omega) _⟩
  · rw [Lib.alloc_old _ _ _ (by omega)]
    exact heap_alloc_new w _
  · rw [← hs1]
    exact heap_alloc_new (w.alloc (.cells #[.int .i64 bx, .int .i64 b_y, .int .i64 wd, .int .i64 ht] 42)) (.cells #[.int .i64 bx, .int .i64 b_y] 37)

/-- what is known of each cell, and of the items ahead of it -/
theorem steps_known {l : List (Int × Int)} {bx b_y : Int} (hb : ∀ p ∈ l, bx ≤ p.1 ∧ b_y ≤ p.2 ∧ p.1 - bx ≤ 3000000000000 ∧ p.2 - b_y ≤ 3000000000000) (hl : l.length ≤ 2000) (hr : (fromC bx b_y l).Pairwise lessN) {k : Nat} (h : k < l.length) :
    ∃ (q : List Tn) (x y cx cy : Nat), tellL ((fromC bx b_y l).take k) = (q, x, y) ∧ tellL ((fromC bx b_y l).take (k + 1)) = tellC (q, x, y) (cx, cy) ∧ (l.getD k (0, 0)).1 = bx + (cx : Int) ∧ (l.getD k (0, 0)).2 = b_y + (cy : Int) ∧ cx ≤ 3000000000000 ∧ cy ≤ 3000000000000 ∧
      y ≤ cy ∧ (y = cy → x ≤ cx) ∧ (∀ z ∈ q, z.2 ≤ 14000000000000000) ∧ q.length ≤ 6000 := by
  have hlen := fromC_len bx b_y l
  have hkL : k < (fromC bx b_y l).length := by omega
  have hm := hb _ (Cel.getD_mem h)
  have hg := fromC_get bx b_y l h hkL
  have hwh := tellL_where hr hkL
  refine ⟨(tellL ((fromC bx b_y l).take k)).1, (tellL ((fromC bx b_y l).take k)).2.1, (tellL ((fromC bx b_y l).take k)).2.2, (fromC bx b_y l)[k].1, (fromC bx b_y l)[k].2, rfl, ?_, ?_, ?_, ?_, ?_, hwh.1, hwh.2, ?_, ?_⟩
  · rw [List.take_succ_eq_append_getElem hkL, tellL_snoc]
  · rw [List.getD_eq_getElem?_getD, List.getElem?_eq_getElem h, Option.getD_some] at hm ⊢
    rw [hg]; simp only; omega
  · rw [List.getD_eq_getElem?_getD, List.getElem?_eq_getElem h, Option.getD_some] at hm ⊢
    rw [hg]; simp only; omega
  · rw [List.getD_eq_getElem?_getD, List.getElem?_eq_getElem h, Option.getD_some] at hm
    rw [hg]; simp only; omega
  · rw [List.getD_eq_getElem?_getD, List.getElem?_eq_getElem h, Option.getD_some] at hm
    rw [hg]; simp only; omega
  · have hkl : ((fromC bx b_y l).take k).length ≤ 2000 := by rw [List.length_take]; omega
    intro z hz
    have := tellL_bd ((fromC bx b_y l).take k) (fun c hc => by
      obtain ⟨j, hj, e⟩ := List.getElem_of_mem (List.mem_of_mem_take hc)
      rw [fromC_get bx b_y l (by omega) hj] at e
      have := hb _ (List.getElem_mem (show j < l.length by omega))
      rw [← e]
      simp only
      omega) z hz
    omega
  · have h1 := tellL_len ((fromC bx b_y l).take k)
    have hkl : ((fromC bx b_y l).take k).length ≤ 2000 := by rw [List.length_take]; omega
    omega
end Go.Proofs.YtacpncmdgkljdaaGreatDoor
