/-
  Texts that the claims of this seat share, part 10.
-/
import Derived.Test.YtacpncmdgkljdaaDoorB03
import Derived.Test.YtacpncmdgkljdaaDoorB07
import Derived.Test.YtacpncmdgkljdaaDoorB08
import Derived.Test.YtacpncmdgkljdaaDoorB09
import Derived.Test.YtacpncmdgkljdaaDoorB04
import Derived.Test.YtacpncmdgkljdaaDoorB06
import Derived.Test.YtacpncmdgkljdaaDoorRows
import Derived.ProofKit
import Derived.OpenShut
import Derived.ChangeOld
import Derived.Lay
import Derived.LaidMore
import Derived.MakeChecks
import Derived.SizedLaws
import Derived.Stop.Joined
import Derived.Stop.LaidErr
import Derived.Deep.Slices
import Derived.Deep.Fields
import Derived.HandedShaped
set_option linter.unusedVariables false
set_option linter.unusedSimpArgs false
namespace Go.Proofs.YtacpncmdgkljdaaDoor.Cel
open Go.RowKit Go.Sort

theorem eq_of_all {l m : List (Int × Int)} (hlen : l.length = m.length) (h : ∀ j, j < l.length → l.getD j (0, 0) = m.getD j (0, 0)) : l = m := by
  refine List.ext_getElem hlen fun j h1 h2 => ?_
  have := h j h1
  rwa [List.getD_eq_getElem?_getD, List.getD_eq_getElem?_getD, List.getElem?_eq_getElem h1, List.getElem?_eq_getElem h2] at this

theorem same_len (A A' : Option Addr) (n m c c' : Nat) (w : World) (hne : n ≠ m) :
    Calls Tryd.prog 15 #[.slice A n c, .slice A' m c'] w fun e w' => e = .returned (.bool false) ∧ Below w.heap.size w w' := by
  have hz : ((n : Int) == (m : Int)) = false := beq_eq_false_iff_ne.2 (by omega)
  have hz2 : ((n : Int) != (m : Int)) = true := by rw [bne, hz]; rfl
  go_enter Tryd.func15, Tryd.ntmps15
  go_wp2
  go_ret
  exact ⟨rfl, Below.refl _ _⟩

theorem same_any (A A' : Option Addr) (l m : List (Int × Int)) (c c' : Nat) (w : World) (hR : Rd w w.heap.size A l) (hR' : Rd w w.heap.size A' m) (hl : l.length ≤ 1000000) (hlm : l.length = m.length) :
    Calls Tryd.prog 15 #[.slice A l.length c, .slice A' l.length c'] w fun e w' => e = .returned (.bool (decide (l = m))) ∧ Below w.heap.size w w' := by
  generalize hr : decide (l = m) = r
  have HR := Lib.hid hr
  have HLM := Lib.hid hlm
  clear hr hlm
  go_enter Tryd.func15, Tryd.ntmps15
  go_wp2
  go_loopw [5] (fun i wr => ∃ k : Nat, k ≤ l.length ∧ i = .int .i64 k ∧ Hid (∀ j, j < k → l.getD j (0, 0) = m.getD j (0, 0)) ∧ Below w.heap.size w wr) (fun i _ => l.length - (intOf i).toNat)
  case atStart => exact ⟨0, Nat.zero_le _, rfl, (show Hid _ from fun j hj => absurd hj (Nat.not_lt_zero j)), Below.refl _ _⟩
  case round =>
    obtain ⟨k, hk, rfl, HK, hb⟩ := hrel
    by_cases hlt : k < l.length
    · have hltz : (k : Int) < (l.length : Int) := by omega
      obtain ⟨b, off, rfl, hbB, hcell⟩ := hR.at_ (by omega)
      obtain ⟨b2, off2, rfl, hbB2, hcell2⟩ := hR'.at_ (by have := HLM.out; omega)
      obtain ⟨⟨x, y⟩, hxy⟩ : ∃ p, p = l.getD k (0, 0) := ⟨_, rfl⟩
      obtain ⟨⟨cx, cy⟩, hcxy⟩ : ∃ p, p = m.getD k (0, 0) := ⟨_, rfl⟩
      obtain ⟨a0, a1⟩ := hcell k hlt
      obtain ⟨e0, e1⟩ := hcell2 k (by have := HLM.out; omega)
      rw [← hxy] at a0 a1
      rw [← hcxy] at e0 e1
      simp only at a0 a1 e0 e1
      have k0 := Qt.cell_in (Qt.keep hb a0)
      have k1 := Qt.cell_in (Qt.keep hb a1)
      have k2 := Qt.cell_in (Qt.keep hb e0)
      have k3 := Qt.cell_in (Qt.keep hb e1)
      have HXY := Lib.hid hxy
      have HCXY := Lib.hid hcxy
      clear hxy hcxy hcell hcell2 a0 a1 e0 e1
      have hcase : (x = cx ∧ y = cy) ∨ (x = cx ∧ ¬ y = cy) ∨ ¬ x = cx := by
        by_cases h1 : x = cx <;> by_cases h2 : y = cy <;> simp [h1, h2]
      rcases hcase with ⟨rfl, rfl⟩ | ⟨rfl, hy⟩ | hx
      · go_wp2
        refine Qt.below_all (by kernel_rfl) (by kernel_rfl) ?_
        repeat (go_big_quiet_step (fail))
        refine wpQuiet_nil ?_
        intro w1 hb1
        clear k0 k1 k2 k3
        go_wp2
        go_roundw
        case measure => simp [intOf]; omega
        case rel =>
          refine ⟨k + 1, by omega, by go_num, (show Hid _ from fun j hj => ?_), Qt.more hb hb.size hb1⟩
          by_cases hjk : j = k
          · subst hjk; rw [← HXY.out, ← HCXY.out]
          · exact HK.out j (by omega)
      all_goals
        have hne : l ≠ m := by
          intro e
          subst e
          have := HXY.out.trans HCXY.out.symm
          simp at this
          omega
        have HNE := Lib.hid hne
        clear hne
        go_wp2
        refine Qt.below_all (by kernel_rfl) (by kernel_rfl) ?_
        repeat (go_big_quiet_step (fail))
        refine wpQuiet_nil ?_
        intro w1 hb1
        clear k0 k1 k2 k3
        go_wp2
        go_ret
        exact ⟨by rw [← HR.out, decide_eq_false HNE.out]; rfl, Qt.more hb hb.size hb1⟩
    · have hltz : ¬ (k : Int) < (l.length : Int) := by omega
      have he : l = m := eq_of_all HLM.out fun j hj => HK.out j (by omega)
      have HE := Lib.hid he
      clear he
      go_wp2
      go_ret
      exact ⟨by rw [← HR.out, decide_eq_true HE.out]; rfl, hb⟩

/-- .. of slices that read as lists, whatever their places. -/
theorem same_holds {A A' : Option Addr} {l m : List (Int × Int)} {c c' : Nat} {w : World} (hR : Rd w w.heap.size A l) (hR' : Rd w w.heap.size A' m) (hl : l.length ≤ 1000000) :
    Calls Tryd.prog 15 #[.slice A l.length c, .slice A' m.length c'] w fun e w' => e = .returned (.bool (decide (l = m))) ∧ Below w.heap.size w w' := by
  by_cases h : l.length = m.length
  · have := same_any A A' l m c c' w hR hR' hl h
    rwa [← h]
  · rw [decide_eq_false fun e => h (congrArg List.length e)]
    exact same_len A A' _ _ c c' w h

end Go.Proofs.YtacpncmdgkljdaaDoor.Cel
namespace Go.Proofs.YtacpncmdgkljdaaDoor
set_option linter.unusedVariables false
set_option linter.unusedSimpArgs false
open Go.RowKit Go.Sort

def s5p : List UInt8 := [120, 32, 61, 32, 51, 44, 32, 121, 32, 61, 32, 50, 44, 32, 114, 117, 108, 101, 32, 61, 32, 66, 51, 47, 83, 50, 51, 10, 98, 50, 111, 36, 111, 33, 10]
def s5a : List UInt8 := [35, 67, 32, 120, 10, 120, 32, 61, 32, 48, 44, 32, 121, 32, 61, 32, 55, 10, 10, 32, 98, 111, 50, 36, 51, 111, 33, 120]
def s5b : List UInt8 := [35, 67, 32, 120, 10, 120, 32, 61, 32, 48, 44, 121, 32, 61, 32, 55, 10, 33]
def s5c : List UInt8 := [120, 32, 61, 32, 48, 44, 32, 121, 32, 61, 32, 55, 10, 98, 50, 120, 33]
def s5d : List UInt8 := [120, 32, 61, 32, 48, 44, 32, 121, 32, 61, 32, 55, 10, 98, 49, 48, 57, 57, 53, 49, 49, 54, 50, 55, 55, 55, 54, 111, 33]
theorem aw_right : Cel.rightB [(5, 5), (6, 5), (4, 6)] = true := by decide
theorem aw_p : printL [(5, 5), (6, 5), (4, 6)] = s5p := by
  have e1 : (wideL [(5, 5), (6, 5), (4, 6)]).toNat = 3 := by decide
  have e2 : (highL [(5, 5), (6, 5), (4, 6)]).toNat = 2 := by decide
  have e3 : homeL [(5, 5), (6, 5), (4, 6)] = [(1, 0), (2, 0), (0, 1)] := by decide
  have e4 : (tellL [(1, 0), (2, 0), (0, 1)]).1 = [(98, 1), (111, 2), (36, 1), (111, 1)] := by decide
  unfold printL printP
  rw [e1, e2, e3, e4]
  unfold headText
  rw [dec_small (by omega), dec_small (by omega)]
  simp [textL, itemsT, itemL, goodI, tagB, numL, dec_small]
  decide
theorem aw_a : parseP s5a = ([(1, 0), (0, 2), (1, 2), (2, 2)], 0, 0) := by kernel_rfl
theorem aw_b : parseP s5b = ([], 32, 5) := by kernel_rfl
theorem aw_c : parseP s5c = ([], 30, 14) := by kernel_rfl
theorem aw_d : parseP s5d = ([], 2, 14) := by kernel_rfl

set_option maxHeartbeats 4000000 in
set_option maxRecDepth 100000 in
theorem awake5_any (w : World) (hT : Tab w) (hM : Mx w) :
    Calls Tryd.prog 8 #[] w fun e w' => e = .returned (.bool true) ∧ Below w.heap.size w w' := by
  have hb0 : Below w.heap.size w (w.alloc (.cells #[.int .i64 5, .int .i64 5, .int .i64 6, .int .i64 5, .int .i64 4, .int .i64 6] 49)) := (Below.refl _ _).alloc (Nat.le_refl _) _
  have hRd : Cel.Rd (w.alloc (.cells #[.int .i64 5, .int .i64 5, .int .i64 6, .int .i64 5, .int .i64 4, .int .i64 6] 49)) (w.alloc (.cells #[.int .i64 5, .int .i64 5, .int .i64 6, .int .i64 5, .int .i64 4, .int .i64 6] 49)).heap.size (some ⟨w.heap.size, 0, none⟩) [(5, 5), (6, 5), (4, 6)] := fun j hj => by
    have h3 : j = 0 ∨ j = 1 ∨ j = 2 := by simp at hj; omega
    rcases h3 with rfl | rfl | rfl <;> exact ⟨w.heap.size, 0, rfl, by simp, by simp, by simp⟩
  have h1 : Calls Tryd.prog 13 #[.slice (some ⟨w.heap.size, 0, none⟩) 3 3] (w.alloc (.cells #[.int .i64 5, .int .i64 5, .int .i64 6, .int .i64 5, .int .i64 4, .int .i64 6] 49)) fun e w' => e = .returned (.tuple #[.string (str s5p), .int .i64 0]) ∧ Below (w.alloc (.cells #[.int .i64 5, .int .i64 5, .int .i64 6, .int .i64 5, .int .i64 4, .int .i64 6] 49)).heap.size (w.alloc (.cells #[.int .i64 5, .int .i64 5, .int .i64 6, .int .i64 5, .int .i64 4, .int .i64 6] 49)) w' := by
    have h := print_good (some ⟨w.heap.size, 0, none⟩) [(5, 5), (6, 5), (4, 6)] 3 _ hRd (by decide) aw_right (hT.below hb0)
    rw [aw_p] at h
    exact h
  have hp := fun (s : List UInt8) (hs : s.length ≤ 1000) W (hb : Below w.heap.size w W) => rleParse_any s W (by omega) (hM.below hb)
  have pa := hp s5a (by decide)
  have pb := hp s5b (by decide)
  have pc := hp s5c (by decide)
  have pd := hp s5d (by decide)
  rw [aw_a] at pa
  rw [aw_b] at pb
  rw [aw_c] at pc
  rw [aw_d] at pd
  unfold SetR at pa pb pc pd
  clear hp hRd
  go_enter Tryd.func8, Tryd.ntmps8
  go_wp2_with fail
  refine h1.mono ?_
  rintro e w1 ⟨rfl, hb1⟩
  have B1 := Qt.more hb0 hb0.size hb1
  clear h1 hb0 hb1
  go_wp2_with fail
  refine (pa _ B1).mono ?_
  rintro e w2 ⟨v2, rfl, ⟨A2, c2, rfl, hc2, hR2⟩, hb2⟩
  have B2 := Qt.more B1 B1.size hb2
  clear pa hb2 B1
  go_wp2_with fail
  refine (pb _ B2).mono ?_
  rintro e w3 ⟨v3, rfl, ⟨A3, c3, rfl, hc3, hR3⟩, hb3⟩
  have hR2 := (hR2.below hb3 (Nat.le_refl _)).more hb3.size
  have B3 := Qt.more B2 B2.size hb3
  clear pb hb3 B2 hR3
  go_wp2_with fail
  refine (pc _ B3).mono ?_
  rintro e w4 ⟨v4, rfl, ⟨A4, c4, rfl, hc4, hR4⟩, hb4⟩
  have hR2 := (hR2.below hb4 (Nat.le_refl _)).more hb4.size
  have B4 := Qt.more B3 B3.size hb4
  clear pc hb4 B3 hR4
  go_wp2_with fail
  refine (pd _ B4).mono ?_
  rintro e w5 ⟨v5, rfl, ⟨A5, c5, rfl, hc5, hR5⟩, hb5⟩
  have hR2 := (hR2.below hb5 (Nat.le_refl _)).more hb5.size
  have B5 := Qt.more B4 B4.size hb5
  clear pd hb5 B4 hR5
  obtain ⟨b, off, rfl, _, hcell⟩ := hR2.at_ (by decide)
  have a0 := (hcell 0 (by decide)).1
  have a1 := (hcell 0 (by decide)).2
  have a2 := (hcell 3 (by decide)).1
  have a3 := (hcell 3 (by decide)).2
  simp only [Nat.zero_mul, Nat.add_zero] at a0 a1
  clear hcell hR2
  have hs : str s5p = { data := #[120, 32, 61, 32, 51, 44, 32, 121, 32, 61, 32, 50, 44, 32, 114, 117, 108, 101, 32, 61, 32, 66, 51, 47, 83, 50, 51, 10, 98, 50, 111, 36, 111, 33, 10] } := rfl
  rw [hs]
  go_wp2
  trace_state
  go_ret
  exact ⟨rfl, B5⟩
end Go.Proofs.YtacpncmdgkljdaaDoor
namespace Go.Proofs.YtacpncmdgkljdaaDoor
set_option linter.unusedVariables false
set_option linter.unusedSimpArgs false
open Go.RowKit Go.Sort
open Cel (setL putL rawSet)

theorem rem3 (k : Nat) : (Int.tmod (k : Int) 3 == 1) = decide (k % 3 = 1) := by
  have e : Int.tmod (k : Int) 3 = ((k % 3 : Nat) : Int) := by
    rw [Int.tmod_eq_emod_of_nonneg (by omega)]
    omega
  rw [e, Bool.eq_iff_iff, beq_iff_eq, decide_eq_true_eq]
  omega
theorem rem3e (k : Nat) : (((k : Int) % 3) == 1) = decide (k % 3 = 1) := by
  rw [Bool.eq_iff_iff, beq_iff_eq, decide_eq_true_eq]
  omega
theorem farTo_setlen (f : Bool) (l : List (Int × Int)) (k : Nat) : (setL (farTo f l k)).length ≤ k := by
  have := Cel.length_setL (farTo f l k)
  rwa [farTo_len] at this
theorem rawSet_bd (raw : List (Int × Int)) : ∀ c ∈ rawSet raw, -8 ≤ c.1 ∧ c.1 ≤ 7 ∧ -8 ≤ c.2 ∧ c.2 ≤ 7 := fun c hc => Cel.rawTo_bd ((Cel.mem_setL _ _).1 hc)

set_option maxHeartbeats 8000000 in
set_option maxRecDepth 100000 in
theorem far_any (A : Option Addr) (raw : List (Int × Int)) (c : Nat) (far : Int) (w : World) (hR : Cel.Rd w w.heap.size A raw) (hl : raw.length ≤ 9223372036854775807) (hc : raw.length ≤ c) (hw : ∀ p ∈ raw, I64 p.1 ∧ I64 p.2) (hf : I64 far) :
    Calls Tryd.prog 9 #[.slice A raw.length c, .int .i64 far] w fun e w' => ∃ v, e = .returned v ∧ Cel.Reads w' v (farL (decide (pickI far 5 = 4)) (rawSet raw)) ∧ Below w.heap.size w w' := by
  have h1 := Cel.set_any A raw c w hR hl hc hw
  have hp := fun W => pick_any far 5 W hf.1 hf.2 (by omega) (by omega)
  have hsl := Cel.rawSet_len raw
  have hbd := rawSet_bd raw
  obtain ⟨p5, hp5⟩ : ∃ z, z = pickI far 5 := ⟨_, rfl⟩
  have hp5b := pickI_bd far 5 (by omega)
  rw [← hp5] at hp hp5b ⊢
  generalize rawSet raw = l at *
  have HBD := Lib.hid hbd
  have HF := Lib.hid (show farL (decide (p5 = 4)) l = setL (farTo (decide (p5 = 4)) l l.length) from rfl)
  have HSTEP := Lib.hid (fun k => far_step (decide (p5 = 4)) l k)
  have HCB := Lib.hid (fun k (hk : k < l.length) => farC_bd (f := decide (p5 = 4)) hbd hk)
  clear hbd hp5
  generalize farL (decide (p5 = 4)) l = FL at *
  go_enter Tryd.func9, Tryd.ntmps9
  go_wp2_with fail
  refine h1.mono ?_
  rintro e w1 ⟨v1, rfl, ⟨A1, c1, rfl, hc1, hR1⟩, hb1⟩
  have HR1 := Lib.hid hR1
  clear h1 hR1
  go_wp2
  go_loopw [6, 7] (fun u i wr => ∃ (k : Nat) (A2 : Option Addr) (c2 : Nat) (s : List (Int × Int)), k ≤ l.length ∧ i = .int .i64 k ∧ u = .slice A2 s.length c2 ∧ s.length ≤ c2 ∧ s.length ≤ k ∧ Hid (s = setL (farTo (decide (p5 = 4)) l k)) ∧ Hid (Cel.Rd wr wr.heap.size A2 s) ∧ Below w.heap.size w wr ∧ Below w1.heap.size w1 wr) (fun _ i _ => l.length - (intOf i).toNat)
  case atStart => exact ⟨0, none, 0, [], Nat.zero_le _, rfl, rfl, Nat.le_refl _, Nat.le_refl _, (rfl : _ = _), Cel.Rd.nil _ _ _, hb1, Below.refl _ _⟩
  case round =>
    obtain ⟨k, A2, c2, s, hk, rfl, rfl, hc2, hsk, HS, HRD, hb, hbw1⟩ := hrel
    by_cases hlt : k < l.length
    · have hltz : (k : Int) < (l.length : Int) := by omega
      obtain ⟨b, off, rfl, hbB, hcell⟩ := HR1.out.at_ (by omega)
      have a0 := Qt.keep hbw1 (hcell k hlt).1
      have a1 := Qt.keep hbw1 (hcell k hlt).2
      have hcb := HCB.out k hlt
      have hst := HSTEP.out k
      have hxb := HBD.out _ (Cel.getD_mem hlt)
      unfold farC at hcb hst
      obtain ⟨⟨x, y⟩, hxy⟩ : ∃ p, p = l.getD k (0, 0) := ⟨_, rfl⟩
      rw [← hxy] at a0 a1 hcb hst hxb
      simp only at a0 a1 hxb
      rw [← HS.out] at hst
      have hal : Below wr.heap.size wr (wr.alloc (.cells #[.int .i64 x, .int .i64 y] 49)) := (Below.refl _ _).alloc (Nat.le_refl _) _
      have hrow : (wr.alloc (.cells #[.int .i64 x, .int .i64 y] 49)).heap[wr.heap.size]? = some (.cells #[.int .i64 x, .int .i64 y] 49 (0, 0)) := heap_alloc_new wr _
      by_cases h4 : p5 = 4
      · by_cases h3 : k % 3 = 1
        · rw [if_pos ⟨by rw [decide_eq_true h4], h3⟩] at hst hcb
          simp only at hst hcb
          have HST := Lib.hid hst
          have hm : (Int.tmod (k : Int) 3 == 1) = true := by rw [rem3, decide_eq_true h3]
          have hm2 : (((k : Int) % 3) == 1) = true := by rw [rem3e, decide_eq_true h3]
          have hp4 : (p5 == 4) = true := by rw [beq_iff_eq]; exact h4
          have k0 := Lib.cell_of_heap hrow
          have f0 : (wr.alloc (.cells #[.int .i64 x, .int .i64 y] 49)).frozen? ⟨wr.heap.size, 0, none⟩ = false := Lib.frozen_of_heap hrow 0
          have f1 : (wr.alloc (.cells #[.int .i64 x, .int .i64 y] 49)).frozen? ⟨wr.heap.size, 1, none⟩ = false := Lib.frozen_of_heap hrow 1
          have hW : Below wr.heap.size wr (wr.alloc (.cells #[.int .i64 (x * 100000), .int .i64 (y * 1000000)] 49)) := (Below.refl _ _).alloc (Nat.le_refl _) _
          have hrowW : (wr.alloc (.cells #[.int .i64 (x * 100000), .int .i64 (y * 1000000)] 49)).heap[wr.heap.size]? = some (.cells #[.int .i64 (x * 100000), .int .i64 (y * 1000000)] 49 (0, 0)) := heap_alloc_new wr _
          clear hst h4 h3
          go_wp2_with fail
          refine (hp _).mono ?_
          rintro e w2 ⟨rfl, rfl⟩
          have HB := Lib.hid hW
          have d0 := Lib.cell_of_heap hrowW 0
          have d1 := Lib.cell_of_heap hrowW 1
          have k00 := k0 0
          have k01 := k0 1
          clear k0 hrow hrowW hW
          go_wp2_with fail
          have hput := Cel.put_any A2 s c2 (x * 100000, y * 1000000) (wr.alloc (.cells #[.int .i64 (x * 100000), .int .i64 (y * 1000000)] 49)) ((HRD.out.below HB.out (Nat.le_refl _)).more HB.out.size) (by omega) hc2
          rw [← HST.out] at hput
          refine hput.mono ?_
          rintro e w5 ⟨v5, rfl, hown5, hb5⟩
          have hb05 := Qt.more (Qt.more hb hb.size HB.out) (Nat.le_trans hb.size HB.out.size) hb5
          have hb15 := Qt.more (Qt.more hbw1 hbw1.size HB.out) (Nat.le_trans hbw1.size HB.out.size) hb5
          obtain ⟨A5, c5, rfl, hc5, hR5⟩ := hown5.rd
          have hlen5 := farTo_setlen (decide (p5 = 4)) l (k + 1)
          generalize hz : setL (farTo (decide (p5 = 4)) l (k + 1)) = z at *
          have HZ := Lib.hid hz.symm
          have HR5 := Lib.hid hR5
          clear hput hown5 hb5 hz hR5
          go_wp2
          go_roundw
          case measure => simp [intOf]; omega
          case rel => exact ⟨k + 1, A5, c5, z, by omega, by go_num, rfl, hc5, by omega, HZ, HR5, hb05, hb15⟩
        · rw [if_neg (fun e => h3 e.2)] at hst hcb
          have HST := Lib.hid hst
          have hm2 : (((k : Int) % 3) == 1) = false := by rw [rem3e, decide_eq_false h3]
          have hp4 : (p5 == 4) = true := by rw [beq_iff_eq]; exact h4
          have k00 := Lib.cell_of_heap hrow 0
          have k01 := Lib.cell_of_heap hrow 1
          have HB := Lib.hid hal
          clear hst hrow hal
          go_wp2_with fail
          refine (hp _).mono ?_
          rintro e w2 ⟨rfl, rfl⟩
          go_wp2_with fail
          have hput := Cel.put_any A2 s c2 (x, y) (wr.alloc (.cells #[.int .i64 x, .int .i64 y] 49)) ((HRD.out.below HB.out (Nat.le_refl _)).more HB.out.size) (by omega) hc2
          rw [← HST.out] at hput
          refine hput.mono ?_
          rintro e w5 ⟨v5, rfl, hown5, hb5⟩
          have hb05 := Qt.more (Qt.more hb hb.size HB.out) (Nat.le_trans hb.size HB.out.size) hb5
          have hb15 := Qt.more (Qt.more hbw1 hbw1.size HB.out) (Nat.le_trans hbw1.size HB.out.size) hb5
          obtain ⟨A5, c5, rfl, hc5, hR5⟩ := hown5.rd
          have hlen5 := farTo_setlen (decide (p5 = 4)) l (k + 1)
          generalize hz : setL (farTo (decide (p5 = 4)) l (k + 1)) = z at *
          have HZ := Lib.hid hz.symm
          have HR5 := Lib.hid hR5
          clear hput hown5 hb5 hz hR5
          go_wp2
          go_roundw
          case measure => simp [intOf]; omega
          case rel => exact ⟨k + 1, A5, c5, z, by omega, by go_num, rfl, hc5, by omega, HZ, HR5, hb05, hb15⟩
      · rw [if_neg (fun e => h4 (of_decide_eq_true e.1))] at hst hcb
        have HST := Lib.hid hst
        have hp4 : (p5 == 4) = false := by rw [beq_eq_false_iff_ne]; exact h4
        have k00 := Lib.cell_of_heap hrow 0
        have k01 := Lib.cell_of_heap hrow 1
        have HB := Lib.hid hal
        clear hst hrow hal
        go_wp2_with fail
        refine (hp _).mono ?_
        rintro e w2 ⟨rfl, rfl⟩
        go_wp2_with fail
        have hput := Cel.put_any A2 s c2 (x, y) (wr.alloc (.cells #[.int .i64 x, .int .i64 y] 49)) ((HRD.out.below HB.out (Nat.le_refl _)).more HB.out.size) (by omega) hc2
        rw [← HST.out] at hput
        refine hput.mono ?_
        rintro e w5 ⟨v5, rfl, hown5, hb5⟩
        have hb05 := Qt.more (Qt.more hb hb.size HB.out) (Nat.le_trans hb.size HB.out.size) hb5
        have hb15 := Qt.more (Qt.more hbw1 hbw1.size HB.out) (Nat.le_trans hbw1.size HB.out.size) hb5
        obtain ⟨A5, c5, rfl, hc5, hR5⟩ := hown5.rd
        have hlen5 := farTo_setlen (decide (p5 = 4)) l (k + 1)
        generalize hz : setL (farTo (decide (p5 = 4)) l (k + 1)) = z at *
        have HZ := Lib.hid hz.symm
        have HR5 := Lib.hid hR5
        clear hput hown5 hb5 hz hR5
        go_wp2
        go_roundw
        case measure => simp [intOf]; omega
        case rel => exact ⟨k + 1, A5, c5, z, by omega, by go_num, rfl, hc5, by omega, HZ, HR5, hb05, hb15⟩
    · have hltz : ¬ (k : Int) < (l.length : Int) := by omega
      obtain rfl : k = l.length := by omega
      have he : s = FL := by rw [HS.out, HF.out]
      have HE := Lib.hid he
      clear hlt hk
      go_wp2
      go_ret
      refine ⟨_, rfl, ⟨A2, c2, ?_, ?_, ?_⟩, hb⟩
      · rw [← HE.out]; rfl
      · rw [← HE.out]; exact hc2
      · rw [← HE.out]; exact HRD.out
end Go.Proofs.YtacpncmdgkljdaaDoor
namespace Go.Proofs.YtacpncmdgkljdaaDoor
set_option linter.unusedVariables false
set_option linter.unusedSimpArgs false
open Go.RowKit Go.Sort
open Cel (boxV noBox loX hiX shL rightB)

theorem loX_sh (dx dy : Int) {l : List (Int × Int)} (h0 : 0 < l.length) : ∀ k, k ≤ l.length → loX (shL dx dy l) k = loX l k + dx := by
  intro k
  induction k with
  | zero => intro _; rw [Cel.loX_zero, Cel.loX_zero, Cel.getD_shL _ _ _ h0]
  | succ k ih =>
    intro hk
    rw [Cel.loX_succ (by rw [Cel.length_shL]; omega), Cel.loX_succ (by omega), ih (by omega), Cel.getD_shL _ _ _ (by omega)]
    simp only
    omega
theorem hiX_sh (dx dy : Int) {l : List (Int × Int)} (h0 : 0 < l.length) : ∀ k, k ≤ l.length → hiX (shL dx dy l) k = hiX l k + dx := by
  intro k
  induction k with
  | zero => intro _; rw [Cel.hiX_zero, Cel.hiX_zero, Cel.getD_shL _ _ _ h0]
  | succ k ih =>
    intro hk
    rw [Cel.hiX_succ (by rw [Cel.length_shL]; omega), Cel.hiX_succ (by omega), ih (by omega), Cel.getD_shL _ _ _ (by omega)]
    simp only
    omega
theorem printL_sh (dx dy : Int) (l : List (Int × Int)) : printL (shL dx dy l) = printL l := by
  by_cases h0 : l.length = 0
  · have : l = [] := List.eq_nil_of_length_eq_zero h0
    subst this
    rfl
  · have hp : 0 < l.length := by omega
    have e1 : wideL (shL dx dy l) = wideL l := by
      unfold wideL
      rw [Cel.length_shL, if_neg h0, if_neg h0, hiX_sh dx dy hp _ (Nat.le_refl _), loX_sh dx dy hp _ (Nat.le_refl _)]
      omega
    have e2 : highL (shL dx dy l) = highL l := by
      unfold highL
      rw [Cel.length_shL, if_neg h0, if_neg h0, Cel.getD_shL _ _ _ (by omega), Cel.getD_shL _ _ _ (by omega)]
      simp only
      omega
    have e3 : homeL (shL dx dy l) = homeL l := by
      unfold homeL
      rw [Cel.length_shL, loX_sh dx dy hp _ (Nat.le_refl _), Cel.getD_shL _ _ _ hp]
      exact fromC_shift _ _ dx dy l
    unfold printL
    rw [e1, e2, e3]

/-- the set from its box's corner on -/
def cornerL (l : List (Int × Int)) : List (Int × Int) := shL (-(loX l l.length)) (-((l.getD 0 (0, 0)).2)) l
theorem home_up {l : List (Int × Int)} (hr : rightB l = true) : (homeL l).map upC = cornerL l := by
  obtain ⟨q1, _⟩ := right_home hr
  unfold homeL cornerL
  rw [fromC_up (fun c hc => ⟨(q1 c hc).1, (q1 c hc).2.1⟩)]
  rfl
/-- sets whose box is not too wide -/
def Small (l : List (Int × Int)) : Prop := ∀ p ∈ l, p.1 - loX l l.length < 1099511627776 ∧ p.2 - (l.getD 0 (0, 0)).2 ≤ 1099511627776
theorem home_in {l : List (Int × Int)} (hr : rightB l = true) (hs : Small l) : ∀ c ∈ homeL l, c.1 < 1099511627776 ∧ c.2 ≤ 1099511627776 := by
  obtain ⟨q1, _⟩ := right_home hr
  exact fromC_within fun c hc => ⟨(q1 c hc).1, (q1 c hc).2.1, (hs c hc).1, (hs c hc).2⟩
theorem home_len (l : List (Int × Int)) : (homeL l).length = l.length := fromC_len _ _ _
theorem parse_home {l : List (Int × Int)} (hr : rightB l = true) (hs : Small l) (hl : (printL l).length ≤ 20000) : parseP (printL l) = (cornerL l, 0, 0) := by
  obtain ⟨q1, q2, q3, q4, q5, q6, q7, q8⟩ := right_home hr
  have h := parse_print (wideL l).toNat (highL l).toNat (by omega) (by omega) (homeL l) q4 (home_in hr hs) (by rw [home_len]; exact ((Cel.rightB_iff l).1 hr).1) hl
  rw [home_up hr] at h
  exact h
theorem printL_len {l : List (Int × Int)} (hr : rightB l = true) : (printL l).length ≤ 66 + 42 * l.length := by
  obtain ⟨q1, q2, q3, q4, q5, q6, q7, q8⟩ := right_home hr
  have h := print_len (wideL l).toNat (highL l).toNat (by omega) (by omega) (homeL l)
  rw [home_len] at h
  exact h
/-- a set of the laws' own -/
structure Own5 (l : List (Int × Int)) : Prop where
  right : rightB l = true
  len : l.length ≤ 60
  bd : ∀ c ∈ l, -800000 ≤ c.1 ∧ c.1 ≤ 700000 ∧ -8000000 ≤ c.2 ∧ c.2 ≤ 7000000
theorem own5_far (f : Bool) (raw : List (Int × Int)) : Own5 (farL f (Cel.rawSet raw)) := by
  have hl := Cel.rawSet_len raw
  have hb := rawSet_bd raw
  refine ⟨farL_right hb hl, Nat.le_trans (farL_len f _) hl, farL_bd hb⟩
theorem own5_raw (raw : List (Int × Int)) : Own5 (Cel.rawSet raw) := by
  have := own5_far false raw
  rwa [far_not (Cel.rawSet_rises raw)] at this
theorem Own5.corner {l : List (Int × Int)} (h : Own5 l) : -800000 ≤ loX l l.length ∧ loX l l.length ≤ 700000 ∧ -8000000 ≤ (l.getD 0 (0, 0)).2 ∧ (l.getD 0 (0, 0)).2 ≤ 7000000 := by
  by_cases h0 : l.length = 0
  · have : l = [] := List.eq_nil_of_length_eq_zero h0
    subst this
    decide
  · obtain ⟨j, hj, e⟩ := Cel.loX_hit (l := l) (by omega) (Nat.le_refl _)
    have h1 := h.bd _ (Cel.getD_mem hj)
    have h2 := h.bd _ (Cel.getD_mem (l := l) (k := 0) (by omega))
    omega
theorem Own5.small {l : List (Int × Int)} (h : Own5 l) : Small l := by
  have hc := h.corner
  intro p hp
  have := h.bd p hp
  omega
theorem Own5.short {l : List (Int × Int)} (h : Own5 l) : (printL l).length ≤ 2600 := by
  have h1 := printL_len h.right
  have h2 := h.len
  omega
theorem shift_in {l : List (Int × Int)} {dx dy : Int} (hr : rightB l = true) (h : ∀ c ∈ l, -1099511627776 ≤ c.1 + dx ∧ c.1 + dx ≤ 1099511627776 ∧ -1099511627776 ≤ c.2 + dy ∧ c.2 + dy ≤ 1099511627776) :
    Cel.shiftR l dx dy = (0, shL dx dy l) ∧ rightB (shL dx dy l) = true := by
  obtain ⟨h2000, hin, hrs⟩ := (Cel.rightB_iff l).1 hr
  have hall : ∀ p ∈ shL dx dy l, Cel.inB p = true := by
    intro p hp
    unfold shL at hp
    obtain ⟨q, hq, rfl⟩ := List.mem_map.1 hp
    rw [Cel.inB_iff]
    simp only
    have := h q hq
    omega
  have ha : (shL dx dy l).all Cel.inB = true := List.all_eq_true.2 hall
  refine ⟨by unfold Cel.shiftR; rw [if_pos hr, if_pos ha], ?_⟩
  rw [Cel.rightB_iff]
  refine ⟨by rw [Cel.length_shL]; exact h2000, hall, ?_⟩
  unfold Cel.Rises at hrs ⊢
  unfold shL
  rw [List.pairwise_map]
  refine List.Pairwise.imp (fun {a b} hab => ?_) hrs
  rw [Cel.lessB_iff] at hab ⊢
  simp only
  omega
theorem corner_in {l : List (Int × Int)} (hr : rightB l = true) (hs : Small l) : Cel.shiftR l (-(loX l l.length)) (-((l.getD 0 (0, 0)).2)) = (0, cornerL l) := by
  obtain ⟨q1, _⟩ := right_home hr
  exact (shift_in hr fun c hc => by
    have h1 := q1 c hc
    have h2 := hs c hc
    omega).1
end Go.Proofs.YtacpncmdgkljdaaDoor
namespace Go.Proofs.YtacpncmdgkljdaaDoor
open Go.ChangeShapes Go.WideShapes Go.ChangeAt Go.RowKit Go.Deep

theorem own : ownKnob Tryd.prog.godebug = none := by kernel_rfl
theorem laidOut : laidOutB Tryd.prog = true := by kernel_rfl

theorem i64_of_wf {a : Int} (h : (Lit.int .i64 a).wf = true) : I64 a := by
  have : IntKind.i64.min ≤ a ∧ a ≤ IntKind.i64.max := by simpa [Lit.wf] using h
  simpa [I64, IntKind.min, IntKind.max, IntKind.signed, IntKind.bits] using this
theorem u8_of_wf {a : Int} (h : (Lit.int .u8 a).wf = true) : ∃ t : UInt8, a = (t.toNat : Int) := by
  have : IntKind.u8.min ≤ a ∧ a ≤ IntKind.u8.max := by simpa [Lit.wf] using h
  have h2 : 0 ≤ a ∧ a ≤ 255 := by simpa [IntKind.min, IntKind.max, IntKind.signed, IntKind.bits] using this
  refine ⟨UInt8.ofNat a.toNat, ?_⟩
  have : (UInt8.ofNat a.toNat).toNat = a.toNat := by simp; omega
  omega

/-- The rows' own list. -/
def laidList : List (String × DataW Unit) := Rows.rleBackRow.laid

theorem laid_shaped (os : Os) : (World.laidAll Tryd.prog os laidList).Shaped Tryd.prog := World.shaped_of_ZipB (by kernel_rfl) (by kernel_rfl)
theorem laid_met (os : Os) (args : Array Value) : laidMetH Tryd.prog laidList ((World.laidAll Tryd.prog os laidList).forCall (fun _ _ => 0) ⟨#[], args, []⟩).memory := by
  rw [MakeChecks.laidMetH_plain _ _ _ (by kernel_rfl)]
  exact laidMet_laidAll _ (by kernel_rfl) (by kernel_rfl)

theorem tab_of_laid {W : World} (h : laidMetH Tryd.prog laidList W) : Tab W := by
  rw [MakeChecks.laidMetH_plain _ _ _ (by kernel_rfl)] at h
  have h2 := h.tail.tail
  have e : (Rows.laid_internal_strconv_uint64pow10 : DataW Unit) = Lib.tabData .u64 Lib.pow10Tab := by kernel_rfl
  have h3 : laidMet Tryd.prog ((tabName, Lib.tabData .u64 Lib.pow10Tab) :: laidList.drop 3) W := by rw [← e]; exact h2
  exact Lib.tabIs_of_head (P := Tryd.prog) (g := 1) (t := 133) (e := 120) (n := 20) (by kernel_rfl) (by kernel_rfl) (by kernel_rfl) (by kernel_rfl) (by kernel_rfl) (by kernel_rfl) h3

section
variable {H : Type} {enc : TypeId × Value → H} {w : World} {base : Nat} {spare : Nat → Bool} {held : Bool}
theorem exists_listA {α : Type} (d : α) {n : Nat} {Q : Nat → α → Prop} (h : ∀ i, i < n → ∃ p, Q i p) : ∃ l : List α, l.length = n ∧ ∀ i, i < n → Q i (l.getD i d) := by
  induction n with
  | zero => exact ⟨[], rfl, fun i hi => absurd hi (Nat.not_lt_zero i)⟩
  | succ n ih =>
    obtain ⟨l, hl, hq⟩ := ih fun i hi => h i (by omega)
    obtain ⟨p, hp⟩ := h n (by omega)
    refine ⟨l ++ [p], by simp [hl], fun i hi => ?_⟩
    by_cases hin : i < n
    · rw [List.getD_eq_getElem?_getD, List.getElem?_append_left (by omega), ← List.getD_eq_getElem?_getD]
      exact hq i hin
    · have : i = n := by omega
      subst this
      rw [List.getD_eq_getElem?_getD, List.getElem?_append_right (by omega), hl]
      simpa using hp
theorem open_nums {P : Program} {t e : TypeId} {fuel : Nat} {a0 : Option Addr} {len0 cap0 : Nat} {x : DataW H × List MemPlace} (ht : P.underlying t = some (.slice e)) (he : P.underlying e = some (.int .i64)) (h1 : P.cellsOf e = 1) (h : DataW.trod enc P w base spare held fuel t [.slice a0 len0 cap0] = some x) :
    ∃ l : List Int, l.length = len0 ∧ len0 ≤ cap0 ∧ cap0 ≤ maxLen ∧ Rd w w.heap.size a0 l ∧ ∀ p ∈ l, I64 p := by
  rcases open_slice ht h with ⟨hcs, _⟩ | ⟨a, len, cap, m, n, D, Pl, hcs, hb, hl, hm, hmm, _, hi⟩
  · simp at hcs
    obtain ⟨rfl, rfl, rfl⟩ := hcs
    exact ⟨[], rfl, Nat.le_refl _, by simp [maxLen], Rd.nil _ _ _, fun p hp => by cases hp⟩
  · simp at hcs
    obtain ⟨rfl, rfl, rfl⟩ := hcs
    have hlm : len0 ≤ m := by rw [hmm]; split <;> omega
    have hq : ∀ i, i < len0 → ∃ p : Int, w.cell? (a.add i) = some (.int .i64 p) ∧ I64 p := by
      intro i hi'
      obtain ⟨cs', hc, ht'⟩ := hi i (by omega)
      rw [h1] at hc
      obtain ⟨u, hu, _, wu⟩ := DataW.trod_int he ht'
      subst hu
      obtain ⟨_, _, hat⟩ := World.cells?_some hc
      have h0 := hat 0 (by omega)
      refine ⟨u, ?_, i64_of_wf wu⟩
      simpa [Addr.add] using h0
    obtain ⟨l, hll, hlq⟩ := exists_listA 0 hq
    refine ⟨l, hll, hl, hm, fun j hj => ?_, fun p hp => ?_⟩
    · obtain ⟨c0, _⟩ := hlq j (by omega)
      obtain ⟨b, off, spot⟩ := a
      have hspot : spot = none := by
        have := (hlq 0 (by omega)).1
        simpa [Addr.add] using World.cell?_spot this
      subst hspot
      rw [Addr.add_lit] at c0
      exact ⟨b, off, rfl, block_lt_of_cell c0, c0⟩
    · obtain ⟨j, hj, rfl⟩ := List.getElem_of_mem hp
      have := (hlq j (by omega)).2
      rwa [List.getD_eq_getElem?_getD, List.getElem?_eq_getElem hj] at this

/-- An element of two cells, each a number. -/
def TwoInts (P : Program) (e : TypeId) : Prop := P.cellsOf e = 2 ∧ ∀ {H : Type} {enc : TypeId × Value → H} {w : World} {base : Nat} {spare : Nat → Bool} {held : Bool} (n : Nat) (cs : List Value) (y : DataW H × List MemPlace), DataW.trod enc P w base spare held n e cs = some y → ∃ a b, cs = [.int .i64 a, .int .i64 b] ∧ I64 a ∧ I64 b
theorem two_array {P : Program} {e t : TypeId} (he : P.underlying e = some (.array 2 t)) (ht : P.underlying t = some (.int .i64)) (h2 : P.cellsOf e = 2) (h1 : P.cellsOf t = 1) : TwoInts P e := by
  refine ⟨h2, fun n cs y h => ?_⟩
  obtain ⟨xs, m, _, _, hlen, hxl, hx⟩ := DataW.trod_array he h
  rw [h2] at hlen
  obtain ⟨a, b, rfl⟩ : ∃ a b, cs = [a, b] := by
    match cs, hlen with
    | [a, b], _ => exact ⟨a, b, rfl⟩
  have x0 := hx 0 (by omega)
  have x1 := hx 1 (by omega)
  rw [h1] at x0 x1
  rw [List.getElem?_eq_getElem (by omega)] at x0 x1
  obtain ⟨u, hu, _, wu⟩ := DataW.trod_int ht x0
  obtain ⟨v, hv, _, wv⟩ := DataW.trod_int ht x1
  simp at hu hv
  exact ⟨u, v, by rw [hu, hv], i64_of_wf wu, i64_of_wf wv⟩
theorem open_pairs {P : Program} {t e : TypeId} {fuel : Nat} {a0 : Option Addr} {len0 cap0 : Nat} {x : DataW H × List MemPlace} (ht : P.underlying t = some (.slice e)) (he : TwoInts P e) (h : DataW.trod enc P w base spare held fuel t [.slice a0 len0 cap0] = some x) :
    ∃ l : List (Int × Int), l.length = len0 ∧ len0 ≤ cap0 ∧ cap0 ≤ maxLen ∧ RdP w w.heap.size a0 l ∧ ∀ p ∈ l, I64 p.1 ∧ I64 p.2 := by
  rcases open_slice ht h with ⟨hcs, _⟩ | ⟨a, len, cap, m, n, D, Pl, hcs, hb, hl, hm, hmm, _, hi⟩
  · simp at hcs
    obtain ⟨rfl, rfl, rfl⟩ := hcs
    exact ⟨[], rfl, Nat.le_refl _, by simp [maxLen], RdP.nil _ _ _, fun p hp => by cases hp⟩
  · simp at hcs
    obtain ⟨rfl, rfl, rfl⟩ := hcs
    have hlm : len0 ≤ m := by rw [hmm]; split <;> omega
    have hq : ∀ i, i < len0 → ∃ p : Int × Int, (w.cell? (a.add (i * 2)) = some (.int .i64 p.1) ∧ w.cell? ((a.add (i * 2)).add 1) = some (.int .i64 p.2)) ∧ I64 p.1 ∧ I64 p.2 := by
      intro i hi'
      obtain ⟨cs', hc, ht'⟩ := hi i (by omega)
      rw [he.1] at hc
      obtain ⟨u, v, rfl, wu, wv⟩ := he.2 _ _ _ ht'
      obtain ⟨_, _, hat⟩ := World.cells?_some hc
      have h0 := hat 0 (by omega)
      have h1 := hat 1 (by omega)
      refine ⟨(u, v), ⟨?_, ?_⟩, wu, wv⟩
      · simpa [Addr.add] using h0
      · simpa using h1
    obtain ⟨l, hll, hlq⟩ := exists_listA (0, 0) hq
    refine ⟨l, hll, hl, hm, fun j hj => ?_, fun p hp => ?_⟩
    · obtain ⟨⟨c0, c1⟩, _⟩ := hlq j (by omega)
      obtain ⟨b, off, spot⟩ := a
      have hspot : spot = none := by
        have := (hlq 0 (by omega)).1.1
        simpa [Addr.add] using World.cell?_spot this
      subst hspot
      rw [Addr.add_lit] at c0 c1
      rw [Addr.add_lit] at c1
      exact ⟨b, off, rfl, block_lt_of_cell c0, c0, c1⟩
    · obtain ⟨j, hj, rfl⟩ := List.getElem_of_mem hp
      have := (hlq j (by omega)).2
      rwa [List.getD_eq_getElem?_getD, List.getElem?_eq_getElem hj] at this

/-- An element of three cells: a byte, two numbers. -/
def ByteInts (P : Program) (e : TypeId) : Prop := P.cellsOf e = 3 ∧ ∀ {H : Type} {enc : TypeId × Value → H} {w : World} {base : Nat} {spare : Nat → Bool} {held : Bool} (n : Nat) (cs : List Value) (y : DataW H × List MemPlace), DataW.trod enc P w base spare held n e cs = some y → ∃ (t : UInt8) (a b : Int), cs = [.int .u8 t.toNat, .int .i64 a, .int .i64 b] ∧ I64 a ∧ I64 b
theorem byte_struct {P : Program} {e s t : TypeId} {f0 f1 f2 : Field} (he : P.underlying e = some (.struct #[f0, f1, f2])) (h0 : f0.type = s) (h1 : f1.type = t) (h2 : f2.type = t) (hs : P.underlying s = some (.int .u8)) (ht : P.underlying t = some (.int .i64)) (hone : oneCellFields P #[f0, f1, f2] = true) (h3 : P.cellsOf e = 3) : ByteInts P e := by
  refine ⟨h3, fun n cs y h => ?_⟩
  obtain ⟨ys, m, hn, hy, hlen, hyl, hf⟩ := DataW.trod_struct he h
  rw [h3] at hlen
  obtain ⟨a, b, c, rfl⟩ : ∃ a b c, cs = [a, b, c] := by
    match cs, hlen with
    | [a, b, c], _ => exact ⟨a, b, c, rfl⟩
  obtain ⟨o0, k0⟩ := hone_of hone 0 f0 rfl
  obtain ⟨o1, k1⟩ := hone_of hone 1 f1 rfl
  obtain ⟨o2, k2⟩ := hone_of hone 2 f2 rfl
  have x0 := hf 0 f0 rfl
  have x1 := hf 1 f1 rfl
  have x2 := hf 2 f2 rfl
  have hyl' : ys.length = 3 := by simpa using hyl
  rw [o0, k0, h0, List.getElem?_eq_getElem (by omega)] at x0
  rw [o1, k1, h1, List.getElem?_eq_getElem (by omega)] at x1
  rw [o2, k2, h2, List.getElem?_eq_getElem (by omega)] at x2
  obtain ⟨u, hu, _, wu⟩ := DataW.trod_int hs x0
  obtain ⟨v, hv, _, wv⟩ := DataW.trod_int ht x1
  obtain ⟨z, hz, _, wz⟩ := DataW.trod_int ht x2
  simp at hu hv hz
  obtain ⟨q, rfl⟩ := u8_of_wf wu
  exact ⟨q, v, z, by rw [hu, hv, hz], i64_of_wf wv, i64_of_wf wz⟩
theorem open_items {P : Program} {t e : TypeId} {fuel : Nat} {a0 : Option Addr} {len0 cap0 : Nat} {x : DataW H × List MemPlace} (ht : P.underlying t = some (.slice e)) (he : ByteInts P e) (h : DataW.trod enc P w base spare held fuel t [.slice a0 len0 cap0] = some x) :
    ∃ l : List Ite, l.length = len0 ∧ len0 ≤ cap0 ∧ cap0 ≤ maxLen ∧ RdE w w.heap.size a0 l ∧ (∀ p ∈ l, I64 p.2.1 ∧ I64 p.2.2) ∧ (x.1 = .nil ∧ len0 = 0 ∨ ∃ es sp, x.1 = .slice es sp ∧ es.length = len0) := by
  rcases open_slice ht h with ⟨hcs, hx⟩ | ⟨a, len, cap, m, n, D, Pl, hcs, hb, hl, hm, hmm, hx, hi⟩
  · simp at hcs
    obtain ⟨rfl, rfl, rfl⟩ := hcs
    exact ⟨[], rfl, Nat.le_refl _, by simp [maxLen], RdE.nil _ _ _, (fun p hp => by cases hp), .inl ⟨by rw [hx], rfl⟩⟩
  · simp at hcs
    obtain ⟨rfl, rfl, rfl⟩ := hcs
    have hlm : len0 ≤ m := by rw [hmm]; split <;> omega
    have hq : ∀ i, i < len0 → ∃ p : Ite, (w.cell? (a.add (i * 3)) = some (.int .u8 p.1.toNat) ∧ w.cell? ((a.add (i * 3)).add 1) = some (.int .i64 p.2.1) ∧ w.cell? ((a.add (i * 3)).add 2) = some (.int .i64 p.2.2)) ∧ I64 p.2.1 ∧ I64 p.2.2 := by
      intro i hi'
      obtain ⟨cs', hc, ht'⟩ := hi i (by omega)
      rw [he.1] at hc
      obtain ⟨q, u, v, rfl, wu, wv⟩ := he.2 _ _ _ ht'
      obtain ⟨_, _, hat⟩ := World.cells?_some hc
      have h0 := hat 0 (by omega)
      have h1 := hat 1 (by omega)
      have h2 := hat 2 (by omega)
      refine ⟨(q, u, v), ⟨?_, ?_, ?_⟩, wu, wv⟩
      · simpa [Addr.add] using h0
      · simpa using h1
      · simpa using h2
    obtain ⟨l, hll, hlq⟩ := exists_listA noE hq
    refine ⟨l, hll, hl, hm, fun j hj => ?_, fun p hp => ?_, .inr ⟨_, _, by rw [hx], by simp⟩⟩
    · obtain ⟨⟨c0, c1, c2⟩, _⟩ := hlq j (by omega)
      obtain ⟨b, off, spot⟩ := a
      have hspot : spot = none := by
        have := (hlq 0 (by omega)).1.1
        simpa [Addr.add] using World.cell?_spot this
      subst hspot
      rw [Addr.add_lit] at c0 c1 c2
      rw [Addr.add_lit] at c1 c2
      exact ⟨b, off, rfl, block_lt_of_cell c0, c0, c1, c2⟩
    · obtain ⟨j, hj, rfl⟩ := List.getElem_of_mem hp
      have := (hlq j (by omega)).2
      rwa [List.getD_eq_getElem?_getD, List.getElem?_eq_getElem hj] at this
end

theorem twoArr : TwoInts Tryd.prog 63 := two_array Tryd.underlying63 Tryd.underlying3 (by kernel_rfl) (by kernel_rfl)
theorem byteItem : ByteInts Tryd.prog 72 := byte_struct Tryd.underlying72 rfl rfl rfl Tryd.underlying5 Tryd.underlying3 (by kernel_rfl) (by kernel_rfl)

end Go.Proofs.YtacpncmdgkljdaaDoor
namespace Go.Proofs.YtacpncmdgkljdaaDoor
set_option linter.unusedVariables false

theorem wrap_both {H : Type} {enc : TypeId × Value → H} {C : Checked} {os : Os} {f : FuncId} {fn : Func} {s : ChangeSpec} {X : World → Array Value → Prop}
    (hX : ∀ (w w' : World) (args : Array Value), w.heap = w'.heap → X w args → X w' args) (own : ownKnob C.prog.godebug = none) (started : os.Started) (noInit : C.prog.inits.idxOf? f = none) (hfn : C.prog.funcs[f]? = some fn)
    (witness : ∃ (w : World) (tape : Tape) (i : Input), w.os = os ∧ (w.forCall tape i).Shaped C.prog ∧ i.vars = [] ∧ Input.okWide C.prog (w.forCall tape i) .any w.heap.size f i ∧
      ((s.pre enc C.prog fn [] false (w.forCall tape i).memory i.args ∧ X (w.forCall tape i).memory i.args) ∧ sizedMet enc C.prog fn (OpenSpec.ofChange s) false (w.forCall tape i).memory i.args) ∧ ({} : Assume).holds C.prog (lone (Frame.enter C.prog f i.args .normal) [] (w.forCall tape i)))
    (contract : ∀ (W : World) (base : Nat) (args : Array Value) (ds gs : List (DataW H)) (before : List MemPlace), W.ShapedOpen C.prog → X W args →
      (∀ (j : Nat) t v, fn.params[j]? = some t → args[j]? = some v → Value.okWide C.prog W .any base t v) →
      DataW.Whole enc C.prog fn.params.toList s.vars false W args.toList ds gs before →
      (DataW.weightsEach C.prog (fn.params.toList ++ s.plain.varTypes C.prog) (ds ++ gs)).all (· ≤ reachBytes) = true →
      Calls C.prog f args W fun e W' => ∃ v, e = .returned v ∧ s.post enc C.prog fn false true false false W args v W') :
    ReturnsInHanded {} C os f .any (fun w args => (s.pre enc C.prog fn [] false w args ∧ X w args) ∧ sizedMet enc C.prog fn (OpenSpec.ofChange s) false w args) (s.post enc C.prog fn false true false false) := by
  refine returnsInHanded_of_calls own started noInit witness fun w tape i _ hsh _ hok hpre _ => ?_
  obtain ⟨_, _, _, fn2, hfn2, _, _, _, _, hval⟩ := hok
  obtain rfl : fn2 = fn := Option.some.inj (hfn2.symm.trans hfn)
  obtain ⟨⟨⟨ds, gs, before, hw, _⟩, hx⟩, hz⟩ := hpre
  have hc := contract (w.forCall tape i) w.heap.size i.args ds gs before hsh (hX _ _ _ (by rfl) hx) hval (DataW.Whole.of_heap (w' := w.forCall tape i) (by rfl) hw) (hz.weights hw)
  exact hc.mono fun e W' h => by
    obtain ⟨v, rfl, hp⟩ := h
    exact ChangeSpec.post_blind hp
end Go.Proofs.YtacpncmdgkljdaaDoor
namespace Go.Proofs.YtacpncmdgkljdaaDoor
open Go.ChangeShapes Go.WideShapes Go.ChangeAt Go.RowKit Go.Deep
set_option linter.unusedVariables false

/-- A slice whose cells read as texts. -/
def RdS (w : World) (B : Nat) (A : Option Addr) (l : List ByteArray) : Prop :=
  ∀ j, j < l.length → ∃ b off, A = some ⟨b, off, none⟩ ∧ b < B ∧ w.cell? ⟨b, off + j, none⟩ = some (.string (l.getD j default))
theorem RdS.below {w w' : World} {B B' : Nat} {A : Option Addr} {l : List ByteArray} (h : RdS w B A l) (hb : Below B' w w') (hB : B ≤ B') : RdS w' B A l := fun j hj => by
  obtain ⟨b, off, e, hlt, h0⟩ := h j hj
  exact ⟨b, off, e, hlt, (hb.cell (p := ⟨b, off + j, none⟩) (Nat.lt_of_lt_of_le hlt hB)).trans h0⟩
theorem RdS.more {w : World} {B B' : Nat} {A : Option Addr} {l : List ByteArray} (h : RdS w B A l) (hB : B ≤ B') : RdS w B' A l := fun j hj => by
  obtain ⟨b, off, e, hlt, h0⟩ := h j hj
  exact ⟨b, off, e, by omega, h0⟩
theorem RdS.at_ {w : World} {B : Nat} {A : Option Addr} {l : List ByteArray} (h : RdS w B A l) (hn : 0 < l.length) :
    ∃ b off, A = some ⟨b, off, none⟩ ∧ b < B ∧ ∀ j, j < l.length → w.cell? ⟨b, off + j, none⟩ = some (.string (l.getD j default)) := by
  obtain ⟨b, off, e, hlt, _⟩ := h 0 hn
  refine ⟨b, off, e, hlt, fun j hj => ?_⟩
  obtain ⟨b', off', e', _, h0⟩ := h j hj
  rw [e] at e'
  injection e' with e'
  injection e' with e1 e2
  subst e1 e2
  exact h0
section
variable {H : Type} {enc : TypeId × Value → H} {w : World} {base : Nat} {spare : Nat → Bool} {held : Bool}
theorem open_strs {P : Program} {t e : TypeId} {fuel : Nat} {a0 : Option Addr} {len0 cap0 : Nat} {x : DataW H × List MemPlace} (ht : P.underlying t = some (.slice e)) (he : P.underlying e = some .string) (h1 : P.cellsOf e = 1) (h : DataW.trod enc P w base spare held fuel t [.slice a0 len0 cap0] = some x) :
    ∃ l : List ByteArray, l.length = len0 ∧ len0 ≤ cap0 ∧ cap0 ≤ maxLen ∧ RdS w w.heap.size a0 l ∧ ∀ p ∈ l, p.size ≤ maxLen := by
  rcases open_slice ht h with ⟨hcs, _⟩ | ⟨a, len, cap, m, n, D, Pl, hcs, hb, hl, hm, hmm, _, hi⟩
  · simp at hcs
    obtain ⟨rfl, rfl, rfl⟩ := hcs
    exact ⟨[], rfl, Nat.le_refl _, by simp [maxLen], fun j hj => absurd hj (Nat.not_lt_zero j), fun p hp => by cases hp⟩
  · simp at hcs
    obtain ⟨rfl, rfl, rfl⟩ := hcs
    have hlm : len0 ≤ m := by rw [hmm]; split <;> omega
    have hq : ∀ i, i < len0 → ∃ p : ByteArray, w.cell? (a.add i) = some (.string p) ∧ p.size ≤ maxLen := by
      intro i hi'
      obtain ⟨cs', hc, ht'⟩ := hi i (by omega)
      rw [h1] at hc
      obtain ⟨u, hu, _, wu⟩ := DataW.trod_string he ht'
      subst hu
      obtain ⟨_, _, hat⟩ := World.cells?_some hc
      have h0 := hat 0 (by omega)
      refine ⟨u, ?_, wu⟩
      simpa [Addr.add] using h0
    obtain ⟨l, hll, hlq⟩ := exists_listA default hq
    refine ⟨l, hll, hl, hm, fun j hj => ?_, fun p hp => ?_⟩
    · obtain ⟨c0, _⟩ := hlq j (by omega)
      obtain ⟨b, off, spot⟩ := a
      have hspot : spot = none := by
        have := (hlq 0 (by omega)).1
        simpa [Addr.add] using World.cell?_spot this
      subst hspot
      rw [Addr.add_lit] at c0
      exact ⟨b, off, rfl, block_lt_of_cell c0, c0⟩
    · obtain ⟨j, hj, rfl⟩ := List.getElem_of_mem hp
      have := (hlq j (by omega)).2
      rwa [List.getD_eq_getElem?_getD, List.getElem?_eq_getElem hj] at this
end
end Go.Proofs.YtacpncmdgkljdaaDoor
