/-
  Texts that the claims of this seat share, part 27.
-/
import Derived.Test.YtbibbonbhamcfaaB25
import Derived.Test.YtbibbonbhamcfaaB26
import Derived.Test.YtbibbonbhamcfaaB05
import Derived.Test.YtbibbonbhamcfaaB24
import Derived.Test.YtbibbonbhamcfaaB19
import Derived.Test.YtbibbonbhamcfaaB08
import Derived.Test.YtbibbonbhamcfaaB20
import Derived.ProofKit
import Derived.OpenShut
import Derived.ChangeOld
import Derived.Deep.Slices
import Derived.Deep.Fields
import Derived.Deep.Strs
import Derived.Test.YtbibbonbhamcfaaRows
import Derived.Test.YtbibbonbhamcfaaB14
import Derived.Test.YtbibbonbhamcfaaB13
import Derived.Test.YtbibbonbhamcfaaB21
set_option linter.unusedVariables false
set_option linter.unusedSimpArgs false
namespace Go.Proofs.Ytbibbonbhamcfaa
set_option maxRecDepth 100000
set_option linter.unusedVariables false
set_option linter.unusedSimpArgs false
open Go.RowKit Go.Sort

theorem rdC_glider (W : World) : RdC (W.alloc (.cells #[.int .i64 0, .int .i64 0, .int .i64 1, .int .i64 1, .int .i64 (-1), .int .i64 2, .int .i64 0, .int .i64 2, .int .i64 1, .int .i64 2] 48)) (W.alloc (.cells #[.int .i64 0, .int .i64 0, .int .i64 1, .int .i64 1, .int .i64 (-1), .int .i64 2, .int .i64 0, .int .i64 2, .int .i64 1, .int .i64 2] 48)).heap.size (some ⟨W.heap.size, 0, none⟩) gl9 := fun j hj => by
  have hn := heap_alloc_new W (.cells #[.int .i64 0, .int .i64 0, .int .i64 1, .int .i64 1, .int .i64 (-1), .int .i64 2, .int .i64 0, .int .i64 2, .int .i64 1, .int .i64 2] 48 (0, 0))
  have hj3 : j = 0 ∨ j = 1 ∨ j = 2 ∨ j = 3 ∨ j = 4 := by simp [gl9] at hj; omega
  rcases hj3 with rfl | rfl | rfl | rfl | rfl
  all_goals
    refine ⟨W.heap.size, 0, rfl, by simp, ?_, ?_⟩ <;> · rw [Lib.cell_of_heap hn]; rfl
theorem glider_any (w : World) : Calls Try.prog 32 #[] w fun e w' => ∃ b, e = .returned (.slice (some ⟨b, 0, none⟩) 5 5) ∧ RdC w' w'.heap.size (some ⟨b, 0, none⟩) gl9 ∧ Below w.heap.size w w' := by
  have hal := Lib.hid ((Below.refl w.heap.size w).alloc (Nat.le_refl _) (.cells #[.int .i64 0, .int .i64 0, .int .i64 1, .int .i64 1, .int .i64 (-1), .int .i64 2, .int .i64 0, .int .i64 2, .int .i64 1, .int .i64 2] 48))
  have hR := Lib.hid (rdC_glider w)
  go_enter Try.func32, Try.ntmps32
  go_wp2_with fail
  go_ret
  exact ⟨_, rfl, hR.out, hal.out⟩
set_option maxHeartbeats 16000000 in
theorem awake9_any (w : World) : Calls Try.prog 12 #[] w fun e w' => e = .returned (.bool true) ∧ Below w.heap.size w w' := by
  have hn := refNew6_any 9000 w
  rw [show newL 9000 = new6 from rfl, show newRoom 9000 = 9000 from rfl] at hn
  obtain ⟨l, n, hmk, hsq, hlen⟩ := aw9_make
  obtain ⟨la, na, ea, hra, hsa⟩ := aw9_run hsq hlen
  obtain ⟨lb, nb, hrb, hsb⟩ := aw9_leap hsq hlen
  obtain ⟨lt, nt, hrt, hrt6, hst⟩ := aw9_trim hsq hlen
  have HQ := Lib.hid (And.intro (aw9_no hsq) (aw9_far hsq hlen))
  have HLV := Lib.hid (show ∀ i, i < l.length → -9223372036854775808 ≤ (l.getD i deadN).1 ∧ (l.getD i deadN).1 ≤ 9223372036854775807 from fun i hi => by have := right_bd hsq.right i hi; omega)
  have HMK := Lib.hid hmk
  have HRA := Lib.hid hra
  have HRB := Lib.hid hrb
  have HRT := Lib.hid hrt
  have HSA := Lib.hid hsa
  have HSB := Lib.hid hsb
  have HST := Lib.hid (And.intro hrt6 hst)
  have hl6 : l.length ≤ 1000000 := by omega
  clear hmk hra hrb hrt hsa hsb hst hrt6 hsq hlen
  go_enter Try.func12, Try.ntmps12
  go_wp2_with fail
  refine hn.mono ?_
  clear hn
  intro e w1 h1
  obtain ⟨A1, c1, rfl, hcap1, N1, hb1⟩ := storeR_box7 h1
  have hgl := glider_any w1
  clear h1
  go_wp2_with fail
  refine hgl.mono ?_
  rintro e w2 ⟨b, rfl, hC, hb2⟩
  have hc2 := refMake7_any A1 new6 c1 9000 (some ⟨b, 0, none⟩) gl9 5 4 w2 (N1.below hb2) (by decide) hcap1 (by decide) hC (by decide) (by decide)
  rw [HMK.out] at hc2
  unfold storeV at hc2
  have hB1 := Qt.more hb1 hb1.size hb2
  clear hgl hC N1 hb1 hb2
  go_wp2_with fail
  refine hc2.mono ?_
  intro e w3 h2
  obtain ⟨A2, c2, rfl, hcap2, N2, hb2⟩ := putR_box h2
  have hB2 := Qt.more hB1 hB1.size hb2
  have hal := (Below.refl w3.heap.size w3).alloc (Nat.le_refl _) (.cells #[.slice A2 l.length c2, .int .i64 9000] 26)
  have HS2 := Lib.hid (stB_new N2 hcap2 9000)
  have HB2 := Lib.hid (Qt.more hB2 hB2.size hal)
  have s0 := HS2.out.s0
  have s1 := HS2.out.s1
  clear h2 hc2 hb2 hB1 hB2 N2 hal
  go_wp2_with fail
  generalize (w3.alloc (.cells #[.slice A2 l.length c2, .int .i64 9000] 26)) = v2 at *
  generalize w3.heap.size = b2 at *
  clear s0 s1
  have hc2 := run9_any A2 l c2 9000 (n : Int) 4 v2 (by unfold I64; omega) HS2.out.rd hl6 hcap2 HLV.out
  rw [HRA.out] at hc2
  unfold storeV at hc2
  refine hc2.mono ?_
  intro e w4 h
  obtain ⟨AA, cA, rfl, hcapA, N, hb⟩ := putR_box h
  have hal := (Below.refl w4.heap.size w4).alloc (Nat.le_refl _) (.cells #[.slice AA la.length cA, .int .i64 9000] 26)
  have hb' := Qt.more (B := v2.heap.size) hb hb.size hal
  have HNA3 := Lib.hid (stB_new N hcapA 9000)
  have HS3 := Lib.hid (HS2.out.below hb')
  have HB3 := Lib.hid (Qt.more HB2.out HB2.out.size hb')
  have s0 := HS3.out.s0
  have s1 := HS3.out.s1
  clear h hc2 hb hb' N hal HB2 HS2
  go_wp2_with fail
  generalize (w4.alloc (.cells #[.slice AA la.length cA, .int .i64 9000] 26)) = v3 at *
  generalize w4.heap.size = b3 at *
  clear s0 s1
  have hc2 := leap9_any A2 l c2 9000 (n : Int) 2 v3 (by unfold I64; omega) HS3.out.rd hl6 hcap2 HLV.out
  rw [HRB.out] at hc2
  unfold storeV at hc2
  refine hc2.mono ?_
  intro e w5 h
  obtain ⟨AB, cB, rfl, hcapB, N, hb⟩ := putR_box h
  have hal := (Below.refl w5.heap.size w5).alloc (Nat.le_refl _) (.cells #[.slice AB lb.length cB, .int .i64 9000] 26)
  have hb' := Qt.more (B := v3.heap.size) hb hb.size hal
  have HNB4 := Lib.hid (stB_new N hcapB 9000)
  have HS4 := Lib.hid (HS3.out.below hb')
  have HB4 := Lib.hid (Qt.more HB3.out HB3.out.size hb')
  have HNA4 := Lib.hid (HNA3.out.below hb')
  have s0 := HS4.out.s0
  have s1 := HS4.out.s1
  clear h hc2 hb hb' N hal HB3 HS3 HNA3
  go_wp2_with fail
  generalize (w5.alloc (.cells #[.slice AB lb.length cB, .int .i64 9000] 26)) = v4 at *
  generalize w5.heap.size = b4 at *
  clear s0 s1
  have hc2 := trim9_any A2 l c2 9000 (n : Int) v4 HS4.out.rd hl6 hcap2 HLV.out
  rw [HRT.out] at hc2
  unfold storeV at hc2
  refine hc2.mono ?_
  intro e w6 h
  obtain ⟨AT, cT, rfl, hcapT, N, hb⟩ := putR_box h
  have hal := (Below.refl w6.heap.size w6).alloc (Nat.le_refl _) (.cells #[.slice AT lt.length cT, .int .i64 9000] 26)
  have hb' := Qt.more (B := v4.heap.size) hb hb.size hal
  have HNT5 := Lib.hid (stB_new N hcapT 9000)
  have HS5 := Lib.hid (HS4.out.below hb')
  have HB5 := Lib.hid (Qt.more HB4.out HB4.out.size hb')
  have HNA5 := Lib.hid (HNA4.out.below hb')
  have HNB5 := Lib.hid (HNB4.out.below hb')
  have s0 := HS5.out.s0
  have s1 := HS5.out.s1
  clear h hc2 hb hb' N hal HB4 HS4 HNA4 HNB4
  go_wp2_with fail
  generalize (w6.alloc (.cells #[.slice AT lt.length cT, .int .i64 9000] 26)) = v5 at *
  generalize w6.heap.size = b5 at *
  clear s0 s1
  have hc2 := leap9_any A2 l c2 9000 (n : Int) 3 v5 (by unfold I64; omega) HS5.out.rd hl6 hcap2 HLV.out
  rw [HQ.out.1] at hc2
  unfold storeV at hc2
  refine hc2.mono ?_
  intro e w7 h
  obtain ⟨AX, cX, rfl, hcapX, N, hb⟩ := putR_box h
  have hal := (Below.refl w7.heap.size w7).alloc (Nat.le_refl _) (.cells #[.slice AX l.length cX, .int .i64 9000] 26)
  have hb' := Qt.more (B := v5.heap.size) hb hb.size hal
  have HNX6 := Lib.hid (stB_new N hcapX 9000)
  have HS6 := Lib.hid (HS5.out.below hb')
  have HB6 := Lib.hid (Qt.more HB5.out HB5.out.size hb')
  have HNA6 := Lib.hid (HNA5.out.below hb')
  have HNB6 := Lib.hid (HNB5.out.below hb')
  have HNT6 := Lib.hid (HNT5.out.below hb')
  have s0 := HS6.out.s0
  have s1 := HS6.out.s1
  clear h hc2 hb hb' N hal HB5 HS5 HNA5 HNB5 HNT5
  go_wp2_with fail
  generalize (w7.alloc (.cells #[.slice AX l.length cX, .int .i64 9000] 26)) = v6 at *
  generalize w7.heap.size = b6 at *
  clear s0 s1
  have hc2 := run9_any A2 l c2 9000 (n : Int) 2305843009213693952 v6 (by unfold I64; omega) HS6.out.rd hl6 hcap2 HLV.out
  rw [HQ.out.2] at hc2
  unfold storeV at hc2
  refine hc2.mono ?_
  intro e w8 h
  obtain ⟨AY, cY, rfl, hcapY, N, hb⟩ := putR_box h
  have hal := (Below.refl w8.heap.size w8).alloc (Nat.le_refl _) (.cells #[.slice AY l.length cY, .int .i64 9000] 26)
  have hb' := Qt.more (B := v6.heap.size) hb hb.size hal
  have HNY7 := Lib.hid (stB_new N hcapY 9000)
  have HS7 := Lib.hid (HS6.out.below hb')
  have HB7 := Lib.hid (Qt.more HB6.out HB6.out.size hb')
  have HNA7 := Lib.hid (HNA6.out.below hb')
  have HNB7 := Lib.hid (HNB6.out.below hb')
  have HNT7 := Lib.hid (HNT6.out.below hb')
  have HNX7 := Lib.hid (HNX6.out.below hb')
  have a0 := HNA7.out.s0
  have a1 := HNA7.out.s1
  have b0 := HNB7.out.s0
  have t0 := HNT7.out.s0
  have ia := HSA.out.is.lt
  have ib := HSB.out.is.lt
  have it := HST.out.2.lt
  have iz : (na : Int) < (la.length : Int) := by omega
  have ibz : (nb : Int) < (lb.length : Int) := by omega
  have itz : (nt : Int) < (lt.length : Int) := by omega
  have iz2 : ¬ (la.length : Int) ≤ (na : Int) := by omega
  have ibz2 : ¬ (lb.length : Int) ≤ (nb : Int) := by omega
  have itz2 : ¬ (lt.length : Int) ≤ (nt : Int) := by omega
  have ib3 : ¬ (lb.length : Int) < 3 := by
    have h2 := HSB.out.is.two HSB.out.right
    omega
  obtain ⟨qa, oa, rfl, hla, hna⟩ := HNA7.out.nd (by omega)
  obtain ⟨qb, ob, rfl, hlb, hnb⟩ := HNB7.out.nd (by omega)
  obtain ⟨qt, ot, rfl, hlt, hnt⟩ := HNT7.out.nd (by omega)
  have xa := (hna na ia).1
  rw [HSA.out.is.lev] at xa
  have xa2 : ¬ ((ea + 1 + 1 : Nat) : Int) < 2 := by omega
  have xb := (hnb nb ib).1
  rw [HSB.out.is.lev, show ((2 + 1 : Nat) : Int) = 3 from rfl] at xb
  have xp := (hnb nb ib).2.2.2.2.2
  rw [HSB.out.pop, show (gl94.length : Int) = 5 from rfl] at xp
  have xt := (hnt nt it).1
  rw [HST.out.2.lev, show ((3 : Nat) : Int) = 3 from rfl] at xt
  clear hna hnb hnt
  clear h hc2 hb hb' N hal HB6 HS6 HNA6 HNB6 HNT6 HNX6
  go_wp2_with fail
  generalize (w8.alloc (.cells #[.slice AY l.length cY, .int .i64 9000] 26)) = v7 at *
  generalize w8.heap.size = b7 at *
  obtain ⟨L, hL⟩ : ∃ L, L = about7 la (ea + 1) na := ⟨_, rfl⟩
  have hlen5 : L.length = 5 := by rw [hL, HSA.out.len]; rfl
  have hof := refOf7_any la HSA.out.right (some ⟨qa, oa, none⟩) cA 9000 (ea + 1) na v7 HSA.out.low HSA.out.is HNA7.out.rd (by rw [← hL, hlen5]; decide)
  rw [← hL] at hof
  unfold storeV at hof
  refine hof.mono ?_
  rintro r w8 ⟨A9, c9, rfl, hc9, hR9, hb8⟩
  rw [hlen5]
  have b0' := (HNB7.out.below hb8).s0
  have t0' := (HNT7.out.below hb8).s0
  have xb' := (hb8.cell (p := ⟨qb, ob + nb * 6, none⟩) hlb).trans xb
  have xp' := (hb8.cell (p := ⟨qb, ob + nb * 6 + 5, none⟩) hlb).trans xp
  have xt' := (hb8.cell (p := ⟨qt, ot + nt * 6, none⟩) hlt).trans xt
  have HB8 := Lib.hid (Qt.more HB7.out HB7.out.size hb8)
  clear hof hL hR9 hb8 a0 a1 b0 t0 xa xb xp xt hlen5 hc9 HB7 HNA7 HNB7 HNT7 HNX7 HNY7 HS7
  go_wp2_with fail
  go_ret
  exact ⟨rfl, HB8.out⟩
end Go.Proofs.Ytbibbonbhamcfaa
namespace Go.Proofs.Ytbibbonbhamcfaa
set_option maxRecDepth 100000
set_option linter.unusedVariables false
set_option linter.unusedSimpArgs false
open Go.RowKit Go.Sort

theorem pick9_any (c n : Int) (w : World) (h1 : -9223372036854775808 ≤ c) (h2 : c ≤ 9223372036854775807) (hn : 1 ≤ n) (hn2 : n ≤ 9223372036854775807) :
    Calls Try.prog 14 #[.int .i64 c, .int .i64 n] w fun e w' => e = .returned (.int .i64 (pickI c n)) ∧ w = w' := by
  generalize hr : pickI c n = r
  have HR := Lib.hid hr
  clear hr
  go_enter Try.func14, Try.ntmps14
  go_wp2
  all_goals go_ret
  all_goals refine ⟨?_, rfl⟩
  all_goals (refine Qt.ret_int ?_; rw [← HR.out]; unfold pickI)
  · rw [if_pos (by assumption), ← Int.neg_tmod, Int.tmod_eq_emod_of_nonneg (by omega)]
  · rw [if_neg (by omega)]
end Go.Proofs.Ytbibbonbhamcfaa
namespace Go.Proofs.Ytbibbonbhamcfaa
set_option maxRecDepth 100000
set_option linter.unusedVariables false
set_option linter.unusedSimpArgs false

/-- an answer: no room, and the store as it was; or a node in a store that has grown -/
def Ans9 (l : List Nd) (room : Int) (z : Zn) (Q : List Nd → Nat → Prop) : Prop := z = (l, 0, 40) ∨ ∃ (m : List Nd) (p : Nat), z = (m, (p : Int), 0) ∧ Grows l m ∧ Right6 m room ∧ Q m p
section
variable {l : List Nd} {room : Int} {e n : Nat} {F : Pic}
theorem grownL_is {k : Nat} (hr : Right6 l room) (hk : Is l (k + 2) n) (z : Zn) : grownL l room (n : Int) z = if z.2.2 = 0 then z else (l, 0, z.2.2) := by
  unfold grownL
  rw [if_pos (by rw [right_iff.2 hr, lev_at hk, Bool.true_and]; exact decide_eq_true (by omega))]
theorem ans_of {k : Nat} (hr : Right6 l room) (hk : Is l (k + 2) n) {z : Zn} {Q : List Nd → Nat → Prop} (h : DoneE room l z Q) : Ans9 l room (grownL l room (n : Int) z) Q := by
  rw [grownL_is hr hk]
  rcases h with h1 | ⟨m, p, e, g, r, q⟩
  · left
    rw [h1, if_neg (by decide)]
  · right
    rw [e, if_pos rfl]
    exact ⟨m, p, rfl, g, r, q⟩
theorem leap9_done (h : Sf l room (e + 1) n F) (he : e ≤ 40) {jn : Nat} (hj : jn ≤ e) : Ans9 l room (leap9 l room (n : Int) (jn : Int)) (fun m p => Sf m room e p (runF (2 ^ jn) F)) := by
  have hz : leapZ room l (n : Int) (jn : Int) = leapN room e jn l (n : Int) := by
    unfold leapZ
    rw [lev_at (k := e + 2) h.is, if_pos (by omega), show (((e + 2 : Nat) : Int) - 2).toNat = e by omega, Int.toNat_natCast]
  unfold leap9
  rw [hz]
  exact ans_of h.right h.is (leap_done room e jn n l F h hj).s.e
end
end Go.Proofs.Ytbibbonbhamcfaa
namespace Go.Proofs.Ytbibbonbhamcfaa
set_option maxRecDepth 100000
set_option linter.unusedVariables false
set_option linter.unusedSimpArgs false
open Go.RowKit Go.Sort

def cropB9 (half : Int) (c : Int × Int) : Bool := decide (-half ≤ c.1 ∧ c.1 < half ∧ -half ≤ c.2 ∧ c.2 < half)
def cropC9 (half : Int) (l : List (Int × Int)) : List (Int × Int) := l.filter (cropB9 half)
theorem crop9_succ {half : Int} {l : List (Int × Int)} {k : Nat} (h : k < l.length) : cropC9 half (l.take (k + 1)) = cropC9 half (l.take k) ++ (if cropB9 half (l.getD k (0, 0)) = true then [l.getD k (0, 0)] else []) := by
  unfold cropC9
  rw [List.take_add_one, List.filter_append, List.getD_eq_getElem?_getD, List.getElem?_eq_getElem h]
  congr 1
  simp only [Option.toList_some, Option.getD_some]
  by_cases hc : cropB9 half l[k] = true
  · rw [if_pos hc, List.filter_cons_of_pos hc]; rfl
  · rw [if_neg hc, List.filter_cons_of_neg hc]; rfl
set_option maxHeartbeats 8000000 in
theorem crop9_any (A : Option Addr) (l : List (Int × Int)) (c : Nat) (half : Int) (w : World) (hR : RdC w w.heap.size A l) (hl : l.length ≤ 900000) (hh : 0 ≤ half ∧ half ≤ 1152921504606846976) :
    Calls Try.prog 27 #[.slice A l.length c, .int .i64 half] w fun e w' => ∃ v, e = .returned v ∧ OwnC w' w.heap.size v (cropC9 half l) ∧ Below w.heap.size w w' := by
  have HR := Lib.hid hR
  have hneg : IntKind.i64.wrap (-half) = -half := by rw [IntKind.wrap_i64]; omega
  clear hR
  go_enter Try.func27, Try.ntmps27
  go_wp2_with fail
  go_loopw [5, 6] (fun v i wr => ∃ k : Nat, k ≤ l.length ∧ i = .int .i64 k ∧ Hid (OwnC wr w.heap.size v (cropC9 half (l.take k)) ∧ Below w.heap.size w wr)) (fun _ i _ => l.length - (intOf i).toNat)
  case atStart => exact ⟨0, Nat.zero_le _, rfl, (show Hid _ from ⟨World.ownsRow_nil _ _ _ _, Below.refl _ _⟩)⟩
  case round =>
    obtain ⟨k, hk, rfl, HH⟩ := hrel
    by_cases hlt : k < l.length
    · have hltz : (k : Int) < (l.length : Int) := by omega
      obtain ⟨b, off, rfl, hbB, hcell⟩ := Cel.Rd.at_ HR.out (by omega)
      obtain ⟨x0, x1⟩ := hcell k hlt
      have y0 := (HH.out.2.cell (p := ⟨b, off + k * 2, none⟩) hbB).trans x0
      have y1 := (HH.out.2.cell (p := ⟨b, off + k * 2 + 1, none⟩) hbB).trans x1
      have hsu := crop9_succ (half := half) hlt
      obtain ⟨⟨x, y⟩, hxy⟩ : ∃ q, q = l.getD k (0, 0) := ⟨_, rfl⟩
      rw [← hxy] at y0 y1 hsu
      dsimp only at y0 y1
      clear hcell x0 x1 hxy
      have hlen : (cropC9 half (l.take k)).length ≤ 900000 := Nat.le_trans (List.length_filter_le _ _) (by rw [List.length_take]; omega)
      by_cases h0 : -half ≤ x
      · skip
        by_cases h1 : x < half
        · skip
          by_cases h2 : -half ≤ y
          · skip
            by_cases h3 : y < half
            · skip
              have hS : cropC9 half (l.take (k + 1)) = cropC9 half (l.take k) ++ [(x, y)] := by rw [hsu, if_pos (by unfold cropB9; rw [decide_eq_true_iff]; omega)]
              obtain ⟨v', w', hrun, hown, hg, hb, hw⟩ := pushC_any (x, y) HH.out.2.size HH.out.1 (by omega)
              rw [← hS] at hown
              dsimp only at hrun
              have HRUN := Lib.hid hrun
              have HO := Lib.hid (show OwnC w' w.heap.size v' (cropC9 half (l.take (k + 1))) ∧ Below w.heap.size w w' from ⟨hown, HH.out.2.trans hb⟩)
              clear hsu hS hrun hown hg hb hw
              go_wp2_with (at_builtin; refine Lib.wpList_append_run _ rfl (.tmp 49) (.tmp 54) 42 42 rfl _ _ rfl rfl _ _ HRUN.out ?_)
              go_roundw
              case measure => simp [intOf]; omega
              case rel => exact ⟨k + 1, by omega, by go_num, HO⟩
            · skip
              have hS : cropC9 half (l.take (k + 1)) = cropC9 half (l.take k) := by rw [hsu, if_neg (by unfold cropB9; rw [decide_eq_true_iff]; omega), List.append_nil]
              have HS := Lib.hid hS
              clear hsu hS
              go_wp2_with fail
              go_roundw
              case measure => simp [intOf]; omega
              case rel => exact ⟨k + 1, by omega, by go_num, by rw [HS.out]; exact HH⟩
          · skip
            have hS : cropC9 half (l.take (k + 1)) = cropC9 half (l.take k) := by rw [hsu, if_neg (by unfold cropB9; rw [decide_eq_true_iff]; omega), List.append_nil]
            have HS := Lib.hid hS
            clear hsu hS
            go_wp2_with fail
            go_roundw
            case measure => simp [intOf]; omega
            case rel => exact ⟨k + 1, by omega, by go_num, by rw [HS.out]; exact HH⟩
        · skip
          have hS : cropC9 half (l.take (k + 1)) = cropC9 half (l.take k) := by rw [hsu, if_neg (by unfold cropB9; rw [decide_eq_true_iff]; omega), List.append_nil]
          have HS := Lib.hid hS
          clear hsu hS
          go_wp2_with fail
          go_roundw
          case measure => simp [intOf]; omega
          case rel => exact ⟨k + 1, by omega, by go_num, by rw [HS.out]; exact HH⟩
      · skip
        have hS : cropC9 half (l.take (k + 1)) = cropC9 half (l.take k) := by rw [hsu, if_neg (by unfold cropB9; rw [decide_eq_true_iff]; omega), List.append_nil]
        have HS := Lib.hid hS
        clear hsu hS
        go_wp2_with fail
        go_roundw
        case measure => simp [intOf]; omega
        case rel => exact ⟨k + 1, by omega, by go_num, by rw [HS.out]; exact HH⟩
    · have hltz : ¬ (k : Int) < (l.length : Int) := by omega
      have hke : k = l.length := by omega
      subst hke
      have HE := Lib.hid (show OwnC _ w.heap.size _ (cropC9 half l) ∧ _ from by have := HH.out; rw [List.take_length] at this; exact this)
      go_wp2_with fail
      go_ret
      exact ⟨_, rfl, HE.out.1, HE.out.2⟩
end Go.Proofs.Ytbibbonbhamcfaa
namespace Go.Proofs.Ytbibbonbhamcfaa
set_option maxRecDepth 100000
set_option linter.unusedVariables false
set_option linter.unusedSimpArgs false

theorem flat_few (l : List Nd) : ∀ (k n : Nat) (p : Int × Int), (flat l k n p).length ≤ 4 ^ k
  | 0, n, p => by
    show (if n = 1 then [p] else []).length ≤ 1
    split <;> simp
  | k + 1, n, p => by
    show (flat l k (kidN l n 0) (corner7 k p 0) ++ flat l k (kidN l n 1) (corner7 k p 1) ++ flat l k (kidN l n 2) (corner7 k p 2) ++ flat l k (kidN l n 3) (corner7 k p 3)).length ≤ 4 ^ (k + 1)
    have h0 := flat_few l k (kidN l n 0) (corner7 k p 0)
    have h1 := flat_few l k (kidN l n 1) (corner7 k p 1)
    have h2 := flat_few l k (kidN l n 2) (corner7 k p 2)
    have h3 := flat_few l k (kidN l n 3) (corner7 k p 3)
    have e : 4 ^ (k + 1) = 4 ^ k * 4 := Nat.pow_succ ..
    simp only [List.length_append]
    omega
section
variable {l : List Nd} {room : Int} {e n : Nat} {F : Pic}
theorem Sf.about (h : Sf l room e n F) (c : Int × Int) : c ∈ about7 l e n ↔ insideB e c = true ∧ F c = true := by
  unfold about7
  rw [mem_flat]
  have hp : (2 : Int) ^ (e + 1) = 2 ^ e * 2 := Int.pow_succ _ _
  have e2 : (c.1 - -(2 ^ e), c.2 - -(2 ^ e)) = inwardC e c := by unfold inwardC; exact Prod.ext (by omega) (by omega)
  have e3 : InAt7 (e + 1) (-(2 ^ e), -(2 ^ e)) c ↔ insideB e c = true := by
    unfold InAt7 insideB
    rw [hp, decide_eq_true_iff]
    generalize (2 : Int) ^ e = P
    simp only
    omega
  rw [e2, e3]
  exact ⟨fun ⟨h1, h2⟩ => ⟨h1, by rw [← h.al c h1]; exact h2⟩, fun ⟨h1, h2⟩ => ⟨h1, by rw [h.al c h1]; exact h2⟩⟩
theorem about_few (l : List Nd) (e n : Nat) : (about7 l e n).length ≤ 4 ^ (e + 1) := flat_few l _ _ _
end
end Go.Proofs.Ytbibbonbhamcfaa
namespace Go.Proofs.Ytbibbonbhamcfaa
set_option maxRecDepth 100000
set_option linter.unusedVariables false
set_option linter.unusedSimpArgs false
open Go.RowKit Go.Sort

theorem make_ok2 {l : List Nd} {room : Int} {e : Nat} {S : List (Int × Int)} (hr : Right6 l room) (hlow : e ≤ 41) (hS : Cel.rightB S = true) (hin : ∀ s ∈ S, insideB e s = true) (hroom : ((l.length + S.length * (e + 1) + (e + 1) : Nat) : Int) ≤ room) :
    ∃ (m : List Nd) (n t : Nat), make7 l room S ((e : Int) + 1) = (m, (n : Int), 0) ∧ Grows l m ∧ Sq m room e n S ∧ t ≤ e + 1 ∧ (∃ x, Emp m t x) ∧ m.length ≤ l.length + S.length * (e + 1) + t := by
  obtain ⟨m, n, h', e1, hm⟩ := build_res (room := room) (K := e + 1) (by omega) (e + 1) (Nat.le_refl _) l 0 (S.map (inwardC e)) hr (by omega) ⟨0, rfl⟩ (by rw [List.length_map]; omega)
  refine ⟨m, n, h', ?_, hm.grows, ⟨hm.right, hm.is, hlow, hS, hin, hm.alive⟩, hm.hi, hm.emp, ?_⟩
  · unfold make7 grown6
    rw [if_pos (right_iff.2 hr), makeZ_yes hlow hS hin, e1, if_pos rfl]
  · have := hm.len
    rw [List.length_map] at *
    omega
end Go.Proofs.Ytbibbonbhamcfaa
namespace Go.Proofs.Ytbibbonbhamcfaa
set_option maxRecDepth 100000
set_option linter.unusedVariables false
set_option linter.unusedSimpArgs false
open Go.RowKit Go.Sort

theorem Ans9.any {l : List Nd} {room : Int} {z : Zn} {Q : List Nd → Nat → Prop} (h : Ans9 l room z Q) (hr : Right6 l room) : ∃ (m : List Nd) (p : Nat) (e : Int), z = (m, (p : Int), e) ∧ Grows l m ∧ Right6 m room ∧ ((e = 40 ∧ p = 0) ∨ (e = 0 ∧ Q m p)) := by
  rcases h with h | ⟨m, p, h1, h2, h3, h4⟩
  · exact ⟨l, 0, 40, h, Grows.refl l, hr, .inl ⟨rfl, rfl⟩⟩
  · exact ⟨m, p, 0, h1, h2, h3, .inr ⟨rfl, h4⟩⟩
theorem right_len {l : List Nd} {room : Int} (h : Right6 l room) : l.length ≤ 100000 := by have := h.len; have := h.room100; omega
/-- of raw cells, those of the first k -/
def galTo (raw : List (Int × Int)) (k : Nat) : List (Int × Int) := Cel.setL (Cel.rawTo raw k)
theorem galTo_in (raw : List (Int × Int)) (k : Nat) {s : Int × Int} (h : s ∈ galTo raw k) : -8 ≤ s.1 ∧ s.1 ≤ 7 ∧ -8 ≤ s.2 ∧ s.2 ≤ 7 := Cel.rawTo_bd ((Cel.mem_setL _ _).1 h)
theorem galTo_len (raw : List (Int × Int)) (k : Nat) : (galTo raw k).length ≤ k := Nat.le_trans (Cel.length_setL _) (Cel.length_rawTo raw k)
theorem galTo_succ {raw : List (Int × Int)} {k : Nat} (h : k < raw.length) : galTo raw (k + 1) = Cel.putL (pickI (raw.getD k (0, 0)).1 16 - 8, pickI (raw.getD k (0, 0)).2 16 - 8) (galTo raw k) := by
  unfold galTo
  rw [Cel.rawTo_succ h, Cel.setL_snoc]
  rfl
theorem galTo_right (raw : List (Int × Int)) {k : Nat} (hk : k ≤ 60) : Cel.rightB (galTo raw k) = true ∧ ∀ e, 3 ≤ e → ∀ s ∈ galTo raw k, insideB e s = true := by
  have hl := galTo_len raw k
  refine ⟨(Cel.rightB_iff _).2 ⟨by omega, fun s hs => ?_, Cel.rises_setL _⟩, fun e he s hs => ?_⟩
  · have := galTo_in raw k hs
    unfold Cel.inB
    exact decide_eq_true (by omega)
  · have := galTo_in raw k hs
    have hp : (8 : Int) ≤ 2 ^ e := by
      obtain ⟨d, rfl⟩ : ∃ d, e = 3 + d := ⟨e - 3, by omega⟩
      rw [Int.pow_add]
      have := pow_pos7 d
      generalize (2 : Int) ^ d = P at *
      omega
    exact in_iff.2 (by omega)
/-- a new store, a set's node in it -/
structure MkK (room : Int) (S : List (Int × Int)) (e : Nat) (m : List Nd) (n : Nat) : Prop where
  make : make7 new6 room S ((e : Int) + 1) = (m, (n : Int), 0)
  grows : Grows new6 m
  sq : Sq m room e n S
theorem new_right {room : Int} (h1 : 2 ≤ room) (h2 : room ≤ 100000) : Right6 new6 room := right_new h1 h2
theorem mk_known {room : Int} (h1 : 2 ≤ room) (h2 : room ≤ 100000) {S : List (Int × Int)} {e : Nat} (he : e ≤ 41) (hS : Cel.rightB S = true) (hin : ∀ s ∈ S, insideB e s = true) (hroom : (((2 + S.length * (e + 1) + (e + 1) : Nat)) : Int) ≤ room) : ∃ m n, MkK room S e m n := by
  obtain ⟨m, n, t, h, hg, hsq, _⟩ := make_ok2 (l := new6) (new_right h1 h2) he hS hin (by show (((2 + S.length * (e + 1) + (e + 1) : Nat)) : Int) ≤ room; exact hroom)
  exact ⟨m, n, h, hg, hsq⟩
/-- what three leaps answer -/
structure HalK (R : Int) (S : List (Int × Int)) (m : List Nd) (n : Nat) (a : List Nd) (p1 : Nat) (e1 : Int) (b : List Nd) (p2 : Nat) (e2 : Int) : Prop where
  z1 : leap9 m R (n : Int) 3 = (a, (p1 : Int), e1)
  z2 : leap9 a R (n : Int) 2 = (b, (p2 : Int), e2)
  ra : Right6 a R
  rb : Right6 b R
  gab : Grows a b
  a1 : (e1 = 40 ∧ p1 = 0) ∨ (e1 = 0 ∧ Sf a R 3 p1 (runF 8 (picL S)))
  a2 : (e2 = 40 ∧ p2 = 0) ∨ (e2 = 0 ∧ Sf b R 3 p2 (runF 4 (picL S)))
theorem hal_known {R : Int} {S : List (Int × Int)} {m : List Nd} {n : Nat} (h : Sq m R 4 n S) : ∃ a p1 e1 b p2 e2, HalK R S m n a p1 e1 b p2 e2 := by
  have hs := h.pic
  obtain ⟨a, p1, e1, z1, g1, r1, c1⟩ := (leap9_done (e := 3) (jn := 3) hs (by decide) (by decide)).any hs.right
  have hs2 := hs.grows g1 r1
  obtain ⟨b, p2, e2, z2, g2, r2, c2⟩ := (leap9_done (e := 3) (jn := 2) hs2 (by decide) (by decide)).any hs2.right
  exact ⟨a, p1, e1, b, p2, e2, z1, z2, r1, r2, g2, c1, c2⟩
structure HalL (R : Int) (S : List (Int × Int)) (b : List Nd) (p1 p2 : Nat) (c : List Nd) (p3 : Nat) (e3 : Int) : Prop where
  z3 : leap9 b R (p2 : Int) 2 = (c, (p3 : Int), e3)
  rc : Right6 c R
  a3 : (e3 = 40 ∧ p3 = 0) ∨ (e3 = 0 ∧ Sf c R 2 p3 (runF 8 (picL S)))
  w3 : Sf c R 3 p1 (runF 8 (picL S))
theorem hal_more {R : Int} {S : List (Int × Int)} {m a b : List Nd} {n p1 p2 : Nat} (h : HalK R S m n a p1 0 b p2 0) : ∃ c p3 e3, HalL R S b p1 p2 c p3 e3 := by
  have h1 : Sf a R 3 p1 (runF 8 (picL S)) := by rcases h.a1 with ⟨h, _⟩ | ⟨_, h⟩; · exact absurd h (by decide)
                                                · exact h
  have h2 : Sf b R 3 p2 (runF 4 (picL S)) := by rcases h.a2 with ⟨h, _⟩ | ⟨_, h⟩; · exact absurd h (by decide)
                                                · exact h
  obtain ⟨c, p3, e3, z3, g3, r3, c3⟩ := (leap9_done (e := 2) (jn := 2) h2 (by decide) (by decide)).any h2.right
  have e : runF (2 ^ 2) (runF 4 (picL S)) = runF 8 (picL S) := (run_add 4 4 _).symm
  rw [e] at c3
  exact ⟨c, p3, e3, z3, r3, c3, (h1.grows h.gab h.rb).grows g3 r3⟩
end Go.Proofs.Ytbibbonbhamcfaa
namespace Go.Proofs.Ytbibbonbhamcfaa
set_option maxRecDepth 100000
set_option linter.unusedVariables false
open Go.ChangeShapes Go.WideShapes Go.ChangeAt Go.RowKit Go.Deep
theorem own : ownKnob Try.prog.godebug = none := by kernel_rfl
theorem laidOut : laidOutB Try.prog = true := by kernel_rfl
section
variable {H : Type} {enc : TypeId × Value → H} {W : World} {base : Nat} {spare : Nat → Bool} {held : Bool} {P : Program}
end
end Go.Proofs.Ytbibbonbhamcfaa
namespace Go.Proofs.Ytbibbonbhamcfaa
set_option maxRecDepth 100000
set_option linter.unusedVariables false
set_option linter.unusedSimpArgs false
open Go.RowKit Go.Sort

theorem NineAt.corner {room : Int} {l a : List Nd} {e n : Nat} {p : Nat → Nat} (h : NineAt room l e n 9 a p) (hr : Right6 l room) (hn : Is l (e + 2) n) {k : Nat} (hk : k < 4) : p (k / 2 * 6 + k % 2 * 2) = kidN l n k := by
  have h1 := h.kids (k / 2 * 6 + k % 2 * 2) (by omega)
  rw [show (k / 2 * 6 + k % 2 * 2) / 3 = k / 2 * 2 by omega, show (k / 2 * 6 + k % 2 * 2) % 3 = k % 2 * 2 by omega] at h1
  have h2 := h.grows.at_ (corner_at hr hn hk)
  rw [h1] at h2
  exact Option.some.inj h2
/-- A node's cells, its kids by name. -/
theorem NdAt.kids {w : World} {b o : Nat} {x : Nd} (h : NdAt w b o x) {k : Kd} (hk : x.2.1 = k) : w.cell? ⟨b, o + 1, none⟩ = some (.int .i64 k.1) ∧ w.cell? ⟨b, o + 2, none⟩ = some (.int .i64 k.2.1) ∧ w.cell? ⟨b, o + 3, none⟩ = some (.int .i64 k.2.2.1) ∧ w.cell? ⟨b, o + 4, none⟩ = some (.int .i64 k.2.2.2) := by
  subst hk
  obtain ⟨_, h1, h2, h3, h4, _⟩ := h
  exact ⟨h1, h2, h3, h4⟩
/-- four numbers in a box -/
def K4B (w : World) (b : Nat) (x y u v : Int) : Prop := w.heap[b]? = some (.cells #[.int .i64 x, .int .i64 y, .int .i64 u, .int .i64 v] 33 (0, 0))
theorem K4B.below {w w' : World} {b : Nat} {x y u v : Int} (h : K4B w b x y u v) (hb : Below w.heap.size w w') : K4B w' b x y u v := (hb.block _ (lt_heap6 h)).trans h
theorem K4B.s0 {w : World} {b : Nat} {x y u v : Int} (h : K4B w b x y u v) : w.cell? ⟨b, 0, none⟩ = some (.int .i64 x) := by rw [Lib.cell_of_heap h]; rfl
theorem K4B.s1 {w : World} {b : Nat} {x y u v : Int} (h : K4B w b x y u v) : w.cell? ⟨b, 1, none⟩ = some (.int .i64 y) := by rw [Lib.cell_of_heap h]; rfl
theorem K4B.s2 {w : World} {b : Nat} {x y u v : Int} (h : K4B w b x y u v) : w.cell? ⟨b, 2, none⟩ = some (.int .i64 u) := by rw [Lib.cell_of_heap h]; rfl
theorem K4B.s3 {w : World} {b : Nat} {x y u v : Int} (h : K4B w b x y u v) : w.cell? ⟨b, 3, none⟩ = some (.int .i64 v) := by rw [Lib.cell_of_heap h]; rfl
theorem StB.node {W : World} {b : Nat} {q o : Nat} {l : List Nd} {c : Nat} {room : Int} (h : StB W b (some ⟨q, o, none⟩) l c room) {j : Nat} (hj : j < l.length) : NdAt W q (o + j * 6) (l.getD j deadN) := by
  obtain ⟨b', o', e, _, hn⟩ := h.rd j hj
  injection e with e
  injection e with e1 e2
  subst e1 e2
  exact hn
end Go.Proofs.Ytbibbonbhamcfaa
