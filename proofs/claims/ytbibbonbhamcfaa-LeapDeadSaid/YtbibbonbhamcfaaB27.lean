/-
  Texts that the claims of this seat share, part 27.
-/
import Derived.Test.YtbibbonbhamcfaaB25
import Derived.Test.YtbibbonbhamcfaaB26
import Derived.Test.YtbibbonbhamcfaaB05
import Derived.Test.YtbibbonbhamcfaaB24
import Derived.Test.YtbibbonbhamcfaaB20
import Derived.Test.YtbibbonbhamcfaaB19
import Derived.Test.YtbibbonbhamcfaaB08
import Derived.ProofKit
import Derived.OpenShut
import Derived.ChangeOld
import Derived.Deep.Slices
import Derived.Deep.Fields
import Derived.Deep.Strs
import Derived.Test.YtbibbonbhamcfaaRows
import Derived.Test.YtbibbonbhamcfaaB14
import Derived.Test.YtbibbonbhamcfaaB13
import Derived.Test.YtbibbonbhamcfaaB21
set_option linter.unusedVariables false
set_option linter.unusedSimpArgs false
namespace Go.Proofs.Ytbibbonbhamcfaa
set_option maxRecDepth 100000
set_option linter.unusedVariables false
set_option linter.unusedSimpArgs false
open Go.RowKit Go.Sort

theorem rdC_glider (W : World) : RdC (W.alloc (.cells #[.int .i64 0, .int .i64 0, .int .i64 1, .int .i64 1, .int .i64 (-1), .int .i64 2, .int .i64 0, .int .i64 2, .int .i64 1, .int .i64 2] 48)) (W.alloc (.cells #[.int .i64 0, .int .i64 0, .int .i64 1, .int .i64 1, .int .i64 (-1), .int .i64 2, .int .i64 0, .int .i64 2, .int .i64 1, .int .i64 2] 48)).heap.size (some ⟨W.heap.size, 0, none⟩) gl9 := fun j hj => by
  have hn := heap_alloc_new W (.cells #[.int .i64 0, .int .i64 0, .int .i64 1, .int .i64 1, .int .i64 (-1), .int .i64 2, .int .i64 0, .int .i64 2, .int .i64 1, .int .i64 2] 48 (0, 0))
  have hj3 : j = 0 ∨ j = 1 ∨ j = 2 ∨ j = 3 ∨ j = 4 := by simp [gl9] at hj; omega
  rcases hj3 with rfl | rfl | rfl | rfl | rfl
  all_goals
    refine ⟨W.heap.size, 0, rfl, by simp, ?_, ?_⟩ <;> · rw [Lib.cell_of_heap hn]; rfl
theorem glider_any (w : World) : Calls Try.prog 32 #[] w fun e w' => ∃ b, e = .returned (.slice (some ⟨b, 0, none⟩) 5 5) ∧ RdC w' w'.heap.size (some ⟨b, 0, none⟩) gl9 ∧ Below w.heap.size w w' := by
  have hal := Lib.hid ((Below.refl w.heap.size w).alloc (Nat.le_refl _) (.cells #[.int .i64 0, .int .i64 0, .int .i64 1, .int .i64 1, .int .i64 (-1), .int .i64 2, .int .i64 0, .int .i64 2, .int .i64 1, .int .i64 2] 48))
  have hR := Lib.hid (rdC_glider w)
  go_enter Try.func32, Try.ntmps32
  go_wp2_with fail
  go_ret
  exact ⟨_, rfl, hR.out, hal.out⟩
set_option maxHeartbeats 16000000 in
theorem awake9_any (w : World) : Calls Try.prog 12 #[] w fun e w' => e = .returned (.bool true) ∧ Below w.heap.size w w' := by
  have hn := refNew6_any 9000 w
  rw [show newL 9000 = new6 from rfl, show newRoom 9000 = 9000 from rfl] at hn
  obtain ⟨l, n, hmk, hsq, hlen⟩ := aw9_make
  obtain ⟨la, na, ea, hra, hsa⟩ := aw9_run hsq hlen
  obtain ⟨lb, nb, hrb, hsb⟩ := aw9_leap hsq hlen
  obtain ⟨lt, nt, hrt, hrt6, hst⟩ := aw9_trim hsq hlen
  have HQ := Lib.hid (And.intro (aw9_no hsq) (aw9_far hsq hlen))
  have HLV := Lib.hid (show ∀ i, i < l.length → -9223372036854775808 ≤ (l.getD i deadN).1 ∧ (l.getD i deadN).1 ≤ 9223372036854775807 from fun i hi => by have := right_bd hsq.right i hi; omega)
  have HMK := Lib.hid hmk
  have HRA := Lib.hid hra
  have HRB := Lib.hid hrb
  have HRT := Lib.hid hrt
  have HSA := Lib.hid hsa
  have HSB := Lib.hid hsb
  have HST := Lib.hid (And.intro hrt6 hst)
  have hl6 : l.length ≤ 1000000 := by omega
  clear hmk hra hrb hrt hsa hsb hst hrt6 hsq hlen
  go_enter Try.func12, Try.ntmps12
  go_wp2_with fail
  refine hn.mono ?_
  clear hn
  intro e w1 h1
  obtain ⟨A1, c1, rfl, hcap1, N1, hb1⟩ := storeR_box7 h1
  have hgl := glider_any w1
  clear h1
  go_wp2_with fail
  refine hgl.mono ?_
  rintro e w2 ⟨b, rfl, hC, hb2⟩
  have hc2 := refMake7_any A1 new6 c1 9000 (some ⟨b, 0, none⟩) gl9 5 4 w2 (N1.below hb2) (by decide) hcap1 (by decide) hC (by decide) (by decide)
  rw [HMK.out] at hc2
  unfold storeV at hc2
  have hB1 := Qt.more hb1 hb1.size hb2
  clear hgl hC N1 hb1 hb2
  go_wp2_with fail
  refine hc2.mono ?_
  intro e w3 h2
  obtain ⟨A2, c2, rfl, hcap2, N2, hb2⟩ := putR_box h2
  have hB2 := Qt.more hB1 hB1.size hb2
  have hal := (Below.refl w3.heap.size w3).alloc (Nat.le_refl _) (.cells #[.slice A2 l.length c2, .int .i64 9000] 26)
  have HS2 := Lib.hid (stB_new N2 hcap2 9000)
  have HB2 := Lib.hid (Qt.more hB2 hB2.size hal)
  have s0 := HS2.out.s0
  have s1 := HS2.out.s1
  clear h2 hc2 hb2 hB1 hB2 N2 hal
  go_wp2_with fail
  generalize (w3.alloc (.cells #[.slice A2 l.length c2, .int .i64 9000] 26)) = v2 at *
  generalize w3.heap.size = b2 at *
  clear s0 s1
  have hc2 := run9_any A2 l c2 9000 (n : Int) 4 v2 (by unfold I64; omega) HS2.out.rd hl6 hcap2 HLV.out
  rw [HRA.out] at hc2
  unfold storeV at hc2
  refine hc2.mono ?_
  intro e w4 h
  obtain ⟨AA, cA, rfl, hcapA, N, hb⟩ := putR_box h
  have hal := (Below.refl w4.heap.size w4).alloc (Nat.le_refl _) (.cells #[.slice AA la.length cA, .int .i64 9000] 26)
  have hb' := Qt.more (B := v2.heap.size) hb hb.size hal
  have HNA3 := Lib.hid (stB_new N hcapA 9000)
  have HS3 := Lib.hid (HS2.out.below hb')
  have HB3 := Lib.hid (Qt.more HB2.out HB2.out.size hb')
  have s0 := HS3.out.s0
  have s1 := HS3.out.s1
  clear h hc2 hb hb' N hal HB2 HS2
  go_wp2_with fail
  generalize (w4.alloc (.cells #[.slice AA la.length cA, .int .i64 9000] 26)) = v3 at *
  generalize w4.heap.size = b3 at *
  clear s0 s1
  have hc2 := leap9_any A2 l c2 9000 (n : Int) 2 v3 (by unfold I64; omega) HS3.out.rd hl6 hcap2 HLV.out
  rw [HRB.out] at hc2
  unfold storeV at hc2
  refine hc2.mono ?_
  intro e w5 h
  obtain ⟨AB, cB, rfl, hcapB, N, hb⟩ := putR_box h
  have hal := (Below.refl w5.heap.size w5).alloc (Nat.le_refl _) (.cells #[.slice AB lb.length cB, .int .i64 9000] 26)
  have hb' := Qt.more (B := v3.heap.size) hb hb.size hal
  have HNB4 := Lib.hid (stB_new N hcapB 9000)
  have HS4 := Lib.hid (HS3.out.below hb')
  have HB4 := Lib.hid (Qt.more HB3.out HB3.out.size hb')
  have HNA4 := Lib.hid (HNA3.out.below hb')
  have s0 := HS4.out.s0
  have s1 := HS4.out.s1
  clear h hc2 hb hb' N hal HB3 HS3 HNA3
  go_wp2_with fail
  generalize (w5.alloc (.cells #[.slice AB lb.length cB, .int .i64 9000] 26)) = v4 at *
  generalize w5.heap.size = b4 at *
  clear s0 s1
  have hc2 := trim9_any A2 l c2 9000 (n : Int) v4 HS4.out.rd hl6 hcap2 HLV.out
  rw [HRT.out] at hc2
  unfold storeV at hc2
  refine hc2.mono ?_
  intro e w6 h
  obtain ⟨AT, cT, rfl, hcapT, N, hb⟩ := putR_box h
  have hal := (Below.refl w6.heap.size w6).alloc (Nat.le_refl _) (.cells #[.slice AT lt.length cT, .int .i64 9000] 26)
  have hb' := Qt.more (B := v4.heap.size) hb hb.size hal
  have HNT5 := Lib.hid (stB_new N hcapT 9000)
  have HS5 := Lib.hid (HS4.out.below hb')
  have HB5 := Lib.hid (Qt.more HB4.out HB4.out.size hb')
  have HNA5 := Lib.hid (HNA4.out.below hb')
  have HNB5 := Lib.hid (HNB4.out.below hb')
  have s0 := HS5.out.s0
  have s1 := HS5.out.s1
  clear h hc2 hb hb' N hal HB4 HS4 HNA4 HNB4
  go_wp2_with fail
  generalize (w6.alloc (.cells #[.slice AT lt.length cT, .int .i64 9000] 26)) = v5 at *
  generalize w6.heap.size = b5 at *
  clear s0 s1
  have hc2 := leap9_any A2 l c2 9000 (n : Int) 3 v5 (by unfold I64; omega) HS5.out.rd hl6 hcap2 HLV.out
  rw [HQ.out.1] at hc2
  unfold storeV at hc2
  refine hc2.mono ?_
  intro e w7 h
  obtain ⟨AX, cX, rfl, hcapX, N, hb⟩ := putR_box h
  have hal := (Below.refl w7.heap.size w7).alloc (Nat.le_refl _) (.cells #[.slice AX l.length cX, .int .i64 9000] 26)
  have hb' := Qt.more (B := v5.heap.size) hb hb.size hal
  have HNX6 := Lib.hid (stB_new N hcapX 9000)
  have HS6 := Lib.hid (HS5.out.below hb')
  have HB6 := Lib.hid (Qt.more HB5.out HB5.out.size hb')
  have HNA6 := Lib.hid (HNA5.out.below hb')
  have HNB6 := Lib.hid (HNB5.out.below hb')
  have HNT6 := Lib.hid (HNT5.out.below hb')
  have s0 := HS6.out.s0
  have s1 := HS6.out.s1
  clear h hc2 hb hb' N hal HB5 HS5 HNA5 HNB5 HNT5
  go_wp2_with fail
  generalize (w7.alloc (.cells #[.slice AX l.length cX, .int .i64 9000] 26)) = v6 at *
  generalize w7.heap.size = b6 at *
  clear s0 s1
  have hc2 := run9_any A2 l c2 9000 (n : Int) 2305843009213693952 v6 (by unfold I64; omega) HS6.out.rd hl6 hcap2 HLV.out
  rw [HQ.out.2] at hc2
  unfold storeV at hc2
  refine hc2.mono ?_
  intro e w8 h
  obtain ⟨AY, cY, rfl, hcapY, N, hb⟩ := putR_box h
  have hal := (Below.refl w8.heap.size w8).alloc (Nat.le_refl _) (.cells #[.slice AY l.length cY, .int .i64 9000] 26)
  have hb' := Qt.more (B := v6.heap.size) hb hb.size hal
  have HNY7 := Lib.hid (stB_new N hcapY 9000)
  have HS7 := Lib.hid (HS6.out.below hb')
  have HB7 := Lib.hid (Qt.more HB6.out HB6.out.size hb')
  have HNA7 := Lib.hid (HNA6.out.below hb')
  have HNB7 := Lib.hid (HNB6.out.below hb')
  have HNT7 := Lib.hid (HNT6.out.below hb')
  have HNX7 := Lib.hid (HNX6.out.below hb')
  have a0 := HNA7.out.s0
  have a1 := HNA7.out.s1
  have b0 := HNB7.out.s0
  have t0 := HNT7.out.s0
  have ia := HSA.out.is.lt
  have ib := HSB.out.is.lt
  have it := HST.out.2.lt
  have iz : (na : Int) < (la.length : Int) := by omega
  have ibz : (nb : Int) < (lb.length : Int) := by omega
  have itz : (nt : Int) < (lt.length : Int) := by omega
  have iz2 : ¬ (la.length : Int) ≤ (na : Int) := by omega
  have ibz2 : ¬ (lb.length : Int) ≤ (nb : Int) := by omega
  have itz2 : ¬ (lt.length : Int) ≤ (nt : Int) := by omega
  have ib3 : ¬ (lb.length : Int) < 3 := by
    have h2 := HSB.out.is.two HSB.out.right
    omega
  obtain ⟨qa, oa, rfl, hla, hna⟩ := HNA7.out.nd (by omega)
  obtain ⟨qb, ob, rfl, hlb, hnb⟩ := HNB7.out.nd (by omega)
  obtain ⟨qt, ot, rfl, hlt, hnt⟩ := HNT7.out.nd (by omega)
  have xa := (hna na ia).1
  rw [HSA.out.is.lev] at xa
  have xa2 : ¬ ((ea + 1 + 1 : Nat) : Int) < 2 := by omega
  have xb := (hnb nb ib).1
  rw [HSB.out.is.lev, show ((2 + 1 : Nat) : Int) = 3 from rfl] at xb
  have xp := (hnb nb ib).2.2.2.2.2
  rw [HSB.out.pop, show (gl94.length : Int) = 5 from rfl] at xp
  have xt := (hnt nt it).1
  rw [HST.out.2.lev, show ((3 : Nat) : Int) = 3 from rfl] at xt
  clear hna hnb hnt
  clear h hc2 hb hb' N hal HB6 HS6 HNA6 HNB6 HNT6 HNX6
  go_wp2_with fail
  generalize (w8.alloc (.cells #[.slice AY l.length cY, .int .i64 9000] 26)) = v7 at *
  generalize w8.heap.size = b7 at *
  obtain ⟨L, hL⟩ : ∃ L, L = about7 la (ea + 1) na := ⟨_, rfl⟩
  have hlen5 : L.length = 5 := by rw [hL, HSA.out.len]; rfl
  have hof := refOf7_any la HSA.out.right (some ⟨qa, oa, none⟩) cA 9000 (ea + 1) na v7 HSA.out.low HSA.out.is HNA7.out.rd (by rw [← hL, hlen5]; decide)
  rw [← hL] at hof
  unfold storeV at hof
  refine hof.mono ?_
  rintro r w8 ⟨A9, c9, rfl, hc9, hR9, hb8⟩
  rw [hlen5]
  have b0' := (HNB7.out.below hb8).s0
  have t0' := (HNT7.out.below hb8).s0
  have xb' := (hb8.cell (p := ⟨qb, ob + nb * 6, none⟩) hlb).trans xb
  have xp' := (hb8.cell (p := ⟨qb, ob + nb * 6 + 5, none⟩) hlb).trans xp
  have xt' := (hb8.cell (p := ⟨qt, ot + nt * 6, none⟩) hlt).trans xt
  have HB8 := Lib.hid (Qt.more HB7.out HB7.out.size hb8)
  clear hof hL hR9 hb8 a0 a1 b0 t0 xa xb xp xt hlen5 hc9 HB7 HNA7 HNB7 HNT7 HNX7 HNY7 HS7
  go_wp2_with fail
  go_ret
  exact ⟨rfl, HB8.out⟩
end Go.Proofs.Ytbibbonbhamcfaa
namespace Go.Proofs.Ytbibbonbhamcfaa
set_option maxRecDepth 100000
set_option linter.unusedVariables false
set_option linter.unusedSimpArgs false
open Go.RowKit Go.Sort

theorem pick9_any (c n : Int) (w : World) (h1 : -9223372036854775808 ≤ c) (h2 : c ≤ 9223372036854775807) (hn : 1 ≤ n) (hn2 : n ≤ 9223372036854775807) :
    Calls Try.prog 14 #[.int .i64 c, .int .i64 n] w fun e w' => e = .returned (.int .i64 (pickI c n)) ∧ w = w' := by
  generalize hr : pickI c n = r
  have HR := Lib.hid hr
  clear hr
  go_enter Try.func14, Try.ntmps14
  go_wp2
  all_goals go_ret
  all_goals refine ⟨?_, rfl⟩
  all_goals (refine Qt.ret_int ?_; rw [← HR.out]; unfold pickI)
  · rw [if_pos (by assumption), ← Int.neg_tmod, Int.tmod_eq_emod_of_nonneg (by omega)]
  · rw [if_neg (by omega)]
end Go.Proofs.Ytbibbonbhamcfaa
namespace Go.Proofs.Ytbibbonbhamcfaa
set_option maxRecDepth 100000
set_option linter.unusedVariables false
set_option linter.unusedSimpArgs false

/-- an answer: no room, and the store as it was; or a node in a store that has grown -/
def Ans9 (l : List Nd) (room : Int) (z : Zn) (Q : List Nd → Nat → Prop) : Prop := z = (l, 0, 40) ∨ ∃ (m : List Nd) (p : Nat), z = (m, (p : Int), 0) ∧ Grows l m ∧ Right6 m room ∧ Q m p
section
variable {l : List Nd} {room : Int} {e n : Nat} {F : Pic}
theorem grownL_is {k : Nat} (hr : Right6 l room) (hk : Is l (k + 2) n) (z : Zn) : grownL l room (n : Int) z = if z.2.2 = 0 then z else (l, 0, z.2.2) := by
  unfold grownL
  rw [if_pos (by rw [right_iff.2 hr, lev_at hk, Bool.true_and]; exact decide_eq_true (by omega))]
theorem ans_of {k : Nat} (hr : Right6 l room) (hk : Is l (k + 2) n) {z : Zn} {Q : List Nd → Nat → Prop} (h : DoneE room l z Q) : Ans9 l room (grownL l room (n : Int) z) Q := by
  rw [grownL_is hr hk]
  rcases h with h1 | ⟨m, p, e, g, r, q⟩
  · left
    rw [h1, if_neg (by decide)]
  · right
    rw [e, if_pos rfl]
    exact ⟨m, p, rfl, g, r, q⟩
/-- a run of up to 63 generations, from a level of at most 34 -/
theorem run9_done (h : Sw l room (e + 1) n F) (he : e ≤ 30) {c : Nat} (hc : c < 64) : Ans9 l room (run9 l room (n : Int) (c : Int)) (fun m p => ∃ e', e' ≤ 40 ∧ Sw m room (e' + 1) p (runF (sum2 (Nq.bitsL (c : Int))) F) ∧ (e' = 0 ∨ ¬ InP (2 ^ e') (runF (sum2 (Nq.bitsL (c : Int))) F))) := by
  have hz : runZ room l (n : Int) (c : Int) = runTo room (Nq.bitsL (c : Int)) l (n : Int) := by unfold runZ; rw [if_pos (by omega)]
  unfold run9
  rw [hz]
  have key : ∀ c, c < 64 → (Nq.bitsL ((c : Nat) : Int)).length ≤ 6 ∧ ∀ j ∈ Nq.bitsL ((c : Nat) : Int), 0 ≤ j ∧ j ≤ 30 := by decide +kernel
  obtain ⟨k1, k2⟩ := key c hc
  have hr := runTo_done room (Nq.bitsL (c : Int)) 30 e n l F h he k2 (by omega)
  have hr2 : DoneE room l (runTo room (Nq.bitsL (c : Int)) l (n : Int)) (fun m p => ∃ e', e' ≤ 40 ∧ Sw m room (e' + 1) p (runF (sum2 (Nq.bitsL (c : Int))) F) ∧ (e' = 0 ∨ ¬ InP (2 ^ e') (runF (sum2 (Nq.bitsL (c : Int))) F))) := by
    rcases hr with h1 | ⟨m, p, e0, g, r, e', h1, h2, h3⟩
    · exact .inl h1
    · refine .inr ⟨m, p, e0, g, r, e', h1, h2, h3.imp id fun hd hp => hd (h2.sf.ringed fun c _ hc => ?_)⟩
      obtain ⟨a, b⟩ := c
      exact hp a b fun hn => by rw [in_iff.2 hn] at hc; cases hc
  exact ans_of h.sf.right h.sf.is hr2
end
theorem sum2_bits : ∀ c : Nat, c < 64 → sum2 (Nq.bitsL (c : Int)) = c := by decide +kernel
end Go.Proofs.Ytbibbonbhamcfaa
namespace Go.Proofs.Ytbibbonbhamcfaa
set_option maxRecDepth 100000
set_option linter.unusedVariables false
set_option linter.unusedSimpArgs false

section
variable {l : List Nd} {room : Int} {e n : Nat} {F : Pic}
theorem Sf.about (h : Sf l room e n F) (c : Int × Int) : c ∈ about7 l e n ↔ insideB e c = true ∧ F c = true := by
  unfold about7
  rw [mem_flat]
  have hp : (2 : Int) ^ (e + 1) = 2 ^ e * 2 := Int.pow_succ _ _
  have e2 : (c.1 - -(2 ^ e), c.2 - -(2 ^ e)) = inwardC e c := by unfold inwardC; exact Prod.ext (by omega) (by omega)
  have e3 : InAt7 (e + 1) (-(2 ^ e), -(2 ^ e)) c ↔ insideB e c = true := by
    unfold InAt7 insideB
    rw [hp, decide_eq_true_iff]
    generalize (2 : Int) ^ e = P
    simp only
    omega
  rw [e2, e3]
  exact ⟨fun ⟨h1, h2⟩ => ⟨h1, by rw [← h.al c h1]; exact h2⟩, fun ⟨h1, h2⟩ => ⟨h1, by rw [h.al c h1]; exact h2⟩⟩
end
end Go.Proofs.Ytbibbonbhamcfaa
namespace Go.Proofs.Ytbibbonbhamcfaa
set_option maxRecDepth 100000
set_option linter.unusedVariables false
set_option linter.unusedSimpArgs false
open Go.RowKit Go.Sort

theorem make_ok2 {l : List Nd} {room : Int} {e : Nat} {S : List (Int × Int)} (hr : Right6 l room) (hlow : e ≤ 41) (hS : Cel.rightB S = true) (hin : ∀ s ∈ S, insideB e s = true) (hroom : ((l.length + S.length * (e + 1) + (e + 1) : Nat) : Int) ≤ room) :
    ∃ (m : List Nd) (n t : Nat), make7 l room S ((e : Int) + 1) = (m, (n : Int), 0) ∧ Grows l m ∧ Sq m room e n S ∧ t ≤ e + 1 ∧ (∃ x, Emp m t x) ∧ m.length ≤ l.length + S.length * (e + 1) + t := by
  obtain ⟨m, n, h', e1, hm⟩ := build_res (room := room) (K := e + 1) (by omega) (e + 1) (Nat.le_refl _) l 0 (S.map (inwardC e)) hr (by omega) ⟨0, rfl⟩ (by rw [List.length_map]; omega)
  refine ⟨m, n, h', ?_, hm.grows, ⟨hm.right, hm.is, hlow, hS, hin, hm.alive⟩, hm.hi, hm.emp, ?_⟩
  · unfold make7 grown6
    rw [if_pos (right_iff.2 hr), makeZ_yes hlow hS hin, e1, if_pos rfl]
  · have := hm.len
    rw [List.length_map] at *
    omega
end Go.Proofs.Ytbibbonbhamcfaa
namespace Go.Proofs.Ytbibbonbhamcfaa
set_option maxRecDepth 100000
set_option linter.unusedVariables false
set_option linter.unusedSimpArgs false
open Go.RowKit Go.Sort

theorem Ans9.any {l : List Nd} {room : Int} {z : Zn} {Q : List Nd → Nat → Prop} (h : Ans9 l room z Q) (hr : Right6 l room) : ∃ (m : List Nd) (p : Nat) (e : Int), z = (m, (p : Int), e) ∧ Grows l m ∧ Right6 m room ∧ ((e = 40 ∧ p = 0) ∨ (e = 0 ∧ Q m p)) := by
  rcases h with h | ⟨m, p, h1, h2, h3, h4⟩
  · exact ⟨l, 0, 40, h, Grows.refl l, hr, .inl ⟨rfl, rfl⟩⟩
  · exact ⟨m, p, 0, h1, h2, h3, .inr ⟨rfl, h4⟩⟩
theorem right_len {l : List Nd} {room : Int} (h : Right6 l room) : l.length ≤ 100000 := by have := h.len; have := h.room100; omega
theorem new_right {room : Int} (h1 : 2 ≤ room) (h2 : room ≤ 100000) : Right6 new6 room := right_new h1 h2
end Go.Proofs.Ytbibbonbhamcfaa
namespace Go.Proofs.Ytbibbonbhamcfaa
set_option maxRecDepth 100000
set_option linter.unusedVariables false
set_option linter.unusedSimpArgs false
open Go.RowKit Go.Sort

def negC (c : Int × Int) : Int × Int := (-c.1, -c.2)
theorem neg_neg9 (c : Int × Int) : negC (negC c) = c := by
  unfold negC
  exact Prod.ext (by simp only; omega) (by simp only; omega)
def negF (F : Pic) : Pic := fun c => F (negC c)
theorem cnt_neg (F : Pic) (a b : Int) : cnt1 (negF F) a b = cnt1 F (-a) (-b) := rfl
theorem next_neg (F : Pic) : nextF (negF F) = negF (nextF F) := by
  funext c
  obtain ⟨x, y⟩ := c
  show Cel.livesB (F (negC (x, y))) ((aboutF (negF F) (x, y) : Nat) : Int) = Cel.livesB (F (negC (x, y))) ((aboutF F (negC (x, y)) : Nat) : Int)
  have : aboutF (negF F) (x, y) = aboutF F (negC (x, y)) := by
    unfold aboutF negC
    simp only [cnt_neg]
    rw [show -(x - 1) = -x + 1 by omega, show -(y - 1) = -y + 1 by omega, show -(x + 1) = -x - 1 by omega, show -(y + 1) = -y - 1 by omega]
    omega
  rw [this]
theorem run_neg : ∀ (t : Nat) (F : Pic), runF t (negF F) = negF (runF t F)
  | 0, F => rfl
  | t + 1, F => by
    show runF t (nextF (negF F)) = negF (runF t (nextF F))
    rw [next_neg, run_neg t]
/-- of a list, the first k, turned by half -/
def mirTo (L : List (Int × Int)) (k : Nat) : List (Int × Int) := Cel.setL ((L.take k).map negC)
theorem mir_succ {L : List (Int × Int)} {k : Nat} (h : k < L.length) : mirTo L (k + 1) = Cel.putL (-(L.getD k (0, 0)).1, -(L.getD k (0, 0)).2) (mirTo L k) := by
  unfold mirTo
  rw [Cel.take_snoc h, List.map_append]
  exact Cel.setL_snoc _ _
theorem mir_len (L : List (Int × Int)) (k : Nat) : (mirTo L k).length ≤ L.length := by
  refine Nat.le_trans (Cel.length_setL _) ?_
  rw [List.length_map, List.length_take]
  omega
theorem mem_mir {L : List (Int × Int)} (q : Int × Int) : q ∈ mirTo L L.length ↔ negC q ∈ L := by
  unfold mirTo
  rw [Cel.mem_setL, List.take_length, List.mem_map]
  constructor
  · rintro ⟨a, h, rfl⟩; rw [neg_neg9]; exact h
  · intro h; exact ⟨_, h, neg_neg9 q⟩
theorem mir_in {L : List (Int × Int)} (hL : ∀ s ∈ L, -8 ≤ s.1 ∧ s.1 ≤ 7 ∧ -8 ≤ s.2 ∧ s.2 ≤ 7) (k : Nat) : ∀ s ∈ mirTo L k, -7 ≤ s.1 ∧ s.1 ≤ 8 ∧ -7 ≤ s.2 ∧ s.2 ≤ 8 := fun s hs => by
  unfold mirTo at hs
  rw [Cel.mem_setL, List.mem_map] at hs
  obtain ⟨a, h, rfl⟩ := hs
  have := hL a (List.mem_of_mem_take h)
  unfold negC
  simp only
  omega
theorem mir_right {L : List (Int × Int)} (hl : L.length ≤ 60) (hL : ∀ s ∈ L, -8 ≤ s.1 ∧ s.1 ≤ 7 ∧ -8 ≤ s.2 ∧ s.2 ≤ 7) (k : Nat) : Cel.rightB (mirTo L k) = true ∧ ∀ s ∈ mirTo L k, insideB 4 s = true := by
  have hk := mir_len L k
  refine ⟨(Cel.rightB_iff _).2 ⟨by omega, fun s hs => ?_, Cel.rises_setL _⟩, fun s hs => ?_⟩
  · have := mir_in hL k s hs
    unfold Cel.inB
    exact decide_eq_true (by omega)
  · have := mir_in hL k s hs
    refine in_iff.2 ?_
    rw [show (2 : Int) ^ 4 = 16 from rfl]
    omega
theorem mir_pic (L : List (Int × Int)) : picL (mirTo L L.length) = negF (picL L) := by
  funext q
  unfold picL negF
  rw [Bool.eq_iff_iff, decide_eq_true_iff, decide_eq_true_iff]
  exact mem_mir q
theorem mir_short {X Y : List (Int × Int)} (h : ∀ q, q ∈ Y ↔ negC q ∈ X) : (Cel.setL Y).length ≤ (Cel.setL X).length := by
  have : Cel.setL Y = Cel.setL ((Cel.setL X).map negC) := Cel.rises_ext (Cel.rises_setL _) (Cel.rises_setL _) fun q => by
    rw [Cel.mem_setL, Cel.mem_setL, h, List.mem_map]
    constructor
    · intro hq; exact ⟨_, (Cel.mem_setL _ _).2 hq, neg_neg9 q⟩
    · rintro ⟨a, ha, rfl⟩; rw [neg_neg9]; exact (Cel.mem_setL _ _).1 ha
  rw [this]
  refine Nat.le_trans (Cel.length_setL _) ?_
  rw [List.length_map]
  exact Nat.le_refl _
section
variable {l : List Nd} {room : Int} {e n : Nat} {F : Pic}
theorem Sw.about (h : Sw l room e n F) (c : Int × Int) : c ∈ about7 l e n ↔ F c = true := by
  rw [h.sf.about]
  refine ⟨fun h => h.2, fun hf => ⟨?_, hf⟩⟩
  obtain ⟨a, b⟩ := c
  refine in_iff.2 ?_
  by_cases hb : -(2 ^ e : Int) ≤ a ∧ a < 2 ^ e ∧ -(2 ^ e) ≤ b ∧ b < 2 ^ e
  · exact hb
  · rw [h.inp a b hb] at hf; cases hf
theorem Sw.about_bd (h : Sw l room e n F) (hF : InP 64 F) (c : Int × Int) (hc : c ∈ about7 l e n) : -64 ≤ c.1 ∧ c.1 < 64 ∧ -64 ≤ c.2 ∧ c.2 < 64 := by
  have hf := (h.about c).1 hc
  obtain ⟨a, b⟩ := c
  by_cases hb : -64 ≤ a ∧ a < 64 ∧ -64 ≤ b ∧ b < 64
  · exact hb
  · rw [hF a b hb] at hf; cases hf
theorem Sw.about_len (h : Sw l room e n F) (hF : InP 64 F) : (about7 l e n).length ≤ 16384 := by
  have := Cel.length_le_of_subset (about7 l e n) (Cel.boxL (-64) (-64) 128 128) (flat_nodup _ _ _) fun p hp => Cel.mem_boxL (by have := h.about_bd hF p hp; omega)
  rw [Cel.length_boxL] at this
  exact this
theorem Sw.about_of (h : Sw l room e n F) (hF : InP 64 F) : Cel.ofR (about7 l e n) = if 2000 < (Cel.setL (about7 l e n)).length then (3, []) else (0, Cel.setL (about7 l e n)) :=
  Cel.ofR_in fun j hj => by
    have := h.about_bd hF _ (Cel.getD_mem hj)
    unfold Cel.inB
    exact decide_eq_true (by omega)
end
/-- what both runs tell -/
structure MirL (b : List Nd) (p1 p2 ex ey : Nat) (er : Int) (P Q : List (Int × Int)) : Prop where
  hx : ex ≤ 41
  hy : ey ≤ 41
  hx1 : 1 ≤ ex
  hy1 : 1 ≤ ey
  isx : Is b (ex + 1) p1
  isy : Is b (ey + 1) p2
  lx : (about7 b ex p1).length ≤ 16384
  ly : (about7 b ey p2).length ≤ 16384
  ofx : Cel.ofR (about7 b ex p1) = (er, P)
  ofy : Cel.ofR (about7 b ey p2) = (er, Q)
  len : P.length = Q.length
  few : P.length ≤ 2000
  has : ∀ j, j < P.length → Cel.hasB Q (-(P.getD j (0, 0)).1, -(P.getD j (0, 0)).2) = true
  bd : ∀ j, j < P.length → -64 ≤ (P.getD j (0, 0)).1 ∧ (P.getD j (0, 0)).1 ≤ 64 ∧ -64 ≤ (P.getD j (0, 0)).2 ∧ (P.getD j (0, 0)).2 ≤ 64
theorem mir_known {b : List Nd} {R : Int} {p1 p2 ex ey : Nat} {F : Pic} (hx : ex ≤ 40) (hy : ey ≤ 40) (h1 : Sw b R (ex + 1) p1 F) (h2 : Sw b R (ey + 1) p2 (negF F)) (hF : InP 64 F) (hG : InP 64 (negF F)) : ∃ er P Q, MirL b p1 p2 (ex + 1) (ey + 1) er P Q := by
  have o1 := h1.about_of hF
  have o2 := h2.about_of hG
  have iff1 : ∀ q, q ∈ about7 b (ey + 1) p2 ↔ negC q ∈ about7 b (ex + 1) p1 := fun q => by
    rw [h2.about, h1.about]; rfl
  have iff2 : ∀ q, q ∈ about7 b (ex + 1) p1 ↔ negC q ∈ about7 b (ey + 1) p2 := fun q => by
    rw [h2.about, h1.about]
    show F q = true ↔ F (negC (negC q)) = true
    rw [neg_neg9]
  have hl : (Cel.setL (about7 b (ex + 1) p1)).length = (Cel.setL (about7 b (ey + 1) p2)).length := Nat.le_antisymm (mir_short iff2) (mir_short iff1)
  rw [← hl] at o2
  by_cases hm : 2000 < (Cel.setL (about7 b (ex + 1) p1)).length
  · rw [if_pos hm] at o1 o2
    exact ⟨3, [], [], by omega, by omega, by omega, by omega, h1.sf.is, h2.sf.is, h1.about_len hF, h2.about_len hG, o1, o2, rfl, Nat.zero_le _, fun j hj => absurd hj (Nat.not_lt_zero _), fun j hj => absurd hj (Nat.not_lt_zero _)⟩
  · rw [if_neg hm] at o1 o2
    refine ⟨0, _, _, by omega, by omega, by omega, by omega, h1.sf.is, h2.sf.is, h1.about_len hF, h2.about_len hG, o1, o2, hl, by omega, fun j hj => ?_, fun j hj => ?_⟩
    · have := (Cel.mem_setL _ _).1 (Cel.getD_mem hj)
      exact (Cel.hasB_iff _ _).2 ((Cel.mem_setL _ _).2 ((iff2 _).1 this))
    · have := h1.about_bd hF _ ((Cel.mem_setL _ _).1 (Cel.getD_mem hj))
      omega
/-- the stores and the answers of the law -/
structure MirK (R : Int) (L : List (Int × Int)) (c : Nat) (s : List Nd) (n : Nat) (t : List Nd) (k : Nat) (a : List Nd) (p1 : Nat) (e1 : Int) (b : List Nd) (p2 : Nat) (e2 : Int) : Prop where
  mk1 : make7 new6 R L 5 = (s, (n : Int), 0)
  mk2 : make7 s R (mirTo L L.length) 5 = (t, (k : Int), 0)
  r1 : run9 t R (n : Int) (c : Int) = (a, (p1 : Int), e1)
  r2 : run9 a R (k : Int) (c : Int) = (b, (p2 : Int), e2)
  rs : Right6 s R
  rt : Right6 t R
  ra : Right6 a R
  rb : Right6 b R
  res : e1 = 40 ∨ (e1 = 0 ∧ e2 = 40) ∨ (e1 = 0 ∧ e2 = 0 ∧ ∃ ex ey er P Q, MirL b p1 p2 ex ey er P Q)
theorem pic_in {S : List (Int × Int)} (h : ∀ s ∈ S, -8 ≤ s.1 ∧ s.1 ≤ 8 ∧ -8 ≤ s.2 ∧ s.2 ≤ 8) : InP 16 (picL S) := fun a b hn => decide_eq_false fun hs => hn (by have := h _ hs; simp only at this; omega)
theorem mir_all {R : Int} (hR : R = 9000) (L : List (Int × Int)) (hr : Cel.rightB L = true) (hl : L.length ≤ 60) (hL : ∀ s ∈ L, -8 ≤ s.1 ∧ s.1 ≤ 7 ∧ -8 ≤ s.2 ∧ s.2 ≤ 7) {c : Nat} (hc : c < 31) :
    ∃ s n t k a p1 e1 b p2 e2, MirK R L c s n t k a p1 e1 b p2 e2 := by
  have hin : ∀ s ∈ L, insideB 4 s = true := fun s hs => in_iff.2 (by have := hL s hs; rw [show (2 : Int) ^ 4 = 16 from rfl]; omega)
  obtain ⟨mr, min⟩ := mir_right hl hL L.length
  have ml := mir_len L L.length
  obtain ⟨s, n, t1, hm1, g1, q1, ht1, _, len1⟩ := make_ok2 (l := new6) (room := R) (e := 4) (new_right (by omega) (by omega)) (by decide) hr hin (by show (((2 + L.length * (4 + 1) + (4 + 1) : Nat)) : Int) ≤ R; omega)
  have len1' : s.length ≤ 2 + L.length * (4 + 1) + t1 := len1
  obtain ⟨t, k, t2, hm2, g2, q2, ht2, _, len2⟩ := make_ok2 (l := s) (room := R) (e := 4) q1.right (by decide) mr min (by omega)
  have hp1 := (q1.grows g2 q2.right).whole
  have hp2 := q2.whole
  rw [mir_pic] at hp2
  have h1 : InP 64 (runF c (picL L)) := InP.more (InP.run c (pic_in fun s hs => by have := hL s hs; omega)) (by omega)
  have h2 : InP 64 (negF (runF c (picL L))) := by
    rw [← run_neg, ← mir_pic]
    exact InP.more (InP.run c (pic_in fun s hs => by have := mir_in hL _ s hs; omega)) (by omega)
  have hs := sum2_bits c (by omega)
  obtain ⟨a, p1, e1, z1, ga, ra, c1⟩ := (run9_done (e := 3) hp1 (by decide) (show c < 64 by omega)).any q2.right
  have hp2' : Sw a R 4 k (negF (picL L)) := ⟨hp2.sf.grows ga ra, hp2.inp⟩
  obtain ⟨b, p2, e2, z2, gb, rb, c2⟩ := (run9_done (e := 3) hp2' (by decide) (show c < 64 by omega)).any ra
  rw [hs] at c1 c2
  rw [run_neg] at c2
  refine ⟨s, n, t, k, a, p1, e1, b, p2, e2, hm1, hm2, z1, z2, q1.right, q2.right, ra, rb, ?_⟩
  rcases c1 with ⟨h, _⟩ | ⟨h, ex, hx, w1, _⟩
  · exact .inl h
  rcases c2 with ⟨h', _⟩ | ⟨h', ey, hy, w2, _⟩
  · exact .inr (.inl ⟨h, h'⟩)
  obtain ⟨er, P, Q, hm⟩ := mir_known hx hy (F := runF c (picL L)) ⟨w1.sf.grows gb rb, w1.inp⟩ w2 h1 h2
  exact .inr (.inr ⟨h, h', ex + 1, ey + 1, er, P, Q, hm⟩)
end Go.Proofs.Ytbibbonbhamcfaa
namespace Go.Proofs.Ytbibbonbhamcfaa
set_option maxRecDepth 100000
set_option linter.unusedVariables false
set_option linter.unusedSimpArgs false
open Go.RowKit Go.Sort

section
variable {l : List Nd} {room : Int} {k n d : Nat}
theorem kd_dead4 {kk : Kd} (h : ∀ i, i < 4 → kd kk i = (d : Int)) : kk = ((d : Int), (d : Int), (d : Int), (d : Int)) := kd_ext fun i hi => by
  rw [h i hi]
  rcases (by omega : i = 0 ∨ i = 1 ∨ i = 2 ∨ i = 3) with rfl | rfl | rfl | rfl <;> rfl
theorem fit_dead (hr : Right6 l room) (h : Emp l k d) (hk : k + 1 ≤ 42) : Fit4 l ((d : Int), (d : Int), (d : Int), (d : Int)) := by
  obtain ⟨n1, n2, n3⟩ := emp_node hr k d h
  refine ⟨fun i hi => ?_, ?_⟩
  · have : kd ((d : Int), (d : Int), (d : Int), (d : Int)) i = (d : Int) := by
      rcases (by omega : i = 0 ∨ i = 1 ∨ i = 2 ∨ i = 3) with rfl | rfl | rfl | rfl <;> rfl
    rw [this]
    exact ⟨by omega, by omega, rfl⟩
  · show (ndAt l (d : Int)).1 + 1 ≤ 42
    rw [ndAt_nat, n2]
    omega
theorem put_dead (hr : Right6 l room) (h : Emp l (k + 1) n) (hk : k + 1 ≤ 42) {kk : Kd} (hd : Emp l k d) (hkk : ∀ i, i < 4 → kd kk i = (d : Int)) : put6 l room kk = (l, (n : Int), 0) := by
  obtain ⟨e, he, ha⟩ := h
  obtain rfl := emp_one k e d he hd
  rw [kd_dead4 hkk]
  exact put_again (fit_dead hr hd hk) ha
theorem emp_kid (h : Emp l (k + 1) n) {i : Nat} (hi : i < 4) : Emp l k (kidN l n i) := by
  obtain ⟨e, he, ha⟩ := h
  obtain ⟨a1, a2, a3, _⟩ := at_some ha
  have : kidN l n i = e := by
    unfold kidN
    rw [a3]
    rcases (by omega : i = 0 ∨ i = 1 ∨ i = 2 ∨ i = 3) with rfl | rfl | rfl | rfl <;> rfl
  rw [this]
  exact he
theorem emp_sx (h : Emp l (k + 2) n) {y x : Nat} (hy : y < 4) (hx : x < 4) : Emp l k (sx l n y x) := emp_kid (emp_kid (k := k + 1) h (by omega)) (by omega)
theorem sq_dead (hr : Right6 l room) (h : Emp l (k + 2) n) (hk : k + 2 ≤ 42) (hd : Emp l (k + 1) d) {y x : Nat} (hy : y < 3) (hx : x < 3) : put6 l room (sqK l n y x) = (l, (d : Int), 0) := by
  obtain ⟨c, hc⟩ := emp_below _ _ h k (by omega)
  refine put_dead hr hd (by omega) hc fun i hi => ?_
  rw [kd_sqK l n y x hi, emp_one k _ _ (emp_sx h (y := y + i / 2) (x := x + i % 2) (by omega) (by omega)) hc]
theorem centre_dead (hr : Right6 l room) (h : Emp l (k + 2) n) (hk : k + 2 ≤ 42) (hd : Emp l (k + 1) d) : centreZ room l (n : Int) = (l, (d : Int), 0) := by
  unfold centreZ
  rw [lev_at (emp_is hr h), if_neg (by omega), Int.toNat_natCast]
  exact sq_dead hr h hk hd (by decide) (by decide)
theorem nineTo_dead (hr : Right6 l room) (h : Emp l (k + 2) n) (hk : k + 2 ≤ 42) (hd : Emp l (k + 1) d) : ∀ i, i ≤ 9 → ∃ q, nineTo room l n i = (l, q, 0) ∧ ∀ t, t < i → q t = (d : Int)
  | 0, _ => ⟨fun _ => 0, rfl, fun t ht => absurd ht (Nat.not_lt_zero t)⟩
  | i + 1, hi => by
    obtain ⟨q, e, hq⟩ := nineTo_dead hr h hk hd i (by omega)
    refine ⟨fun t => if t = i then (d : Int) else q t, ?_, fun t ht => ?_⟩
    · show (if (nineTo room l n i).2.2 = 0 then _ else nineTo room l n i) = _
      rw [e, if_pos rfl]
      simp only
      rw [sq_dead hr h hk hd (y := i / 3) (x := i % 3) (by omega) (by omega)]
    · simp only
      split
      · rfl
      · exact hq t (by omega)
theorem nine_dead (hr : Right6 l room) (h : Emp l (k + 2) n) (hk : k + 2 ≤ 42) (hd : Emp l (k + 1) d) : ∃ q, nineZ room l (n : Int) = (l, q, 0) ∧ ∀ t, t < 9 → q t = (d : Int) := by
  obtain ⟨q, e, hq⟩ := nineTo_dead hr h hk hd 9 (Nat.le_refl _)
  refine ⟨q, ?_, hq⟩
  unfold nineZ
  rw [lev_at (emp_is hr h), if_neg (by omega), Int.toNat_natCast, e, if_pos rfl]
theorem each_dead {f : List Nd → Int → Zn} {p : Nat → Int} {K : Nat} (h : ∀ t, t < K → f l (p t) = (l, (d : Int), 0)) : ∀ i, i ≤ K → ∃ q, eachTo f l p i = (l, q, 0) ∧ ∀ t, t < i → q t = (d : Int)
  | 0, _ => ⟨p, rfl, fun t ht => absurd ht (Nat.not_lt_zero t)⟩
  | i + 1, hi => by
    obtain ⟨q, e, hq⟩ := each_dead h i (by omega)
    refine ⟨fun t => if t = i then (d : Int) else q t, ?_, fun t ht => ?_⟩
    · show (if (eachTo f l p i).2.2 = 0 then _ else eachTo f l p i) = _
      rw [e, if_pos rfl]
      simp only
      rw [h i (by omega)]
    · simp only
      split
      · rfl
      · exact hq t (by omega)
theorem far_dead (hr : Right6 l room) (h : Emp l (k + 3) n) (hk : k + 3 ≤ 42) {d2 d1 : Nat} (h2 : Emp l (k + 2) d2) (h1 : Emp l (k + 1) d1) {first second : List Nd → Int → Zn} (hf : first l (d2 : Int) = (l, (d1 : Int), 0)) (hs : second l (d2 : Int) = (l, (d1 : Int), 0)) : farZ room first second l (n : Int) = (l, (d2 : Int), 0) := by
  unfold farZ
  obtain ⟨q, e, hq⟩ := nine_dead hr h hk h2
  rw [e, and_yes rfl]
  simp only
  obtain ⟨q2, e2, hq2⟩ := each_dead (f := first) (p := q) (K := 9) (d := d1) (fun t ht => by rw [hq t ht]; exact hf) 9 (Nat.le_refl _)
  rw [e2, and_yes rfl]
  simp only
  obtain ⟨q3, e3, hq3⟩ := each_dead (f := fun m i => put6 m room (overK q2 i)) (p := cornP) (K := 4) (d := d2) (fun t ht => by
    refine put_dead hr h2 (by omega) h1 fun i hi => ?_
    have hc : (cornP t).toNat = t / 2 * 3 + t % 2 := by unfold cornP; rw [Int.toNat_natCast]
    unfold overK
    rw [hc]
    rcases (by omega : i = 0 ∨ i = 1 ∨ i = 2 ∨ i = 3) with rfl | rfl | rfl | rfl
    · exact hq2 _ (by omega)
    · exact hq2 _ (by omega)
    · exact hq2 _ (by omega)
    · exact hq2 _ (by omega)) 4 (Nat.le_refl _)
  rw [e3, and_yes rfl]
  simp only
  obtain ⟨q4, e4, hq4⟩ := each_dead (f := second) (p := q3) (K := 4) (d := d1) (fun t ht => by rw [hq3 t ht]; exact hs) 4 (Nat.le_refl _)
  rw [e4, and_yes rfl]
  simp only
  refine put_dead hr h2 (by omega) h1 fun i hi => ?_
  rcases (by omega : i = 0 ∨ i = 1 ∨ i = 2 ∨ i = 3) with rfl | rfl | rfl | rfl
  · exact hq4 _ (by omega)
  · exact hq4 _ (by omega)
  · exact hq4 _ (by omega)
  · exact hq4 _ (by omega)
theorem step_dead (hr : Right6 l room) (h : Emp l 2 n) (hd : Emp l 1 d) : stepZ room l (n : Int) = (l, (d : Int), 0) := by
  unfold stepZ
  rw [lev_at (emp_is hr h), if_pos (show ((2 : Nat) : Int) = 2 from rfl), Int.toNat_natCast]
  refine put_dead (d := 0) hr hd (by decide) rfl fun i hi => ?_
  rw [kd_stepK l n hi]
  have hx : ∀ y x, y < 4 → x < 4 → sx l n y x = 0 := fun y x hy hx => emp_sx (k := 0) h hy hx
  have hy1 : 1 + i / 2 = 1 ∨ 1 + i / 2 = 2 := by omega
  have hx1 : 1 + i % 2 = 1 ∨ 1 + i % 2 = 2 := by omega
  have : nxK l n (1 + i / 2) (1 + i % 2) = 0 := by
    unfold nxK aboutK
    rcases hy1 with e | e <;> rcases hx1 with e2 | e2 <;> rw [e, e2] <;> simp only [Nat.reduceSub, Nat.reduceAdd] <;> rw [hx _ _ (by decide) (by decide), hx _ _ (by decide) (by decide), hx _ _ (by decide) (by decide), hx _ _ (by decide) (by decide), hx _ _ (by decide) (by decide), hx _ _ (by decide) (by decide), hx _ _ (by decide) (by decide), hx _ _ (by decide) (by decide), hx _ _ (by decide) (by decide)] <;> rfl
  rw [this]
end
theorem leap_dead {l : List Nd} {room : Int} (hr : Right6 l room) : ∀ (e j n d : Nat), Emp l (e + 2) n → e + 2 ≤ 42 → Emp l (e + 1) d → leapN room e j l (n : Int) = (l, (d : Int), 0)
  | 0, j, n, d, h, _, hd => step_dead hr h hd
  | e + 1, j, n, d, h, he, hd => by
    obtain ⟨c, hc⟩ := emp_below _ _ h (e + 1) (by omega)
    show farZ room (if j = e + 1 then leapN room e (min j e) else centreZ room) (leapN room e (min j e)) l (n : Int) = _
    refine far_dead hr h he hd hc ?_ (leap_dead hr e _ d c hd (by omega) hc)
    split
    · exact leap_dead hr e _ d c hd (by omega) hc
    · exact centre_dead hr hd (by omega) hc
theorem trim_dead {l : List Nd} {room : Int} (hr : Right6 l room) : ∀ (e n : Nat) {d : Nat}, Emp l (e + 2) n → e + 2 ≤ 42 → Emp l 2 d → trimN room e l n = (l, (d : Int), 0)
  | 0, n, d, h, _, hd => by
    obtain rfl := emp_one 2 n d h hd
    rfl
  | e + 1, n, d, h, he, hd => by
    have hD : DeadB l n 4 := fun i hi j hj _ => by
      unfold popK
      rw [(emp_node hr _ _ (emp_kid (k := e + 1) (emp_kid (k := e + 2) h hi) hj)).2.2]
    obtain ⟨c, hc⟩ := emp_below _ _ h (e + 2) (by omega)
    show (if DeadB l n 4 then andZ (centreZ room l (n : Int)) (fun m p => trimN room e m p.toNat) else (l, (n : Int), 0)) = _
    rw [if_pos hD, centre_dead hr h he hc, and_yes rfl]
    simp only [Int.toNat_natCast]
    exact trim_dead hr e c hc (by omega) hd
/-- a store of dead nodes alone, up to a level -/
structure DSt (l : List Nd) (room : Int) (t : Nat) : Prop where
  right : Right6 l room
  emp : ∃ x, Emp l t x
  len : l.length ≤ 2 + t
  top : t ≤ 42
theorem DSt.at_ {l : List Nd} {room : Int} {t : Nat} (h : DSt l room t) {k : Nat} (hk : k ≤ t) : ∃ x, Emp l k x := by
  obtain ⟨x, hx⟩ := h.emp
  exact emp_below _ _ hx k hk
theorem grow_dead {l : List Nd} {room : Int} (hroom : 500 ≤ room) {t k n : Nat} (h : DSt l room t) (hn : Emp l (k + 1) n) (hkt : k + 1 ≤ t) (hk : k + 1 ≤ 41) : ∃ (m : List Nd) (p t' : Nat), growZ room l (n : Int) = (m, (p : Int), 0) ∧ DSt m room t' ∧ Emp m (k + 2) p ∧ k + 2 ≤ t' := by
  have hr := h.right
  obtain ⟨e, he⟩ := emp_below _ _ hn k (by omega)
  obtain ⟨n1, n2, n3⟩ := emp_node hr _ _ hn
  have h1 : hasB l (n : Int) = true := by
    unfold hasB
    rw [ndAt_nat, n2]
    exact decide_eq_true (by omega)
  have h2 : growZ room l (n : Int) = growC room l n k := by
    unfold growZ
    rw [h1, ndAt_nat, n2, Bool.true_and, if_pos (decide_eq_true (by omega)), Int.toNat_natCast, show ((k + 1 : Nat) : Int).toNat - 1 = k by omega]
  have h3 := empty_had hr k e (by omega) he
  have hfour : ∀ i, i ≤ 4 → ∃ q, fourTo (fun i l' => put6 l' room (growK (l.getD n deadN).2.1 (e : Int) i)) l i = (l, q, 0) ∧ ∀ t, t < i → kd q t = (n : Int) := by
    intro i
    induction i with
    | zero => exact fun _ => ⟨(0, 0, 0, 0), rfl, fun t ht => absurd ht (Nat.not_lt_zero t)⟩
    | succ i ih =>
      intro hi
      obtain ⟨q, e1, hq⟩ := ih (by omega)
      refine ⟨kset q i (n : Int), ?_, fun t ht => ?_⟩
      · show (if (fourTo _ l i).2.2 = 0 then _ else fourTo _ l i) = _
        rw [e1, if_pos rfl]
        simp only
        have hp : put6 l room (growK (l.getD n deadN).2.1 (e : Int) i) = (l, (n : Int), 0) := by
          refine put_dead hr hn (by omega) he fun j hj => ?_
          have hkd : kd (l.getD n deadN).2.1 i = (e : Int) := by
            have := emp_one k _ _ (emp_kid hn (i := i) (by omega)) he
            rw [kid_cast hr (emp_is hr hn) (by omega), this]
          unfold growK
          rw [hkd]
          have key : ∀ a : Nat, a < 4 → kd (kset ((e : Int), (e : Int), (e : Int), (e : Int)) a (e : Int)) j = (e : Int) := fun a ha => by
            rcases (by omega : a = 0 ∨ a = 1 ∨ a = 2 ∨ a = 3) with rfl | rfl | rfl | rfl <;> rcases (by omega : j = 0 ∨ j = 1 ∨ j = 2 ∨ j = 3) with rfl | rfl | rfl | rfl <;> rfl
          exact key _ (by omega)
        rw [hp]
      · rcases (by omega : t = i ∨ t < i) with rfl | h
        · rcases (by omega : t = 0 ∨ t = 1 ∨ t = 2 ∨ t = 3) with rfl | rfl | rfl | rfl <;> rfl
        · rw [← hq t h]
          rcases (by omega : i = 1 ∨ i = 2 ∨ i = 3) with rfl | rfl | rfl <;> rcases (by omega : t = 0 ∨ t = 1 ∨ t = 2) with rfl | rfl | rfl <;> first | rfl | omega
  obtain ⟨q, e4, hq⟩ := hfour 4 (Nat.le_refl _)
  have h4 : growC room l n k = put6 l room ((n : Int), (n : Int), (n : Int), (n : Int)) := by
    unfold growC
    rw [h3, if_pos rfl]
    simp only
    unfold four
    rw [e4, if_pos rfl]
    simp only
    rw [kd_dead4 hq]
  rw [h2, h4]
  by_cases hkt2 : k + 2 ≤ t
  · obtain ⟨p, hp⟩ := h.at_ hkt2
    refine ⟨l, p, t, ?_, h, hp, hkt2⟩
    refine put_dead hr hp (by omega) hn fun i hi => ?_
    rcases (by omega : i = 0 ∨ i = 1 ∨ i = 2 ∨ i = 3) with rfl | rfl | rfl | rfl <;> rfl
  · have ht : t = k + 1 := by omega
    have hlen := h.len
    rcases put_ok hr (fit_dead hr hn (by omega)) with ⟨m, p, e5, hp⟩ | ⟨_, hf, _⟩
    · have hE : Emp m (k + 2) p := ⟨n, emp_grows hp.grows _ _ hn, hp.at_⟩
      exact ⟨m, p, k + 2, e5, ⟨hp.right, ⟨p, hE⟩, by have := hp.more; omega, by omega⟩, hE, Nat.le_refl _⟩
    · omega
/-- grown: dead too; or the level is too great -/
theorem grown_dead {room : Int} (hroom : 500 ≤ room) (jn : Nat) : ∀ (d t k n T : Nat) (l : List Nd), DSt l room T → Emp l (k + 1) n → k + 1 ≤ T → k + 1 + d = 42 →
    (jn + 3 ≤ 42 → 2 ≤ d + t → ∃ (m : List Nd) (p T' k' : Nat), grownN room jn d t l n = (m, (p : Int), 0) ∧ DSt m room T' ∧ Emp m (k' + 1) p ∧ k' + 1 ≤ T' ∧ k + 3 ≤ k' + 1 + t ∧ jn + 3 ≤ k' + 1) ∧
    (42 < jn + 3 → (grownN room jn d t l n).2.2 = 2)
  | 0, t, k, n, T, l, h, hn, hkT, hd => by
    refine ⟨fun hj ht => ?_, fun hj => ?_⟩
    · rw [grownN_no (by omega)]
      exact ⟨l, n, T, k, rfl, h, hn, hkT, by omega, by omega⟩
    · rw [show grownN room jn 0 t l n = (l, 0, 2) from if_pos (.inr (by omega))]
  | d + 1, t, k, n, T, l, h, hn, hkT, hd => by
    obtain ⟨m, p, T', e1, hD, hp, hT'⟩ := grow_dead hroom h hn hkT (by omega)
    have ih := grown_dead hroom jn d (t + 1) (k + 1) p T' m hD hp hT' (by omega)
    have hgo : (t < 2 ∨ 42 < jn + 3 + (d + 1)) → grownN room jn (d + 1) t l n = grownN room jn d (t + 1) m p := fun hc => by
      have hg : grownN room jn (d + 1) t l n = andZ (growZ room l (n : Int)) (fun m p => grownN room jn d (t + 1) m p.toNat) := if_pos hc
      rw [hg, e1, and_yes rfl]
      simp only [Int.toNat_natCast]
    refine ⟨fun hj ht => ?_, fun hj => ?_⟩
    · by_cases hc : t < 2 ∨ 42 < jn + 3 + (d + 1)
      · rw [hgo hc]
        obtain ⟨m', p', T2, k', a1, a2, a3, a4, a5, a6⟩ := ih.1 hj (by omega)
        exact ⟨m', p', T2, k', a1, a2, a3, a4, by omega, a6⟩
      · rw [grownN_no hc]
        exact ⟨l, n, T, k, rfl, h, hn, hkT, by omega, by omega⟩
    · rw [hgo (.inr (by omega))]
      exact ih.2 hj
/-- run: dead too, of the level 2; or a power is too great -/
theorem run_dead {room : Int} (hroom : 500 ≤ room) : ∀ (B : List Int) (e n T : Nat) (l : List Nd), DSt l room T → Emp l (e + 2) n → e + 2 ≤ T → (∀ j ∈ B, 0 ≤ j) →
    ((∀ j ∈ B, j ≤ 39) → ∃ (m : List Nd) (p T' : Nat), runTo room B l (n : Int) = (m, (p : Int), 0) ∧ DSt m room T' ∧ Emp m 2 p) ∧
    ((∃ j ∈ B, 39 < j) → (runTo room B l (n : Int)).2.2 = 2)
  | [], e, n, T, l, h, hn, hT, h0 => by
    refine ⟨fun _ => ?_, fun ⟨j, hj, _⟩ => by cases hj⟩
    have htop := h.top
    obtain ⟨d, hd⟩ := h.at_ (k := 2) (by omega)
    refine ⟨l, d, T, ?_, h, hd⟩
    show trimZ room l (n : Int) = _
    rw [trimZ_is (emp_is h.right hn), trim_dead h.right e n hn (by omega) hd]
  | j :: B, e, n, T, l, h, hn, hT, h0 => by
    have htop := h.top
    have hj0 := h0 j List.mem_cons_self
    have h0' : ∀ i ∈ B, 0 ≤ i := fun i hi => h0 i (List.mem_cons_of_mem _ hi)
    obtain ⟨d, hd⟩ := h.at_ (k := 2) (by omega)
    have e0 : runTo room (j :: B) l (n : Int) = andZ (grownZ room j.toNat l (d : Int)) fun l2 n2 => andZ (leapAtZ room j.toNat l2 n2) fun l3 n3 => runTo room B l3 n3 := by
      show andZ (trimZ room l (n : Int)) _ = _
      rw [trimZ_is (emp_is h.right hn), trim_dead h.right e n hn (by omega) hd, and_yes rfl]
    rw [e0, grownZ_is (d := 40) (emp_is h.right hd) rfl]
    have hg := grown_dead hroom j.toNat 40 0 1 d T l h hd (by omega) rfl
    by_cases hj : j ≤ 39
    · obtain ⟨m, p, T', k', g1, g2, g3, g4, g5, g6⟩ := hg.1 (by omega) (by omega)
      rw [g1, and_yes rfl]
      simp only
      obtain ⟨k2, rfl⟩ : ∃ k2, k' = k2 + 1 := ⟨k' - 1, by omega⟩
      obtain ⟨c, hc⟩ := emp_below _ _ g3 (k2 + 1) (by omega)
      have gt := g2.top
      rw [leapAtZ_is (e := k2) (emp_is g2.right g3), leap_dead g2.right k2 _ p c g3 (by omega) hc, and_yes rfl]
      simp only
      obtain ⟨k3, rfl⟩ : ∃ k3, k2 = k3 + 1 := ⟨k2 - 1, by omega⟩
      have ih := run_dead hroom B k3 c T' m g2 hc (by omega) h0'
      refine ⟨fun hB => ih.1 fun i hi => hB i (List.mem_cons_of_mem _ hi), fun ⟨i, hi, hi2⟩ => ih.2 ?_⟩
      rcases List.mem_cons.1 hi with rfl | hi3
      · omega
      · exact ⟨i, hi3, hi2⟩
    · refine ⟨fun hB => absurd (hB j List.mem_cons_self) hj, fun _ => ?_⟩
      have := hg.2 (by omega)
      rw [and_no (by rw [this]; decide)]
      exact this
/-! ### which powers a count has -/
theorem bits_low {u : Nat} (h : u < 1099511627776) : ∀ j ∈ Nq.bitsL (u : Int), j ≤ 39 := fun j hj => by
  rw [Nq.bitsL_nat (by omega)] at hj
  unfold Nq.bitsTo at hj
  obtain ⟨i, hi, rfl⟩ := List.mem_map.1 hj
  have ht := (List.mem_filter.1 hi).2
  by_cases h40 : i < 40
  · omega
  · have : u.testBit i = false := Nat.testBit_lt_two_pow (Nat.lt_of_lt_of_le (show u < 2 ^ 40 from h) (Nat.pow_le_pow_right (by decide) (by omega)))
    rw [this] at ht
    cases ht
theorem bits_high {u : Nat} (h : u < 1099511627776) : ∃ j ∈ Nq.bitsL ((1099511627776 + u : Nat) : Int), 39 < j := by
  refine ⟨40, ?_, by decide⟩
  rw [Nq.bitsL_nat (by omega)]
  unfold Nq.bitsTo
  refine List.mem_map.2 ⟨40, List.mem_filter.2 ⟨List.mem_range.2 (by decide), ?_⟩, rfl⟩
  rw [Nat.testBit_eq_decide_div_mod_eq]
  refine decide_eq_true ?_
  rw [show (2 : Nat) ^ 40 = 1099511627776 from rfl]
  omega
/-- what the law's calls answer -/
structure DeaK (R : Int) (v e c1 c2 : Nat) (s : List Nd) (n m : Nat) (b : List Nd) (k : Nat) : Prop where
  mke : empty6 new6 R (v : Int) = (s, (n : Int), 0)
  lp : leap9 s R (n : Int) (e : Int) = (s, (m : Int), 0)
  r1 : run9 s R (n : Int) (c1 : Int) = (b, (k : Int), 0)
  r2 : run9 s R (n : Int) (c2 : Int) = (s, 0, 2)
  rs : Right6 s R
  rb : Right6 b R
  em : Emp s (v - 1) m
  ek : Emp b 2 k
theorem dea_known {R : Int} (hR : R = 500) {v e u : Nat} (hv : 2 ≤ v) (hv2 : v ≤ 42) (he : e < v - 1) {c1 : Nat} (h1 : c1 < 1099511627776) (hu : u < 1099511627776) : ∃ s n m b k, DeaK R v e c1 (1099511627776 + u) s n m b k := by
  have h0 : Right6 new6 R := new_right (by omega) (by omega)
  have h00 : new6.length = 2 := rfl
  obtain ⟨s, n, e1, g, hr, hn, hl⟩ := empty_ok h0 v hv2 (by rw [h00]; omega)
  have hD : DSt s R v := ⟨hr, ⟨n, hn⟩, by omega, hv2⟩
  obtain ⟨w, rfl⟩ : ∃ w, v = w + 2 := ⟨v - 2, by omega⟩
  obtain ⟨m, hm⟩ := hD.at_ (k := w + 1) (by omega)
  have hB0 : ∀ c : Int, ∀ j ∈ Nq.bitsL c, 0 ≤ j := fun c j hj => (Nq.bitsL_bd c j hj).1
  obtain ⟨b, k, T, z1, db, hk⟩ := (run_dead (room := R) (by omega) (Nq.bitsL (c1 : Int)) w n (w + 2) s hD hn (Nat.le_refl _) (hB0 _)).1 (bits_low h1)
  have z2 := (run_dead (room := R) (by omega) (Nq.bitsL ((1099511627776 + u : Nat) : Int)) w n (w + 2) s hD hn (Nat.le_refl _) (hB0 _)).2 (bits_high hu)
  have hg : ∀ z : Zn, grownL s R (n : Int) z = if z.2.2 = 0 then z else (s, 0, z.2.2) := fun z => grownL_is hr (emp_is hr hn) z
  refine ⟨s, n, m, b, k, ?_, ?_, ?_, ?_, hr, db.right, hm, hk⟩
  · unfold empty6
    rw [if_pos (by rw [right_iff.2 h0, Bool.true_and, Bool.and_eq_true]; exact ⟨decide_eq_true (by omega), decide_eq_true (by omega)⟩), Int.toNat_natCast, e1, if_pos rfl]
  · unfold leap9 leapZ
    rw [lev_at (emp_is hr hn), if_pos (by omega), show (((w + 2 : Nat) : Int) - 2).toNat = w by omega, Int.toNat_natCast, leap_dead hr w e n m hn (by omega) hm, hg, if_pos rfl]
  · unfold run9 runZ
    rw [if_pos (by omega), z1, hg, if_pos rfl]
  · unfold run9 runZ
    rw [if_pos (by omega), hg, if_neg (by rw [z2]; decide), z2]
end Go.Proofs.Ytbibbonbhamcfaa
namespace Go.Proofs.Ytbibbonbhamcfaa
set_option linter.unusedVariables false
open Go.ChangeShapes Go.WideShapes Go.ChangeAt Go.RowKit Go.Deep

theorem i64_wf6 {a : Int} (h : (Lit.int .i64 a).wf = true) : I64 a := by
  have : IntKind.i64.min ≤ a ∧ a ≤ IntKind.i64.max := by simpa [Lit.wf] using h
  simpa [I64, IntKind.min, IntKind.max, IntKind.signed, IntKind.bits] using this

section
variable {H : Type} {enc : TypeId × Value → H} {w : World} {base : Nat} {spare : Nat → Bool} {held : Bool} {P : Program}
end
end Go.Proofs.Ytbibbonbhamcfaa
namespace Go.Proofs.Ytbibbonbhamcfaa
set_option maxRecDepth 100000
set_option linter.unusedVariables false
open Go.ChangeShapes Go.WideShapes Go.ChangeAt Go.RowKit Go.Deep
theorem own : ownKnob Try.prog.godebug = none := by kernel_rfl
theorem laidOut : laidOutB Try.prog = true := by kernel_rfl
section
variable {H : Type} {enc : TypeId × Value → H} {W : World} {base : Nat} {spare : Nat → Bool} {held : Bool} {P : Program}
end
end Go.Proofs.Ytbibbonbhamcfaa
namespace Go.Proofs.Ytbibbonbhamcfaa
set_option maxRecDepth 100000
set_option linter.unusedVariables false
set_option linter.unusedSimpArgs false
open Go.RowKit Go.Sort

theorem NineAt.corner {room : Int} {l a : List Nd} {e n : Nat} {p : Nat → Nat} (h : NineAt room l e n 9 a p) (hr : Right6 l room) (hn : Is l (e + 2) n) {k : Nat} (hk : k < 4) : p (k / 2 * 6 + k % 2 * 2) = kidN l n k := by
  have h1 := h.kids (k / 2 * 6 + k % 2 * 2) (by omega)
  rw [show (k / 2 * 6 + k % 2 * 2) / 3 = k / 2 * 2 by omega, show (k / 2 * 6 + k % 2 * 2) % 3 = k % 2 * 2 by omega] at h1
  have h2 := h.grows.at_ (corner_at hr hn hk)
  rw [h1] at h2
  exact Option.some.inj h2
/-- A node's cells, its kids by name. -/
theorem NdAt.kids {w : World} {b o : Nat} {x : Nd} (h : NdAt w b o x) {k : Kd} (hk : x.2.1 = k) : w.cell? ⟨b, o + 1, none⟩ = some (.int .i64 k.1) ∧ w.cell? ⟨b, o + 2, none⟩ = some (.int .i64 k.2.1) ∧ w.cell? ⟨b, o + 3, none⟩ = some (.int .i64 k.2.2.1) ∧ w.cell? ⟨b, o + 4, none⟩ = some (.int .i64 k.2.2.2) := by
  subst hk
  obtain ⟨_, h1, h2, h3, h4, _⟩ := h
  exact ⟨h1, h2, h3, h4⟩
/-- four numbers in a box -/
def K4B (w : World) (b : Nat) (x y u v : Int) : Prop := w.heap[b]? = some (.cells #[.int .i64 x, .int .i64 y, .int .i64 u, .int .i64 v] 33 (0, 0))
theorem K4B.below {w w' : World} {b : Nat} {x y u v : Int} (h : K4B w b x y u v) (hb : Below w.heap.size w w') : K4B w' b x y u v := (hb.block _ (lt_heap6 h)).trans h
theorem K4B.s0 {w : World} {b : Nat} {x y u v : Int} (h : K4B w b x y u v) : w.cell? ⟨b, 0, none⟩ = some (.int .i64 x) := by rw [Lib.cell_of_heap h]; rfl
theorem K4B.s1 {w : World} {b : Nat} {x y u v : Int} (h : K4B w b x y u v) : w.cell? ⟨b, 1, none⟩ = some (.int .i64 y) := by rw [Lib.cell_of_heap h]; rfl
theorem K4B.s2 {w : World} {b : Nat} {x y u v : Int} (h : K4B w b x y u v) : w.cell? ⟨b, 2, none⟩ = some (.int .i64 u) := by rw [Lib.cell_of_heap h]; rfl
theorem K4B.s3 {w : World} {b : Nat} {x y u v : Int} (h : K4B w b x y u v) : w.cell? ⟨b, 3, none⟩ = some (.int .i64 v) := by rw [Lib.cell_of_heap h]; rfl
theorem StB.node {W : World} {b : Nat} {q o : Nat} {l : List Nd} {c : Nat} {room : Int} (h : StB W b (some ⟨q, o, none⟩) l c room) {j : Nat} (hj : j < l.length) : NdAt W q (o + j * 6) (l.getD j deadN) := by
  obtain ⟨b', o', e, _, hn⟩ := h.rd j hj
  injection e with e
  injection e with e1 e2
  subst e1 e2
  exact hn
end Go.Proofs.Ytbibbonbhamcfaa
