/-
  Texts that the claims of this seat share, part 29.
-/
import Derived.Test.YtgjibpgfcbdpgaaB27
import Derived.Test.YtgjibpgfcbdpgaaB28
import Derived.Test.YtgjibpgfcbdpgaaB05
import Derived.Test.YtgjibpgfcbdpgaaB26
import Derived.Test.YtgjibpgfcbdpgaaB22
import Derived.Test.YtgjibpgfcbdpgaaB21
import Derived.Test.YtgjibpgfcbdpgaaB08
import Derived.ProofKit
import Derived.OpenShut
import Derived.ChangeOld
import Derived.Deep.Slices
import Derived.Deep.Fields
import Derived.Deep.Strs
import Derived.Test.YtgjibpgfcbdpgaaRows
import Derived.Test.YtgjibpgfcbdpgaaB14
import Derived.Test.YtgjibpgfcbdpgaaB13
import Derived.Test.YtgjibpgfcbdpgaaB23
set_option linter.unusedVariables false
set_option linter.unusedSimpArgs false
namespace Go.Proofs.Ytgjibpgfcbdpgaa
set_option maxRecDepth 100000
set_option linter.unusedVariables false
set_option linter.unusedSimpArgs false
open Go.RowKit Go.Sort

theorem rdC_glider (W : World) : RdC (W.alloc (.cells #[.int .i64 0, .int .i64 0, .int .i64 1, .int .i64 1, .int .i64 (-1), .int .i64 2, .int .i64 0, .int .i64 2, .int .i64 1, .int .i64 2] 48)) (W.alloc (.cells #[.int .i64 0, .int .i64 0, .int .i64 1, .int .i64 1, .int .i64 (-1), .int .i64 2, .int .i64 0, .int .i64 2, .int .i64 1, .int .i64 2] 48)).heap.size (some ⟨W.heap.size, 0, none⟩) gl9 := fun j hj => by
  have hn := heap_alloc_new W (.cells #[.int .i64 0, .int .i64 0, .int .i64 1, .int .i64 1, .int .i64 (-1), .int .i64 2, .int .i64 0, .int .i64 2, .int .i64 1, .int .i64 2] 48 (0, 0))
  have hj3 : j = 0 ∨ j = 1 ∨ j = 2 ∨ j = 3 ∨ j = 4 := by simp [gl9] at hj; omega
  rcases hj3 with rfl | rfl | rfl | rfl | rfl
  all_goals
    refine ⟨W.heap.size, 0, rfl, by simp, ?_, ?_⟩ <;> · rw [Lib.cell_of_heap hn]; rfl
theorem glider_any (w : World) : Calls Try.prog 32 #[] w fun e w' => ∃ b, e = .returned (.slice (some ⟨b, 0, none⟩) 5 5) ∧ RdC w' w'.heap.size (some ⟨b, 0, none⟩) gl9 ∧ Below w.heap.size w w' := by
  have hal := Lib.hid ((Below.refl w.heap.size w).alloc (Nat.le_refl _) (.cells #[.int .i64 0, .int .i64 0, .int .i64 1, .int .i64 1, .int .i64 (-1), .int .i64 2, .int .i64 0, .int .i64 2, .int .i64 1, .int .i64 2] 48))
  have hR := Lib.hid (rdC_glider w)
  go_enter Try.func32, Try.ntmps32
  go_wp2_with fail
  go_ret
  exact ⟨_, rfl, hR.out, hal.out⟩
set_option maxHeartbeats 16000000 in
theorem awake9_any (w : World) : Calls Try.prog 12 #[] w fun e w' => e = .returned (.bool true) ∧ Below w.heap.size w w' := by
  have hn := refNew6_any 9000 w
  rw [show newL 9000 = new6 from rfl, show newRoom 9000 = 9000 from rfl] at hn
  obtain ⟨l, n, hmk, hsq, hlen⟩ := aw9_make
  obtain ⟨la, na, ea, hra, hsa⟩ := aw9_run hsq hlen
  obtain ⟨lb, nb, hrb, hsb⟩ := aw9_leap hsq hlen
  obtain ⟨lt, nt, hrt, hrt6, hst⟩ := aw9_trim hsq hlen
  have HQ := Lib.hid (And.intro (aw9_no hsq) (aw9_far hsq hlen))
  have HLV := Lib.hid (show ∀ i, i < l.length → -9223372036854775808 ≤ (l.getD i deadN).1 ∧ (l.getD i deadN).1 ≤ 9223372036854775807 from fun i hi => by have := right_bd hsq.right i hi; omega)
  have HMK := Lib.hid hmk
  have HRA := Lib.hid hra
  have HRB := Lib.hid hrb
  have HRT := Lib.hid hrt
  have HSA := Lib.hid hsa
  have HSB := Lib.hid hsb
  have HST := Lib.hid (And.intro hrt6 hst)
  have hl6 : l.length ≤ 1000000 := by omega
  clear hmk hra hrb hrt hsa hsb hst hrt6 hsq hlen
  go_enter Try.func12, Try.ntmps12
  go_wp2_with fail
  refine hn.mono ?_
  clear hn
  intro e w1 h1
  obtain ⟨A1, c1, rfl, hcap1, N1, hb1⟩ := storeR_box7 h1
  have hgl := glider_any w1
  clear h1
  go_wp2_with fail
  refine hgl.mono ?_
  rintro e w2 ⟨b, rfl, hC, hb2⟩
  have hc2 := refMake7_any A1 new6 c1 9000 (some ⟨b, 0, none⟩) gl9 5 4 w2 (N1.below hb2) (by decide) hcap1 (by decide) hC (by decide) (by decide)
  rw [HMK.out] at hc2
  unfold storeV at hc2
  have hB1 := Qt.more hb1 hb1.size hb2
  clear hgl hC N1 hb1 hb2
  go_wp2_with fail
  refine hc2.mono ?_
  intro e w3 h2
  obtain ⟨A2, c2, rfl, hcap2, N2, hb2⟩ := putR_box h2
  have hB2 := Qt.more hB1 hB1.size hb2
  have hal := (Below.refl w3.heap.size w3).alloc (Nat.le_refl _) (.cells #[.slice A2 l.length c2, .int .i64 9000] 26)
  have HS2 := Lib.hid (stB_new N2 hcap2 9000)
  have HB2 := Lib.hid (Qt.more hB2 hB2.size hal)
  have s0 := HS2.out.s0
  have s1 := HS2.out.s1
  clear h2 hc2 hb2 hB1 hB2 N2 hal
  go_wp2_with fail
  generalize (w3.alloc (.cells #[.slice A2 l.length c2, .int .i64 9000] 26)) = v2 at *
  generalize w3.heap.size = b2 at *
  clear s0 s1
  have hc2 := run9_any A2 l c2 9000 (n : Int) 4 v2 (by unfold I64; omega) HS2.out.rd hl6 hcap2 HLV.out
  rw [HRA.out] at hc2
  unfold storeV at hc2
  refine hc2.mono ?_
  intro e w4 h
  obtain ⟨AA, cA, rfl, hcapA, N, hb⟩ := putR_box h
  have hal := (Below.refl w4.heap.size w4).alloc (Nat.le_refl _) (.cells #[.slice AA la.length cA, .int .i64 9000] 26)
  have hb' := Qt.more (B := v2.heap.size) hb hb.size hal
  have HNA3 := Lib.hid (stB_new N hcapA 9000)
  have HS3 := Lib.hid (HS2.out.below hb')
  have HB3 := Lib.hid (Qt.more HB2.out HB2.out.size hb')
  have s0 := HS3.out.s0
  have s1 := HS3.out.s1
  clear h hc2 hb hb' N hal HB2 HS2
  go_wp2_with fail
  generalize (w4.alloc (.cells #[.slice AA la.length cA, .int .i64 9000] 26)) = v3 at *
  generalize w4.heap.size = b3 at *
  clear s0 s1
  have hc2 := leap9_any A2 l c2 9000 (n : Int) 2 v3 (by unfold I64; omega) HS3.out.rd hl6 hcap2 HLV.out
  rw [HRB.out] at hc2
  unfold storeV at hc2
  refine hc2.mono ?_
  intro e w5 h
  obtain ⟨AB, cB, rfl, hcapB, N, hb⟩ := putR_box h
  have hal := (Below.refl w5.heap.size w5).alloc (Nat.le_refl _) (.cells #[.slice AB lb.length cB, .int .i64 9000] 26)
  have hb' := Qt.more (B := v3.heap.size) hb hb.size hal
  have HNB4 := Lib.hid (stB_new N hcapB 9000)
  have HS4 := Lib.hid (HS3.out.below hb')
  have HB4 := Lib.hid (Qt.more HB3.out HB3.out.size hb')
  have HNA4 := Lib.hid (HNA3.out.below hb')
  have s0 := HS4.out.s0
  have s1 := HS4.out.s1
  clear h hc2 hb hb' N hal HB3 HS3 HNA3
  go_wp2_with fail
  generalize (w5.alloc (.cells #[.slice AB lb.length cB, .int .i64 9000] 26)) = v4 at *
  generalize w5.heap.size = b4 at *
  clear s0 s1
  have hc2 := trim9_any A2 l c2 9000 (n : Int) v4 HS4.out.rd hl6 hcap2 HLV.out
  rw [HRT.out] at hc2
  unfold storeV at hc2
  refine hc2.mono ?_
  intro e w6 h
  obtain ⟨AT, cT, rfl, hcapT, N, hb⟩ := putR_box h
  have hal := (Below.refl w6.heap.size w6).alloc (Nat.le_refl _) (.cells #[.slice AT lt.length cT, .int .i64 9000] 26)
  have hb' := Qt.more (B := v4.heap.size) hb hb.size hal
  have HNT5 := Lib.hid (stB_new N hcapT 9000)
  have HS5 := Lib.hid (HS4.out.below hb')
  have HB5 := Lib.hid (Qt.more HB4.out HB4.out.size hb')
  have HNA5 := Lib.hid (HNA4.out.below hb')
  have HNB5 := Lib.hid (HNB4.out.below hb')
  have s0 := HS5.out.s0
  have s1 := HS5.out.s1
  clear h hc2 hb hb' N hal HB4 HS4 HNA4 HNB4
  go_wp2_with fail
  generalize (w6.alloc (.cells #[.slice AT lt.length cT, .int .i64 9000] 26)) = v5 at *
  generalize w6.heap.size = b5 at *
  clear s0 s1
  have hc2 := leap9_any A2 l c2 9000 (n : Int) 3 v5 (by unfold I64; omega) HS5.out.rd hl6 hcap2 HLV.out
  rw [HQ.out.1] at hc2
  unfold storeV at hc2
  refine hc2.mono ?_
  intro e w7 h
  obtain ⟨AX, cX, rfl, hcapX, N, hb⟩ := putR_box h
  have hal := (Below.refl w7.heap.size w7).alloc (Nat.le_refl _) (.cells #[.slice AX l.length cX, .int .i64 9000] 26)
  have hb' := Qt.more (B := v5.heap.size) hb hb.size hal
  have HNX6 := Lib.hid (stB_new N hcapX 9000)
  have HS6 := Lib.hid (HS5.out.below hb')
  have HB6 := Lib.hid (Qt.more HB5.out HB5.out.size hb')
  have HNA6 := Lib.hid (HNA5.out.below hb')
  have HNB6 := Lib.hid (HNB5.out.below hb')
  have HNT6 := Lib.hid (HNT5.out.below hb')
  have s0 := HS6.out.s0
  have s1 := HS6.out.s1
  clear h hc2 hb hb' N hal HB5 HS5 HNA5 HNB5 HNT5
  go_wp2_with fail
  generalize (w7.alloc (.cells #[.slice AX l.length cX, .int .i64 9000] 26)) = v6 at *
  generalize w7.heap.size = b6 at *
  clear s0 s1
  have hc2 := run9_any A2 l c2 9000 (n : Int) 2305843009213693952 v6 (by unfold I64; omega) HS6.out.rd hl6 hcap2 HLV.out
  rw [HQ.out.2] at hc2
  unfold storeV at hc2
  refine hc2.mono ?_
  intro e w8 h
  obtain ⟨AY, cY, rfl, hcapY, N, hb⟩ := putR_box h
  have hal := (Below.refl w8.heap.size w8).alloc (Nat.le_refl _) (.cells #[.slice AY l.length cY, .int .i64 9000] 26)
  have hb' := Qt.more (B := v6.heap.size) hb hb.size hal
  have HNY7 := Lib.hid (stB_new N hcapY 9000)
  have HS7 := Lib.hid (HS6.out.below hb')
  have HB7 := Lib.hid (Qt.more HB6.out HB6.out.size hb')
  have HNA7 := Lib.hid (HNA6.out.below hb')
  have HNB7 := Lib.hid (HNB6.out.below hb')
  have HNT7 := Lib.hid (HNT6.out.below hb')
  have HNX7 := Lib.hid (HNX6.out.below hb')
  have a0 := HNA7.out.s0
  have a1 := HNA7.out.s1
  have b0 := HNB7.out.s0
  have t0 := HNT7.out.s0
  have ia := HSA.out.is.lt
  have ib := HSB.out.is.lt
  have it := HST.out.2.lt
  have iz : (na : Int) < (la.length : Int) := by omega
  have ibz : (nb : Int) < (lb.length : Int) := by omega
  have itz : (nt : Int) < (lt.length : Int) := by omega
  have iz2 : ¬ (la.length : Int) ≤ (na : Int) := by omega
  have ibz2 : ¬ (lb.length : Int) ≤ (nb : Int) := by omega
  have itz2 : ¬ (lt.length : Int) ≤ (nt : Int) := by omega
  have ib3 : ¬ (lb.length : Int) < 3 := by
    have h2 := HSB.out.is.two HSB.out.right
    omega
  obtain ⟨qa, oa, rfl, hla, hna⟩ := HNA7.out.nd (by omega)
  obtain ⟨qb, ob, rfl, hlb, hnb⟩ := HNB7.out.nd (by omega)
  obtain ⟨qt, ot, rfl, hlt, hnt⟩ := HNT7.out.nd (by omega)
  have xa := (hna na ia).1
  rw [HSA.out.is.lev] at xa
  have xa2 : ¬ ((ea + 1 + 1 : Nat) : Int) < 2 := by omega
  have xb := (hnb nb ib).1
  rw [HSB.out.is.lev, show ((2 + 1 : Nat) : Int) = 3 from rfl] at xb
  have xp := (hnb nb ib).2.2.2.2.2
  rw [HSB.out.pop, show (gl94.length : Int) = 5 from rfl] at xp
  have xt := (hnt nt it).1
  rw [HST.out.2.lev, show ((3 : Nat) : Int) = 3 from rfl] at xt
  clear hna hnb hnt
  clear h hc2 hb hb' N hal HB6 HS6 HNA6 HNB6 HNT6 HNX6
  go_wp2_with fail
  generalize (w8.alloc (.cells #[.slice AY l.length cY, .int .i64 9000] 26)) = v7 at *
  generalize w8.heap.size = b7 at *
  obtain ⟨L, hL⟩ : ∃ L, L = about7 la (ea + 1) na := ⟨_, rfl⟩
  have hlen5 : L.length = 5 := by rw [hL, HSA.out.len]; rfl
  have hof := refOf7_any la HSA.out.right (some ⟨qa, oa, none⟩) cA 9000 (ea + 1) na v7 HSA.out.low HSA.out.is HNA7.out.rd (by rw [← hL, hlen5]; decide)
  rw [← hL] at hof
  unfold storeV at hof
  refine hof.mono ?_
  rintro r w8 ⟨A9, c9, rfl, hc9, hR9, hb8⟩
  rw [hlen5]
  have b0' := (HNB7.out.below hb8).s0
  have t0' := (HNT7.out.below hb8).s0
  have xb' := (hb8.cell (p := ⟨qb, ob + nb * 6, none⟩) hlb).trans xb
  have xp' := (hb8.cell (p := ⟨qb, ob + nb * 6 + 5, none⟩) hlb).trans xp
  have xt' := (hb8.cell (p := ⟨qt, ot + nt * 6, none⟩) hlt).trans xt
  have HB8 := Lib.hid (Qt.more HB7.out HB7.out.size hb8)
  clear hof hL hR9 hb8 a0 a1 b0 t0 xa xb xp xt hlen5 hc9 HB7 HNA7 HNB7 HNT7 HNX7 HNY7 HS7
  go_wp2_with fail
  go_ret
  exact ⟨rfl, HB8.out⟩
end Go.Proofs.Ytgjibpgfcbdpgaa
namespace Go.Proofs.Ytgjibpgfcbdpgaa
set_option maxRecDepth 100000
set_option linter.unusedVariables false
set_option linter.unusedSimpArgs false
open Go.RowKit Go.Sort

theorem pick9_any (c n : Int) (w : World) (h1 : -9223372036854775808 ≤ c) (h2 : c ≤ 9223372036854775807) (hn : 1 ≤ n) (hn2 : n ≤ 9223372036854775807) :
    Calls Try.prog 14 #[.int .i64 c, .int .i64 n] w fun e w' => e = .returned (.int .i64 (pickI c n)) ∧ w = w' := by
  generalize hr : pickI c n = r
  have HR := Lib.hid hr
  clear hr
  go_enter Try.func14, Try.ntmps14
  go_wp2
  all_goals go_ret
  all_goals refine ⟨?_, rfl⟩
  all_goals (refine Qt.ret_int ?_; rw [← HR.out]; unfold pickI)
  · rw [if_pos (by assumption), ← Int.neg_tmod, Int.tmod_eq_emod_of_nonneg (by omega)]
  · rw [if_neg (by omega)]
end Go.Proofs.Ytgjibpgfcbdpgaa
namespace Go.Proofs.Ytgjibpgfcbdpgaa
set_option maxRecDepth 100000
set_option linter.unusedVariables false
set_option linter.unusedSimpArgs false

/-- an answer: no room, and the store as it was; or a node in a store that has grown -/
def Ans9 (l : List Nd) (room : Int) (z : Zn) (Q : List Nd → Nat → Prop) : Prop := z = (l, 0, 40) ∨ ∃ (m : List Nd) (p : Nat), z = (m, (p : Int), 0) ∧ Grows l m ∧ Right6 m room ∧ Q m p
section
variable {l : List Nd} {room : Int} {e n : Nat} {F : Pic}
theorem grownL_is {k : Nat} (hr : Right6 l room) (hk : Is l (k + 2) n) (z : Zn) : grownL l room (n : Int) z = if z.2.2 = 0 then z else (l, 0, z.2.2) := by
  unfold grownL
  rw [if_pos (by rw [right_iff.2 hr, lev_at hk, Bool.true_and]; exact decide_eq_true (by omega))]
theorem ans_of {k : Nat} (hr : Right6 l room) (hk : Is l (k + 2) n) {z : Zn} {Q : List Nd → Nat → Prop} (h : DoneE room l z Q) : Ans9 l room (grownL l room (n : Int) z) Q := by
  rw [grownL_is hr hk]
  rcases h with h1 | ⟨m, p, e, g, r, q⟩
  · left
    rw [h1, if_neg (by decide)]
  · right
    rw [e, if_pos rfl]
    exact ⟨m, p, rfl, g, r, q⟩
theorem trim9_done (h : Sw l room (e + 1) n F) (he : e ≤ 40) : Ans9 l room (trim9 l room (n : Int)) (fun m p => ∃ e', e' ≤ e ∧ Sw m room (e' + 1) p F ∧ (e' = 0 ∨ ¬ InP (2 ^ e') F)) := by
  unfold trim9
  rw [trimZ_is h.sf.is]
  refine ans_of h.sf.right h.sf.is ((trim_done room e n l F h he).mono (Nat.le_refl _) fun m p _ _ ⟨e', h1, h2, h3⟩ => ⟨e', h1, h2, h3.imp id fun hd hp => hd (h2.sf.ringed fun c _ hc => ?_)⟩).e
  obtain ⟨a, b⟩ := c
  exact hp a b fun hn => by rw [in_iff.2 hn] at hc; cases hc
end
end Go.Proofs.Ytgjibpgfcbdpgaa
namespace Go.Proofs.Ytgjibpgfcbdpgaa
set_option maxRecDepth 100000
set_option linter.unusedVariables false
set_option linter.unusedSimpArgs false

section
variable {l : List Nd} {room : Int} {e n : Nat} {F : Pic}
theorem Sf.about (h : Sf l room e n F) (c : Int × Int) : c ∈ about7 l e n ↔ insideB e c = true ∧ F c = true := by
  unfold about7
  rw [mem_flat]
  have hp : (2 : Int) ^ (e + 1) = 2 ^ e * 2 := Int.pow_succ _ _
  have e2 : (c.1 - -(2 ^ e), c.2 - -(2 ^ e)) = inwardC e c := by unfold inwardC; exact Prod.ext (by omega) (by omega)
  have e3 : InAt7 (e + 1) (-(2 ^ e), -(2 ^ e)) c ↔ insideB e c = true := by
    unfold InAt7 insideB
    rw [hp, decide_eq_true_iff]
    generalize (2 : Int) ^ e = P
    simp only
    omega
  rw [e2, e3]
  exact ⟨fun ⟨h1, h2⟩ => ⟨h1, by rw [← h.al c h1]; exact h2⟩, fun ⟨h1, h2⟩ => ⟨h1, by rw [h.al c h1]; exact h2⟩⟩
end
end Go.Proofs.Ytgjibpgfcbdpgaa
namespace Go.Proofs.Ytgjibpgfcbdpgaa
set_option maxRecDepth 100000
set_option linter.unusedVariables false
set_option linter.unusedSimpArgs false
open Go.RowKit Go.Sort

theorem make_ok2 {l : List Nd} {room : Int} {e : Nat} {S : List (Int × Int)} (hr : Right6 l room) (hlow : e ≤ 41) (hS : Cel.rightB S = true) (hin : ∀ s ∈ S, insideB e s = true) (hroom : ((l.length + S.length * (e + 1) + (e + 1) : Nat) : Int) ≤ room) :
    ∃ (m : List Nd) (n t : Nat), make7 l room S ((e : Int) + 1) = (m, (n : Int), 0) ∧ Grows l m ∧ Sq m room e n S ∧ t ≤ e + 1 ∧ (∃ x, Emp m t x) ∧ m.length ≤ l.length + S.length * (e + 1) + t := by
  obtain ⟨m, n, h', e1, hm⟩ := build_res (room := room) (K := e + 1) (by omega) (e + 1) (Nat.le_refl _) l 0 (S.map (inwardC e)) hr (by omega) ⟨0, rfl⟩ (by rw [List.length_map]; omega)
  refine ⟨m, n, h', ?_, hm.grows, ⟨hm.right, hm.is, hlow, hS, hin, hm.alive⟩, hm.hi, hm.emp, ?_⟩
  · unfold make7 grown6
    rw [if_pos (right_iff.2 hr), makeZ_yes hlow hS hin, e1, if_pos rfl]
  · have := hm.len
    rw [List.length_map] at *
    omega
end Go.Proofs.Ytgjibpgfcbdpgaa
namespace Go.Proofs.Ytgjibpgfcbdpgaa
set_option maxRecDepth 100000
set_option linter.unusedVariables false
set_option linter.unusedSimpArgs false
open Go.RowKit Go.Sort

theorem Ans9.any {l : List Nd} {room : Int} {z : Zn} {Q : List Nd → Nat → Prop} (h : Ans9 l room z Q) (hr : Right6 l room) : ∃ (m : List Nd) (p : Nat) (e : Int), z = (m, (p : Int), e) ∧ Grows l m ∧ Right6 m room ∧ ((e = 40 ∧ p = 0) ∨ (e = 0 ∧ Q m p)) := by
  rcases h with h | ⟨m, p, h1, h2, h3, h4⟩
  · exact ⟨l, 0, 40, h, Grows.refl l, hr, .inl ⟨rfl, rfl⟩⟩
  · exact ⟨m, p, 0, h1, h2, h3, .inr ⟨rfl, h4⟩⟩
theorem right_len {l : List Nd} {room : Int} (h : Right6 l room) : l.length ≤ 100000 := by have := h.len; have := h.room100; omega
theorem new_right {room : Int} (h1 : 2 ≤ room) (h2 : room ≤ 100000) : Right6 new6 room := right_new h1 h2
end Go.Proofs.Ytgjibpgfcbdpgaa
namespace Go.Proofs.Ytgjibpgfcbdpgaa
set_option maxRecDepth 100000
set_option linter.unusedVariables false
set_option linter.unusedSimpArgs false
open Go.RowKit Go.Sort

/-- as far_done, and what the leaps leave stays -/
theorem far_more {room : Int} {l : List Nd} {e n : Nat} {F F1 F2 : Pic} {first second : List Nd → Int → Zn} {N : Nat} {M1 M2 : Int × Int → List Nd → Prop} (hN : 1 ≤ N) (h : Sf l room (e + 2) n F)
    (mo1 : ∀ d b b', M1 d b → Grows b b' → Right6 b' room → M1 d b') (mo2 : ∀ d b b', M2 d b → Grows b b' → Right6 b' room → M2 d b')
    (h1 : ∀ (m : List Nd) (q : Nat) (d : Int × Int), Right6 m room → Sf m room (e + 1) q (moveF F d) → DoneR room m (fun b => first b q) N (fun b p => Sf b room e p (moveF F1 d) ∧ M1 d b))
    (h2 : ∀ (m : List Nd) (q : Nat) (d : Int × Int), Right6 m room → Sf m room (e + 1) q (moveF F1 d) → DoneR room m (fun b => second b q) N (fun b p => Sf b room e p (moveF F2 d) ∧ M2 d b)) :
    DoneR room l (fun b => farZ room first second b n) (9 + (9 * N + (4 * 1 + (4 * N + 1)))) (fun b p => Sf b room (e + 1) p F2 ∧ (∀ t, t < 9 → (∃ q, Sf b room (e + 1) q (moveF F (dNine (e + 1) t))) ∧ M1 (dNine (e + 1) t) b) ∧ ∀ s, s < 4 → M2 (dFour e s) b) := by
  have hlow := h.low
  unfold farZ
  refine and_done h.nine fun l1 p g1 r1 hp => ?_
  have hp' : ∃ p' : Nat → Nat, ∀ t, t < 9 → p t = ((p' t : Nat) : Int) ∧ Sf l1 room (e + 1) (p' t) (moveF F (dNine (e + 1) t)) := pick_nat hp
  obtain ⟨p', hp'⟩ := hp'
  refine and_done (each_done (f := first) (K := 9) (N := N) (Q := fun t b q => Sf b room e q (moveF F1 (dNine (e + 1) t)) ∧ M1 (dNine (e + 1) t) b) r1 (fun t m b q _ hs g r => ⟨hs.1.grows g r, mo1 _ _ _ hs.2 g r⟩) (fun t ht m g r => ?_) 9 (Nat.le_refl _)) fun l2 q g2 r2 hq => ?_
  · obtain ⟨e1, e2⟩ := hp' t ht
    rw [e1]
    exact h1 m _ _ r (e2.grows g r)
  have hq' : ∃ q' : Nat → Nat, ∀ t, t < 9 → q t = ((q' t : Nat) : Int) ∧ (Sf l2 room e (q' t) (moveF F1 (dNine (e + 1) t)) ∧ M1 (dNine (e + 1) t) l2) := pick_nat hq
  obtain ⟨q', hq'⟩ := hq'
  refine and_done (each_done (f := fun m i => put6 m room (overK q i)) (p := cornP) (K := 4) (N := 1) (Q := fun i b r => Sf b room (e + 1) r (moveF F1 (dFour e i))) r2 (fun t m b q _ hs g r => hs.grows g r) (fun i hi m g r => ?_) 4 (Nat.le_refl _)) fun l3 s g3 r3 hs => ?_
  · refine join_done r (by omega) (q := fun k => q' (i / 2 * 3 + i % 2 + (k / 2 * 3 + k % 2))) (fun k hk => ?_) fun k hk => ?_
    · have hc : (cornP i).toNat = i / 2 * 3 + i % 2 := by unfold cornP; rw [Int.toNat_natCast]
      have := (hq' (i / 2 * 3 + i % 2 + (k / 2 * 3 + k % 2)) (by omega)).1
      unfold overK
      rw [hc]
      rcases (by omega : k = 0 ∨ k = 1 ∨ k = 2 ∨ k = 3) with rfl | rfl | rfl | rfl <;> exact this
    · rw [move_move]
      have := ((hq' (i / 2 * 3 + i % 2 + (k / 2 * 3 + k % 2)) (by omega)).2.1).grows g r
      rw [← quad_sum e i k hi hk] at this
      exact this
  have hs' : ∃ s' : Nat → Nat, ∀ t, t < 4 → s t = ((s' t : Nat) : Int) ∧ Sf l3 room (e + 1) (s' t) (moveF F1 (dFour e t)) := pick_nat hs
  obtain ⟨s', hs'⟩ := hs'
  refine and_done (each_done (f := second) (K := 4) (N := N) (Q := fun t b q => Sf b room e q (moveF F2 (dFour e t)) ∧ M2 (dFour e t) b) r3 (fun t m b q _ hs g r => ⟨hs.1.grows g r, mo2 _ _ _ hs.2 g r⟩) (fun t ht m g r => ?_) 4 (Nat.le_refl _)) fun l4 u g4 r4 hu => ?_
  · obtain ⟨e1, e2⟩ := hs' t ht
    rw [e1]
    exact h2 m _ _ r (e2.grows g r)
  have hu' : ∃ u' : Nat → Nat, ∀ t, t < 4 → u t = ((u' t : Nat) : Int) ∧ (Sf l4 room e (u' t) (moveF F2 (dFour e t)) ∧ M2 (dFour e t) l4) := pick_nat hu
  obtain ⟨u', hu'⟩ := hu'
  refine (join_done r4 (by omega) (q := u') (fun k hk => ?_) fun k hk => (hu' k hk).2.1).mono (Nat.le_refl _) fun b pp g r hb => ⟨hb, fun t ht => ⟨⟨p' t, (((hp' t ht).2.grows (g2.trans (g3.trans g4)) r4).grows g r)⟩, mo1 _ _ _ (hq' t ht).2.2 (g3.trans (g4.trans g)) r⟩, fun s hs => mo2 _ _ _ (hu' s hs).2.2 g r⟩
  have := (hu' k hk).1
  unfold fourK
  rcases (by omega : k = 0 ∨ k = 1 ∨ k = 2 ∨ k = 3) with rfl | rfl | rfl | rfl <;> exact this
/-- about each of the nine middles the squares of all lower levels are there -/
def MidQ (room : Int) (e : Nat) (F : Pic) (b : List Nd) : Prop := ∀ t, t < 9 → ∀ i, 1 ≤ i → i ≤ e → ∃ q, Sf b room i q (moveF F (dNine e t))
theorem MidQ.grows {room : Int} {e : Nat} {F : Pic} {b b' : List Nd} (h : MidQ room e F b) (g : Grows b b') (r : Right6 b' room) : MidQ room e F b' := fun t ht i h1 h2 => by
  obtain ⟨q, hq⟩ := h t ht i h1 h2
  exact ⟨q, hq.grows g r⟩
theorem nine_mid (e : Nat) : dNine e 4 = (0, 0) := by
  unfold dNine
  simp
theorem move_zero (F : Pic) : moveF F (0, 0) = F := by
  funext c
  show F (c.1 + 0, c.2 + 0) = F c
  rw [Int.add_zero, Int.add_zero]
theorem four_nine (e : Nat) {t : Nat} (ht : t < 9) : ∃ s t', s < 4 ∧ t' < 9 ∧ ((dNine e t').1 + (dFour e s).1, (dNine e t').2 + (dFour e s).2) = dNine (e + 1) t := by
  have e2 : (2 : Int) ^ (e + 1) = 2 ^ e * 2 := Int.pow_succ _ _
  have key : ∀ t, t < 9 → ∃ s t', s < 4 ∧ t' < 9 ∧ (((t' % 3 : Nat) : Int) - 1) + (2 * ((s % 2 : Nat) : Int) - 1) = (((t % 3 : Nat) : Int) - 1) * 2 ∧ (((t' / 3 : Nat) : Int) - 1) + (2 * ((s / 2 : Nat) : Int) - 1) = (((t / 3 : Nat) : Int) - 1) * 2 := by
    have : ∀ t : Fin 9, ∃ s : Fin 4, ∃ t' : Fin 9, (((t'.val % 3 : Nat) : Int) - 1) + (2 * ((s.val % 2 : Nat) : Int) - 1) = (((t.val % 3 : Nat) : Int) - 1) * 2 ∧ (((t'.val / 3 : Nat) : Int) - 1) + (2 * ((s.val / 2 : Nat) : Int) - 1) = (((t.val / 3 : Nat) : Int) - 1) * 2 := by decide +kernel
    intro t ht
    obtain ⟨s, t', h⟩ := this ⟨t, ht⟩
    exact ⟨s.val, t'.val, s.isLt, t'.isLt, h⟩
  obtain ⟨s, t', hs, ht', h1, h2⟩ := key t ht
  refine ⟨s, t', hs, ht', ?_⟩
  unfold dNine dFour
  rw [e2]
  generalize (2 : Int) ^ e = P
  generalize (((t' % 3 : Nat) : Int) - 1) = a at *
  generalize (((t' / 3 : Nat) : Int) - 1) = b at *
  generalize (2 * ((s % 2 : Nat) : Int) - 1) = c at *
  generalize (2 * ((s / 2 : Nat) : Int) - 1) = d at *
  generalize (((t % 3 : Nat) : Int) - 1) = x at *
  generalize (((t / 3 : Nat) : Int) - 1) = y at *
  refine Prod.ext ?_ ?_
  · show a * P + c * P = x * (P * 2)
    rw [← Int.add_mul, h1, Int.mul_assoc, Int.mul_comm 2 P]
  · show b * P + d * P = y * (P * 2)
    rw [← Int.add_mul, h2, Int.mul_assoc, Int.mul_comm 2 P]
theorem leap_mid (room : Int) : ∀ (e j n : Nat) (l : List Nd) (F : Pic), Sf l room (e + 1) n F → j ≤ e → DoneR room l (fun b => leapN room e j b n) (costN e) (fun b p => Sf b room e p (runF (2 ^ j) F) ∧ MidQ room e F b)
  | 0, j, n, l, F, h, hj => by
    obtain rfl : j = 0 := by omega
    exact h.one.mono (Nat.le_refl _) fun b p _ _ hp => ⟨hp, fun t ht i h1 h2 => absurd h2 (by omega)⟩
  | e + 1, j, n, l, F, h, hj => by
    have hc := cost_pos e
    have hcost : 9 + (9 * costN e + (4 * 1 + (4 * costN e + 1))) = costN (e + 1) := by
      show _ = 14 + 13 * costN e
      omega
    rw [← hcost]
    have hsec : ∀ (F1 : Pic) (m : List Nd) (q : Nat) (d : Int × Int), Right6 m room → Sf m room (e + 1) q (moveF F1 d) → DoneR room m (fun b => leapN room e (min j e) b q) (costN e) (fun b p => Sf b room e p (moveF (runF (2 ^ min j e) F1) d) ∧ MidQ room e (moveF F1 d) b) := fun F1 m q d r hs => by
      have := leap_mid room e (min j e) q m _ hs (Nat.min_le_right _ _)
      rw [run_move] at this
      exact this
    have mo : ∀ (F1 : Pic) (d : Int × Int) (b b' : List Nd), MidQ room e (moveF F1 d) b → Grows b b' → Right6 b' room → MidQ room e (moveF F1 d) b' := fun F1 d b b' h g r => h.grows g r
    by_cases hje : j = e + 1
    · have hme : min j e = e := by omega
      have e0 : (fun b => leapN room (e + 1) j b (n : Int)) = fun b => farZ room (leapN room e (min j e)) (leapN room e (min j e)) b n := by
        funext b
        show farZ room (if j = e + 1 then leapN room e (min j e) else centreZ room) _ b n = _
        rw [if_pos hje]
      rw [e0]
      have hF : runF (2 ^ j) F = runF (2 ^ min j e) (runF (2 ^ min j e) F) := by
        rw [← run_add, hme, hje, Nat.pow_succ]
        congr 1
        omega
      rw [hF]
      refine (far_more (M1 := fun d b => MidQ room e (moveF F d) b) (M2 := fun d b => MidQ room e (moveF _ d) b) hc h (mo F) (mo _) (hsec F) (hsec _)).mono (Nat.le_refl _) fun b p g r ⟨hp, h9, h4⟩ => ⟨hp, fun t ht i i1 i2 => ?_⟩
      rcases (by omega : i = e + 1 ∨ i ≤ e) with rfl | hi
      · exact (h9 t ht).1
      · obtain ⟨q, hq⟩ := (h9 t ht).2 4 (by decide) i i1 hi
        rw [nine_mid, move_zero] at hq
        exact ⟨q, hq⟩
    · have hme : min j e = j := by omega
      have e0 : (fun b => leapN room (e + 1) j b (n : Int)) = fun b => farZ room (centreZ room) (leapN room e (min j e)) b n := by
        funext b
        show farZ room (if j = e + 1 then leapN room e (min j e) else centreZ room) _ b n = _
        rw [if_neg hje]
      rw [e0, show runF (2 ^ j) F = runF (2 ^ min j e) F by rw [hme]]
      refine (far_more (M1 := fun _ _ => True) (M2 := fun d b => MidQ room e (moveF F d) b) hc h (fun _ _ _ h _ _ => h) (mo F) (fun m q d r hs => hs.centre.mono hc fun b p g rb hp => ⟨hp, trivial⟩) (hsec F)).mono (Nat.le_refl _) fun b p g r ⟨hp, h9, h4⟩ => ⟨hp, fun t ht i i1 i2 => ?_⟩
      rcases (by omega : i = e + 1 ∨ i ≤ e) with rfl | hi
      · exact (h9 t ht).1
      · obtain ⟨s, t', hs, ht', hst⟩ := four_nine e ht
        obtain ⟨q, hq⟩ := h4 s hs t' ht' i i1 hi
        rw [move_move, hst] at hq
        exact ⟨q, hq⟩
end Go.Proofs.Ytgjibpgfcbdpgaa
namespace Go.Proofs.Ytgjibpgfcbdpgaa
set_option maxRecDepth 100000
set_option linter.unusedVariables false
set_option linter.unusedSimpArgs false
open Go.RowKit Go.Sort

section
variable {l : List Nd} {room : Int} {e n : Nat} {F : Pic}
theorem Sw.about (h : Sw l room e n F) (c : Int × Int) : c ∈ about7 l e n ↔ F c = true := by
  rw [h.sf.about]
  refine ⟨fun h => h.2, fun hf => ⟨?_, hf⟩⟩
  obtain ⟨a, b⟩ := c
  refine in_iff.2 ?_
  by_cases hb : -(2 ^ e : Int) ≤ a ∧ a < 2 ^ e ∧ -(2 ^ e) ≤ b ∧ b < 2 ^ e
  · exact hb
  · rw [h.inp a b hb] at hf; cases hf
end
theorem pic_in {S : List (Int × Int)} (h : ∀ s ∈ S, -8 ≤ s.1 ∧ s.1 ≤ 8 ∧ -8 ≤ s.2 ∧ s.2 ≤ 8) : InP 16 (picL S) := fun a b hn => decide_eq_false fun hs => hn (by have := h _ hs; simp only at this; omega)
end Go.Proofs.Ytgjibpgfcbdpgaa
namespace Go.Proofs.Ytgjibpgfcbdpgaa
set_option maxRecDepth 100000
set_option linter.unusedVariables false
set_option linter.unusedSimpArgs false
open Go.RowKit Go.Sort

section
variable {l : List Nd} {room : Int} {e n p x : Nat} {F : Pic}
/-- one picture, one node -/
theorem Sf.one_node (h1 : Sf l room e n F) (h2 : Sf l room e p F) : n = p := alive_inj h1.right (e + 1) n p h1.is h2.is fun c => by
  have e2 : (2 : Int) ^ (e + 1) = 2 ^ e * 2 := Int.pow_succ _ _
  have la := low_agree (e + 1) c
  obtain ⟨l1, l2, l3, l4⟩ := low_in (e + 1) c
  simp only at l1 l2 l3 l4
  have hd : insideB e (c.1 % 2 ^ (e + 1) - 2 ^ e, c.2 % 2 ^ (e + 1) - 2 ^ e) = true := in_iff.2 (by rw [e2] at *; omega)
  have hi : inwardC e (c.1 % 2 ^ (e + 1) - 2 ^ e, c.2 % 2 ^ (e + 1) - 2 ^ e) = (c.1 % 2 ^ (e + 1), c.2 % 2 ^ (e + 1)) := by
    unfold inwardC
    exact Prod.ext (by simp only; omega) (by simp only; omega)
  have a1 := h1.al _ hd
  have a2 := h2.al _ hd
  rw [hi] at a1 a2
  rw [← alive_agree (e + 1) n la, ← alive_agree (e + 1) p la, a1, a2]
theorem Sf.in_room {room' : Int} (h : Sf l room e n F) (h1 : (l.length : Int) ≤ room') (h2 : 2 ≤ room') (h3 : room' ≤ 100000) : Sf l room' e n F := ⟨h.right.more h1 h2 h3, h.is, h.low, h.al⟩
/-- the middle is there already: nothing is put -/
theorem centre_quiet (hroom : room ≤ 90000) (h : Sf l room (e + 1) n F) (hx : Sf l room e x F) (he : e + 2 ≤ 42) : centreZ room l (n : Int) = (l, (x : Int), 0) := by
  have hr := h.right
  have hlen := hr.len
  have h2 := hr.two
  have hfit : Fit4 l (sqK l n 1 1) := sq_fit hr h.is he (by decide) (by decide)
  have e0 : ∀ r, centreZ r l (n : Int) = put6 l r (sqK l n 1 1) := fun r => by
    unfold centreZ
    rw [lev_at h.is, if_neg (by omega), Int.toNat_natCast]
  have hat : at6 l (sqK l n 1 1) = some x := by
    have h' : Sf l (room + 1) (e + 1) n F := h.in_room (by omega) (by omega) (by omega)
    have hx' : Sf l (room + 1) e x F := hx.in_room (by omega) (by omega) (by omega)
    have hxl := hx.is.lt
    rcases put_ok h'.right hfit with ⟨m, q, e1, hp⟩ | ⟨_, hf, _⟩
    · have hc : Sf m (room + 1) e q F := by
        rcases h'.centre with ⟨h3, _⟩ | ⟨m', q', e3, _, _, _, hq, _⟩
        · have h4 : (centreZ (room + 1) l (n : Int)).2.2 = 40 := h3
          rw [e0, e1] at h4
          exact absurd (show (0 : Int) = 40 from h4) (by decide)
        · have : (m, (q : Int), (0 : Int)) = (m', (q' : Int), 0) := by rw [← e1, ← e0 (room + 1)]; exact e3
          injection this with t1 t2
          injection t2 with t3 t4
          obtain rfl : q = q' := by omega
          subst t1
          exact hq
      obtain rfl := Sf.one_node hc (hx'.grows hp.grows hp.right)
      rcases put_case hfit (room + 1) with ⟨q', ha, e4⟩ | ⟨_, hf, _⟩ | ⟨ha, _, e4⟩
      · rw [e4] at e1
        injection e1 with _ t2
        injection t2 with t3 _
        obtain rfl : q' = q := by omega
        exact ha
      · omega
      · rw [e4] at e1
        injection e1 with _ t2
        injection t2 with t3 _
        omega
    · omega
  rw [e0]
  exact put_again hfit hat
theorem dead_grows {m : List Nd} (h : Sf l room (e + 1) n F) (hm : Sf m room (e + 1) n F) (hD : DeadB l n 4) : DeadB m n 4 := hm.ringed fun c h1 h2 => h.ring hD h1 h2
end
theorem trim_quiet {l : List Nd} {room : Int} {F : Pic} (hroom : room ≤ 90000) : ∀ (e n : Nat), Sf l room (e + 1) n F → e ≤ 40 → (∀ i, 1 ≤ i → i ≤ e → ∃ q, Sf l room i q F) → ∃ p : Nat, trimN room e l n = (l, (p : Int), 0)
  | 0, n, h, _, _ => ⟨n, rfl⟩
  | e + 1, n, h, he, hq => by
    by_cases hD : DeadB l n 4
    · obtain ⟨x, hx⟩ := hq (e + 1) (by omega) (Nat.le_refl _)
      obtain ⟨p, hp⟩ := trim_quiet hroom e x hx (by omega) fun i h1 h2 => hq i h1 (by omega)
      refine ⟨p, ?_⟩
      show (if DeadB l n 4 then andZ (centreZ room l (n : Int)) (fun m p => trimN room e m p.toNat) else (l, (n : Int), 0)) = _
      rw [if_pos hD, centre_quiet hroom h hx (by omega), and_yes rfl]
      simp only [Int.toNat_natCast]
      exact hp
    · exact ⟨n, if_neg hD⟩
/-- trimmed once, it is trimmed again to the same, and nothing is put -/
theorem trim_twice {room : Int} {F : Pic} : ∀ (e n : Nat) (l m : List Nd) (p : Nat), Sf l room (e + 1) n F → e ≤ 40 → trimN room e l n = (m, (p : Int), 0) → Grows l m ∧ ∀ b, Grows m b → Right6 b room → trimN room e b n = (b, (p : Int), 0)
  | 0, n, l, m, p, h, _, ht => by
    have ht' : (l, (n : Int), (0 : Int)) = (m, (p : Int), 0) := ht
    injection ht' with t1 t2
    injection t2 with t3 _
    obtain rfl : n = p := by omega
    subst t1
    exact ⟨Grows.refl _, fun b _ _ => rfl⟩
  | e + 1, n, l, m, p, h, he, ht => by
    by_cases hD : DeadB l n 4
    · have hg : ∀ b, DeadB b n 4 → trimN room (e + 1) b n = andZ (centreZ room b (n : Int)) (fun m p => trimN room e m p.toNat) := fun b hb => if_pos hb
      rw [hg l hD] at ht
      rcases h.centre with ⟨h1, _⟩ | ⟨m1, x, e1, g1, r1, _, hx, ha⟩
      · rw [and_no (by rw [show (centreZ room l (n : Int)).2.2 = 40 from h1]; decide), show (centreZ room l (n : Int)).2.2 = 40 from h1] at ht
        injection ht with _ t2
        injection t2 with _ t4
        exact absurd t4 (by decide)
      · rw [show centreZ room l (n : Int) = _ from e1, and_yes rfl] at ht
        simp only [Int.toNat_natCast] at ht
        obtain ⟨g2, hb2⟩ := trim_twice e x m1 m p hx (by omega) ht
        refine ⟨g1.trans g2, fun b gb rb => ?_⟩
        rw [hg b (dead_grows h (h.grows (g1.trans (g2.trans gb)) rb) hD), show centreZ room b (n : Int) = _ from ha b (g2.trans gb) rb, and_yes rfl]
        simp only [Int.toNat_natCast]
        exact hb2 b gb rb
    · have hn : ∀ b, ¬ DeadB b n 4 → trimN room (e + 1) b n = (b, (n : Int), 0) := fun b hb => if_neg hb
      rw [hn l hD] at ht
      injection ht with t1 t2
      injection t2 with t3 _
      obtain rfl : n = p := by omega
      subst t1
      exact ⟨Grows.refl _, fun b gb rb => hn b fun hb => hD (dead_grows (h.grows gb rb) h hb)⟩
/-- the squares about the middle, of the levels 2 and 3 -/
def TwoQ (room : Int) (F : Pic) (m : List Nd) : Prop := ∀ i, 1 ≤ i → i ≤ 2 → ∃ q, Sf m room i q F
theorem TwoQ.grows {room : Int} {F : Pic} {b b' : List Nd} (h : TwoQ room F b) (g : Grows b b') (r : Right6 b' room) : TwoQ room F b' := fun i h1 h2 => by
  obtain ⟨q, hq⟩ := h i h1 h2
  exact ⟨q, hq.grows g r⟩
theorem bit_mid {room : Int} {l : List Nd} {e n jn : Nat} {F : Pic} (h : Sw l room (e + 1) n F) (he : e ≤ 38) (hj : jn + 3 ≤ 42) :
    DoneE room l (andZ (trimZ room l (n : Int)) fun l1 n1 => andZ (grownZ room jn l1 n1) fun l2 n2 => leapAtZ room jn l2 n2) (fun m p => (∃ e', (e' ≤ e + 1 ∨ e' ≤ jn) ∧ Sw m room (e' + 1) p (runF (2 ^ jn) F)) ∧ TwoQ room F m) := by
  rw [trimZ_is h.sf.is]
  refine (trim_done room e n l F h (by omega)).e.and fun m p g r ⟨e1, h1, h2, h3⟩ => ?_
  rw [grownZ_is (d := 40 - e1) h2.sf.is (by omega)]
  refine (grown_done room jn (40 - e1) 0 (e1 + 1) p m F h2 (by omega) (by omega) hj).e.and fun m2 p2 g2 r2 ⟨e2, a1, a2, a3, a4, a5⟩ => ?_
  obtain ⟨x, rfl⟩ : ∃ x, e2 = x + 1 := ⟨e2 - 1, by omega⟩
  rw [leapAtZ_is a2.sf.is]
  have hl := (leap_mid room x jn p2 m2 F a2.sf (by omega)).s.e
  rcases hl with h1 | ⟨m3, p3, e3, g3, r3, hq, hm⟩
  · exact .inl h1
  · refine .inr ⟨m3, p3, e3, g3, r3, ?_, fun i i1 i2 => ?_⟩
    · obtain ⟨y, rfl⟩ : ∃ y, x = y + 1 := ⟨x - 1, by omega⟩
      refine ⟨y, by omega, hq, (h2.inp.run (2 ^ jn)).more ?_⟩
      have b1 := pow_le9 (show e1 + 1 ≤ y by omega)
      have b2 := pow_le9 (show jn ≤ y by omega)
      have e2 : (2 : Int) ^ (y + 1) = 2 ^ y * 2 := Int.pow_succ _ _
      have e3 : ((2 ^ jn : Nat) : Int) = 2 ^ jn := by simp
      omega
    · obtain ⟨q, hq⟩ := hm 4 (by decide) i i1 (by omega)
      rw [nine_mid, move_zero] at hq
      exact ⟨q, hq⟩
theorem run_mid {room : Int} {l : List Nd} {n e : Nat} {F : Pic} (j : Int) (B : List Int) (h : Sw l room (e + 1) n F) (he : e ≤ 30) (hB : ∀ i ∈ j :: B, 0 ≤ i ∧ i ≤ 30) (hM : B.length ≤ 7) {m : List Nd} {p : Int} (hz : runTo room (j :: B) l (n : Int) = (m, p, 0)) : TwoQ room F m := by
  have hj := hB j List.mem_cons_self
  have e0 : runTo room (j :: B) l (n : Int) = andZ (andZ (trimZ room l (n : Int)) fun l1 n1 => andZ (grownZ room j.toNat l1 n1) fun l2 n2 => leapAtZ room j.toNat l2 n2) (fun l3 n3 => runTo room B l3 n3) := by
    rw [← and_assoc9]
    show andZ _ _ = _
    congr 1
    funext l1 n1
    rw [← and_assoc9]
  rw [e0] at hz
  have hd : DoneE room l (andZ (andZ (trimZ room l (n : Int)) fun l1 n1 => andZ (grownZ room j.toNat l1 n1) fun l2 n2 => leapAtZ room j.toNat l2 n2) (fun l3 n3 => runTo room B l3 n3)) (fun m _ => TwoQ room F m) :=
    (bit_mid (jn := j.toNat) h (by omega) (by omega)).and fun m3 p3 g r ⟨⟨e', h1, h2⟩, h3⟩ => by
      rcases runTo_done room B 31 e' p3 m3 _ h2 (by omega) (fun x hx => by have := hB x (List.mem_cons_of_mem _ hx); omega) (by omega) with q | ⟨m', p', a, b, c, _⟩
      · exact .inl q
      · exact .inr ⟨m', p', a, b, c, h3.grows b c⟩
  rw [hz] at hd
  rcases hd with q | ⟨m', p', a, b, c, hq⟩
  · exact absurd (show (0 : Int) = 40 from q) (by decide)
  · injection a with t1 _
    subst t1
    exact hq
/-- two nodes of one picture, each of the least level -/
theorem Sw.one_node {l : List Nd} {room : Int} {e1 e2 n p : Nat} {F : Pic} (h1 : Sw l room (e1 + 1) n F) (h2 : Sw l room (e2 + 1) p F) (m1 : e1 = 0 ∨ ¬ InP (2 ^ e1) F) (m2 : e2 = 0 ∨ ¬ InP (2 ^ e2) F) : n = p := by
  have key : ∀ a b, InP (2 ^ (a + 1)) F → (b = 0 ∨ ¬ InP (2 ^ b) F) → ¬ a < b := fun a b ha hb hlt => by
    rcases hb with rfl | hb
    · omega
    · exact hb (ha.more (pow_le9 (by omega)))
  have k1 := key e1 e2 h1.inp m2
  have k2 := key e2 e1 h2.inp m1
  obtain rfl : e1 = e2 := by omega
  exact Sf.one_node h1.sf h2.sf
/-! ### the law's five answers -/
theorem bits_128 : ∀ c : Nat, c < 128 → (Nq.bitsL ((c : Nat) : Int)).length ≤ 7 ∧ (∀ j ∈ Nq.bitsL ((c : Nat) : Int), 0 ≤ j ∧ j ≤ 30) ∧ sum2 (Nq.bitsL (c : Int)) = c := by decide +kernel
/-- a run of up to 127 generations -/
theorem run9_more {l : List Nd} {room : Int} {e n : Nat} {F : Pic} (h : Sw l room (e + 1) n F) (he : e ≤ 30) {c : Nat} (hc : c < 128) : Ans9 l room (run9 l room (n : Int) (c : Int)) (fun m p => (∃ e', e' ≤ 40 ∧ Sw m room (e' + 1) p (runF c F) ∧ (e' = 0 ∨ ¬ InP (2 ^ e') (runF c F))) ∧ (0 < c → TwoQ room F m)) := by
  have hz : runZ room l (n : Int) (c : Int) = runTo room (Nq.bitsL (c : Int)) l (n : Int) := by unfold runZ; rw [if_pos (by omega)]
  unfold run9
  rw [hz]
  obtain ⟨k1, k2, k3⟩ := bits_128 c hc
  have hr := runTo_done room (Nq.bitsL (c : Int)) 30 e n l F h he k2 (by omega)
  have hr2 : DoneE room l (runTo room (Nq.bitsL (c : Int)) l (n : Int)) (fun m p => (∃ e', e' ≤ 40 ∧ Sw m room (e' + 1) p (runF c F) ∧ (e' = 0 ∨ ¬ InP (2 ^ e') (runF c F))) ∧ (0 < c → TwoQ room F m)) := by
    rw [k3] at hr
    rcases hr with h1 | ⟨m, p, e0, g, r, e', h1, h2, h3⟩
    · exact .inl h1
    · have h4 : e' = 0 ∨ ¬ InP (2 ^ e') (runF c F) := h3.imp id fun hd hp => hd (h2.sf.ringed fun y _ hy => by
        obtain ⟨a, b⟩ := y
        exact hp a b fun hn => by rw [in_iff.2 hn] at hy; cases hy)
      refine .inr ⟨m, p, e0, g, r, ⟨e', h1, h2, h4⟩, fun hpos => ?_⟩
      · cases hB : Nq.bitsL (c : Int) with
        | nil =>
          rw [hB] at k3
          have : (0 : Nat) = c := k3
          omega
        | cons j B =>
          rw [hB] at k1 k2 e0
          rw [List.length_cons] at k1
          exact run_mid j B h he k2 (by omega) e0
  exact ans_of h.sf.right h.sf.is hr2
/-- a run of no generation: trimmed -/
theorem run9_zero (l : List Nd) (room n : Int) : run9 l room n 0 = trim9 l room n := by
  have h0 : Nq.bitsL 0 = [] := by decide +kernel
  unfold run9 trim9 runZ
  rw [if_pos (by decide), h0]
  rfl
theorem run9_low {l : List Nd} {room : Int} (hr : Right6 l room) (c : Int) : run9 l room 0 c = (l, 0, 1) := by
  unfold run9 grownL
  have h2 := hr.two
  have : levI l 0 = 0 := by
    unfold levI
    rw [if_pos (by omega), show ndAt l 0 = l.getD 0 deadN from ndAt_nat l 0, hr.dead]
    rfl
  rw [this, if_neg (by simp)]
structure StpK (R : Int) (L : List (Int × Int)) (u1 u2 c3 : Nat) (s : List Nd) (n : Nat) (a : List Nd) (m : Nat) (e : Int) (b : List Nd) (k : Nat) (f : Int) (c : List Nd) (i : Nat) (g : Int) (d : List Nd) (o : Nat) (h : Int) (x : List Nd) (z : Nat) (p : Int) : Prop where
  mke : make7 new6 R L 4 = (s, (n : Int), 0)
  r1 : run9 s R (n : Int) (u1 : Int) = (a, (m : Int), e)
  r2 : run9 a R (m : Int) (u2 : Int) = (b, (k : Int), f)
  r3 : run9 b R (n : Int) (c3 : Int) = (c, (i : Int), g)
  r4 : trim9 c R (n : Int) = (d, (o : Int), h)
  r5 : run9 d R (n : Int) 0 = (x, (z : Int), p)
  rs : Right6 s R
  ra : Right6 a R
  rb : Right6 b R
  rc : Right6 c R
  rd : Right6 d R
  rx : Right6 x R
  res : e = 40 ∨ (e = 0 ∧ f = 40) ∨ (e = 0 ∧ f = 0 ∧ g = 40) ∨ (e = 0 ∧ f = 0 ∧ g = 0 ∧ h = 0 ∧ p = 0 ∧ i = k ∧ z = o)
theorem stp_tail {R : Int} {n c3 : Nat} {b : List Nd} {F : Pic} (hb : Sw b R 3 n F) (hc : c3 < 128) (hR : R = 20000) : ∃ c i g d o h x z p, run9 b R (n : Int) (c3 : Int) = (c, ((i : Nat) : Int), g) ∧ trim9 c R (n : Int) = (d, ((o : Nat) : Int), h) ∧ run9 d R (n : Int) 0 = (x, ((z : Nat) : Int), p) ∧ Right6 c R ∧ Right6 d R ∧ Right6 x R ∧
    (g = 40 ∨ (g = 0 ∧ h = 0 ∧ p = 0 ∧ z = o ∧ Grows b c ∧ ∃ e', e' ≤ 40 ∧ Sw c R (e' + 1) i (runF c3 F) ∧ (e' = 0 ∨ ¬ InP (2 ^ e') (runF c3 F)))) := by
  obtain ⟨c, i, g, z3, gc, rc, ac⟩ := (run9_more (e := 2) hb (by decide) hc).any hb.sf.right
  have hbc : Sw c R 3 n F := ⟨hb.sf.grows gc rc, hb.inp⟩
  obtain ⟨d, o, h, z4, gd, rd, _⟩ := (trim9_done (e := 2) hbc (by decide)).any rc
  have hbd : Sw d R 3 n F := ⟨hbc.sf.grows gd rd, hb.inp⟩
  obtain ⟨x, z, p, z5, gx, rx, _⟩ := (trim9_done (e := 2) hbd (by decide)).any rd
  refine ⟨c, i, g, d, o, h, x, z, p, z3, z4, by rw [run9_zero]; exact z5, rc, rd, rx, ?_⟩
  rcases ac with ⟨hg, _⟩ | ⟨hg, hq, h2⟩
  · exact .inl hg
  · right
    have hgr : ∀ l, Sw l R 3 n F → ∀ z : Zn, grownL l R (n : Int) z = if z.2.2 = 0 then z else (l, 0, z.2.2) := fun l hl z => grownL_is hl.sf.right hl.sf.is z
    have htr : ∃ p1 : Nat, ∀ y, Grows c y → Right6 y R → trimN R 2 y n = (y, (p1 : Int), 0) := by
      by_cases h0 : 0 < c3
      · have ht := h2 h0
        obtain ⟨p1, hp1⟩ := trim_quiet (by omega) 2 n hbc.sf (by decide) ht
        obtain ⟨_, hall⟩ := trim_twice 2 n c c p1 hbc.sf (by decide) hp1
        exact ⟨p1, hall⟩
      · obtain rfl : c3 = 0 := by omega
        have e0 : trim9 b R (n : Int) = (c, (i : Int), g) := by
          rw [← run9_zero]; exact z3
        unfold trim9 at e0
        rw [hgr b hb, trimZ_is hb.sf.is] at e0
        by_cases hz : (trimN R 2 b n).2.2 = 0
        · rw [if_pos hz] at e0
          rw [hg] at e0
          exact ⟨i, (trim_twice 2 n b c i hb.sf (by decide) e0).2⟩
        · rw [if_neg hz] at e0
          injection e0 with _ t2
          injection t2 with _ t4
          exact absurd (t4.trans hg) hz
    obtain ⟨p1, hp1⟩ := htr
    have t4 : trim9 c R (n : Int) = (c, (p1 : Int), 0) := by
      unfold trim9
      rw [hgr c hbc, trimZ_is hbc.sf.is, hp1 c (Grows.refl c) rc, if_pos rfl]
    rw [t4] at z4
    injection z4 with q1 q2
    injection q2 with q3 q4
    obtain rfl : p1 = o := by omega
    subst q1
    rw [t4] at z5
    injection z5 with q5 q6
    injection q6 with q7 q8
    exact ⟨hg, q4.symm, q8.symm, by omega, gc, hq⟩
theorem stp_all {R : Int} (hR : R = 20000) (L : List (Int × Int)) (hr : Cel.rightB L = true) (hl : L.length ≤ 60) (hL : ∀ s ∈ L, -8 ≤ s.1 ∧ s.1 ≤ 7 ∧ -8 ≤ s.2 ∧ s.2 ≤ 7) {u1 u2 : Nat} (h1 : u1 < 40) (h2 : u2 < 40) :
    ∃ s n a m e b k f c i g d o h x z p, StpK R L u1 u2 (u1 + u2) s n a m e b k f c i g d o h x z p := by
  have hin : ∀ s ∈ L, insideB 3 s = true := fun s hs => in_iff.2 (by have := hL s hs; rw [show (2 : Int) ^ 3 = 8 from rfl]; omega)
  obtain ⟨s, n, t1, hm1, g1, q1, _, _, _⟩ := make_ok2 (l := new6) (room := R) (e := 3) (new_right (by omega) (by omega)) (by decide) hr hin (by show (((2 + L.length * (3 + 1) + (3 + 1) : Nat)) : Int) ≤ R; omega)
  have hw := q1.whole
  have hI : InP 16 (picL L) := pic_in fun s hs => by have := hL s hs; omega
  obtain ⟨a, m, e, z1, ga, ra, ac⟩ := (run9_more (e := 2) hw (by decide) (show u1 < 128 by omega)).any q1.right
  have hwa : Sw a R 3 n (picL L) := ⟨hw.sf.grows ga ra, hw.inp⟩
  rcases ac with ⟨he, hm⟩ | ⟨he, ⟨e1, x1, x2, x3⟩, _⟩
  · subst hm
    obtain ⟨c, i, g, d, o, h, x, z, p, z3, z4, z5, rc, rd, rx, _⟩ := stp_tail hwa (show u1 + u2 < 128 by omega) hR
    exact ⟨s, n, a, 0, e, a, 0, 1, c, i, g, d, o, h, x, z, p, hm1, z1, run9_low ra _, z3, z4, z5, q1.right, ra, ra, rc, rd, rx, .inl he⟩
  · have hI1 : InP 64 (runF u1 (picL L)) := (hI.run u1).more (by omega)
    have hsm : e1 ≤ 30 := by
      rcases x3 with rfl | hn
      · omega
      · by_cases h6 : e1 < 6
        · omega
        · exact absurd (hI1.more (show (64 : Int) ≤ 2 ^ e1 from pow_le9 (a := 6) (by omega))) hn
    obtain ⟨b, k, f, z2, gb, rb, bc⟩ := (run9_more (e := e1) x2 hsm (show u2 < 128 by omega)).any ra
    have hwb : Sw b R 3 n (picL L) := ⟨hwa.sf.grows gb rb, hw.inp⟩
    obtain ⟨c, i, g, d, o, h, x, z, p, z3, z4, z5, rc, rd, rx, hres⟩ := stp_tail hwb (show u1 + u2 < 128 by omega) hR
    refine ⟨s, n, a, m, e, b, k, f, c, i, g, d, o, h, x, z, p, hm1, z1, z2, z3, z4, z5, q1.right, ra, rb, rc, rd, rx, ?_⟩
    rcases bc with ⟨hf, _⟩ | ⟨hf, ⟨e2, y1, y2, y3⟩, _⟩
    · exact .inr (.inl ⟨he, hf⟩)
    rcases hres with hg | ⟨hg, hh, hp, hzo, gbc, e3, w1, w2, w3⟩
    · exact .inr (.inr (.inl ⟨he, hf, hg⟩))
    · refine .inr (.inr (.inr ⟨he, hf, hg, hh, hp, ?_, hzo⟩))
      rw [run_add] at w2 w3
      exact Sw.one_node w2 ⟨y2.sf.grows gbc rc, y2.inp⟩ w3 y3
end Go.Proofs.Ytgjibpgfcbdpgaa
namespace Go.Proofs.Ytgjibpgfcbdpgaa
set_option linter.unusedVariables false
open Go.ChangeShapes Go.WideShapes Go.ChangeAt Go.RowKit Go.Deep

theorem i64_wf6 {a : Int} (h : (Lit.int .i64 a).wf = true) : I64 a := by
  have : IntKind.i64.min ≤ a ∧ a ≤ IntKind.i64.max := by simpa [Lit.wf] using h
  simpa [I64, IntKind.min, IntKind.max, IntKind.signed, IntKind.bits] using this

section
variable {H : Type} {enc : TypeId × Value → H} {w : World} {base : Nat} {spare : Nat → Bool} {held : Bool} {P : Program}
end
end Go.Proofs.Ytgjibpgfcbdpgaa
namespace Go.Proofs.Ytgjibpgfcbdpgaa
set_option maxRecDepth 100000
set_option linter.unusedVariables false
open Go.ChangeShapes Go.WideShapes Go.ChangeAt Go.RowKit Go.Deep
theorem own : ownKnob Try.prog.godebug = none := by kernel_rfl
theorem laidOut : laidOutB Try.prog = true := by kernel_rfl
section
variable {H : Type} {enc : TypeId × Value → H} {W : World} {base : Nat} {spare : Nat → Bool} {held : Bool} {P : Program}
end
end Go.Proofs.Ytgjibpgfcbdpgaa
namespace Go.Proofs.Ytgjibpgfcbdpgaa
set_option maxRecDepth 100000
set_option linter.unusedVariables false
set_option linter.unusedSimpArgs false
open Go.RowKit Go.Sort

theorem NineAt.corner {room : Int} {l a : List Nd} {e n : Nat} {p : Nat → Nat} (h : NineAt room l e n 9 a p) (hr : Right6 l room) (hn : Is l (e + 2) n) {k : Nat} (hk : k < 4) : p (k / 2 * 6 + k % 2 * 2) = kidN l n k := by
  have h1 := h.kids (k / 2 * 6 + k % 2 * 2) (by omega)
  rw [show (k / 2 * 6 + k % 2 * 2) / 3 = k / 2 * 2 by omega, show (k / 2 * 6 + k % 2 * 2) % 3 = k % 2 * 2 by omega] at h1
  have h2 := h.grows.at_ (corner_at hr hn hk)
  rw [h1] at h2
  exact Option.some.inj h2
/-- A node's cells, its kids by name. -/
theorem NdAt.kids {w : World} {b o : Nat} {x : Nd} (h : NdAt w b o x) {k : Kd} (hk : x.2.1 = k) : w.cell? ⟨b, o + 1, none⟩ = some (.int .i64 k.1) ∧ w.cell? ⟨b, o + 2, none⟩ = some (.int .i64 k.2.1) ∧ w.cell? ⟨b, o + 3, none⟩ = some (.int .i64 k.2.2.1) ∧ w.cell? ⟨b, o + 4, none⟩ = some (.int .i64 k.2.2.2) := by
  subst hk
  obtain ⟨_, h1, h2, h3, h4, _⟩ := h
  exact ⟨h1, h2, h3, h4⟩
/-- four numbers in a box -/
def K4B (w : World) (b : Nat) (x y u v : Int) : Prop := w.heap[b]? = some (.cells #[.int .i64 x, .int .i64 y, .int .i64 u, .int .i64 v] 33 (0, 0))
theorem K4B.below {w w' : World} {b : Nat} {x y u v : Int} (h : K4B w b x y u v) (hb : Below w.heap.size w w') : K4B w' b x y u v := (hb.block _ (lt_heap6 h)).trans h
theorem K4B.s0 {w : World} {b : Nat} {x y u v : Int} (h : K4B w b x y u v) : w.cell? ⟨b, 0, none⟩ = some (.int .i64 x) := by rw [Lib.cell_of_heap h]; rfl
theorem K4B.s1 {w : World} {b : Nat} {x y u v : Int} (h : K4B w b x y u v) : w.cell? ⟨b, 1, none⟩ = some (.int .i64 y) := by rw [Lib.cell_of_heap h]; rfl
theorem K4B.s2 {w : World} {b : Nat} {x y u v : Int} (h : K4B w b x y u v) : w.cell? ⟨b, 2, none⟩ = some (.int .i64 u) := by rw [Lib.cell_of_heap h]; rfl
theorem K4B.s3 {w : World} {b : Nat} {x y u v : Int} (h : K4B w b x y u v) : w.cell? ⟨b, 3, none⟩ = some (.int .i64 v) := by rw [Lib.cell_of_heap h]; rfl
theorem StB.node {W : World} {b : Nat} {q o : Nat} {l : List Nd} {c : Nat} {room : Int} (h : StB W b (some ⟨q, o, none⟩) l c room) {j : Nat} (hj : j < l.length) : NdAt W q (o + j * 6) (l.getD j deadN) := by
  obtain ⟨b', o', e, _, hn⟩ := h.rd j hj
  injection e with e
  injection e with e1 e2
  subst e1 e2
  exact hn
end Go.Proofs.Ytgjibpgfcbdpgaa
