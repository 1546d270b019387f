/-
  Texts that the claims of this seat share, part 29.
-/
import Derived.Test.YtklccoodfhejbaaB28
import Derived.Test.YtklccoodfhejbaaB05
import Derived.Test.YtklccoodfhejbaaB27
import Derived.Test.YtklccoodfhejbaaB21
import Derived.Test.YtklccoodfhejbaaB10
import Derived.Test.YtklccoodfhejbaaB06
import Derived.Test.YtklccoodfhejbaaB23
set_option linter.unusedVariables false
set_option linter.unusedSimpArgs false
namespace Go.Proofs.Ytklccoodfhejbaa
set_option maxRecDepth 100000
set_option linter.unusedVariables false
set_option linter.unusedSimpArgs false
open Go.RowKit Go.Sort

theorem rdC_glider (W : World) : RdC (W.alloc (.cells #[.int .i64 0, .int .i64 0, .int .i64 1, .int .i64 1, .int .i64 (-1), .int .i64 2, .int .i64 0, .int .i64 2, .int .i64 1, .int .i64 2] 48)) (W.alloc (.cells #[.int .i64 0, .int .i64 0, .int .i64 1, .int .i64 1, .int .i64 (-1), .int .i64 2, .int .i64 0, .int .i64 2, .int .i64 1, .int .i64 2] 48)).heap.size (some ⟨W.heap.size, 0, none⟩) gl9 := fun j hj => by
  have hn := heap_alloc_new W (.cells #[.int .i64 0, .int .i64 0, .int .i64 1, .int .i64 1, .int .i64 (-1), .int .i64 2, .int .i64 0, .int .i64 2, .int .i64 1, .int .i64 2] 48 (0, 0))
  have hj3 : j = 0 ∨ j = 1 ∨ j = 2 ∨ j = 3 ∨ j = 4 := by simp [gl9] at hj; omega
  rcases hj3 with rfl | rfl | rfl | rfl | rfl
  all_goals
    refine ⟨W.heap.size, 0, rfl, by simp, ?_, ?_⟩ <;> · rw [Lib.cell_of_heap hn]; rfl
theorem glider_any (w : World) : Calls Try.prog 32 #[] w fun e w' => ∃ b, e = .returned (.slice (some ⟨b, 0, none⟩) 5 5) ∧ RdC w' w'.heap.size (some ⟨b, 0, none⟩) gl9 ∧ Below w.heap.size w w' := by
  have hal := Lib.hid ((Below.refl w.heap.size w).alloc (Nat.le_refl _) (.cells #[.int .i64 0, .int .i64 0, .int .i64 1, .int .i64 1, .int .i64 (-1), .int .i64 2, .int .i64 0, .int .i64 2, .int .i64 1, .int .i64 2] 48))
  have hR := Lib.hid (rdC_glider w)
  go_enter Try.func32, Try.ntmps32
  go_wp2_with fail
  go_ret
  exact ⟨_, rfl, hR.out, hal.out⟩
set_option maxHeartbeats 16000000 in
theorem awake9_any (w : World) : Calls Try.prog 12 #[] w fun e w' => e = .returned (.bool true) ∧ Below w.heap.size w w' := by
  have hn := refNew6_any 9000 w
  rw [show newL 9000 = new6 from rfl, show newRoom 9000 = 9000 from rfl] at hn
  obtain ⟨l, n, hmk, hsq, hlen⟩ := aw9_make
  obtain ⟨la, na, ea, hra, hsa⟩ := aw9_run hsq hlen
  obtain ⟨lb, nb, hrb, hsb⟩ := aw9_leap hsq hlen
  obtain ⟨lt, nt, hrt, hrt6, hst⟩ := aw9_trim hsq hlen
  have HQ := Lib.hid (And.intro (aw9_no hsq) (aw9_far hsq hlen))
  have HLV := Lib.hid (show ∀ i, i < l.length → -9223372036854775808 ≤ (l.getD i deadN).1 ∧ (l.getD i deadN).1 ≤ 9223372036854775807 from fun i hi => by have := right_bd hsq.right i hi; omega)
  have HMK := Lib.hid hmk
  have HRA := Lib.hid hra
  have HRB := Lib.hid hrb
  have HRT := Lib.hid hrt
  have HSA := Lib.hid hsa
  have HSB := Lib.hid hsb
  have HST := Lib.hid (And.intro hrt6 hst)
  have hl6 : l.length ≤ 1000000 := by omega
  clear hmk hra hrb hrt hsa hsb hst hrt6 hsq hlen
  go_enter Try.func12, Try.ntmps12
  go_wp2_with fail
  refine hn.mono ?_
  clear hn
  intro e w1 h1
  obtain ⟨A1, c1, rfl, hcap1, N1, hb1⟩ := storeR_box7 h1
  have hgl := glider_any w1
  clear h1
  go_wp2_with fail
  refine hgl.mono ?_
  rintro e w2 ⟨b, rfl, hC, hb2⟩
  have hc2 := refMake7_any A1 new6 c1 9000 (some ⟨b, 0, none⟩) gl9 5 4 w2 (N1.below hb2) (by decide) hcap1 (by decide) hC (by decide) (by decide)
  rw [HMK.out] at hc2
  unfold storeV at hc2
  have hB1 := Qt.more hb1 hb1.size hb2
  clear hgl hC N1 hb1 hb2
  go_wp2_with fail
  refine hc2.mono ?_
  intro e w3 h2
  obtain ⟨A2, c2, rfl, hcap2, N2, hb2⟩ := putR_box h2
  have hB2 := Qt.more hB1 hB1.size hb2
  have hal := (Below.refl w3.heap.size w3).alloc (Nat.le_refl _) (.cells #[.slice A2 l.length c2, .int .i64 9000] 26)
  have HS2 := Lib.hid (stB_new N2 hcap2 9000)
  have HB2 := Lib.hid (Qt.more hB2 hB2.size hal)
  have s0 := HS2.out.s0
  have s1 := HS2.out.s1
  clear h2 hc2 hb2 hB1 hB2 N2 hal
  go_wp2_with fail
  generalize (w3.alloc (.cells #[.slice A2 l.length c2, .int .i64 9000] 26)) = v2 at *
  generalize w3.heap.size = b2 at *
  clear s0 s1
  have hc2 := run9_any A2 l c2 9000 (n : Int) 4 v2 (by unfold I64; omega) HS2.out.rd hl6 hcap2 HLV.out
  rw [HRA.out] at hc2
  unfold storeV at hc2
  refine hc2.mono ?_
  intro e w4 h
  obtain ⟨AA, cA, rfl, hcapA, N, hb⟩ := putR_box h
  have hal := (Below.refl w4.heap.size w4).alloc (Nat.le_refl _) (.cells #[.slice AA la.length cA, .int .i64 9000] 26)
  have hb' := Qt.more (B := v2.heap.size) hb hb.size hal
  have HNA3 := Lib.hid (stB_new N hcapA 9000)
  have HS3 := Lib.hid (HS2.out.below hb')
  have HB3 := Lib.hid (Qt.more HB2.out HB2.out.size hb')
  have s0 := HS3.out.s0
  have s1 := HS3.out.s1
  clear h hc2 hb hb' N hal HB2 HS2
  go_wp2_with fail
  generalize (w4.alloc (.cells #[.slice AA la.length cA, .int .i64 9000] 26)) = v3 at *
  generalize w4.heap.size = b3 at *
  clear s0 s1
  have hc2 := leap9_any A2 l c2 9000 (n : Int) 2 v3 (by unfold I64; omega) HS3.out.rd hl6 hcap2 HLV.out
  rw [HRB.out] at hc2
  unfold storeV at hc2
  refine hc2.mono ?_
  intro e w5 h
  obtain ⟨AB, cB, rfl, hcapB, N, hb⟩ := putR_box h
  have hal := (Below.refl w5.heap.size w5).alloc (Nat.le_refl _) (.cells #[.slice AB lb.length cB, .int .i64 9000] 26)
  have hb' := Qt.more (B := v3.heap.size) hb hb.size hal
  have HNB4 := Lib.hid (stB_new N hcapB 9000)
  have HS4 := Lib.hid (HS3.out.below hb')
  have HB4 := Lib.hid (Qt.more HB3.out HB3.out.size hb')
  have HNA4 := Lib.hid (HNA3.out.below hb')
  have s0 := HS4.out.s0
  have s1 := HS4.out.s1
  clear h hc2 hb hb' N hal HB3 HS3 HNA3
  go_wp2_with fail
  generalize (w5.alloc (.cells #[.slice AB lb.length cB, .int .i64 9000] 26)) = v4 at *
  generalize w5.heap.size = b4 at *
  clear s0 s1
  have hc2 := trim9_any A2 l c2 9000 (n : Int) v4 HS4.out.rd hl6 hcap2 HLV.out
  rw [HRT.out] at hc2
  unfold storeV at hc2
  refine hc2.mono ?_
  intro e w6 h
  obtain ⟨AT, cT, rfl, hcapT, N, hb⟩ := putR_box h
  have hal := (Below.refl w6.heap.size w6).alloc (Nat.le_refl _) (.cells #[.slice AT lt.length cT, .int .i64 9000] 26)
  have hb' := Qt.more (B := v4.heap.size) hb hb.size hal
  have HNT5 := Lib.hid (stB_new N hcapT 9000)
  have HS5 := Lib.hid (HS4.out.below hb')
  have HB5 := Lib.hid (Qt.more HB4.out HB4.out.size hb')
  have HNA5 := Lib.hid (HNA4.out.below hb')
  have HNB5 := Lib.hid (HNB4.out.below hb')
  have s0 := HS5.out.s0
  have s1 := HS5.out.s1
  clear h hc2 hb hb' N hal HB4 HS4 HNA4 HNB4
  go_wp2_with fail
  generalize (w6.alloc (.cells #[.slice AT lt.length cT, .int .i64 9000] 26)) = v5 at *
  generalize w6.heap.size = b5 at *
  clear s0 s1
  have hc2 := leap9_any A2 l c2 9000 (n : Int) 3 v5 (by unfold I64; omega) HS5.out.rd hl6 hcap2 HLV.out
  rw [HQ.out.1] at hc2
  unfold storeV at hc2
  refine hc2.mono ?_
  intro e w7 h
  obtain ⟨AX, cX, rfl, hcapX, N, hb⟩ := putR_box h
  have hal := (Below.refl w7.heap.size w7).alloc (Nat.le_refl _) (.cells #[.slice AX l.length cX, .int .i64 9000] 26)
  have hb' := Qt.more (B := v5.heap.size) hb hb.size hal
  have HNX6 := Lib.hid (stB_new N hcapX 9000)
  have HS6 := Lib.hid (HS5.out.below hb')
  have HB6 := Lib.hid (Qt.more HB5.out HB5.out.size hb')
  have HNA6 := Lib.hid (HNA5.out.below hb')
  have HNB6 := Lib.hid (HNB5.out.below hb')
  have HNT6 := Lib.hid (HNT5.out.below hb')
  have s0 := HS6.out.s0
  have s1 := HS6.out.s1
  clear h hc2 hb hb' N hal HB5 HS5 HNA5 HNB5 HNT5
  go_wp2_with fail
  generalize (w7.alloc (.cells #[.slice AX l.length cX, .int .i64 9000] 26)) = v6 at *
  generalize w7.heap.size = b6 at *
  clear s0 s1
  have hc2 := run9_any A2 l c2 9000 (n : Int) 2305843009213693952 v6 (by unfold I64; omega) HS6.out.rd hl6 hcap2 HLV.out
  rw [HQ.out.2] at hc2
  unfold storeV at hc2
  refine hc2.mono ?_
  intro e w8 h
  obtain ⟨AY, cY, rfl, hcapY, N, hb⟩ := putR_box h
  have hal := (Below.refl w8.heap.size w8).alloc (Nat.le_refl _) (.cells #[.slice AY l.length cY, .int .i64 9000] 26)
  have hb' := Qt.more (B := v6.heap.size) hb hb.size hal
  have HNY7 := Lib.hid (stB_new N hcapY 9000)
  have HS7 := Lib.hid (HS6.out.below hb')
  have HB7 := Lib.hid (Qt.more HB6.out HB6.out.size hb')
  have HNA7 := Lib.hid (HNA6.out.below hb')
  have HNB7 := Lib.hid (HNB6.out.below hb')
  have HNT7 := Lib.hid (HNT6.out.below hb')
  have HNX7 := Lib.hid (HNX6.out.below hb')
  have a0 := HNA7.out.s0
  have a1 := HNA7.out.s1
  have b0 := HNB7.out.s0
  have t0 := HNT7.out.s0
  have ia := HSA.out.is.lt
  have ib := HSB.out.is.lt
  have it := HST.out.2.lt
  have iz : (na : Int) < (la.length : Int) := by omega
  have ibz : (nb : Int) < (lb.length : Int) := by omega
  have itz : (nt : Int) < (lt.length : Int) := by omega
  have iz2 : ¬ (la.length : Int) ≤ (na : Int) := by omega
  have ibz2 : ¬ (lb.length : Int) ≤ (nb : Int) := by omega
  have itz2 : ¬ (lt.length : Int) ≤ (nt : Int) := by omega
  have ib3 : ¬ (lb.length : Int) < 3 := by
    have h2 := HSB.out.is.two HSB.out.right
    omega
  obtain ⟨qa, oa, rfl, hla, hna⟩ := HNA7.out.nd (by omega)
  obtain ⟨qb, ob, rfl, hlb, hnb⟩ := HNB7.out.nd (by omega)
  obtain ⟨qt, ot, rfl, hlt, hnt⟩ := HNT7.out.nd (by omega)
  have xa := (hna na ia).1
  rw [HSA.out.is.lev] at xa
  have xa2 : ¬ ((ea + 1 + 1 : Nat) : Int) < 2 := by omega
  have xb := (hnb nb ib).1
  rw [HSB.out.is.lev, show ((2 + 1 : Nat) : Int) = 3 from rfl] at xb
  have xp := (hnb nb ib).2.2.2.2.2
  rw [HSB.out.pop, show (gl94.length : Int) = 5 from rfl] at xp
  have xt := (hnt nt it).1
  rw [HST.out.2.lev, show ((3 : Nat) : Int) = 3 from rfl] at xt
  clear hna hnb hnt
  clear h hc2 hb hb' N hal HB6 HS6 HNA6 HNB6 HNT6 HNX6
  go_wp2_with fail
  generalize (w8.alloc (.cells #[.slice AY l.length cY, .int .i64 9000] 26)) = v7 at *
  generalize w8.heap.size = b7 at *
  obtain ⟨L, hL⟩ : ∃ L, L = about7 la (ea + 1) na := ⟨_, rfl⟩
  have hlen5 : L.length = 5 := by rw [hL, HSA.out.len]; rfl
  have hof := refOf7_any la HSA.out.right (some ⟨qa, oa, none⟩) cA 9000 (ea + 1) na v7 HSA.out.low HSA.out.is HNA7.out.rd (by rw [← hL, hlen5]; decide)
  rw [← hL] at hof
  unfold storeV at hof
  refine hof.mono ?_
  rintro r w8 ⟨A9, c9, rfl, hc9, hR9, hb8⟩
  rw [hlen5]
  have b0' := (HNB7.out.below hb8).s0
  have t0' := (HNT7.out.below hb8).s0
  have xb' := (hb8.cell (p := ⟨qb, ob + nb * 6, none⟩) hlb).trans xb
  have xp' := (hb8.cell (p := ⟨qb, ob + nb * 6 + 5, none⟩) hlb).trans xp
  have xt' := (hb8.cell (p := ⟨qt, ot + nt * 6, none⟩) hlt).trans xt
  have HB8 := Lib.hid (Qt.more HB7.out HB7.out.size hb8)
  clear hof hL hR9 hb8 a0 a1 b0 t0 xa xb xp xt hlen5 hc9 HB7 HNA7 HNB7 HNT7 HNX7 HNY7 HS7
  go_wp2_with fail
  go_ret
  exact ⟨rfl, HB8.out⟩
end Go.Proofs.Ytklccoodfhejbaa
namespace Go.Proofs.Ytklccoodfhejbaa
set_option maxRecDepth 100000
set_option linter.unusedVariables false
set_option linter.unusedSimpArgs false
open Go.RowKit Go.Sort

theorem pick9_any (c n : Int) (w : World) (h1 : -9223372036854775808 ≤ c) (h2 : c ≤ 9223372036854775807) (hn : 1 ≤ n) (hn2 : n ≤ 9223372036854775807) :
    Calls Try.prog 14 #[.int .i64 c, .int .i64 n] w fun e w' => e = .returned (.int .i64 (pickI c n)) ∧ w = w' := by
  generalize hr : pickI c n = r
  have HR := Lib.hid hr
  clear hr
  go_enter Try.func14, Try.ntmps14
  go_wp2
  all_goals go_ret
  all_goals refine ⟨?_, rfl⟩
  all_goals (refine Qt.ret_int ?_; rw [← HR.out]; unfold pickI)
  · rw [if_pos (by assumption), ← Int.neg_tmod, Int.tmod_eq_emod_of_nonneg (by omega)]
  · rw [if_neg (by omega)]
end Go.Proofs.Ytklccoodfhejbaa
namespace Go.Proofs.Ytklccoodfhejbaa
set_option maxRecDepth 100000
set_option linter.unusedVariables false
set_option linter.unusedSimpArgs false

/-- an answer: no room, and the store as it was; or a node in a store that has grown -/
def Ans9 (l : List Nd) (room : Int) (z : Zn) (Q : List Nd → Nat → Prop) : Prop := z = (l, 0, 40) ∨ ∃ (m : List Nd) (p : Nat), z = (m, (p : Int), 0) ∧ Grows l m ∧ Right6 m room ∧ Q m p
section
variable {l : List Nd} {room : Int} {e n : Nat} {F : Pic}
theorem grownL_is {k : Nat} (hr : Right6 l room) (hk : Is l (k + 2) n) (z : Zn) : grownL l room (n : Int) z = if z.2.2 = 0 then z else (l, 0, z.2.2) := by
  unfold grownL
  rw [if_pos (by rw [right_iff.2 hr, lev_at hk, Bool.true_and]; exact decide_eq_true (by omega))]
end
end Go.Proofs.Ytklccoodfhejbaa
namespace Go.Proofs.Ytklccoodfhejbaa
set_option maxRecDepth 100000
set_option linter.unusedVariables false
set_option linter.unusedSimpArgs false

theorem flat_few (l : List Nd) : ∀ (k n : Nat) (p : Int × Int), (flat l k n p).length ≤ 4 ^ k
  | 0, n, p => by
    show (if n = 1 then [p] else []).length ≤ 1
    split <;> simp
  | k + 1, n, p => by
    show (flat l k (kidN l n 0) (corner7 k p 0) ++ flat l k (kidN l n 1) (corner7 k p 1) ++ flat l k (kidN l n 2) (corner7 k p 2) ++ flat l k (kidN l n 3) (corner7 k p 3)).length ≤ 4 ^ (k + 1)
    have h0 := flat_few l k (kidN l n 0) (corner7 k p 0)
    have h1 := flat_few l k (kidN l n 1) (corner7 k p 1)
    have h2 := flat_few l k (kidN l n 2) (corner7 k p 2)
    have h3 := flat_few l k (kidN l n 3) (corner7 k p 3)
    have e : 4 ^ (k + 1) = 4 ^ k * 4 := Nat.pow_succ ..
    simp only [List.length_append]
    omega
section
variable {l : List Nd} {room : Int} {e n : Nat} {F : Pic}
theorem Sf.about (h : Sf l room e n F) (c : Int × Int) : c ∈ about7 l e n ↔ insideB e c = true ∧ F c = true := by
  unfold about7
  rw [mem_flat]
  have hp : (2 : Int) ^ (e + 1) = 2 ^ e * 2 := Int.pow_succ _ _
  have e2 : (c.1 - -(2 ^ e), c.2 - -(2 ^ e)) = inwardC e c := by unfold inwardC; exact Prod.ext (by omega) (by omega)
  have e3 : InAt7 (e + 1) (-(2 ^ e), -(2 ^ e)) c ↔ insideB e c = true := by
    unfold InAt7 insideB
    rw [hp, decide_eq_true_iff]
    generalize (2 : Int) ^ e = P
    simp only
    omega
  rw [e2, e3]
  exact ⟨fun ⟨h1, h2⟩ => ⟨h1, by rw [← h.al c h1]; exact h2⟩, fun ⟨h1, h2⟩ => ⟨h1, by rw [h.al c h1]; exact h2⟩⟩
theorem about_few (l : List Nd) (e n : Nat) : (about7 l e n).length ≤ 4 ^ (e + 1) := flat_few l _ _ _
end
end Go.Proofs.Ytklccoodfhejbaa
namespace Go.Proofs.Ytklccoodfhejbaa
set_option maxRecDepth 100000
set_option linter.unusedVariables false
set_option linter.unusedSimpArgs false
open Go.RowKit Go.Sort

theorem make_ok2 {l : List Nd} {room : Int} {e : Nat} {S : List (Int × Int)} (hr : Right6 l room) (hlow : e ≤ 41) (hS : Cel.rightB S = true) (hin : ∀ s ∈ S, insideB e s = true) (hroom : ((l.length + S.length * (e + 1) + (e + 1) : Nat) : Int) ≤ room) :
    ∃ (m : List Nd) (n t : Nat), make7 l room S ((e : Int) + 1) = (m, (n : Int), 0) ∧ Grows l m ∧ Sq m room e n S ∧ t ≤ e + 1 ∧ (∃ x, Emp m t x) ∧ m.length ≤ l.length + S.length * (e + 1) + t := by
  obtain ⟨m, n, h', e1, hm⟩ := build_res (room := room) (K := e + 1) (by omega) (e + 1) (Nat.le_refl _) l 0 (S.map (inwardC e)) hr (by omega) ⟨0, rfl⟩ (by rw [List.length_map]; omega)
  refine ⟨m, n, h', ?_, hm.grows, ⟨hm.right, hm.is, hlow, hS, hin, hm.alive⟩, hm.hi, hm.emp, ?_⟩
  · unfold make7 grown6
    rw [if_pos (right_iff.2 hr), makeZ_yes hlow hS hin, e1, if_pos rfl]
  · have := hm.len
    rw [List.length_map] at *
    omega
end Go.Proofs.Ytklccoodfhejbaa
namespace Go.Proofs.Ytklccoodfhejbaa
set_option maxRecDepth 100000
set_option linter.unusedVariables false
set_option linter.unusedSimpArgs false
open Go.RowKit Go.Sort

theorem Ans9.any {l : List Nd} {room : Int} {z : Zn} {Q : List Nd → Nat → Prop} (h : Ans9 l room z Q) (hr : Right6 l room) : ∃ (m : List Nd) (p : Nat) (e : Int), z = (m, (p : Int), e) ∧ Grows l m ∧ Right6 m room ∧ ((e = 40 ∧ p = 0) ∨ (e = 0 ∧ Q m p)) := by
  rcases h with h | ⟨m, p, h1, h2, h3, h4⟩
  · exact ⟨l, 0, 40, h, Grows.refl l, hr, .inl ⟨rfl, rfl⟩⟩
  · exact ⟨m, p, 0, h1, h2, h3, .inr ⟨rfl, h4⟩⟩
theorem right_len {l : List Nd} {room : Int} (h : Right6 l room) : l.length ≤ 100000 := by have := h.len; have := h.room100; omega
end Go.Proofs.Ytklccoodfhejbaa
namespace Go.Proofs.Ytklccoodfhejbaa
set_option maxRecDepth 100000
set_option linter.unusedVariables false
set_option linter.unusedSimpArgs false
open Go.RowKit Go.Sort

/-- about each of the nine middles the squares of all lower levels are there -/
def MidQ (room : Int) (e : Nat) (F : Pic) (b : List Nd) : Prop := ∀ t, t < 9 → ∀ i, 1 ≤ i → i ≤ e → ∃ q, Sf b room i q (moveF F (dNine e t))
theorem MidQ.grows {room : Int} {e : Nat} {F : Pic} {b b' : List Nd} (h : MidQ room e F b) (g : Grows b b') (r : Right6 b' room) : MidQ room e F b' := fun t ht i h1 h2 => by
  obtain ⟨q, hq⟩ := h t ht i h1 h2
  exact ⟨q, hq.grows g r⟩
end Go.Proofs.Ytklccoodfhejbaa
namespace Go.Proofs.Ytklccoodfhejbaa
set_option maxRecDepth 100000
set_option linter.unusedVariables false
set_option linter.unusedSimpArgs false
open Go.RowKit Go.Sort

section
variable {l : List Nd} {room : Int} {e n : Nat} {F : Pic}
theorem Sw.about (h : Sw l room e n F) (c : Int × Int) : c ∈ about7 l e n ↔ F c = true := by
  rw [h.sf.about]
  refine ⟨fun h => h.2, fun hf => ⟨?_, hf⟩⟩
  obtain ⟨a, b⟩ := c
  refine in_iff.2 ?_
  by_cases hb : -(2 ^ e : Int) ≤ a ∧ a < 2 ^ e ∧ -(2 ^ e) ≤ b ∧ b < 2 ^ e
  · exact hb
  · rw [h.inp a b hb] at hf; cases hf
end
end Go.Proofs.Ytklccoodfhejbaa
namespace Go.Proofs.Ytklccoodfhejbaa
set_option maxRecDepth 100000
set_option linter.unusedVariables false
set_option linter.unusedSimpArgs false
open Go.RowKit Go.Sort

section
variable {l : List Nd} {room : Int} {e n p x : Nat} {F : Pic}
/-- one picture, one node -/
theorem Sf.one_node (h1 : Sf l room e n F) (h2 : Sf l room e p F) : n = p := alive_inj h1.right (e + 1) n p h1.is h2.is fun c => by
  have e2 : (2 : Int) ^ (e + 1) = 2 ^ e * 2 := Int.pow_succ _ _
  have la := low_agree (e + 1) c
  obtain ⟨l1, l2, l3, l4⟩ := low_in (e + 1) c
  simp only at l1 l2 l3 l4
  have hd : insideB e (c.1 % 2 ^ (e + 1) - 2 ^ e, c.2 % 2 ^ (e + 1) - 2 ^ e) = true := in_iff.2 (by rw [e2] at *; omega)
  have hi : inwardC e (c.1 % 2 ^ (e + 1) - 2 ^ e, c.2 % 2 ^ (e + 1) - 2 ^ e) = (c.1 % 2 ^ (e + 1), c.2 % 2 ^ (e + 1)) := by
    unfold inwardC
    exact Prod.ext (by simp only; omega) (by simp only; omega)
  have a1 := h1.al _ hd
  have a2 := h2.al _ hd
  rw [hi] at a1 a2
  rw [← alive_agree (e + 1) n la, ← alive_agree (e + 1) p la, a1, a2]
end
/-- the squares about the middle, of the levels 2 and 3 -/
def TwoQ (room : Int) (F : Pic) (m : List Nd) : Prop := ∀ i, 1 ≤ i → i ≤ 2 → ∃ q, Sf m room i q F
theorem TwoQ.grows {room : Int} {F : Pic} {b b' : List Nd} (h : TwoQ room F b) (g : Grows b b') (r : Right6 b' room) : TwoQ room F b' := fun i h1 h2 => by
  obtain ⟨q, hq⟩ := h i h1 h2
  exact ⟨q, hq.grows g r⟩
/-- two nodes of one picture, each of the least level -/
theorem Sw.one_node {l : List Nd} {room : Int} {e1 e2 n p : Nat} {F : Pic} (h1 : Sw l room (e1 + 1) n F) (h2 : Sw l room (e2 + 1) p F) (m1 : e1 = 0 ∨ ¬ InP (2 ^ e1) F) (m2 : e2 = 0 ∨ ¬ InP (2 ^ e2) F) : n = p := by
  have key : ∀ a b, InP (2 ^ (a + 1)) F → (b = 0 ∨ ¬ InP (2 ^ b) F) → ¬ a < b := fun a b ha hb hlt => by
    rcases hb with rfl | hb
    · omega
    · exact hb (ha.more (pow_le9 (by omega)))
  have k1 := key e1 e2 h1.inp m2
  have k2 := key e2 e1 h2.inp m1
  obtain rfl : e1 = e2 := by omega
  exact Sf.one_node h1.sf h2.sf
/-! ### the law's five answers -/
end Go.Proofs.Ytklccoodfhejbaa
namespace Go.Proofs.Ytklccoodfhejbaa
set_option maxRecDepth 100000
set_option linter.unusedVariables false
set_option linter.unusedSimpArgs false
open Go.RowKit Go.Sort

def kids9 (r : Raw5) : Kd := (pickI r.1 2, pickI r.2.1 2, pickI r.2.2.1 2, pickI r.2.2.2.1 2)
def fldTo (room : Int) (raw : List Raw5) : Nat → List Nd
  | 0 => new6
  | n + 1 => (intern6 (fldTo room raw n) room (kids9 (raw.getD n dead5))).1
theorem kids9_fit {l : List Nd} {room : Int} (h : Right6 l room) (r : Raw5) : Fit4 l (kids9 r) := by
  have h2 := h.two
  have hz : ∀ c : Int, 0 ≤ pickI c 2 ∧ pickI c 2 < 2 := fun c => pickI_bd c 2 (by decide)
  have hl : ∀ x : Int, 0 ≤ x → x < 2 → (ndAt l x).1 = 0 := fun x a b => by
    rcases (by omega : x = ((0 : Nat) : Int) ∨ x = ((1 : Nat) : Int)) with rfl | rfl
    · rw [ndAt_nat, h.dead]; rfl
    · rw [ndAt_nat, h.live]; rfl
  have h0 := hz r.1
  have h1 := hz r.2.1
  have h3 := hz r.2.2.1
  have h4 := hz r.2.2.2.1
  have e0 : (ndAt l (kids9 r).1).1 = 0 := hl _ h0.1 h0.2
  refine ⟨fun i hi => ?_, by rw [e0]; decide⟩
  rw [e0]
  rcases (by omega : i = 0 ∨ i = 1 ∨ i = 2 ∨ i = 3) with rfl | rfl | rfl | rfl
  · exact ⟨h0.1, by show pickI r.1 2 < _; omega, hl _ h0.1 h0.2⟩
  · exact ⟨h1.1, by show pickI r.2.1 2 < _; omega, hl _ h1.1 h1.2⟩
  · exact ⟨h3.1, by show pickI r.2.2.1 2 < _; omega, hl _ h3.1 h3.2⟩
  · exact ⟨h4.1, by show pickI r.2.2.2.1 2 < _; omega, hl _ h4.1 h4.2⟩
theorem fldTo_right {room : Int} (h2 : 2 ≤ room) (h : room ≤ 100000) (raw : List Raw5) : ∀ n, Right6 (fldTo room raw n) room ∧ (fldTo room raw n).length ≤ n + 2
  | 0 => ⟨right_new h2 h, Nat.le_refl 2⟩
  | n + 1 => by
    obtain ⟨h1, h3⟩ := fldTo_right h2 h raw n
    have hf := kids9_fit h1 (raw.getD n dead5)
    show Right6 (intern6 _ room _).1 room ∧ _
    rw [intern_right h1]
    refine ⟨put_right h1 _, ?_⟩
    show (intern6 _ room _).1.length ≤ _
    rw [intern_right h1]
    rcases put_ok h1 hf with ⟨m, k, e, hp⟩ | ⟨e, _, _⟩
    · rw [e]; have := hp.more; simp only; omega
    · rw [e]; simp only; omega
/-- a cell of a square of half a side H -/
def cell9 (H : Int) (p : Int × Int) : Int × Int := (pickI p.1 (2 * H) - H, pickI p.2 (2 * H) - H)
def fldC (H : Int) (raw : List (Int × Int)) (k : Nat) : List (Int × Int) := Cel.setL ((raw.take k).map (cell9 H))
theorem fldC_succ {H : Int} {raw : List (Int × Int)} {k : Nat} (h : k < raw.length) : fldC H raw (k + 1) = Cel.putL (pickI (raw.getD k (0, 0)).1 (2 * H) - H, pickI (raw.getD k (0, 0)).2 (2 * H) - H) (fldC H raw k) := by
  unfold fldC
  rw [Cel.take_snoc h, List.map_append]
  exact Cel.setL_snoc _ _
theorem fldC_len (H : Int) (raw : List (Int × Int)) (k : Nat) : (fldC H raw k).length ≤ k := by
  refine Nat.le_trans (Cel.length_setL _) ?_
  rw [List.length_map, List.length_take]
  omega
theorem fldC_in {H : Int} (hH : 1 ≤ H) (raw : List (Int × Int)) (k : Nat) : ∀ s ∈ fldC H raw k, -H ≤ s.1 ∧ s.1 < H ∧ -H ≤ s.2 ∧ s.2 < H := fun s hs => by
  unfold fldC at hs
  rw [Cel.mem_setL, List.mem_map] at hs
  obtain ⟨a, _, rfl⟩ := hs
  have h1 := pickI_bd a.1 (2 * H) (by omega)
  have h2 := pickI_bd a.2 (2 * H) (by omega)
  unfold cell9
  simp only
  omega
theorem fldC_right {e : Nat} (he : e ≤ 4) (raw : List (Int × Int)) {k : Nat} (hk : k ≤ 30) : Cel.rightB (fldC (2 ^ e) raw k) = true ∧ ∀ s ∈ fldC (2 ^ e) raw k, insideB e s = true := by
  have hp := pow_pos7 e
  have hp16 : (2 : Int) ^ e ≤ 16 := by rcases (by omega : e = 0 ∨ e = 1 ∨ e = 2 ∨ e = 3 ∨ e = 4) with rfl | rfl | rfl | rfl | rfl <;> decide
  have hl := fldC_len (2 ^ e) raw k
  refine ⟨(Cel.rightB_iff _).2 ⟨by omega, fun s hs => ?_, Cel.rises_setL _⟩, fun s hs => ?_⟩
  · have := fldC_in (by omega) raw k s hs
    unfold Cel.inB
    exact decide_eq_true (by omega)
  · exact in_iff.2 (fldC_in (by omega) raw k s hs)
/-- what Field tells -/
structure FldL (room : Int) (nodes : List Raw5) (raw : List (Int × Int)) (lev : Int) (Q R : Int) (l : List Nd) (S : List (Int × Int)) (m : List Nd) (n e t : Nat) : Prop where
  q_ : Q = 2 + pickI room 60
  r_ : R = Q + 600
  qlo : 2 ≤ Q
  qhi : Q ≤ 61
  lev_ : 3 + pickI lev 3 = (e : Int) + 1
  elo : 2 ≤ e
  ehi : e ≤ 4
  l_ : l = fldTo Q nodes (min nodes.length 10)
  s_ : S = fldC (2 ^ e) raw (min raw.length 30)
  made : make7 l R S ((e : Int) + 1) = (m, (n : Int), 0)
  rl : Right6 l Q
  rl2 : Right6 l R
  llen : l.length ≤ 12
  slen : S.length ≤ 30
  sq : Sq m R e n S
  thi : t ≤ e + 1
  emp : ∃ x, Emp m t x
  len : m.length ≤ 167
theorem field_ok (room : Int) (nodes : List Raw5) (raw : List (Int × Int)) (lev : Int) : ∃ Q R l S m n e t, FldL room nodes raw lev Q R l S m n e t := by
  have hpb := pickI_bd room 60 (by decide)
  have hq := pickI_bd lev 3 (by decide)
  obtain ⟨e, he, he6⟩ : ∃ e : Nat, 3 + pickI lev 3 = (e : Int) + 1 ∧ 2 ≤ e ∧ e ≤ 4 := ⟨(pickI lev 3 + 2).toNat, by omega, by omega, by omega⟩
  obtain ⟨h1, h2⟩ := fldTo_right (room := 2 + pickI room 60) (by omega) (by omega) nodes (min nodes.length 10)
  obtain ⟨c1, c2⟩ := fldC_right he6.2 raw (k := min raw.length 30) (by omega)
  have c3 := fldC_len (2 ^ e) raw (min raw.length 30)
  have hl12 : (fldTo (2 + pickI room 60) nodes (min nodes.length 10)).length ≤ 12 := by omega
  have hr2 : Right6 (fldTo (2 + pickI room 60) nodes (min nodes.length 10)) (2 + pickI room 60 + 600) := h1.more (by omega) (by omega) (by omega)
  have hb : (fldC (2 ^ e) raw (min raw.length 30)).length * (e + 1) ≤ 30 * 5 := Nat.mul_le_mul (by omega) (by omega)
  obtain ⟨m, n, t, e1, g, sq, ht, hE, hlen⟩ := make_ok2 (room := 2 + pickI room 60 + 600) (e := e) hr2 (by omega) c1 c2 (by omega)
  exact ⟨_, _, _, _, m, n, e, t, rfl, rfl, by omega, by omega, he, he6.1, he6.2, rfl, rfl, e1, h1, hr2, hl12, by omega, sq, ht, hE, by omega⟩
end Go.Proofs.Ytklccoodfhejbaa
namespace Go.Proofs.Ytklccoodfhejbaa
set_option maxRecDepth 100000
set_option linter.unusedVariables false
set_option linter.unusedSimpArgs false
open Go.RowKit Go.Sort

section
variable {l : List Nd} {room : Int} {n p : Nat} {F : Pic}
theorem trim9_fine {E : Nat} (h : Sw l room (E + 1) n F) (hE : E ≤ 40) (hroom : ((l.length + E : Nat) : Int) ≤ room) : ∃ (m : List Nd) (p e' : Nat), trim9 l room (n : Int) = (m, (p : Int), 0) ∧ Grows l m ∧ Right6 m room ∧ m.length ≤ l.length + E ∧ e' ≤ E ∧ Sw m room (e' + 1) p F ∧ (e' = 0 ∨ ¬ InP (2 ^ e') F) := by
  have hg : trim9 l room (n : Int) = if (trimN room E l n).2.2 = 0 then trimN room E l n else (l, 0, (trimN room E l n).2.2) := by
    unfold trim9
    rw [trimZ_is h.sf.is]
    exact grownL_is h.sf.right h.sf.is _
  rcases trim_done room E n l F h hE with ⟨_, h2⟩ | ⟨m, p, e, g, r, len, e', h1, h2, h3⟩
  · omega
  · refine ⟨m, p, e', ?_, g, r, len, h1, h2, h3.imp id fun hd hp => hd (h2.sf.ringed fun c _ hc => ?_)⟩
    · rw [hg, e, if_pos rfl]
    · obtain ⟨a, b⟩ := c
      exact hp a b fun hn => by rw [in_iff.2 hn] at hc; cases hc
/-- what can't be trimmed is left -/
theorem trim9_again {e' : Nat} (h : Sw l room (e' + 1) p F) (hm : e' = 0 ∨ ¬ InP (2 ^ e') F) : trim9 l room (p : Int) = (l, (p : Int), 0) := by
  have ht : trimN room e' l p = (l, (p : Int), 0) := by
    cases e' with
    | zero => rfl
    | succ e =>
      refine if_neg fun hD => ?_
      rcases hm with h0 | h0
      · omega
      · exact h0 (h.shrink hD)
  unfold trim9
  rw [trimZ_is h.sf.is, grownL_is h.sf.right h.sf.is, ht, if_pos rfl]
end
theorem inside_more {a b : Nat} (hab : a ≤ b) {s : Int × Int} (h : insideB a s = true) : insideB b s = true := by
  obtain ⟨x, y⟩ := s
  have := in_iff.1 h
  have hp := pow_le9 hab
  exact in_iff.2 (by omega)
/-- the least level, found by going up -/
theorem least_end {S : List (Int × Int)} {e1 L : Nat} (hin : ∀ s ∈ S, insideB (e1 + 1) s = true) (hm : e1 = 0 ∨ ¬ InP (2 ^ e1) (picL S)) (h2 : 2 ≤ L) (hall : ∀ s ∈ S, insideB (L - 1) s = true) (hlo : L = 2 ∨ ∃ s ∈ S, insideB (L - 2) s = false) : L = e1 + 2 := by
  have k1 : ¬ L < e1 + 2 := fun hlt => by
    rcases hm with rfl | hm
    · omega
    · refine hm fun a b hn => decide_eq_false fun hs => hn ?_
      exact in_iff.1 (inside_more (show L - 1 ≤ e1 by omega) (hall _ hs))
  have k2 : ¬ e1 + 2 < L := fun hlt => by
    rcases hlo with rfl | ⟨s, hs, hf⟩
    · omega
    · rw [inside_more (show e1 + 1 ≤ L - 2 by omega) (hin s hs)] at hf
      cases hf
  omega
/-- the law's three trimmed nodes -/
structure TrmK (R : Int) (S : List (Int × Int)) (g : List Nd) (q n : Nat) (a : List Nd) (i : Nat) (c : List Nd) (e1 : Nat) : Prop where
  t1 : trim9 g R (q : Int) = (a, (i : Int), 0)
  t2 : trim9 a R (i : Int) = (a, (i : Int), 0)
  t3 : trim9 a R (n : Int) = (c, (i : Int), 0)
  ra : Right6 a R
  rc : Right6 c R
  sq : Sq a R (e1 + 1) i S
  least : e1 = 0 ∨ ¬ InP (2 ^ e1) (picL S)
  hi : e1 ≤ 40
theorem trm_all {R : Int} {S : List (Int × Int)} {g : List Nd} {q n E e : Nat} (hq : Sq g R (E + 1) q S) (hn : Sq g R (e + 1) n S) (hE : E ≤ 40) (he : e ≤ 40) (hroom : ((g.length + E + e : Nat) : Int) ≤ R) : ∃ a i c e1, TrmK R S g q n a i c e1 := by
  obtain ⟨a, i, e1, z1, g1, r1, len1, h1, w1, m1⟩ := trim9_fine hq.whole hE (by omega)
  have hna := (hn.grows g1 r1).whole
  obtain ⟨c, k, e2, z3, g3, r3, len3, h3, w3, m3⟩ := trim9_fine hna he (by omega)
  have hik : i = k := Sw.one_node ⟨w1.sf.grows g3 r3, w1.inp⟩ w3 m1 m3
  subst hik
  exact ⟨a, i, c, e1, z1, trim9_again w1 m1, z3, r1, r3, w1.sq hq.set, m1, by omega⟩
end Go.Proofs.Ytklccoodfhejbaa
namespace Go.Proofs.Ytklccoodfhejbaa
set_option maxRecDepth 100000
set_option linter.unusedVariables false
set_option linter.unusedSimpArgs false
open Go.RowKit Go.Sort

theorem fldTo_succ (room : Int) (raw : List Raw5) (n : Nat) : fldTo room raw (n + 1) = (intern6 (fldTo room raw n) room (kids9 (raw.getD n dead5))).1 := rfl
theorem rdN_told1 {w : World} {B q T i : Nat} {A : Option Addr} {l : List Nd} {x y v : Value} (h : RdN w B A l) (hrow : w.heap[q]? = some (.cells #[x, y] T (0, 0))) : RdN (w.setCell ⟨q, i, none⟩ v) B A l := by
  intro j hj
  obtain ⟨b, off, e, hne, hlt, h0, h1, h2, h3, h4, h5⟩ := rdN_ne h hrow (Nat.le_of_ble_eq_true rfl) j hj
  have hb : (w.setCell ⟨q, i, none⟩ v).heap[b]? = w.heap[b]? := Below.heap_setCell _ _ _ _ hne
  have hc : ∀ o, (w.setCell ⟨q, i, none⟩ v).cell? ⟨b, o, none⟩ = w.cell? ⟨b, o, none⟩ := fun o => World.cell?_of_block (w := w) hb
  exact ⟨b, off, e, hlt, (hc _).trans h0, (hc _).trans h1, (hc _).trans h2, (hc _).trans h3, (hc _).trans h4, (hc _).trans h5⟩
set_option maxHeartbeats 16000000 in
theorem field_any {room : Int} {nodes : List Raw5} {raw : List (Int × Int)} {lev Q R : Int} {l : List Nd} {S : List (Int × Int)} {m : List Nd} {n e t : Nat} (HL : FldL room nodes raw lev Q R l S m n e t) (A : Option Addr) (c : Nat) (B : Option Addr) (d : Nat) (w : World) (hI : I64 room) (hR : RdR w w.heap.size A nodes) (hl : nodes.length ≤ 9223372036854775807) (hF : ∀ j, j < nodes.length → Fine5 (nodes.getD j dead5))
    (hB : RdC w w.heap.size B raw) (hBl : raw.length ≤ 9223372036854775807) (hBc : raw.length ≤ d) (hBw : ∀ p ∈ raw, Cel.I64 p.1 ∧ Cel.I64 p.2) (hL : I64 lev) :
    Calls Try.prog 13 #[.int .i64 room, .slice A nodes.length c, .slice B raw.length d, .int .i64 lev] w fun r w' => ∃ A' c', r = .returned (.tuple #[.agg #[.slice A' m.length c', .int .i64 R], .int .i64 (n : Int)]) ∧ m.length ≤ c' ∧ NowN w' A' m ∧ Below w.heap.size w w' := by
  have hal0 := (Below.refl w.heap.size w).alloc (Nat.le_refl _) (.cells #[.slice none 0 0, .int .i64 0] 26)
  have hrow0 : (w.alloc (.cells #[.slice none 0 0, .int .i64 0] 26)).heap[w.heap.size]? = some (.cells #[.slice none 0 0, .int .i64 0] 26 (0, 0)) := heap_new rfl
  have HROW := Lib.hid hrow0
  have HAL := Lib.hid hal0
  have HHL := Lib.hid HL
  have HNR := Lib.hid ((hR.below hal0 (Nat.le_refl _)).more hal0.size)
  have HRS := Lib.hid ((Cel.Rd.below hB hal0 (Nat.le_refl _)).more hal0.size)
  have HFF := Lib.hid hF
  have HW := Lib.hid hBw
  have hpk := fun W => pick9_any lev 3 W hL.1 hL.2 (by decide) (by decide)
  have hpr := fun W => pick9_any room 60 W hI.1 hI.2 (by decide) (by decide)
  obtain ⟨q, hq⟩ : ∃ q, q = pickI lev 3 := ⟨_, rfl⟩
  obtain ⟨p, hp⟩ : ∃ p, p = pickI room 60 := ⟨_, rfl⟩
  rw [← hq] at hpk
  rw [← hp] at hpr
  have hlo := HL.qlo
  have hhi := HL.qhi
  have he2 := HL.elo
  have he4 := HL.ehi
  have hw3 : IntKind.i64.wrap (3 + q) = (e : Int) + 1 := by have := HL.lev_; rw [IntKind.wrap_i64]; omega
  have hwq : IntKind.i64.wrap (2 + p) = Q := by have := HL.q_; rw [IntKind.wrap_i64]; omega
  obtain ⟨hp1, hp2⟩ := pow_bd7 (e := e) (by omega)
  have hp16 : (2 : Int) ^ e ≤ 16 := by rcases (by omega : e = 0 ∨ e = 1 ∨ e = 2 ∨ e = 3 ∨ e = 4) with rfl | rfl | rfl | rfl | rfl <;> decide
  have hpp := pow_pos7 e
  have HP := Lib.hid (And.intro hpp hp16)
  have hwk : IntKind.i64.wrap ((e : Int)) = (e : Int) := by rw [IntKind.wrap_i64]; omega
  have hadd : (e : Int) + 1 - 1 = (e : Int) := by omega
  have hsS := HL.s_
  have HSS := Lib.hid hsS
  clear hrow0 hal0 hR hB hF hBw hL hI hq hp HL hsS hBc hlo hhi
  go_enter Try.func13, Try.ntmps13
  go_wp2_with fail
  generalize (w.alloc (.cells #[.slice none 0 0, .int .i64 0] 26)) = w1 at *
  refine (hpk _).mono ?_
  rintro r _ ⟨rfl, rfl⟩
  clear hpk
  go_wp2_with fail
  clear hw3
  go_loopw [11, 12] (fun v u wr => ∃ (k : Nat) (A1 : Option Addr) (c1 : Nat), k ≤ 30 ∧ k ≤ raw.length ∧ u = .int .i64 k ∧ v = .slice A1 (fldC (2 ^ e) raw k).length c1 ∧ (fldC (2 ^ e) raw k).length ≤ c1 ∧ Hid (RdC wr wr.heap.size A1 (fldC (2 ^ e) raw k) ∧ Below w1.heap.size w1 wr)) (fun _ u _ => 30 - (intOf u).toNat)
  case atStart => exact ⟨0, none, 0, Nat.zero_le _, Nat.zero_le _, rfl, rfl, Nat.le_refl _, (show Hid _ from ⟨Cel.Rd.nil _ _ _, Below.refl _ _⟩)⟩
  case round =>
    obtain ⟨k, A1, c1, hk30, hkl, rfl, rfl, hc1, HH⟩ := hrel
    have hsl := fldC_len (2 ^ e) raw k
    by_cases hgo : k < raw.length ∧ k < 30
    · obtain ⟨hlt, h30⟩ := hgo
      have hltz : (k : Int) < (raw.length : Int) := by omega
      have h30z : (k : Int) < 30 := by omega
      have hst := fldC_succ (H := 2 ^ e) hlt
      obtain ⟨hx1, hx2⟩ := HW.out _ (Cel.getD_mem hlt)
      obtain ⟨b, off, rfl, hbB, hcell⟩ := Cel.Rd.at_ HRS.out (by omega)
      obtain ⟨k0, k1⟩ := hcell k hlt
      generalize raw.getD k (0, 0) = xy at *
      obtain ⟨x, y⟩ := xy
      simp only at hx1 hx2 hst k0 k1
      have q0 := Qt.cell_in (Qt.keep HH.out.2 k0)
      have q1 := Qt.cell_in (Qt.keep HH.out.2 k1)
      have HST := Lib.hid hst
      have HX := Lib.hid (And.intro hx1 hx2)
      have hw2 : IntKind.i64.wrap (2 * 2 ^ e) = 2 * 2 ^ e := by rw [IntKind.wrap_i64]; generalize (2 : Int) ^ e = P at *; omega
      have hb1 := pickI_bd x (2 * 2 ^ e) (by omega)
      have hb2 := pickI_bd y (2 * 2 ^ e) (by omega)
      have hwx : IntKind.i64.wrap (pickI x (2 * 2 ^ e) - 2 ^ e) = pickI x (2 * 2 ^ e) - 2 ^ e := by rw [IntKind.wrap_i64]; generalize (2 : Int) ^ e = P at *; omega
      have hwy : IntKind.i64.wrap (pickI y (2 * 2 ^ e) - 2 ^ e) = pickI y (2 * 2 ^ e) - 2 ^ e := by rw [IntKind.wrap_i64]; generalize (2 : Int) ^ e = P at *; omega
      generalize fldC (2 ^ e) raw k = T at *
      clear hcell k0 k1 hst hx1 hx2 hb1 hb2 hbB
      go_wp2_with fail
      refine Qt.below_tail 22 (by kernel_rfl) (by kernel_rfl) ?_
      simp only [List.take_succ_cons, List.take_zero, List.drop_succ_cons, List.drop_zero]
      iterate 22 (go_big_quiet_step (first
        | (go_at_call_of 14 x; exact Qt.at_same fun _ _ => pick9_any x (2 * 2 ^ e) _ HX.out.1.1 HX.out.1.2 (by have := HP.out; generalize (2 : Int) ^ e = P at *; omega) (by have := HP.out; generalize (2 : Int) ^ e = P at *; omega))
        | (go_at_call_of 14 y; exact Qt.at_same fun _ _ => pick9_any y (2 * 2 ^ e) _ HX.out.2.1 HX.out.2.2 (by have := HP.out; generalize (2 : Int) ^ e = P at *; omega) (by have := HP.out; generalize (2 : Int) ^ e = P at *; omega))))
      refine wpQuiet_nil ?_
      intro w3 hb3
      have HR3 := (Cel.Rd.below HH.out.1 hb3 (Nat.le_refl _)).more hb3.size
      have hp := Cel.put_any A1 T c1 (pickI x (2 * 2 ^ e) - 2 ^ e, pickI y (2 * 2 ^ e) - 2 ^ e) w3 HR3 (by omega) hc1
      rw [← HST.out] at hp
      have HB3 := Lib.hid (Qt.more HH.out.2 HH.out.2.size hb3)
      clear HR3 hb3 q0 q1 hwx hwy hw2
      go_wp2_with (go_at_call 24; refine hp.mono ?_; rintro r w4 ⟨v4, rfl, hown4, hb4⟩)
      obtain ⟨A4, c4, rfl, hc4, hR4⟩ := Cel.Own.rd hown4
      have HN : Hid (RdC w4 w4.heap.size A4 (fldC (2 ^ e) raw (k + 1)) ∧ Below w1.heap.size w1 w4) := ⟨hR4, Qt.more HB3.out HB3.out.size hb4⟩
      clear hp hown4 hR4 hb4
      go_wp2_with fail
      go_roundw
      case measure => simp [intOf]; omega
      case rel => exact ⟨k + 1, A4, c4, by omega, by omega, by go_num, rfl, hc4, HN⟩
    · have hex : ((k : Int) < (raw.length : Int) ∧ ¬ (k : Int) < 30) ∨ ¬ (k : Int) < (raw.length : Int) := by omega
      have hkm : k = min raw.length 30 := by omega
      have hSk : fldC (2 ^ e) raw k = S := by rw [HSS.out, hkm]
      rw [hSk] at hc1 HH hsl ⊢
      have hnew := fun W => refNew6_any Q W
      have hnl : newL Q = new6 := by have := HHL.out.qlo; have := HHL.out.qhi; unfold newL; rw [if_pos (by omega)]
      have hnr : newRoom Q = Q := by have := HHL.out.qlo; have := HHL.out.qhi; unfold newRoom; rw [if_pos (by omega)]
      rw [hnl, hnr] at hnew
      have HB2 := Lib.hid (HAL.out.trans (HH.out.2.mono HAL.out.size))
      have HSC := Lib.hid HH.out.1
      have HN2 := Lib.hid ((HNR.out.below HH.out.2 (Nat.le_refl _)).more HH.out.2.size)
      have HROW2 := Lib.hid ((HH.out.2.block _ (lt_heap6 HROW.out)).trans HROW.out)
      clear hnl hnr hkm hSk hgo HH HRS HNR HW hwk hadd hp1 hp2 hp16 hpp hsl
      rcases hex with ⟨hz, hz30⟩ | hz
      all_goals
        go_wp2_with fail
        refine (hpr _).mono ?_
        rintro r _ ⟨rfl, rfl⟩
        go_wp2_with fail
        refine (hnew _).mono ?_
        intro r w5 h
        obtain ⟨A5, c5, rfl, hcap5, N5, hb5⟩ := storeR_box h
        have hal := (Below.refl w5.heap.size w5).alloc (Nat.le_refl _) (.cells #[.slice A5 new6.length c5, .int .i64 Q] 26)
        have hr5 := (hb5.block _ (lt_heap6 HROW2.out)).trans HROW2.out
        have hbw := Qt.more HB2.out HB2.out.size hb5
        have H00 := Lib.hid (show StAt w (w5.alloc (.cells #[.slice A5 new6.length c5, .int .i64 Q] 26)) w5.heap.size Q new6 A5 c5 from ⟨(hal.block _ (lt_heap6 hr5)).trans hr5, heap_alloc_new w5 _, (RdN.below N5 hal (Nat.le_refl _)).more hal.size, hcap5, Qt.more hbw hbw.size hal, lt_heap6 hr5⟩)
        have HS5 := Lib.hid (Cel.Rd.below ((Cel.Rd.below HSC.out hb5 (Nat.le_refl _)).more hb5.size) hal (Nat.le_refl _))
        have HN5 := Lib.hid (((HN2.out.below hb5 (Nat.le_refl _)).more hb5.size).below hal (Nat.le_refl _))
        have hto := fldTo_right (room := Q) HHL.out.qlo (by have := HHL.out.qhi; omega) nodes
        have HT := Lib.hid hto
        have hm00 : new6 = fldTo Q nodes 0 := rfl
        have HM0 := Lib.hid hm00
        clear h hnew hb5 hal hr5 hbw N5 HSC HN2 HROW2 HB2 hto hm00 hpr
        obtain ⟨m0, hm0⟩ : ∃ m0, m0 = new6 := ⟨_, rfl⟩
        rw [← hm0] at H00 hcap5 HM0 HS5 HN5 ⊢
        clear hm0
        go_wp2_with fail
        generalize (w5.alloc (.cells #[.slice A5 m0.length c5, .int .i64 Q] 26)) = wx at *
        generalize w5.heap.size = g at *
        go_loopw [15] (fun i wr => ∃ (j : Nat) (mm : List Nd) (B : Option Addr) (d : Nat), j ≤ 10 ∧ j ≤ nodes.length ∧ i = .int .i64 j ∧ Hid (StAt w wr g Q mm B d ∧ mm = fldTo Q nodes j ∧ Below g wx wr)) (fun i _ => 10 - (intOf i).toNat)
        case atStart => exact ⟨0, m0, A5, c5, by omega, Nat.zero_le _, rfl, (show Hid _ from ⟨H00.out, HM0.out, Below.refl _ _⟩)⟩
        case round =>
          obtain ⟨j, mm, B1, d1, hj10, hjl, rfl, HH⟩ := hrel
          have H := HH.out.1
          have hrow := H.row
          have c0 : wr.cell? ⟨g, 0, none⟩ = some (.slice B1 mm.length d1) := by rw [Lib.cell_of_heap hrow]; rfl
          have c1' : wr.cell? ⟨g, 1, none⟩ = some (.int .i64 Q) := by rw [Lib.cell_of_heap hrow]; rfl
          by_cases hlt : j < nodes.length ∧ j < 10
          · obtain ⟨hlt1, hlt2⟩ := hlt
            have hz1 : (j : Int) < (nodes.length : Int) := by omega
            have hz2 : (j : Int) < 10 := by omega
            obtain ⟨b, off, rfl, hbB, x0, x1, x2, x3, x4⟩ := (HN5.out.below HH.out.2.2 (Nat.le_refl _)) j hlt1
            have hfine := HFF.out j hlt1
            have hnext := fldTo_succ Q nodes j
            rw [← HH.out.2.1] at hnext
            have hm6 := HT.out j
            rw [← HH.out.2.1] at hm6
            generalize nodes.getD j dead5 = r at *
            have hint := fun W (hb : Below wr.heap.size wr W) => refIntern6_any B1 mm d1 Q (kids9 r) W ((H.rd.below hb (Nat.le_refl _)).more hb.size) (by omega) H.cap (fun i hi => by have := right_bd hm6.1 i hi; omega)
            obtain ⟨p, hp⟩ : ∃ p, p = intern6 mm Q (kids9 r) := ⟨_, rfl⟩
            rw [← hp] at hint hnext
            unfold storeV kidsV kids9 at hint
            dsimp only at hint
            have HNX := Lib.hid hnext
            have HBX := Lib.hid HH.out.2.2
            have HFI := Lib.hid hfine
            have q0 := Qt.cell_in x0
            have q1 := Qt.cell_in x1
            have q2 := Qt.cell_in x2
            have q3 := Qt.cell_in x3
            have q5 := Qt.cell_in c0
            have q6 := Qt.cell_in c1'
            clear x0 x1 x2 x3 x4 hfine hm6 hp hnext HH c0 c1'
            go_wp2_with fail
            refine Qt.region_call_tree 26 (.only 27 (.pure 28 (.pure 29 (.pure 30 (.only 31 .done))))) (by kernel_rfl) (by kernel_rfl) rfl rfl rfl Try.func38 (by kernel_rfl) (by kernel_rfl) rfl ?_
            simp only [List.take_succ_cons, List.take_zero, List.drop_succ_cons, List.drop_zero]
            iterate 26 (go_big_quiet_step (first
              | (go_at_call_of 14 r.1; exact Qt.at_same fun _ _ => pick9_any r.1 2 _ HFI.out.1.1 HFI.out.1.2 (by decide) (by decide))
              | (go_at_call_of 14 r.2.1; exact Qt.at_same fun _ _ => pick9_any r.2.1 2 _ HFI.out.2.1.1 HFI.out.2.1.2 (by decide) (by decide))
              | (go_at_call_of 14 r.2.2.1; exact Qt.at_same fun _ _ => pick9_any r.2.2.1 2 _ HFI.out.2.2.1.1 HFI.out.2.2.1.2 (by decide) (by decide))
              | (go_at_call_of 14 r.2.2.2.1; exact Qt.at_same fun _ _ => pick9_any r.2.2.2.1 2 _ HFI.out.2.2.2.1.1 HFI.out.2.2.2.1.2 (by decide) (by decide))))
            refine wpQuiet_nil ?_
            intro w3 hb3
            have hp := hint w3 hb3
            simp only [List.map_toArray, List.map_cons, List.map_nil]
            show Calls Try.prog _ #[.agg #[.slice B1 mm.length d1, .int .i64 Q], .agg #[.int .i64 (pickI r.1 2), .int .i64 (pickI r.2.1 2), .int .i64 (pickI r.2.2.1 2), .int .i64 (pickI r.2.2.2.1 2)]] w3 _
            refine hp.mono ?_
            rintro e w4 ⟨v, rfl, ⟨A4, c4, rfl, hc4, hR4⟩, hb4⟩
            have H4 := (H.below hb3).below hb4
            have hrow4 := H4.row
            have g0 : w4.cell? ⟨g, 0, none⟩ = some (.slice B1 mm.length d1) := by rw [Lib.cell_of_heap hrow4]; rfl
            have g1 : w4.cell? ⟨g, 1, none⟩ = some (.int .i64 Q) := by rw [Lib.cell_of_heap hrow4]; rfl
            have f0 := Lib.frozen_of_heap hrow4 0
            have f1 := Lib.frozen_of_heap hrow4 1
            have hgw := lt_heap6 hrow
            have hb34 := Qt.more (Qt.more HBX.out (Nat.le_of_lt hgw) hb3) (Nat.le_trans (Nat.le_of_lt hgw) hb3.size) hb4
            have HN := Lib.hid (And.intro (H4.put hR4 hc4) (And.intro HNX.out.symm ((hb34.setCell (p := ⟨g, 0, none⟩) (Nat.le_refl _) (.slice A4 p.1.length c4)).setCell (p := ⟨g, 1, none⟩) (Nat.le_refl _) (.int .i64 Q))))
            clear hp hint q0 q1 q2 q3 q5 q6 hrow hrow4 H4 H hb3 hb4 hR4 hb34 hgw
            refine ⟨_, rfl, ?_⟩
            simp only [Act.put, List.setIfInBounds_toArray, List.set_cons_succ, List.set_cons_zero]
            refine ⟨_, rfl, ?_⟩
            go_wp2_with fail
            refine ⟨rfl, ?_⟩
            refine ⟨_, some 100, .agg #[.slice A4 p.1.length c4, .int .i64 Q], rfl, rfl, ⟨rfl, fun _ => by first | rfl | (simp only [execOp]; go_simp)⟩, ?_⟩
            simp only [Act.put, List.setIfInBounds_toArray, List.set_cons_succ, List.set_cons_zero]
            refine ⟨_, some 101, .int .i64 p.2.1, rfl, rfl, ⟨rfl, fun _ => by first | rfl | (simp only [execOp]; go_simp)⟩, ?_⟩
            simp only [Act.put, List.setIfInBounds_toArray, List.set_cons_succ, List.set_cons_zero]
            refine ⟨_, some 102, .int .i64 p.2.2, rfl, rfl, ⟨rfl, fun _ => by first | rfl | (simp only [execOp]; go_simp)⟩, ?_⟩
            simp only [Act.put, List.setIfInBounds_toArray, List.set_cons_succ, List.set_cons_zero]
            refine ⟨_, rfl, ?_⟩
            go_wp2_with fail
            refine ⟨rfl, ?_⟩
            simp only [Qt.treeW]
            go_wp2_with fail
            go_roundw
            case measure => simp [intOf]; omega
            case rel => exact ⟨j + 1, p.1, A4, c4, by omega, by omega, by go_num, HN⟩
          · have hjm : j = min nodes.length 10 := by omega
            have hml : mm = l := by rw [HH.out.2.1, hjm, HHL.out.l_]
            subst hml
            have hex2 : ((j : Int) < (nodes.length : Int) ∧ ¬ (j : Int) < 10) ∨ ¬ (j : Int) < (nodes.length : Int) := by omega
            have hres := H.res
            have HRES := Lib.hid hres
            have HSj := Lib.hid (Cel.Rd.below HS5.out HH.out.2.2 (Nat.le_refl _))
            have hgw := lt_heap6 hrow
            have hw6 : IntKind.i64.wrap (Q + 600) = R := by have := HHL.out.r_; have := HHL.out.qlo; have := HHL.out.qhi; rw [IntKind.wrap_i64]; omega
            have f1 := Lib.frozen_of_heap hrow 1
            have hlo := H.lo
            have hcap := H.cap
            have hsz : (wr.setCell ⟨g, 1, none⟩ (.int .i64 R)).heap.size = wr.heap.size := by simp [World.setCell]
            have hone := (Below.refl g wr).setCell (p := ⟨g, 1, none⟩) (Nat.le_refl _) (.int .i64 R)
            have HSZ := Lib.hid (show StB (wr.setCell ⟨g, 1, none⟩ (.int .i64 R)) g B1 mm d1 R from ⟨by simp [World.setCell, Array.getElem?_modify, hrow], (rdN_told1 H.rd hrow).more (by rw [hsz]; exact Nat.le_refl _), hcap⟩)
            have HCZ := Lib.hid ((Cel.Rd.below HSj.out hone (Nat.le_refl _)).more (B' := (wr.setCell ⟨g, 1, none⟩ (.int .i64 R)).heap.size) (by rw [hsz]; exact Nat.le_of_lt hgw))
            have HBZ := Lib.hid (H.bel.setCell (p := ⟨g, 1, none⟩) (by show _ ≤ g; omega) (.int .i64 R))
            have HRZ := Lib.hid (show (wr.setCell ⟨g, 1, none⟩ (.int .i64 R)).heap[w.heap.size]? = some (.cells #[.slice none 0 0, .int .i64 0] 26 (0, 0)) from (Below.heap_setCell _ _ _ _ (by simp; omega)).trans hres)
            clear hsz hone hres HSj hgw hrow H HH HN5 HS5 H00 HM0 HT hjm hlt
            rcases hex2 with ⟨hz1, hz2⟩ | hz1
            all_goals
              go_wp2_with fail
              clear c0 c1' f1 hw6
              generalize (wr.setCell ⟨g, 1, none⟩ (.int .i64 R)) = wz at *
              have hc := refMake7_any B1 mm d1 R A1 S c1 ((e : Int) + 1) wz HSZ.out.rd (by have := HHL.out.llen; omega) hcap (lev_bd HHL.out.rl2) HCZ.out (by have := HHL.out.slen; omega) hc1
              rw [HHL.out.made] at hc
              unfold storeV at hc
              refine hc.mono ?_
              intro r w6 h
              obtain ⟨A6, c6, rfl, hcap6, N6, hb6⟩ := putR_box h
              have hal := (Below.refl w6.heap.size w6).alloc (Nat.le_refl _) (.cells #[.slice A6 m.length c6, .int .i64 R] 26)
              have hb' := Qt.more (B := wz.heap.size) hb6 hb6.size hal
              have HS6 := Lib.hid (stB_new N6 hcap6 R)
              have HB6 := Lib.hid (Qt.more HBZ.out HBZ.out.size hb')
              have hrow3 := (hb'.block _ (lt_heap6 HRZ.out)).trans HRZ.out
              clear h hc hb6 N6 hal HSZ HCZ HBZ HRZ
              have HROW3 := Lib.hid hrow3
              clear hrow3 hb'
              have g0 := HS6.out.s0
              have g1 := HS6.out.s1
              have r0 : (w6.alloc (.cells #[.slice A6 m.length c6, .int .i64 R] 26)).cell? ⟨w.heap.size, 0, none⟩ = some (.slice none 0 0) := by rw [Lib.cell_of_heap HROW3.out]; rfl
              have r1 : (w6.alloc (.cells #[.slice A6 m.length c6, .int .i64 R] 26)).cell? ⟨w.heap.size, 1, none⟩ = some (.int .i64 0) := by rw [Lib.cell_of_heap HROW3.out]; rfl
              have f0 := Lib.frozen_of_heap HROW3.out 0
              have f1 := Lib.frozen_of_heap HROW3.out 1
              have HT6 := Lib.hid (stB_put (room := R) HROW3.out HS6.out.rd HS6.out.cap)
              have HBE := Lib.hid ((HB6.out.setCell (p := ⟨w.heap.size, 0, none⟩) (Nat.le_refl _) (.slice A6 m.length c6)).setCell (p := ⟨w.heap.size, 1, none⟩) (Nat.le_refl _) (.int .i64 R))
              clear HB6 HS6 HROW3
              go_wp2_with fail
              clear r0 r1 f0 f1 g0 g1
              refine bodyPost_ret (results_cell2 rfl _ _ _ _ _ _ _ rfl HT6.out.row Try.underlying26 rfl (by kernel_rfl)) rfl ?_
              exact ⟨A6, c6, rfl, HT6.out.cap, HT6.out.rd, HBE.out⟩
end Go.Proofs.Ytklccoodfhejbaa
