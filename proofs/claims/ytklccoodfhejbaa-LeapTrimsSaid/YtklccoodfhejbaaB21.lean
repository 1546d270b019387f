/-
  Texts that the claims of this seat share, part 21.
-/
import Derived.Test.YtklccoodfhejbaaB20
import Derived.Test.YtklccoodfhejbaaB11
import Derived.Test.YtklccoodfhejbaaB09
import Derived.Test.YtklccoodfhejbaaB08
import Derived.RangeFuncNested
import Derived.RangeFuncBound
import Derived.RangeFuncCalls
import Derived.RangeFuncLeaves
import Derived.Shelf.Abstract
import Derived.Shelf.RegionOpen
import Derived.WalkKit
import Derived.OwnWalkIn
import Derived.TacticsInMore
import Derived.LoopNIn
import Derived.LoopIn
import Derived.Test.YtklccoodfhejbaaB04
set_option linter.unusedVariables false
set_option linter.unusedSimpArgs false
namespace Go.Proofs.Ytklccoodfhejbaa
set_option maxRecDepth 100000
set_option linter.unusedVariables false
set_option linter.unusedSimpArgs false

theorem pow_le9 {a b : Nat} (h : a ≤ b) : (2 : Int) ^ a ≤ 2 ^ b := by
  obtain ⟨d, rfl⟩ : ∃ d, b = a + d := ⟨b - a, by omega⟩
  induction d with
  | zero => exact Int.le_refl _
  | succ d ih =>
    have := ih (by omega)
    have e2 : (2 : Int) ^ (a + (d + 1)) = 2 ^ (a + d) * 2 := Int.pow_succ _ _
    have hp := pow_pos7 (a + d)
    omega
section
variable {room : Int}
/-- one power of two -/
theorem bit_done {l : List Nd} {e n jn C : Nat} {F : Pic} (h : Sw l room (e + 1) n F) (he : e ≤ 38) (hj : jn + 3 ≤ 42) (hC : ∀ e1 x, e1 ≤ e → (e1 = 0 ∨ ¬ InP (2 ^ e1) F) → x ≤ e1 + 2 ∨ x ≤ jn + 1 → costN x ≤ C) :
    DoneS room l (andZ (trimZ room l (n : Int)) fun l1 n1 => andZ (grownZ room jn l1 n1) fun l2 n2 => leapAtZ room jn l2 n2) (e + (1840 + C)) (fun m p => ∃ e', (e' ≤ e + 1 ∨ e' ≤ jn) ∧ Sw m room (e' + 1) p (runF (2 ^ jn) F)) := by
  rw [trimZ_is h.sf.is]
  refine (trim_done room e n l F h (by omega)).and fun m p g r ⟨e1, h1, h2, h3⟩ => ?_
  have h4 : e1 = 0 ∨ ¬ InP (2 ^ e1) F := h3.imp id fun hd hp => hd (h2.sf.ringed fun c _ hc => by
    obtain ⟨a, b⟩ := c
    exact hp a b fun hn => by rw [in_iff.2 hn] at hc; cases hc)
  rw [grownZ_is (d := 40 - e1) h2.sf.is (by omega)]
  refine ((grown_done room jn (40 - e1) 0 (e1 + 1) p m F h2 (by omega) (by omega) hj).mono (show (40 - e1) * 46 ≤ 1840 by omega) (fun _ _ _ _ h => h)).and fun m2 p2 g2 r2 ⟨e2, a1, a2, a3, a4, a5⟩ => ?_
  obtain ⟨x, rfl⟩ : ∃ x, e2 = x + 1 := ⟨e2 - 1, by omega⟩
  rw [leapAtZ_is a2.sf.is]
  refine (leap_done room x jn p2 m2 F a2.sf (by omega)).s.mono (hC e1 x h1 h4 (by omega)) fun m3 p3 _ _ hq => ?_
  obtain ⟨y, rfl⟩ : ∃ y, x = y + 1 := ⟨x - 1, by omega⟩
  refine ⟨y, by omega, hq, (h2.inp.run (2 ^ jn)).more ?_⟩
  have b1 := pow_le9 (show e1 + 1 ≤ y by omega)
  have b2 := pow_le9 (show jn ≤ y by omega)
  have e2 : (2 : Int) ^ (y + 1) = 2 ^ y * 2 := Int.pow_succ _ _
  have e3 : ((2 ^ jn : Nat) : Int) = 2 ^ jn := by simp
  omega
end
/-- as DoneS, without what room there is -/
def DoneE (room : Int) (l : List Nd) (z : Zn) (Q : List Nd → Nat → Prop) : Prop := z.2.2 = 40 ∨ ∃ (m : List Nd) (p : Nat), z = (m, (p : Int), 0) ∧ Grows l m ∧ Right6 m room ∧ Q m p
theorem DoneS.e {room : Int} {l : List Nd} {z : Zn} {N : Nat} {Q : List Nd → Nat → Prop} (h : DoneS room l z N Q) : DoneE room l z Q := by
  rcases h with h1 | ⟨m, p, e, g, r, len, q⟩
  · exact .inl h1.1
  · exact .inr ⟨m, p, e, g, r, q⟩
theorem DoneE.and {room : Int} {l : List Nd} {z : Zn} {f : List Nd → Int → Zn} {Q Q' : List Nd → Nat → Prop} (h : DoneE room l z Q) (hf : ∀ (m : List Nd) (p : Nat), Grows l m → Right6 m room → Q m p → DoneE room m (f m (p : Int)) Q') : DoneE room l (andZ z f) Q' := by
  rcases h with h1 | ⟨m, p, e, g, r, q⟩
  · left
    rw [and_no (by rw [h1]; decide)]
    exact h1
  · subst e
    rw [and_yes rfl]
    rcases hf m p g r q with h1 | ⟨m', p', e', g', r', q'⟩
    · exact .inl h1
    · exact .inr ⟨m', p', e', g.trans g', r', q'⟩
theorem and_assoc9 (z : Zn) (f g : List Nd → Int → Zn) : andZ z (fun l n => andZ (f l n) g) = andZ (andZ z f) g := by
  by_cases h : z.2.2 = 0
  · rw [and_yes h, and_yes h]
  · rw [and_no h, and_no (z := z) h]
    exact (and_no (z := (z.1, 0, z.2.2)) (f := g) h).symm
end Go.Proofs.Ytklccoodfhejbaa
namespace Go.Proofs.Ytklccoodfhejbaa
set_option maxRecDepth 100000
set_option linter.unusedVariables false
set_option linter.unusedSimpArgs false

def picL (S : List (Int × Int)) : Pic := fun c => decide (c ∈ S)
theorem next_pic {S : List (Int × Int)} (h : Cel.Rises S) : nextF (picL S) = picL (Cel.nextL S) := by
  funext c
  obtain ⟨x, y⟩ := c
  have h1 : picL (Cel.nextL S) (x, y) = Cel.aliveB S (x, y) := by
    unfold picL
    rw [Bool.eq_iff_iff, decide_eq_true_iff]
    exact Cel.mem_nextL S (x, y)
  rw [h1]
  unfold Cel.aliveB nextF
  rw [← Cel.nTo_nbr h, Cel.nTo_eight]
  unfold aboutF cnt1 picL Cel.eight
  simp only [List.countP_cons, List.countP_nil, decide_eq_true_eq]
  congr 2
  omega
theorem run_pic : ∀ (t : Nat) {S : List (Int × Int)}, Cel.Rises S → runF t (picL S) = picL (Cel.iterL t S)
  | 0, S, _ => rfl
  | t + 1, S, h => by
    show runF t (nextF (picL S)) = picL (Cel.iterL t (Cel.nextL S))
    rw [next_pic h]
    exact run_pic t (Cel.rises_nextL S)
section
variable {l : List Nd} {room : Int} {e n : Nat} {F : Pic} {S : List (Int × Int)}
theorem Sf.sq (h : Sf l room e n F) (hS : Cel.rightB S = true) (hin : ∀ s ∈ S, insideB e s = true) (hF : ∀ c, insideB e c = true → (F c = true ↔ c ∈ S)) : Sq l room e n S := ⟨h.right, h.is, h.low, hS, hin, fun c => by
  have hp := pow_pos7 e
  have e2 : (2 : Int) ^ (e + 1) = 2 ^ e * 2 := Int.pow_succ _ _
  have la := low_agree (e + 1) c
  obtain ⟨l1, l2, l3, l4⟩ := low_in (e + 1) c
  simp only at l1 l2 l3 l4
  have hd : insideB e (c.1 % 2 ^ (e + 1) - 2 ^ e, c.2 % 2 ^ (e + 1) - 2 ^ e) = true := in_iff.2 (by rw [e2] at *; omega)
  have hi : inwardC e (c.1 % 2 ^ (e + 1) - 2 ^ e, c.2 % 2 ^ (e + 1) - 2 ^ e) = (c.1 % 2 ^ (e + 1), c.2 % 2 ^ (e + 1)) := by
    unfold inwardC
    exact Prod.ext (by simp only; omega) (by simp only; omega)
  have ha := h.al _ hd
  rw [hi] at ha
  rw [← alive_agree (e + 1) n la, ha, Bool.eq_iff_iff, hF _ hd, List.any_eq_true]
  constructor
  · intro hs
    exact ⟨_, List.mem_map_of_mem hs, by rw [hi]; exact agree_iff.2 la⟩
  · rintro ⟨u, hu, hua⟩
    obtain ⟨t, ht, rfl⟩ := List.mem_map.1 hu
    have := agree_ext (inside_sq (hin t ht)) (by rw [← hi]; exact inside_sq hd) ((agree_iff.1 hua).trans la.symm)
    rw [← hi] at this
    unfold inwardC at this
    injection this with q1 q2
    have : t = (c.1 % 2 ^ (e + 1) - 2 ^ e, c.2 % 2 ^ (e + 1) - 2 ^ e) := Prod.ext (by simp only at q1 ⊢; omega) (by simp only at q2 ⊢; omega)
    exact this ▸ ht⟩
/-- the whole picture of a set of its square -/
theorem Sq.whole (h : Sq l room e n S) : Sw l room e n (picL S) := ⟨h.pic, fun a b hn => by
  show decide ((a, b) ∈ S) = false
  refine decide_eq_false fun hs => hn (in_iff.1 (h.ins _ hs))⟩
theorem Sw.sq (h : Sw l room e n (picL S)) (hS : Cel.rightB S = true) : Sq l room e n S := by
  refine h.sf.sq hS (fun s hs => ?_) fun c hc => decide_eq_true_iff
  obtain ⟨a, b⟩ := s
  refine in_iff.2 ?_
  by_cases hb : -(2 ^ e : Int) ≤ a ∧ a < 2 ^ e ∧ -(2 ^ e) ≤ b ∧ b < 2 ^ e
  · exact hb
  · have h1 := h.inp a b hb
    have h2 : picL S (a, b) = true := decide_eq_true hs
    rw [h2] at h1
    cases h1
end
end Go.Proofs.Ytklccoodfhejbaa
namespace Go.Proofs.Ytklccoodfhejbaa
set_option maxRecDepth 100000
set_option linter.unusedVariables false
set_option linter.unusedSimpArgs false
open Go.RowKit Go.Sort

theorem runTo_step {room : Int} {B : List Int} {ix jn : Nat} {l : List Nd} {n : Int} (hx : ix < B.length) (hj : B.getD ix 0 = (jn : Int)) :
    runTo room (B.drop ix) l n = andZ (trimZ room l n) fun l1 n1 => andZ (grownZ room jn l1 n1) fun l2 n2 => andZ (leapAtZ room jn l2 n2) fun l3 n3 => runTo room (B.drop (ix + 1)) l3 n3 := by
  rw [List.drop_eq_getElem_cons hx]
  have : B[ix] = (jn : Int) := by rw [← hj, List.getD_eq_getElem?_getD, List.getElem?_eq_getElem hx]; rfl
  rw [this]
  show andZ _ _ = _
  rw [Int.toNat_natCast]
set_option maxHeartbeats 8000000 in
theorem run_any {n0 g b mb : Nat} {room : Int} {l : List Nd} {w : World} (hin : LIn n0 w g b mb l room) {k e : Nat} (hk : Is l (e + 2) k) (he : e ≤ 40) (c : Int) (hc : I64 c) :
    Calls Try.prog 49 #[makerL g mb, .int .i64 (k : Int), .int .i64 c] w (LpR (runZ room l (k : Int) c) n0 g b mb room w) := by
  have hn0 := hin.ix.hB
  have hal := (Below.refl w.heap.size w).alloc (Nat.le_refl _) (.cells #[.pointer (some ⟨g, 0, none⟩), .map (some mb)] 76)
  have hM : ML (w.alloc (.cells #[.pointer (some ⟨g, 0, none⟩), .map (some mb)] 76)) w.heap.size g mb := heap_new rfl
  have HI := Lib.hid (hin.below hal)
  have HM := Lib.hid hM
  have HA := Lib.hid (BelL.of hal hn0)
  have HK := Lib.hid hk
  by_cases hcc : 0 ≤ c ∧ c ≤ 4611686018427387903
  · obtain ⟨hc0, hc1⟩ := hcc
    have hc0b : ¬ c < 0 := by omega
    have hc1b : ¬ 4611686018427387903 < c := by omega
    obtain ⟨B, hBL⟩ : ∃ B, B = Nq.bitsL c := ⟨_, rfl⟩
    obtain ⟨Z, hZ⟩ : ∃ Z, Z = runZ room l (k : Int) c := ⟨_, rfl⟩
    rw [← hZ]
    have HZ : Hid (Z = runTo room (B.drop 0) l (k : Int)) := by
      show _ = _
      rw [hZ]
      unfold runZ
      rw [if_pos ⟨hc0, hc1⟩, hBL]
      rfl
    have hlen : B.length ≤ 62 := by rw [hBL]; exact Nq.bitsL_len c
    have HBD : Hid (∀ e ∈ B, 0 ≤ e ∧ e ≤ 61) := by
      show ∀ e ∈ B, 0 ≤ e ∧ e ≤ 61
      rw [hBL]
      exact Nq.bitsL_bd c
    have hbits := fun W => Nq.bits_any c W hc
    rw [← hBL] at hbits
    clear hal hM hin hk hZ hBL hc
    go_enter Try.func49, Try.ntmps49
    go_wp2_with fail
    generalize (w.alloc (.cells #[.pointer (some ⟨g, 0, none⟩), .map (some mb)] 76)) = w0 at *
    refine (hbits _).mono ?_
    rintro r w1 ⟨v, rfl, hown, hb1⟩
    obtain ⟨A, cB, rfl, hcB, _⟩ := hown.reads
    have HO := Lib.hid hown
    have HI1 := Lib.hid (HI.out.below hb1)
    have HM1 := Lib.hid (HM.out.below hb1)
    have HA1 := Lib.hid (HA.out.trans (.of hb1 HI.out.ix.hB))
    clear hbits hown hb1 HI HM HA hc0 hc1 hc0b hc1b
    go_wp2_with fail
    go_loopw [1, 20] (fun v i wr => ∃ (ix k' e' : Nat) (m : List Nd), v = .int .i64 k' ∧ i = .int .i64 ix ∧ ix ≤ B.length ∧ Hid (e' ≤ 40 ∧ Is m (e' + 2) k' ∧ LIn n0 wr g b mb m room ∧ ML wr w.heap.size g mb ∧ BelL n0 w wr ∧ Nq.Own wr w0.heap.size (.slice A B.length cB) B ∧ Z = runTo room (B.drop ix) m (k' : Int))) (fun _ i _ => B.length - (intOf i).toNat)
    case atStart => exact ⟨0, k, e, l, rfl, rfl, Nat.zero_le _, (show Hid _ from ⟨he, HK.out, HI1.out, HM1.out, HA1.out, HO.out, HZ.out⟩)⟩
    case round =>
      obtain ⟨ix, k', e', m, rfl, rfl, hix, HH⟩ := hrel
      clear HI1 HM1 HA1 HZ HK HO
      obtain ⟨he', hk', hL, hMl, hB, hO, hZ⟩ := HH.out
      have m0 := hMl.c0
      have m1 := hMl.c1
      have HL := Lib.hid hL
      have HMl := Lib.hid hMl
      have HB := Lib.hid hB
      have HO := Lib.hid hO
      by_cases hlt : ix < B.length
      · have hltz : (ix : Int) < (B.length : Int) := by omega
        obtain ⟨A', c', e0, _, hN⟩ := hO.reads
        injection e0 with e1 e2 e3
        subst e1
        subst e3
        obtain ⟨bB, oB, rfl, hbB, hcell⟩ := Nq.Rd.at_ hN (by omega)
        have y0 := hcell ix hlt
        obtain ⟨jn, hjn⟩ : ∃ jn : Nat, B.getD ix 0 = (jn : Int) := by
          have hm : B.getD ix 0 ∈ B := by rw [List.getD_eq_getElem?_getD, List.getElem?_eq_getElem hlt]; exact List.getElem_mem hlt
          exact ⟨(B.getD ix 0).toNat, by have := HBD.out _ hm; omega⟩
        have hj61 : jn ≤ 61 := by
          have hm : B.getD ix 0 ∈ B := by rw [List.getD_eq_getElem?_getD, List.getElem?_eq_getElem hlt]; exact List.getElem_mem hlt
          have := HBD.out _ hm
          omega
        have hst := runTo_step (room := room) (l := m) (n := (k' : Int)) hlt hjn
        rw [hjn] at y0
        rw [← hZ, trimZ_is hk'] at hst
        have htr := trim_any hL hk' he'
        have hok := trim_ok room e' m k' hL.right hk' he'
        obtain ⟨T, hT⟩ : ∃ T, T = trimN room e' m k' := ⟨_, rfl⟩
        rw [← hT] at hst htr hok
        obtain ⟨tm, tn, te⟩ := T
        have HS := Lib.hid hst
        have HOK := Lib.hid hok
        clear hT hst hok hL hMl hB hO hZ hN hcell hjn HH hk'
        by_cases h0 : te = 0
        · subst h0
          obtain ⟨p, e1, hp, gr, rr, hip, he1⟩ := HOK.out rfl
          try dsimp only at hp
          subst hp
          have hst := HS.out
          rw [and_yes rfl] at hst
          dsimp only at hst
          rw [grownZ_is (d := 40 - e1) hip (by omega)] at hst
          have hgo := grown_ok room jn (40 - e1) 0 tm p (e1 + 2) rr hip (by omega) (by omega)
          have hgr := fun W (h : LIn n0 W g b mb tm room) => grown_any (d := 40 - e1) h hip (by omega) (by omega) jn (by omega)
          obtain ⟨G, hG⟩ : ∃ G, G = grownN room jn (40 - e1) 0 tm p := ⟨_, rfl⟩
          rw [← hG] at hst hgo
          simp only [← hG] at hgr
          obtain ⟨gm, gn, ge⟩ := G
          have HS1 := Lib.hid hst
          have HGO := Lib.hid hgo
          have HGR := Lib.hid hgr
          clear hG hst hgo hgr HS HOK gr rr hip
          go_wp2_with fail
          refine htr.mono ?_
          rintro r w2 ⟨rfl, hl2, hb2⟩
          have HL2 := Lib.hid (hl2 rfl)
          have HM2 := Lib.hid (HMl.out.kp hb2.kp)
          have HB2 := Lib.hid (HB.out.trans hb2)
          have HO2 := Lib.hid (own_kp HO.out hb2.kp)
          have hgw := HGR.out w2 HL2.out
          clear htr hl2 hb2 m0 m1 HGR y0
          have m0 := HM2.out.c0
          have m1 := HM2.out.c1
          by_cases h1 : ge = 0
          · subst h1
            obtain ⟨p2, e2, hp2, gr2, rr2, hip2, he2, hj2⟩ := HGO.out rfl
            try dsimp only at hp2
            subst hp2
            have hst := HS1.out
            rw [and_yes rfl] at hst
            dsimp only at hst
            rw [leapAtZ_is hip2] at hst
            have hlo := leap_ok (jn := jn) rr2 hip2 he2 (by omega)
            have hlp := fun W (h : LIn n0 W g b mb gm room) => leap_all n0 g b mb room e2 he2 p2 jn gm W h hip2 (by omega) he2
            obtain ⟨P, hP⟩ : ∃ P, P = leapN room e2 jn gm (p2 : Int) := ⟨_, rfl⟩
            rw [← hP] at hst hlo
            simp only [← hP] at hlp
            obtain ⟨pm, pn, pe⟩ := P
            have HS2 := Lib.hid hst
            have HLO := Lib.hid hlo
            have HLP := Lib.hid hlp
            clear hP hst hlo hlp HS1 HGO gr2 rr2 hip2
            go_wp2_with fail
            refine hgw.mono ?_
            rintro r w3 ⟨rfl, hl3, hb3⟩
            have HL3 := Lib.hid (hl3 rfl)
            have HM3 := Lib.hid (HM2.out.kp hb3.kp)
            have HB3 := Lib.hid (HB2.out.trans hb3)
            have HO3 := Lib.hid (own_kp HO2.out hb3.kp)
            have hlw := HLP.out w3 HL3.out
            clear hgw hl3 hb3 m0 m1 HLP
            have m0 := HM3.out.c0
            have m1 := HM3.out.c1
            by_cases h2 : pe = 0
            · subst h2
              obtain ⟨p3, hp3, gr3, rr3, hip3⟩ := HLO.out rfl
              try dsimp only at hp3
              subst hp3
              have hst := HS2.out
              rw [and_yes rfl] at hst
              dsimp only at hst
              have HS3 := Lib.hid hst
              have HIP := Lib.hid hip3
              clear hst HS2 HLO gr3 rr3 hip3
              go_wp2_with fail
              refine hlw.mono ?_
              rintro r w4 ⟨rfl, hl4, hb4⟩
              have HL4 := Lib.hid (hl4 rfl)
              have HM4 := Lib.hid (HM3.out.kp hb4.kp)
              have HB4 := Lib.hid (HB3.out.trans hb4)
              have HO4 := Lib.hid (own_kp HO3.out hb4.kp)
              clear hlw hl4 hb4 m0 m1
              go_wp2_with fail
              go_roundw
              case measure => simp [intOf]; omega
              case rel => exact ⟨ix + 1, p3, e2 - 1, pm, rfl, by go_num, by omega, (show Hid _ from ⟨by omega, by rw [show e2 - 1 + 2 = e2 + 1 by omega]; exact HIP.out, HL4.out, HM4.out, HB4.out, HO4.out, HS3.out⟩)⟩
            · have hz : Z = (pm, 0, pe) := by rw [HS2.out]; exact and_no h2
              subst hz
              have h0b : (pe != 0) = true := by rw [bne_iff_ne]; exact h2
              clear HLO
              go_wp2_with fail
              refine hlw.mono ?_
              rintro r w4 ⟨rfl, hl4, hb4⟩
              have HB4 := Lib.hid (HB3.out.trans hb4)
              clear hlw hl4 hb4 m0 m1
              go_wp2_with fail
              go_ret2
              exact ⟨rfl, fun h => absurd h h2, HB4.out⟩
          · have hz : Z = (gm, 0, ge) := by rw [HS1.out]; exact and_no h1
            subst hz
            have h0b : (ge != 0) = true := by rw [bne_iff_ne]; exact h1
            clear HGO
            go_wp2_with fail
            refine hgw.mono ?_
            rintro r w3 ⟨rfl, hl3, hb3⟩
            have HB3 := Lib.hid (HB2.out.trans hb3)
            clear hgw hl3 hb3 m0 m1
            go_wp2_with fail
            go_ret2
            exact ⟨rfl, fun h => absurd h h1, HB3.out⟩
        · have hz : Z = (tm, 0, te) := by rw [HS.out]; exact and_no h0
          subst hz
          have h0b : (te != 0) = true := by rw [bne_iff_ne]; exact h0
          clear HOK
          go_wp2_with fail
          refine htr.mono ?_
          rintro r w2 ⟨rfl, hl2, hb2⟩
          have HB2 := Lib.hid (HB.out.trans hb2)
          clear htr hl2 hb2 m0 m1 y0
          go_wp2_with fail
          go_ret2
          exact ⟨rfl, fun h => absurd h h0, HB2.out⟩
      · have hltz : ¬ (ix : Int) < (B.length : Int) := by omega
        have hz : Z = trimN room e' m k' := by
          rw [hZ, List.drop_eq_nil_of_le (by omega)]
          exact trimZ_is hk'
        have htr := trim_any hL hk' he'
        rw [← hz] at htr
        clear hz hL hMl hB hO hZ hk' HH
        obtain ⟨zm, zn, ze⟩ := Z
        go_wp2_with fail
        refine htr.mono ?_
        rintro r w2 ⟨rfl, hl2, hb2⟩
        have HL2 := Lib.hid hl2
        have HB2 := Lib.hid (HB.out.trans hb2)
        clear htr hl2 hb2 m0 m1
        go_wp2_with fail
        go_ret2
        exact ⟨rfl, HL2.out, HB2.out⟩
  · have hz : runZ room l (k : Int) c = (l, 0, 1) := if_neg hcc
    rw [hz]
    clear hal hM hin hk hz hc
    by_cases hc0 : c < 0
    · go_enter Try.func49, Try.ntmps49
      go_wp2_with fail
      go_ret2
      exact LpR.no (by decide) HA.out
    · have hc1 : 4611686018427387903 < c := by omega
      go_enter Try.func49, Try.ntmps49
      go_wp2_with fail
      go_ret2
      exact LpR.no (by decide) HA.out
end Go.Proofs.Ytklccoodfhejbaa
namespace Go.Proofs.Ytklccoodfhejbaa
set_option maxRecDepth 100000
set_option linter.unusedVariables false
set_option linter.unusedSimpArgs false
open Go.RowKit Go.Sort

theorem is_of_lev {l : List Nd} {room n : Int} (hr : Right6 l room) (h2 : 2 ≤ levI l n) : ∃ k e : Nat, n = (k : Int) ∧ Is l (e + 2) k ∧ e ≤ 40 := by
  unfold levI at h2
  split at h2
  · rename_i hn
    obtain ⟨k, rfl⟩ : ∃ k : Nat, n = k := ⟨n.toNat, by omega⟩
    rw [ndAt_nat] at h2
    have hb := right_bd hr k (by omega)
    exact ⟨k, ((l.getD k deadN).1 - 2).toNat, rfl, ⟨by omega, by omega⟩, by omega⟩
  · omega
set_option maxHeartbeats 8000000 in
theorem trimC_any {n0 g b mb : Nat} {room : Int} {l : List Nd} {w : World} (hin : LIn n0 w g b mb l room) {k e : Nat} (hk : Is l (e + 2) k) (he : e ≤ 40) {nb : Nat} (hnb : LR w nb (k : Int)) :
    Calls Try.prog 45 #[makerL g mb, .pointer (some ⟨nb, 0, none⟩)] w (LpR (trimZ room l (k : Int)) n0 g b mb room w) := by
  have hn0 := hin.ix.hB
  have hal := (Below.refl w.heap.size w).alloc (Nat.le_refl _) (.cells #[.pointer (some ⟨g, 0, none⟩), .map (some mb)] 76)
  have hM : ML (w.alloc (.cells #[.pointer (some ⟨g, 0, none⟩), .map (some mb)] 76)) w.heap.size g mb := heap_new rfl
  have hI := hin.below hal
  have hrun := trim_any hI hk he
  have HA := Lib.hid (BelL.of hal hn0)
  have m0 := hM.c0
  have m1 := hM.c1
  have x0 := (hnb.below hal).c
  rw [← trimZ_is hk] at hrun
  clear hal hM hin hI hk
  generalize trimZ room l (k : Int) = z at *
  obtain ⟨zl, zn, ze⟩ := z
  go_enter Try.func45, Try.ntmps45
  go_wp2_with fail
  generalize (w.alloc (.cells #[.pointer (some ⟨g, 0, none⟩), .map (some mb)] 76)) = w0 at *
  refine hrun.mono ?_
  rintro r w2 ⟨rfl, hl2, hb2⟩
  have HB2 := Lib.hid (HA.out.trans hb2)
  have HL2 := Lib.hid hl2
  clear hrun hl2 hb2 m0 m1
  go_wp2_with fail
  go_ret2
  exact ⟨rfl, HL2.out, HB2.out⟩
set_option maxHeartbeats 8000000 in
theorem runC_any {n0 g b mb : Nat} {room : Int} {l : List Nd} {w : World} (hin : LIn n0 w g b mb l room) {k e : Nat} (hk : Is l (e + 2) k) (he : e ≤ 40) (c : Int) (hc : I64 c) {nb cb : Nat} (hnb : LR w nb (k : Int)) (hcb : LR w cb c) :
    Calls Try.prog 48 #[makerL g mb, .pointer (some ⟨nb, 0, none⟩), .pointer (some ⟨cb, 0, none⟩)] w (LpR (runZ room l (k : Int) c) n0 g b mb room w) := by
  have hn0 := hin.ix.hB
  have hal := (Below.refl w.heap.size w).alloc (Nat.le_refl _) (.cells #[.pointer (some ⟨g, 0, none⟩), .map (some mb)] 76)
  have hM : ML (w.alloc (.cells #[.pointer (some ⟨g, 0, none⟩), .map (some mb)] 76)) w.heap.size g mb := heap_new rfl
  have hI := hin.below hal
  have hrun := run_any hI hk he c hc
  have HA := Lib.hid (BelL.of hal hn0)
  have m0 := hM.c0
  have m1 := hM.c1
  have x0 := (hnb.below hal).c
  have x1 := (hcb.below hal).c
  clear hal hM hin hI hk
  generalize runZ room l (k : Int) c = z at *
  obtain ⟨zl, zn, ze⟩ := z
  go_enter Try.func48, Try.ntmps48
  go_wp2_with fail
  generalize (w.alloc (.cells #[.pointer (some ⟨g, 0, none⟩), .map (some mb)] 76)) = w0 at *
  refine hrun.mono ?_
  rintro r w2 ⟨rfl, hl2, hb2⟩
  have HB2 := Lib.hid (HA.out.trans hb2)
  have HL2 := Lib.hid hl2
  clear hrun hl2 hb2 m0 m1
  go_wp2_with fail
  go_ret2
  exact ⟨rfl, HL2.out, HB2.out⟩
def leap9 (l : List Nd) (room n x : Int) : Zn := grownL l room n (leapZ room l n x)
set_option maxHeartbeats 8000000 in
theorem leap9_any (A : Option Addr) (l : List Nd) (c : Nat) (room : Int) (n x : Int) (w : World) (hx : I64 x) (hR : RdN w w.heap.size A l) (hl : l.length ≤ 1000000) (hc : l.length ≤ c) (hlv : ∀ i, i < l.length → -9223372036854775808 ≤ (l.getD i deadN).1 ∧ (l.getD i deadN).1 ≤ 9223372036854775807) :
    Calls Try.prog 15 #[storeV A l.length c room, .int .i64 n, .int .i64 x] w (PutR (leap9 l room n x) room w) := by
  have hal0 := Below.refl w.heap.size w
  have hal1 := hal0.alloc hal0.size (.cells #[.slice A l.length c, .int .i64 room] 26)
  have hz1 : (w.alloc (.cells #[.slice A l.length c, .int .i64 room] 26)).heap.size = w.heap.size + 1 := by simp
  have hal2 := hal1.alloc hal1.size (.cells #[.int .i64 n] 3)
  have hz2 : ((w.alloc (.cells #[.slice A l.length c, .int .i64 room] 26)).alloc (.cells #[.int .i64 n] 3)).heap.size = w.heap.size + 1 + 1 := by simp
  have hal3 := hal2.alloc hal2.size (.cells #[.int .i64 x] 3)
  have hz3 : (((w.alloc (.cells #[.slice A l.length c, .int .i64 room] 26)).alloc (.cells #[.int .i64 n] 3)).alloc (.cells #[.int .i64 x] 3)).heap.size = w.heap.size + 1 + 1 + 1 := by simp
  have hal4 := hal3.alloc hal3.size (.cells #[.slice none 0 0, .int .i64 0] 26)
  have HH0 : WrAt w ((((w.alloc (.cells #[.slice A l.length c, .int .i64 room] 26)).alloc (.cells #[.int .i64 n] 3)).alloc (.cells #[.int .i64 x] 3)).alloc (.cells #[.slice none 0 0, .int .i64 0] 26)) A l.length c room (w.heap.size + 1 + 1 + 1) := ⟨heap_old (heap_old (heap_old (heap_new rfl))), heap_new hz3, hal4, by omega⟩
  have hs1 : LR ((((w.alloc (.cells #[.slice A l.length c, .int .i64 room] 26)).alloc (.cells #[.int .i64 n] 3)).alloc (.cells #[.int .i64 x] 3)).alloc (.cells #[.slice none 0 0, .int .i64 0] 26)) (w.heap.size + 1) n := heap_old (heap_old (heap_new hz1))
  have hs2 : LR ((((w.alloc (.cells #[.slice A l.length c, .int .i64 room] 26)).alloc (.cells #[.int .i64 n] 3)).alloc (.cells #[.int .i64 x] 3)).alloc (.cells #[.slice none 0 0, .int .i64 0] 26)) (w.heap.size + 1 + 1) x := heap_old (heap_new hz2)
  have hmf : ∀ (fn : Fn) (first cap : Array Value) (W : World), (Instr.makeFunc fn first cap).run Try.prog W = .ok (.func fn first cap) W := fun _ _ _ _ => rfl
  have hgr := madeL_2 40 (enters_of Try.func40 (by kernel_rfl) rfl) (.pointer (some ⟨w.heap.size + 1 + 1, 0, none⟩)) (.pointer (some ⟨w.heap.size + 1, 0, none⟩)) n (leapZ room l n x) A l c room ((((w.alloc (.cells #[.slice A l.length c, .int .i64 room] 26)).alloc (.cells #[.int .i64 n] 3)).alloc (.cells #[.int .i64 x] 3)).alloc (.cells #[.slice none 0 0, .int .i64 0] 26)) ((hR.below HH0.bel (Nat.le_refl _)).more HH0.bel.size) hl hc hlv
    (fun hr h2 g b mb W hbW hin => by
      obtain ⟨k, e, rfl, hk, he⟩ := is_of_lev (right_iff.1 hr) h2
      have b1 : LR W (w.heap.size + 1) (k : Int) := (hbW.block _ (lt_heap6 hs1)).trans hs1
      have b2 : LR W (w.heap.size + 1 + 1) x := (hbW.block _ (lt_heap6 hs2)).trans hs2
      exact leapC_any hin hk he x hx b2 b1)
  rw [show grownL l room n (leapZ room l n x) = leap9 l room n x from rfl] at hgr
  unfold storeV PutR at hgr
  unfold storeV
  have HH := Lib.hid HH0
  have s0 := HH0.s0
  have s1 := HH0.s1
  have x1 := hs1.c
  have x2 := hs2.c
  clear HH0 hR hal0 hal1 hal2 hal3 hal4 hz1 hz2 hz3 hs1 hs2 hlv
  generalize leap9 l room n x = z at *
  obtain ⟨m, q, ee⟩ := z
  simp only at hgr
  go_enter Try.func15, Try.ntmps15
  go_wp2_with fail
  refine hgr.mono ?_
  rintro e w1 ⟨v, rfl, ⟨B, d, rfl, hd, hN⟩, hb1⟩
  have H1 := HH.out.below hb1
  have r0 := H1.r0
  have r1 := H1.r1
  have f0 := H1.free 0
  have f1 := H1.free 1
  have ht := Lib.hid (H1.told (.slice B m.length d) (.int .i64 room))
  have hrd := Lib.hid (rdN_told (u := .slice B m.length d) (v := .int .i64 room) hN H1.res)
  clear hgr hb1 H1 hN s0 s1 x1 x2
  go_wp2
  refine bodyPost_ret (results_cell3 rfl _ _ _ _ _ _ _ rfl ht.out.1 Try.underlying26 rfl (by kernel_rfl)) rfl ?_
  exact ⟨_, rfl, ⟨B, d, rfl, hd, hrd.out.more (by simp [World.setCell])⟩, ht.out.2⟩
def trim9 (l : List Nd) (room n : Int) : Zn := grownL l room n (trimZ room l n)
set_option maxHeartbeats 8000000 in
theorem trim9_any (A : Option Addr) (l : List Nd) (c : Nat) (room : Int) (n : Int) (w : World) (hR : RdN w w.heap.size A l) (hl : l.length ≤ 1000000) (hc : l.length ≤ c) (hlv : ∀ i, i < l.length → -9223372036854775808 ≤ (l.getD i deadN).1 ∧ (l.getD i deadN).1 ≤ 9223372036854775807) :
    Calls Try.prog 18 #[storeV A l.length c room, .int .i64 n] w (PutR (trim9 l room n) room w) := by
  have hal0 := Below.refl w.heap.size w
  have hal1 := hal0.alloc hal0.size (.cells #[.slice A l.length c, .int .i64 room] 26)
  have hz1 : (w.alloc (.cells #[.slice A l.length c, .int .i64 room] 26)).heap.size = w.heap.size + 1 := by simp
  have hal2 := hal1.alloc hal1.size (.cells #[.int .i64 n] 3)
  have hz2 : ((w.alloc (.cells #[.slice A l.length c, .int .i64 room] 26)).alloc (.cells #[.int .i64 n] 3)).heap.size = w.heap.size + 1 + 1 := by simp
  have hal4 := hal2.alloc hal2.size (.cells #[.slice none 0 0, .int .i64 0] 26)
  have HH0 : WrAt w (((w.alloc (.cells #[.slice A l.length c, .int .i64 room] 26)).alloc (.cells #[.int .i64 n] 3)).alloc (.cells #[.slice none 0 0, .int .i64 0] 26)) A l.length c room (w.heap.size + 1 + 1) := ⟨heap_old (heap_old (heap_new rfl)), heap_new hz2, hal4, by omega⟩
  have hs1 : LR (((w.alloc (.cells #[.slice A l.length c, .int .i64 room] 26)).alloc (.cells #[.int .i64 n] 3)).alloc (.cells #[.slice none 0 0, .int .i64 0] 26)) (w.heap.size + 1) n := heap_old (heap_new hz1)
  have hmf : ∀ (fn : Fn) (first cap : Array Value) (W : World), (Instr.makeFunc fn first cap).run Try.prog W = .ok (.func fn first cap) W := fun _ _ _ _ => rfl
  have hgr := madeL_1 45 (enters_of Try.func45 (by kernel_rfl) rfl) (.pointer (some ⟨w.heap.size + 1, 0, none⟩)) n (trimZ room l n) A l c room (((w.alloc (.cells #[.slice A l.length c, .int .i64 room] 26)).alloc (.cells #[.int .i64 n] 3)).alloc (.cells #[.slice none 0 0, .int .i64 0] 26)) ((hR.below HH0.bel (Nat.le_refl _)).more HH0.bel.size) hl hc hlv
    (fun hr h2 g b mb W hbW hin => by
      obtain ⟨k, e, rfl, hk, he⟩ := is_of_lev (right_iff.1 hr) h2
      have b1 : LR W (w.heap.size + 1) (k : Int) := (hbW.block _ (lt_heap6 hs1)).trans hs1
      exact trimC_any hin hk he b1)
  rw [show grownL l room n (trimZ room l n) = trim9 l room n from rfl] at hgr
  unfold storeV PutR at hgr
  unfold storeV
  have HH := Lib.hid HH0
  have s0 := HH0.s0
  have s1 := HH0.s1
  have x1 := hs1.c
  clear HH0 hR hal0 hal1 hal2 hal4 hz1 hz2 hs1 hlv
  generalize trim9 l room n = z at *
  obtain ⟨m, q, ee⟩ := z
  simp only at hgr
  go_enter Try.func18, Try.ntmps18
  go_wp2_with fail
  refine hgr.mono ?_
  rintro e w1 ⟨v, rfl, ⟨B, d, rfl, hd, hN⟩, hb1⟩
  have H1 := HH.out.below hb1
  have r0 := H1.r0
  have r1 := H1.r1
  have f0 := H1.free 0
  have f1 := H1.free 1
  have ht := Lib.hid (H1.told (.slice B m.length d) (.int .i64 room))
  have hrd := Lib.hid (rdN_told (u := .slice B m.length d) (v := .int .i64 room) hN H1.res)
  clear hgr hb1 H1 hN s0 s1 x1
  go_wp2
  refine bodyPost_ret (results_cell3 rfl _ _ _ _ _ _ _ rfl ht.out.1 Try.underlying26 rfl (by kernel_rfl)) rfl ?_
  exact ⟨_, rfl, ⟨B, d, rfl, hd, hrd.out.more (by simp [World.setCell])⟩, ht.out.2⟩
def run9 (l : List Nd) (room n x : Int) : Zn := grownL l room n (runZ room l n x)
set_option maxHeartbeats 8000000 in
theorem run9_any (A : Option Addr) (l : List Nd) (c : Nat) (room : Int) (n x : Int) (w : World) (hx : I64 x) (hR : RdN w w.heap.size A l) (hl : l.length ≤ 1000000) (hc : l.length ≤ c) (hlv : ∀ i, i < l.length → -9223372036854775808 ≤ (l.getD i deadN).1 ∧ (l.getD i deadN).1 ≤ 9223372036854775807) :
    Calls Try.prog 20 #[storeV A l.length c room, .int .i64 n, .int .i64 x] w (PutR (run9 l room n x) room w) := by
  have hal0 := Below.refl w.heap.size w
  have hal1 := hal0.alloc hal0.size (.cells #[.slice A l.length c, .int .i64 room] 26)
  have hz1 : (w.alloc (.cells #[.slice A l.length c, .int .i64 room] 26)).heap.size = w.heap.size + 1 := by simp
  have hal2 := hal1.alloc hal1.size (.cells #[.int .i64 n] 3)
  have hz2 : ((w.alloc (.cells #[.slice A l.length c, .int .i64 room] 26)).alloc (.cells #[.int .i64 n] 3)).heap.size = w.heap.size + 1 + 1 := by simp
  have hal3 := hal2.alloc hal2.size (.cells #[.int .i64 x] 3)
  have hz3 : (((w.alloc (.cells #[.slice A l.length c, .int .i64 room] 26)).alloc (.cells #[.int .i64 n] 3)).alloc (.cells #[.int .i64 x] 3)).heap.size = w.heap.size + 1 + 1 + 1 := by simp
  have hal4 := hal3.alloc hal3.size (.cells #[.slice none 0 0, .int .i64 0] 26)
  have HH0 : WrAt w ((((w.alloc (.cells #[.slice A l.length c, .int .i64 room] 26)).alloc (.cells #[.int .i64 n] 3)).alloc (.cells #[.int .i64 x] 3)).alloc (.cells #[.slice none 0 0, .int .i64 0] 26)) A l.length c room (w.heap.size + 1 + 1 + 1) := ⟨heap_old (heap_old (heap_old (heap_new rfl))), heap_new hz3, hal4, by omega⟩
  have hs1 : LR ((((w.alloc (.cells #[.slice A l.length c, .int .i64 room] 26)).alloc (.cells #[.int .i64 n] 3)).alloc (.cells #[.int .i64 x] 3)).alloc (.cells #[.slice none 0 0, .int .i64 0] 26)) (w.heap.size + 1) n := heap_old (heap_old (heap_new hz1))
  have hs2 : LR ((((w.alloc (.cells #[.slice A l.length c, .int .i64 room] 26)).alloc (.cells #[.int .i64 n] 3)).alloc (.cells #[.int .i64 x] 3)).alloc (.cells #[.slice none 0 0, .int .i64 0] 26)) (w.heap.size + 1 + 1) x := heap_old (heap_new hz2)
  have hmf : ∀ (fn : Fn) (first cap : Array Value) (W : World), (Instr.makeFunc fn first cap).run Try.prog W = .ok (.func fn first cap) W := fun _ _ _ _ => rfl
  have hgr := madeL_2 48 (enters_of Try.func48 (by kernel_rfl) rfl) (.pointer (some ⟨w.heap.size + 1, 0, none⟩)) (.pointer (some ⟨w.heap.size + 1 + 1, 0, none⟩)) n (runZ room l n x) A l c room ((((w.alloc (.cells #[.slice A l.length c, .int .i64 room] 26)).alloc (.cells #[.int .i64 n] 3)).alloc (.cells #[.int .i64 x] 3)).alloc (.cells #[.slice none 0 0, .int .i64 0] 26)) ((hR.below HH0.bel (Nat.le_refl _)).more HH0.bel.size) hl hc hlv
    (fun hr h2 g b mb W hbW hin => by
      obtain ⟨k, e, rfl, hk, he⟩ := is_of_lev (right_iff.1 hr) h2
      have b1 : LR W (w.heap.size + 1) (k : Int) := (hbW.block _ (lt_heap6 hs1)).trans hs1
      have b2 : LR W (w.heap.size + 1 + 1) x := (hbW.block _ (lt_heap6 hs2)).trans hs2
      exact runC_any hin hk he x hx b1 b2)
  rw [show grownL l room n (runZ room l n x) = run9 l room n x from rfl] at hgr
  unfold storeV PutR at hgr
  unfold storeV
  have HH := Lib.hid HH0
  have s0 := HH0.s0
  have s1 := HH0.s1
  have x1 := hs1.c
  have x2 := hs2.c
  clear HH0 hR hal0 hal1 hal2 hal3 hal4 hz1 hz2 hz3 hs1 hs2 hlv
  generalize run9 l room n x = z at *
  obtain ⟨m, q, ee⟩ := z
  simp only at hgr
  go_enter Try.func20, Try.ntmps20
  go_wp2_with fail
  refine hgr.mono ?_
  rintro e w1 ⟨v, rfl, ⟨B, d, rfl, hd, hN⟩, hb1⟩
  have H1 := HH.out.below hb1
  have r0 := H1.r0
  have r1 := H1.r1
  have f0 := H1.free 0
  have f1 := H1.free 1
  have ht := Lib.hid (H1.told (.slice B m.length d) (.int .i64 room))
  have hrd := Lib.hid (rdN_told (u := .slice B m.length d) (v := .int .i64 room) hN H1.res)
  clear hgr hb1 H1 hN s0 s1 x1 x2
  go_wp2
  refine bodyPost_ret (results_cell3 rfl _ _ _ _ _ _ _ rfl ht.out.1 Try.underlying26 rfl (by kernel_rfl)) rfl ?_
  exact ⟨_, rfl, ⟨B, d, rfl, hd, hrd.out.more (by simp [World.setCell])⟩, ht.out.2⟩
end Go.Proofs.Ytklccoodfhejbaa
namespace Go.Proofs.Ytklccoodfhejbaa
set_option maxRecDepth 100000
set_option linter.unusedVariables false
set_option linter.unusedSimpArgs false

abbrev Bx := Int × Int × Int × Int
end Go.Proofs.Ytklccoodfhejbaa
namespace Go.Proofs.Ytklccoodfhejbaa
set_option maxRecDepth 100000
set_option linter.unusedVariables false
set_option linter.unusedSimpArgs false
open Go.RowKit Go.Sort

/-- a row of cells -/
def RowV (w : World) (q T : Nat) (xs : List Value) : Prop := w.heap[q]? = some (.cells xs.toArray T (0, 0))
section
variable {w w' : World} {q T : Nat} {xs : List Value}
theorem RowV.lt (h : RowV w q T xs) : q < w.heap.size := lt_heap6 h
theorem RowV.cell (h : RowV w q T xs) {i : Nat} {v : Value} (hi : xs[i]? = some v) : w.cell? ⟨q, i, none⟩ = some v := by
  rw [Lib.cell_of_heap h]
  simpa using hi
theorem RowV.free (h : RowV w q T xs) (i : Nat) : w.frozen? ⟨q, i, none⟩ = false := Lib.frozen_of_heap h i
theorem RowV.set (h : RowV w q T xs) (i : Nat) (u : Value) : RowV (w.setCell ⟨q, i, none⟩ u) q T (xs.set i u) := by
  unfold RowV at h ⊢
  simp [World.setCell, Array.getElem?_modify, h]
theorem RowV.other (h : RowV w q T xs) {p : Nat} (hne : q ≠ p) (i : Nat) (u : Value) : RowV (w.setCell ⟨p, i, none⟩ u) q T xs := by
  unfold RowV at h ⊢
  have hne' : p ≠ q := fun e => hne e.symm
  simp [World.setCell, Array.getElem?_modify, hne', h]
theorem RowV.below (h : RowV w q T xs) {B : Nat} (hb : Below B w w') (hB : q < B) : RowV w' q T xs := (hb.block _ hB).trans h
theorem RowV.now (h : RowV w q T xs) (hb : Below w.heap.size w w') : RowV w' q T xs := h.below hb h.lt
theorem RowV.drew (h : RowV w q T xs) : RowV w.drew q T xs := h
theorem RowV.made (w : World) (T : Nat) (xs : List Value) : RowV (w.alloc (.cells xs.toArray T)) w.heap.size T xs := heap_alloc_new w _
end
def boolsL (n : Nat) (f : Nat → Bool) : List Value := (List.range n).map fun i => .bool (f i)
def intsL (l : List Int) : List Value := l.map fun x => .int .i64 x
theorem intsL_set (l : List Int) (i : Nat) (x : Int) : (intsL l).set i (.int .i64 x) = intsL (l.set i x) := by
  unfold intsL
  rw [List.map_set]
/-- numbers told place by place: those below n by f, the others 0 -/
def numsL (n : Nat) (f : Nat → Int) : List Int := (List.range n).map f
theorem numsL_set (n i : Nat) (f : Nat → Int) (x : Int) : (numsL n f).set i x = numsL n (fun k => if k = i then x else f k) := by
  refine List.ext_getElem? fun k => ?_
  rw [List.getElem?_set]
  unfold numsL
  by_cases hk : k < n
  · rw [List.getElem?_map, List.getElem?_map, List.getElem?_range hk]
    by_cases hik : i = k
    · rw [if_pos hik, if_pos (by simp; omega)]
      simp [hik]
    · rw [if_neg hik]
      have : ¬ k = i := fun e => hik e.symm
      simp [this]
  · have h1 : ∀ g : Nat → Int, ((List.range n).map g)[k]? = none := fun g => List.getElem?_eq_none (by simp; omega)
    rw [h1, h1]
    split
    · rw [if_neg (by simp; omega)]
    · rfl
end Go.Proofs.Ytklccoodfhejbaa
namespace Go.Proofs.Ytklccoodfhejbaa
set_option maxRecDepth 100000
set_option linter.unusedVariables false
set_option linter.unusedSimpArgs false
open Go.RowKit Go.Sort Go.Shelf
attribute [local go_sem] Oper.semAt_some

/-- a node's place -/
abbrev Ind (l : List Nd) := { i : Nat // i < l.length }
/-- the last k places, from behind -/
def come (l : List Nd) (k : Nat) : List (Ind l) := (List.range k).filterMap fun j => if h : l.length - 1 - j < l.length then some ⟨l.length - 1 - j, h⟩ else none
/-- what lay below m, and block B, lies as it lay -/
def KpA (m B : Nat) (W W' : World) : Prop := ∀ k, (k < m ∨ k = B) → W'.heap[k]? = W.heap[k]?
theorem KpA.refl (m B : Nat) (W : World) : KpA m B W W := fun _ _ => rfl
theorem KpA.trans {m B : Nat} {W W' W'' : World} (h : KpA m B W W') (h' : KpA m B W' W'') : KpA m B W W'' := fun k hk => (h' k hk).trans (h k hk)
theorem KpA.nd {m B b o : Nat} {W W' : World} {x : Nd} (h : KpA m B W W') (hb : b < m) (hx : NdAt W b o x) : NdAt W' b o x := by
  have hc : ∀ i, W'.cell? ⟨b, i, none⟩ = W.cell? ⟨b, i, none⟩ := fun i => World.cell?_of_block (w := W) (h b (.inl hb))
  obtain ⟨h0, h1, h2, h3, h4, h5⟩ := hx
  exact ⟨(hc _).trans h0, (hc _).trans h1, (hc _).trans h2, (hc _).trans h3, (hc _).trans h4, (hc _).trans h5⟩

theorem KpA.setCell {m B : Nat} (W : World) {q i : Nat} (u : Value) (hm : m ≤ q) (hB : q ≠ B) : KpA m B W (W.setCell ⟨q, i, none⟩ u) := fun k hk => by
  have hne : q ≠ k := by rcases hk with h | h <;> omega
  simp [World.setCell, Array.getElem?_modify, hne]
theorem KpA.alloc {m B : Nat} (W : World) (o : Obj) (hm : m ≤ W.heap.size) (hB : B < W.heap.size) : KpA m B W (W.alloc o) := fun k hk => Lib.alloc_old _ _ _ (by omega)
/-! ### the flags -/
end Go.Proofs.Ytklccoodfhejbaa
namespace Go.Proofs.Ytklccoodfhejbaa
set_option maxRecDepth 100000
set_option linter.unusedVariables false
set_option linter.unusedSimpArgs false
open Go.RowKit Go.Sort

/-- where the nodes seen so far are in the new store -/
def toF (K : Nat → Bool) (n : Nat) : Nat → Int := fun i => if i < n ∧ K i = true then (cnt K i : Int) else 0
section
variable {l : List Nd} {room : Int} {R : List Int} {K : Nat → Bool}
end
/-- What is known at the head of the loop over nodes. -/
structure LvAt (w wr : World) (A : Option Addr) (l : List Nd) (c : Nat) (room : Int) (K : Nat → Bool) (o q t n : Nat) (v : Value) : Prop where
  head : EmpHead w wr A l.length c room
  flg : RowV wr q 4 (boolsL l.length K)
  tor : RowV wr t 3 (intsL (numsL l.length (toF K n)))
  out : wr.heap[o]? = some (.cells #[v, .int .i64 room] 26 (0, 0))
  own : OwnN wr (w.heap.size + 2) v (newTo l K n)
  lo : w.heap.size + 2 ≤ o ∧ w.heap.size + 2 ≤ q ∧ w.heap.size + 2 ≤ t
section
variable {w wr w' : World} {A : Option Addr} {l : List Nd} {c : Nat} {room : Int} {K : Nat → Bool} {o q t n : Nat} {v : Value}
theorem LvAt.below (h : LvAt w wr A l c room K o q t n v) (hb : Below wr.heap.size wr w') : LvAt w w' A l c room K o q t n v :=
  ⟨h.head.below hb, h.flg.now hb, h.tor.now hb, (hb.block _ (lt_heap6 h.out)).trans h.out, h.own.below hb, h.lo⟩
theorem LvAt.c0 (h : LvAt w wr A l c room K o q t n v) : wr.cell? ⟨o, 0, none⟩ = some v := by rw [Lib.cell_of_heap h.out]; rfl
theorem LvAt.c1 (h : LvAt w wr A l c room K o q t n v) : wr.cell? ⟨o, 1, none⟩ = some (.int .i64 room) := by rw [Lib.cell_of_heap h.out]; rfl
theorem LvAt.f0 (h : LvAt w wr A l c room K o q t n v) : wr.frozen? ⟨o, 0, none⟩ = false := Lib.frozen_of_heap h.out 0
theorem LvAt.ot (h : LvAt w wr A l c room K o q t n v) : o ≠ t := by
  intro e
  have h1 := h.out
  have h2 := h.tor
  unfold RowV at h2
  rw [e, h2] at h1
  injection h1 with h1
  injection h1 with _ h1 _
  exact absurd h1 (by decide)
theorem LvAt.qt (h : LvAt w wr A l c room K o q t n v) : q ≠ t := by
  intro e
  have h1 := h.flg
  have h2 := h.tor
  unfold RowV at h1 h2
  rw [e, h2] at h1
  injection h1 with h1
  injection h1 with _ h1 _
  exact absurd h1 (by decide)
theorem own_ne {B i T : Nat} {cs : Array Value} {m : List Nd} (ho : OwnN wr B v m) (hi : wr.heap[i]? = some (.cells cs T (0, 0))) (hT : T ≠ 35) : v.ownBlock ≠ some i := by
  intro e
  obtain ⟨_, _, cs', fz, hc⟩ := ownN_kind ho i e
  rw [hi] at hc
  injection hc with hc
  injection hc with _ hc _
  exact hT hc
/-- a node's place is told -/
theorem LvAt.told (h : LvAt w wr A l c room K o q t n v) (i : Nat) (x : Int) (f : Nat → Int) (hf : (fun k => if k = i then x else toF K n k) = f) :
    EmpHead w (wr.setCell ⟨t, i, none⟩ (.int .i64 x)) A l.length c room ∧ RowV (wr.setCell ⟨t, i, none⟩ (.int .i64 x)) q 4 (boolsL l.length K) ∧ RowV (wr.setCell ⟨t, i, none⟩ (.int .i64 x)) t 3 (intsL (numsL l.length f)) ∧ (wr.setCell ⟨t, i, none⟩ (.int .i64 x)).heap[o]? = some (.cells #[v, .int .i64 room] 26 (0, 0)) ∧ OwnN (wr.setCell ⟨t, i, none⟩ (.int .i64 x)) (w.heap.size + 2) v (newTo l K n) := by
  have hb := h.lo.2.2
  have hset := h.tor.set i (.int .i64 x)
  rw [intsL_set, numsL_set, hf] at hset
  have hk : ∀ p, p < t → (wr.setCell ⟨t, i, none⟩ (.int .i64 x)).heap[p]? = wr.heap[p]? := fun p hp => Below.heap_setCell _ _ _ _ (by show p ≠ t; omega)
  have htor : wr.heap[t]? = some (.cells (intsL (numsL l.length (toF K n))).toArray 3 (0, 0)) := h.tor
  refine ⟨⟨(hk _ (by omega)).trans h.head.store, (hk _ (by omega)).trans h.head.res, h.head.bel.setCell (by show w.heap.size ≤ t; omega) _⟩, h.flg.other h.qt _ _, hset, ?_, World.ownsRow.kept h.own (but_set i _) (.inr (own_ne h.own htor (by decide)))⟩
  rw [Below.heap_setCell _ _ _ _ (by show o ≠ t; exact h.ot)]
  exact h.out
theorem LvAt.pushed {w7 w8 : World} {v v' : Value} {x : Nd} {ob : Obj} {m : List Nd} (hhead : EmpHead w w7 A l.length c room) (hflg : RowV w7 q 4 (boolsL l.length K)) (htor : RowV w7 t 3 (intsL (numsL l.length (toF K (n + 1)))))
    (hout : w7.heap[o]? = some (.cells #[v, .int .i64 room] 26 (0, 0))) (hown : OwnN w7 (w.heap.size + 2) v m) (hlo : w.heap.size + 2 ≤ o ∧ w.heap.size + 2 ≤ q ∧ w.heap.size + 2 ≤ t)
    (hg : (w7.alloc ob).grownBy w8 v.ownBlock) (hbp : Below (w.heap.size + 2) w7 w8) (ho : OwnN w8 (w.heap.size + 2) v' (m ++ [x])) (hs : newTo l K (n + 1) = m ++ [x]) :
    LvAt w (w8.setCell ⟨o, 0, none⟩ v') A l c room K o q t (n + 1) v' ∧ w8.heap[o]? = some (.cells #[v, .int .i64 room] 26 (0, 0)) := by
  have hsz : (w7.alloc ob).heap.size = w7.heap.size + 1 := by simp
  have hkeep : ∀ {i T : Nat} {cs : Array Value}, w7.heap[i]? = some (.cells cs T (0, 0)) → T ≠ 35 → w8.heap[i]? = some (.cells cs T (0, 0)) := by
    intro i T cs hi hT
    rw [hg.block i (by have := lt_heap6 hi; omega) (fun e => own_ne hown hi hT e.symm), Lib.alloc_old _ _ _ (lt_heap6 hi)]
    exact hi
  have hout8 := hkeep hout (by decide)
  have hflg8 : RowV w8 q 4 (boolsL l.length K) := hkeep hflg (by decide)
  have htor8 : RowV w8 t 3 (intsL (numsL l.length (toF K (n + 1)))) := hkeep htor (by decide)
  have hoq : q ≠ o := by
    intro e
    have h1 := hflg8
    unfold RowV at h1
    rw [e, hout8] at h1
    injection h1 with h1
    injection h1 with _ h1 _
    exact absurd h1 (by decide)
  have hot : t ≠ o := by
    intro e
    have h1 := htor8
    unfold RowV at h1
    rw [e, hout8] at h1
    injection h1 with h1
    injection h1 with _ h1 _
    exact absurd h1 (by decide)
  have hk : ∀ p, p < o → (w8.setCell ⟨o, 0, none⟩ v').heap[p]? = w8.heap[p]? := fun p hp => Below.heap_setCell _ _ _ _ (by show p ≠ o; omega)
  refine ⟨⟨⟨?_, ?_, (hhead.bel.trans (hbp.mono (by omega))).setCell (by show w.heap.size ≤ o; omega) _⟩, hflg8.other hoq _ _, htor8.other hot _ _, ?_, ?_, hlo⟩, hout8⟩
  · rw [hk _ (by omega), hbp.block _ (by omega)]
    exact hhead.store
  · rw [hk _ (by omega), hbp.block _ (by omega)]
    exact hhead.res
  · simp [World.setCell, Array.getElem?_modify, hout8]
  · rw [hs]
    exact World.ownsRow.kept ho (but_set 0 _) (.inr (own_ne ho hout8 (by decide)))
end
end Go.Proofs.Ytklccoodfhejbaa
namespace Go.Proofs.Ytklccoodfhejbaa
set_option maxRecDepth 100000
set_option linter.unusedVariables false
set_option linter.unusedSimpArgs false
open Go.RowKit Go.Sort

/-- A store in a box. -/
structure StB (w : World) (b : Nat) (A : Option Addr) (l : List Nd) (c : Nat) (room : Int) : Prop where
  row : w.heap[b]? = some (.cells #[.slice A l.length c, .int .i64 room] 26 (0, 0))
  rd : NowN w A l
  cap : l.length ≤ c
section
variable {w w' : World} {b : Nat} {A : Option Addr} {l : List Nd} {c : Nat} {room : Int}
theorem StB.below (h : StB w b A l c room) (hb : Below w.heap.size w w') : StB w' b A l c room := ⟨(hb.block _ (lt_heap6 h.row)).trans h.row, h.rd.below hb, h.cap⟩
theorem StB.s0 (h : StB w b A l c room) : w.cell? ⟨b, 0, none⟩ = some (.slice A l.length c) := by rw [Lib.cell_of_heap h.row]; rfl
theorem StB.s1 (h : StB w b A l c room) : w.cell? ⟨b, 1, none⟩ = some (.int .i64 room) := by rw [Lib.cell_of_heap h.row]; rfl
theorem StB.f0 (h : StB w b A l c room) : w.frozen? ⟨b, 0, none⟩ = false := Lib.frozen_of_heap h.row 0
theorem StB.f1 (h : StB w b A l c room) : w.frozen? ⟨b, 1, none⟩ = false := Lib.frozen_of_heap h.row 1
theorem stB_new (hr : NowN w A l) (hc : l.length ≤ c) (room : Int) : StB (w.alloc (.cells #[.slice A l.length c, .int .i64 room] 26)) w.heap.size A l c room :=
  ⟨heap_alloc_new w _, hr.below ((Below.refl _ _).alloc (Nat.le_refl _) _), hc⟩
theorem StB.nd (h : StB w b A l c room) (hl : 0 < l.length) : ∃ q off, A = some ⟨q, off, none⟩ ∧ q < w.heap.size ∧ ∀ j, j < l.length → NdAt w q (off + j * 6) (l.getD j deadN) := h.rd.at_ hl
end
theorem putR_box {p : List Nd × Int × Int} {room : Int} {w : World} {e : Ending} {w' : World} (h : PutR p room w e w') : ∃ A c, e = .returned (.tuple #[.agg #[.slice A p.1.length c, .int .i64 room], .int .i64 p.2.1, .int .i64 p.2.2]) ∧ p.1.length ≤ c ∧ NowN w' A p.1 ∧ Below w.heap.size w w' := by
  obtain ⟨v, rfl, ⟨A, c, rfl, hc, hN⟩, hb⟩ := h
  exact ⟨A, c, rfl, hc, hN, hb⟩
end Go.Proofs.Ytklccoodfhejbaa
