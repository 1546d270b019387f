/-
  The document's own answers to layer 12: Left, Run (where no step's access is one of the errors).
-/
import Derived.Test.YtocepdhjkhhpfaaYs
import Derived.Test.YtocepdhjkhhpfaaB09
import Derived.Test.YtocepdhjkhhpfaaB10
import Derived.Test.YtocepdhjkhhpfaaXd
namespace Go.Proofs.Ytocepdhjkhhpfaa
set_option maxRecDepth 100000
set_option linter.unusedVariables false
set_option linter.unusedSimpArgs false
open Go.RowKit Go.Sort

theorem leftW_snoc (l : List Wk) {k : Nat} (h : k < l.length) : leftW (l.take (k + 1)) = leftW (l.take k) ++ [if (l.getD k deadW).done then 0 else 1] := by
  have e0 : l.take (k + 1) = l.take k ++ [l.getD k deadW] := by rw [List.take_add_one, List.getD_eq_getElem?_getD, List.getElem?_eq_getElem h]; rfl
  rw [e0]
  unfold leftW
  rw [List.map_append]
  rfl
set_option maxHeartbeats 4000000 in
theorem refLeft_any (A : Option Addr) (l : List Wk) (c : Nat) (w : World) (hL : NowWk w A l) (hl : l.length ≤ 1000) :
    Calls Try.prog 43 #[.slice A l.length c] w (NumsR (leftW l) w) := by
  have HL := Lib.hid hL
  clear hL
  go_enter Try.func43, Try.ntmps43
  go_wp2_with fail
  go_loopw [3, 4] (fun out i wr => ∃ k : Nat, k ≤ l.length ∧ i = .int .i64 k ∧ Hid (Own wr w.heap.size out (leftW (l.take k)) ∧ Below w.heap.size w wr)) (fun _ i _ => l.length - (intOf i).toNat)
  case atStart => exact ⟨0, Nat.zero_le _, rfl, (show Hid _ from ⟨World.ownsRow_nil _ _ _ _, Below.refl _ _⟩)⟩
  case round =>
    obtain ⟨k, hk, rfl, HH⟩ := hrel
    by_cases hlt : k < l.length
    · have hltz : (k : Int) < (l.length : Int) := by omega
      obtain ⟨b, off, hA, hbl, hc⟩ := nowWk_row (HL.out.below HH.out.2) (by omega)
      have y10 := (hc k hlt).c10
      have hsn := leftW_snoc l hlt
      have hll : (leftW (l.take k)).length ≤ 999999 := by rw [leftW_len, List.length_take]; omega
      obtain ⟨xd, hxd⟩ : ∃ xd, xd = (l.getD k deadW).done := ⟨_, rfl⟩
      rw [← hxd] at y10 hsn
      obtain ⟨v', w', hrun, hown, hb⟩ := push_any (if xd = true then 0 else 1) HH.out.2.size HH.out.1 hll
      rw [← hsn] at hown
      have HN := Lib.hid (And.intro hown (HH.out.2.trans hb))
      subst hA
      clear hc hbl hxd hsn hll hown hb
      cases xd with
      | true =>
        rw [if_pos rfl] at hrun
        have HRun := Lib.hid hrun
        clear hrun
        go_wp2_with (at_builtin; refine Lib.wpList_append_run _ rfl (.tmp 16) (.tmp 17) 23 23 rfl _ _ rfl rfl _ _ HRun.out ?_)
        go_roundw
        case measure => simp [intOf]; omega
        case rel => exact ⟨k + 1, by omega, by go_num, HN.out⟩
      | false =>
        rw [if_neg (by decide)] at hrun
        have HRun := Lib.hid hrun
        clear hrun
        go_wp2_with (at_builtin; refine Lib.wpList_append_run _ rfl (.tmp 19) (.tmp 20) 23 23 rfl _ _ rfl rfl _ _ HRun.out ?_)
        go_roundw
        case measure => simp [intOf]; omega
        case rel => exact ⟨k + 1, by omega, by go_num, HN.out⟩
    · obtain rfl : k = l.length := by omega
      have hltz : ¬ (l.length : Int) < (l.length : Int) := by omega
      rw [List.take_length] at HH
      go_wp2_with fail
      go_ret
      exact ⟨u3, rfl, HH.out⟩
/-- what is known at the head of the turns -/
structure RunI (at0 : Int) (picks : List Int) (R : List Int × List Wk × Int) (M L : Nat) (A2 : Option Addr) (A9 : Option Addr) (c9 : Nat) (w wr : World) (n : Nat) (mm : List Int) (ll : List Wk) (last : Int) : Prop where
  words : Now wr A2 mm
  out : OwnWk wr w.heap.size (.slice A9 L c9) ll
  bel : Below w.heap.size w wr
  mlen : mm.length = M
  llen : ll.length = L
  mwd : ∀ x ∈ mm, WdI x
  lfit : ∀ j, j < ll.length → FitW (ll.getD j deadW)
  rest : runA at0 picks (100000 - n) n mm ll last = R
  lo : -1 ≤ last ∧ last ≤ 1000000
  hi : n ≤ 100000
set_option maxHeartbeats 16000000 in
theorem refRun_any (A P L : Option Addr) (m picks : List Int) (l : List Wk) (c cP cL : Nat) (at0 : Int) (w : World) (hR : Now w A m) (hl : m.length ≤ 1000000) (hm : ∀ x ∈ m, WdI x) (hP : InL w P picks cP) (hL : NowWk w L l) (hll : l.length ≤ 64) (hF : ∀ j, j < l.length → FitW (l.getD j deadW)) (ha1 : 0 ≤ at0) (ha2 : at0 ≤ 1099511627776) (h0 : (runA at0 picks 100000 0 m l (-1)).2.2 = 0) :
    Calls Try.prog 17 #[.slice A m.length c, .int .i64 at0, .slice P picks.length cP, .slice L l.length cL] w (RunR (runA at0 picks 100000 0 m l (-1)) w) := by
  obtain ⟨R, hRR⟩ : ∃ R, R = runA at0 picks 100000 0 m l (-1) := ⟨_, rfl⟩
  rw [← hRR] at h0 ⊢
  obtain ⟨v1, w1, hrun, ho1, hg1⟩ := appWk_any (out := []) cL (Nat.le_refl _) (World.ownsRow_nil w w.heap.size 39 12) hL (by simp; omega)
  rw [List.nil_append] at ho1
  have hb1 : Below w.heap.size w w1 := (Below.refl _ _).grown hg1 (Nat.le_refl _) (fun k e => by simp [Value.ownBlock] at e)
  obtain ⟨A9, c9, rfl, _, _⟩ := ho1.slice
  have HI0 : Hid (RunI at0 picks R m.length l.length A A9 c9 w w1 0 m l (-1)) := ⟨hR.below hb1, ho1, hb1, rfl, rfl, hm, hF, hRR.symm, by decide, by omega⟩
  have HP := Lib.hid hP
  have HRun := Lib.hid hrun
  have H0 := Lib.hid h0
  have hz : ¬ (64 : Int) < (l.length : Int) := by omega
  clear hRR hrun ho1 hg1 hb1 hR hm hP hL hF h0
  go_enter Try.func17, Try.ntmps17
  go_wp2_with (at_builtin; refine Lib.wpList_append_run _ rfl (.const (.slice none 0 0)) (.tmp 25) 27 27 rfl _ _ rfl rfl _ _ HRun.out ?_)
  clear HRun
  go_loopw [11, 13, 14] (fun wv lst i wr => ∃ (n : Nat) (mm : List Int) (ll : List Wk) (last : Int) (A2 : Option Addr) (c2 : Nat), i = .int .i64 n ∧ lst = .int .i64 last ∧ wv = .slice A2 m.length c2 ∧ Hid (RunI at0 picks R m.length l.length A2 A9 c9 w wr n mm ll last)) (fun _ _ i _ => 100000 - (intOf i).toNat)
  case atStart => exact ⟨0, m, l, -1, A, c, rfl, rfl, rfl, HI0⟩
  case round =>
    obtain ⟨n, mm, ll, last, A2, c2, rfl, rfl, rfl, HT⟩ := hrel
    have hlw : (leftW ll).length = l.length := by rw [leftW_len]; exact HT.out.llen
    have hla := HT.out.lo
    have hn := HT.out.hi
    have hlf := refLeft_any A9 ll c9 wr (by obtain ⟨A7, c7, he, _, hN⟩ := HT.out.out.slice; injection he with e1 e2 e3; rw [e1]; exact hN) (by have := HT.out.llen; omega)
    rw [HT.out.llen] at hlf
    have HLF := Lib.hid hlf
    clear hlf
    have hIn : ∀ (v : Value) (W : World), Own W wr.heap.size v (leftW ll) → Hid (∃ A5 c5, v = .slice A5 l.length c5 ∧ InL W A5 (leftW ll) c5) := fun v W ho => by
      obtain ⟨A5, c5, rfl, hc5, hN5⟩ := own_slice ho
      refine ⟨A5, c5, by rw [hlw], hN5, by omega, fun j hj => ?_⟩
      have := leftW_bd ll ((leftW ll).getD j 0) (by rw [List.getD_eq_getElem?_getD, List.getElem?_eq_getElem hj]; exact List.getElem_mem hj)
      unfold I64
      omega
    have HIN := Lib.hid hIn
    clear hIn
    by_cases hlt : n < 100000
    · have hltz : (n : Int) < 100000 := by omega
      have hdz : decide ((n : Int) < 100000) = true := decide_eq_true hltz
      clear hltz
      go_wp2_with fail
      refine HLF.out.mono ?_
      rintro e w2 ⟨v2, rfl, hO2, hb2⟩
      obtain ⟨A5, c5, rfl, hI5⟩ := (HIN.out _ _ hO2).out
      have hnx := refNext11_any P A5 picks (leftW ll) cP c5 n last w2 ((HP.out.below HT.out.bel).below hb2) hI5 (by omega) (by unfold I64; omega) (by unfold I64; omega)
      rw [hlw] at hnx
      have HNX := Lib.hid hnx
      have HB2 := Lib.hid hb2
      clear hO2 hI5 hnx hb2
      by_cases hmz : manyP (leftW ll) = 0
      · have hnp : nextP picks n (leftW ll) last = -1 := by unfold nextP; rw [if_pos hmz]
        rw [hnp] at HNX
        have hend := HT.out.rest
        rw [runA_done _ _ _ _ _ _ _ hmz] at hend
        have HE := Lib.hid hend
        clear hlw hla hn hend hnp hmz hlt
        go_wp2_with fail
        refine HNX.out.mono ?_
        rintro e w3 ⟨rfl, rfl⟩
        go_wp2_with fail
        go_ret3
        rw [← HE.out]
        have hml := HT.out.mlen
        have hll := HT.out.llen
        have hN := HT.out.out.slice
        obtain ⟨A7, c7, he7, _, hN7⟩ := hN
        injection he7 with e1 e2 e3
        refine ⟨A2, c2, A9, c9, ?_, HT.out.words.below HB2.out, by rw [e1]; exact hN7.below HB2.out, Qt.more HT.out.bel HT.out.bel.size HB2.out⟩
        simp only
        rw [hml, hll]
        rfl
      · obtain ⟨T, hT⟩ : ∃ T, nextN picks n (leftW ll) last = T := ⟨_, rfl⟩
        have hnp : nextP picks n (leftW ll) last = (T : Int) := by unfold nextP; rw [if_neg hmz, hT]
        obtain ⟨t1, t2, -⟩ := nextN_ok picks n last (show 0 < manyP (leftW ll) by omega)
        rw [hT] at t1 t2
        rw [hnp] at HNX
        have hTl : T < ll.length := by rw [leftW_len] at t1; exact t1
        have hTL : T < l.length := by omega
        have hdn : (ll.getD T deadW).done = false := by
          rw [leftW_get ll hTl] at t2
          cases h : (ll.getD T deadW).done with
          | false => rfl
          | true => rw [h, if_pos rfl] at t2; omega
        obtain ⟨d, hd⟩ : ∃ d, stepW at0 mm (ll.getD T deadW) = d := ⟨_, rfl⟩
        have hrest := HT.out.rest
        rw [show 100000 - n = (100000 - (n + 1)) + 1 by omega, runA_step _ _ _ _ _ _ _ hmz hT hd] at hrest
        have he : d.2.2 = 0 := by
          by_cases h : d.2.2 = 0
          · exact h
          · rw [if_neg h] at hrest
            have h9 := H0.out
            rw [← hrest] at h9
            exact absurd h9 h
        rw [if_pos he] at hrest
        have hsf := stepW_fit (at0 := at0) HT.out.mwd (HT.out.lfit T hTl)
        have hsl := stepW_len at0 mm (ll.getD T deadW)
        have hstep := fun W (hN : Now W A2 mm) => refStep_any (ll.getD T deadW) at0 mm A2 c2 W ((HT.out.lfit T hTl).fine hdn) ha1 ha2 hN (by have := HT.out.mlen; omega) HT.out.mwd (by rw [hd]; exact he)
        rw [hd] at hsf hsl hstep
        rw [HT.out.mlen] at hsl hstep
        obtain ⟨dm, ⟨upc, ujob, u0, u1, u2, ud, uo⟩, de⟩ := d
        simp only at he hsf hsl hrest
        subst he
        have ho2 := HT.out.out.next HB2.out
        obtain ⟨g9, hA9, hg9, hg9l, -, hc9⟩ := OwnWk.row (A := A9) (c := c9) (l := ll) (by rw [HT.out.llen]; exact ho2) (by omega)
        subst hA9
        have hcT := hc9 T hTl
        obtain ⟨⟨xpc, xjob, x0, x1, x2, xd, xo⟩, hx⟩ : ∃ x, x = ll.getD T deadW := ⟨_, rfl⟩
        rw [← hx] at hcT hstep hdn
        simp only at hdn
        subst hdn
        have y0 := hcT.c0
        have y1 := hcT.c1
        have y2 := hcT.c2
        have y3 := hcT.c3
        have y4 := hcT.c4
        have y5 := hcT.c5
        have y6 := hcT.c6
        have y7 := hcT.c7
        have y8 := hcT.c8
        have y9 := hcT.c9
        have y10 := hcT.c10
        have y11 := hcT.c11
        simp only at y0 y1 y2 y3 y4 y10 y11
        have HST := Lib.hid hstep
        have HRest := Lib.hid hrest
        have HF := Lib.hid (And.intro hsf.1 (And.intro hsf.2 hsl))
        have HO2 := Lib.hid (And.intro ho2 (And.intro hg9 hg9l))
        have HTT := Lib.hid (And.intro hTl hx)
        have HNN := Lib.hid (And.intro hlt hn)
        have hTz : ¬ ((T : Int) < 0) := by omega
        have hTL2 : (T : Int) < (l.length : Int) := by omega
        clear hmz hT hnp t1 t2 hlw hd hrest hsf hsl hstep ho2 hg9 hg9l hc9 hcT hx hla hlt hn hdz hTl
        go_wp2_with fail
        refine HNX.out.mono ?_
        rintro e w2' ⟨rfl, rfl⟩
        go_wp2_with fail
        refine (HST.out w2 (HT.out.words.below HB2.out)).mono ?_
        rintro e w3 ⟨A6, c6, rfl, hO6, hb6⟩
        simp only at hO6 ⊢
        rw [HF.out.2.2] at hO6 ⊢
        have hal := (Below.refl w3.heap.size w3).alloc (Nat.le_refl _) (.cells #[.int .i64 upc, .int .i64 ujob, .int .i64 u0, .int .i64 u1, .int .i64 u2, .int .i64 0, .int .i64 0, .int .i64 0, .int .i64 0, .int .i64 0, .bool ud, .int .i64 uo] 39)
        have hrow := heap_alloc_new w3 (.cells #[.int .i64 upc, .int .i64 ujob, .int .i64 u0, .int .i64 u1, .int .i64 u2, .int .i64 0, .int .i64 0, .int .i64 0, .int .i64 0, .int .i64 0, .bool ud, .int .i64 uo] 39)
        obtain ⟨w4, hw4⟩ : ∃ w4, w3.alloc (.cells #[.int .i64 upc, .int .i64 ujob, .int .i64 u0, .int .i64 u1, .int .i64 u2, .int .i64 0, .int .i64 0, .int .i64 0, .int .i64 0, .int .i64 0, .bool ud, .int .i64 uo] 39) = w4 := ⟨_, rfl⟩
        rw [hw4] at hal hrow
        have ho4 := (HO2.out.1.next hb6).next hal
        obtain ⟨g', hA', -, -, hfz, hce⟩ := OwnWk.row (A := some ⟨g9, 0, none⟩) (c := c9) (l := ll) (by rw [HT.out.llen]; exact ho4) (by have := HTT.out.1; omega)
        injection hA' with hA'
        injection hA' with hA'
        subst hA'
        have hcT := hce T HTT.out.1
        obtain ⟨w5, hw5, hout5, hgr5⟩ := OwnWk.set (c := c9) (l := ll) (g := g9) (by rw [HT.out.llen]; exact ho4) T HTT.out.1 ⟨upc, ujob, u0, u1, u2, ud, uo⟩
        simp only at hw5
        rw [HT.out.llen] at hout5
        have b0 : w4.cell? ⟨w3.heap.size, 0, none⟩ = some (.int .i64 upc) := by rw [Lib.cell_of_heap hrow]; rfl
        have b1 : w4.cell? ⟨w3.heap.size, 1, none⟩ = some (.int .i64 ujob) := by rw [Lib.cell_of_heap hrow]; rfl
        have b2 : w4.cell? ⟨w3.heap.size, 2, none⟩ = some (.int .i64 u0) := by rw [Lib.cell_of_heap hrow]; rfl
        have b3 : w4.cell? ⟨w3.heap.size, 3, none⟩ = some (.int .i64 u1) := by rw [Lib.cell_of_heap hrow]; rfl
        have b4 : w4.cell? ⟨w3.heap.size, 4, none⟩ = some (.int .i64 u2) := by rw [Lib.cell_of_heap hrow]; rfl
        have b5 : w4.cell? ⟨w3.heap.size, 5, none⟩ = some (.int .i64 0) := by rw [Lib.cell_of_heap hrow]; rfl
        have b6 : w4.cell? ⟨w3.heap.size, 6, none⟩ = some (.int .i64 0) := by rw [Lib.cell_of_heap hrow]; rfl
        have b7 : w4.cell? ⟨w3.heap.size, 7, none⟩ = some (.int .i64 0) := by rw [Lib.cell_of_heap hrow]; rfl
        have b8 : w4.cell? ⟨w3.heap.size, 8, none⟩ = some (.int .i64 0) := by rw [Lib.cell_of_heap hrow]; rfl
        have b9 : w4.cell? ⟨w3.heap.size, 9, none⟩ = some (.int .i64 0) := by rw [Lib.cell_of_heap hrow]; rfl
        have b10 : w4.cell? ⟨w3.heap.size, 10, none⟩ = some (.bool ud) := by rw [Lib.cell_of_heap hrow]; rfl
        have b11 : w4.cell? ⟨w3.heap.size, 11, none⟩ = some (.int .i64 uo) := by rw [Lib.cell_of_heap hrow]; rfl
        have z0 := hcT.c0
        have z1 := hcT.c1
        have z2 := hcT.c2
        have z3 := hcT.c3
        have z4 := hcT.c4
        have z5 := hcT.c5
        have z6 := hcT.c6
        have z7 := hcT.c7
        have z8 := hcT.c8
        have z9 := hcT.c9
        have z10 := hcT.c10
        have z11 := hcT.c11
        have hO4 := own_next hO6 hal
        have hO5 : Own w5 w2.heap.size (.slice A6 m.length c6) dm := World.ownsRow.kept hO4 hgr5 (.inr (fun e => by have h7 := (World.ownsRow.lt hO4 g9 e).1; have h8 := HO2.out.2.2; omega))
        have hB5 : Below w.heap.size w w5 := (Qt.more (Qt.more (Qt.more HT.out.bel HT.out.bel.size HB2.out) (Nat.le_trans HT.out.bel.size HB2.out.size) hb6) (Nat.le_trans (Nat.le_trans HT.out.bel.size HB2.out.size) hb6.size) hal).grown hgr5 (Nat.le_trans (Nat.le_trans (Nat.le_trans HT.out.bel.size HB2.out.size) hb6.size) hal.size) (fun k e => by injection e with e; have := HO2.out.2.1; omega)
        have HW4 := Lib.hid hw4
        have HW5 := Lib.hid hw5
        have HN := Lib.hid (And.intro hO5 (And.intro hout5 hB5))
        clear hO6 hb6 hal hrow hw4 ho4 hce hcT hw5 hout5 hgr5 hO4 hO5 hB5 y0 y1 y2 y3 y4 y5 y6 y7 y8 y9 y10 y11
        have hnb : (n : Int) ≤ 9000000000000 := by have := HNN.out.1; omega
        go_wp2_with (first | rw [HW4.out] | rw [HW5.out])
        go_roundw
        case measure => have := HNN.out.1; simp [intOf]; omega
        case rel =>
          refine ⟨n + 1, dm, ll.set T ⟨upc, ujob, u0, u1, u2, ud, uo⟩, T, A6, c6, by go_num, rfl, rfl, (show Hid _ from ⟨?_, HN.out.2.1, HN.out.2.2, HF.out.2.2, by rw [List.length_set]; exact HT.out.llen, HF.out.1, fit_set HT.out.lfit T HF.out.2.1, HRest.out, by omega, by have := HNN.out.1; omega⟩)⟩
          obtain ⟨A8, c8, he8, _, hN8⟩ := own_slice (l := dm) (by have h9 := HN.out.1; exact h9)
          injection he8 with e1 e2 e3
          rw [e1]
          exact hN8
    · have hn0 : n = 100000 := by omega
      have hmz : manyP (leftW ll) = 0 := by
        by_cases h : manyP (leftW ll) = 0
        · exact h
        · have hr := HT.out.rest
          rw [hn0, Nat.sub_self, runA_zero _ _ _ _ _ _ h] at hr
          have h9 := H0.out
          rw [← hr] at h9
          exact absurd (show (3 : Int) = 0 from h9) (by decide)
      have hnp : nextP [] 0 (leftW ll) last = -1 := by unfold nextP; rw [if_pos hmz]
      have hend := HT.out.rest
      rw [runA_done _ _ _ _ _ _ _ hmz] at hend
      have HE := Lib.hid hend
      have hdz : decide ((n : Int) < 100000) = false := decide_eq_false (by omega)
      have HX := Lib.hid (fun (A5 : Option Addr) (c5 : Nat) (W : World) (hI : InL W A5 (leftW ll) c5) => (by
        have hnx := refNext11_any none A5 [] (leftW ll) 0 c5 0 last W ⟨fun j hj => absurd hj (Nat.not_lt_zero j), by simp, fun j hj => absurd hj (Nat.not_lt_zero j)⟩ hI (by omega) (by unfold I64; omega) (by unfold I64; omega)
        rw [hnp, hlw] at hnx
        exact hnx : Calls Try.prog 42 #[.slice none 0 0, .int .i64 0, .slice A5 l.length c5, .int .i64 last] W fun e w' => e = .returned (.int .i64 (-1)) ∧ W = w'))
      clear hlw hla hn hend hnp hmz hlt hn0
      go_wp2_with fail
      refine HLF.out.mono ?_
      rintro e w2 ⟨v2, rfl, hO2, hb2⟩
      obtain ⟨A5, c5, rfl, hI5⟩ := (HIN.out _ _ hO2).out
      have hnx := HX.out A5 c5 w2 hI5
      have HNX := Lib.hid hnx
      have HB2 := Lib.hid hb2
      clear hO2 hI5 hnx hb2
      go_wp2_with fail
      refine HNX.out.mono ?_
      rintro e w3 ⟨rfl, rfl⟩
      go_wp2_with fail
      go_ret3
      rw [← HE.out]
      have hml := HT.out.mlen
      have hll := HT.out.llen
      have hN := HT.out.out.slice
      obtain ⟨A7, c7, he7, _, hN7⟩ := hN
      injection he7 with e1 e2 e3
      refine ⟨A2, c2, A9, c9, ?_, HT.out.words.below HB2.out, by rw [e1]; exact hN7.below HB2.out, Qt.more HT.out.bel HT.out.bel.size HB2.out⟩
      simp only
      rw [hml, hll]
      rfl
end Go.Proofs.Ytocepdhjkhhpfaa
