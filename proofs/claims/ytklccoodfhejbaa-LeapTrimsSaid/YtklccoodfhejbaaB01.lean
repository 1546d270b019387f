/-
  Texts that the claims of this seat share, part 1.
-/
import Derived.Test.YtklccoodfhejbaaB00
import Derived.Laws.Rows
set_option linter.unusedVariables false
set_option linter.unusedSimpArgs false
namespace Go.Proofs.Ytklccoodfhejbaa
set_option linter.unusedVariables false
set_option linter.unusedSimpArgs false
open Go.RowKit Go.Sort

/-- What is known within fits: the store, the node. -/
structure FitHead (w wr : World) (A : Option Addr) (n c : Nat) (room : Int) (x : Nd) : Prop where
  store : wr.heap[w.heap.size]? = some (.cells #[.slice A n c, .int .i64 room] 26 (0, 0))
  node : wr.heap[w.heap.size + 1]? = some (.cells #[.int .i64 x.1, .int .i64 x.2.1.1, .int .i64 x.2.1.2.1, .int .i64 x.2.1.2.2.1, .int .i64 x.2.1.2.2.2, .int .i64 x.2.2] 35 (0, 0))
  bel : Below w.heap.size w wr
section
variable {w wr w' : World} {A : Option Addr} {n c : Nat} {room : Int} {x : Nd}
theorem FitHead.below (h : FitHead w wr A n c room x) (hb : Below wr.heap.size wr w') : FitHead w w' A n c room x :=
  ⟨(hb.block _ (lt_heap6 h.store)).trans h.store, (hb.block _ (lt_heap6 h.node)).trans h.node, Qt.more h.bel h.bel.size hb⟩
theorem FitHead.s0 (h : FitHead w wr A n c room x) : wr.cell? ⟨w.heap.size, 0, none⟩ = some (.slice A n c) := by rw [Lib.cell_of_heap h.store]; rfl
theorem FitHead.s1 (h : FitHead w wr A n c room x) : wr.cell? ⟨w.heap.size, 1, none⟩ = some (.int .i64 room) := by rw [Lib.cell_of_heap h.store]; rfl
theorem FitHead.lv (h : FitHead w wr A n c room x) : wr.cell? ⟨w.heap.size + 1, 0, none⟩ = some (.int .i64 x.1) := by rw [Lib.cell_of_heap h.node]; rfl
theorem FitHead.pop (h : FitHead w wr A n c room x) : wr.cell? ⟨w.heap.size + 1, 5, none⟩ = some (.int .i64 x.2.2) := by rw [Lib.cell_of_heap h.node]; rfl
theorem FitHead.kid (h : FitHead w wr A n c room x) {i : Nat} (hi : i < 4) : wr.cell? ⟨w.heap.size + 1, 1 + i, none⟩ = some (.int .i64 (kd x.2.1 i)) := by
  rw [Lib.cell_of_heap h.node]
  match i, hi with
  | 0, _ => rfl
  | 1, _ => rfl
  | 2, _ => rfl
  | 3, _ => rfl
end
theorem fitHead_0 (w : World) (A : Option Addr) (n c : Nat) (room : Int) (x : Nd) : FitHead w ((w.alloc (.cells #[.slice A n c, .int .i64 room] 26)).alloc (.cells #[.int .i64 x.1, .int .i64 x.2.1.1, .int .i64 x.2.1.2.1, .int .i64 x.2.1.2.2.1, .int .i64 x.2.1.2.2.2, .int .i64 x.2.2] 35)) A n c room x := by
  have hb1 : Below w.heap.size w (w.alloc (.cells #[.slice A n c, .int .i64 room] 26)) := (Below.refl _ _).alloc (Nat.le_refl _) _
  have hs1 : (w.alloc (.cells #[.slice A n c, .int .i64 room] 26)).heap.size = w.heap.size + 1 := by simp
  refine ⟨?_, ?_, hb1.alloc (by omega) _⟩
  · rw [Lib.alloc_old _ _ _ (by omega)]
    exact heap_alloc_new w _
  · rw [← hs1]
    exact heap_alloc_new (w.alloc (.cells #[.slice A n c, .int .i64 room] 26)) _
theorem fits_no {l : List Nd} {n i : Nat} (hi : i < 4) (h : kidB l n ((l.getD n deadN).1 - 1) (kd (l.getD n deadN).2.1 i) = false) : fits6 l n = false := by
  rw [Bool.eq_false_iff]
  intro hf
  unfold fits6 at hf
  simp only [Bool.and_eq_true] at hf
  have := kidsB_iff.1 hf.1.1.1.1 i hi
  rw [h] at this
  cases this
/-- what is left to ask, where the kids are right -/
def lastB (l : List Nd) (n : Nat) : Bool := decide (1 ≤ (l.getD n deadN).1) && decide ((l.getD n deadN).1 ≤ 42) && decide ((l.getD n deadN).2.2 = popTo l (l.getD n deadN).2.1 4) && decide (at6 l (l.getD n deadN).2.1 = some n)
theorem fits_last {l : List Nd} {n : Nat} (h : ∀ i, i < 4 → kidB l n ((l.getD n deadN).1 - 1) (kd (l.getD n deadN).2.1 i) = true) : fits6 l n = lastB l n := by
  unfold fits6 lastB
  rw [kidsB_iff.2 h, Bool.true_and]

set_option maxHeartbeats 4000000 in
set_option maxRecDepth 100000 in
theorem refFits_any (A : Option Addr) (l : List Nd) (c : Nat) (room : Int) (n : Nat) (w : World) (hR : RdN w w.heap.size A l) (hl : l.length ≤ 1000000) (hn : n < l.length)
    (hb : ∀ i, i < n → 0 ≤ (l.getD i deadN).1 ∧ (l.getD i deadN).1 ≤ 42 ∧ 0 ≤ (l.getD i deadN).2.2 ∧ (l.getD i deadN).2.2 ≤ 4611686018427387903) (hw : -9223372036854775807 ≤ (l.getD n deadN).1 ∧ (l.getD n deadN).1 ≤ 9223372036854775807) :
    Calls Try.prog 57 #[storeV A l.length c room, .int .i64 n] w fun e w' => e = .returned (.bool (fits6 l n)) ∧ Below w.heap.size w w' := by
  have HH0 := Lib.hid (fitHead_0 w A l.length c room (l.getD n deadN))
  obtain ⟨b0, off, rfl, hbB, hcell⟩ := hR.at_ (by omega)
  obtain ⟨n0, n1, n2, n3, n4, n5⟩ := hcell n hn
  obtain ⟨r, hr⟩ : ∃ r, r = fits6 l n := ⟨_, rfl⟩
  have hno := fun i hi h => fits_no (l := l) (n := n) (i := i) hi h
  have hlast := fits_last (l := l) (n := n)
  rw [← hr] at hno hlast ⊢
  have hat := fun W hR => refAt_any (some ⟨b0, off, none⟩) l c room (l.getD n deadN).2.1 W hR hl
  have hlastB : lastB l n = (decide (1 ≤ (l.getD n deadN).1) && decide ((l.getD n deadN).1 ≤ 42) && decide ((l.getD n deadN).2.2 = popTo l (l.getD n deadN).2.1 4) && decide (at6 l (l.getD n deadN).2.1 = some n)) := rfl
  rw [hlastB] at hlast
  have hnn : n ≤ 1000000 := by omega
  have hnz : (n : Int) < (l.length : Int) := by omega
  generalize l.getD n deadN = x at *
  have HNO := Lib.hid hno
  have HLA := Lib.hid hlast
  have HB := Lib.hid hb
  have HC := Lib.hid hcell
  have HRR := Lib.hid hR
  unfold storeV
  clear hr hno hlast hlastB hb hcell hR
  go_enter Try.func57, Try.ntmps57
  go_wp2
  clear n0 n1 n2 n3 n4 n5
  go_loopw [6, 7] (fun p i wr => ∃ j : Nat, j ≤ 4 ∧ p = .int .i64 (popTo l x.2.1 j) ∧ i = .int .i64 j ∧ 0 ≤ popTo l x.2.1 j ∧ popTo l x.2.1 j ≤ 4611686018427387903 ∧ Hid (FitHead w wr (some ⟨b0, off, none⟩) l.length c room x ∧ ∀ q, q < j → kidB l n (x.1 - 1) (kd x.2.1 q) = true)) (fun _ i _ => 4 - (intOf i).toNat)
  case atStart => exact ⟨0, by omega, rfl, rfl, Int.le_refl _, (show (0 : Int) ≤ 4611686018427387903 by decide), HH0.out, fun q hq => absurd hq (Nat.not_lt_zero q)⟩
  case round =>
    obtain ⟨j, hj, rfl, rfl, hp0, hp1, HH⟩ := hrel
    have H := HH.out.1
    by_cases hlt : j < 4
    · have hltz : (j : Int) < 4 := by omega
      have kc := H.kid hlt
      have hsucc : popTo l x.2.1 (j + 1) = min (popTo l x.2.1 j + (ndAt l (kd x.2.1 j)).2.2) 4611686018427387903 := rfl
      have hno := HNO.out j hlt
      obtain ⟨K, hK⟩ : ∃ K, K = kd x.2.1 j := ⟨_, rfl⟩
      rw [← hK] at kc hsucc hno
      have e1 := Qt.cell_in kc
      by_cases hneg : K < 0
      · have hf := hno (by unfold kidB; rw [decide_eq_false (by omega)]; rfl)
        subst hf
        have hbel := H.bel
        clear hno HNO HLA HB HC HRR HH0 HH hsucc hK hat
        go_wp2_with fail
        refine Qt.below_all (by kernel_rfl) (by kernel_rfl) ?_
        repeat (go_big_quiet_step (fail))
        refine wpQuiet_nil ?_
        intro w1 hb1
        have hbb := Qt.more hbel hbel.size hb1
        clear e1 kc
        go_wp2
        go_ret
        exact ⟨rfl, hbb⟩
      · obtain ⟨m, rfl⟩ : ∃ m : Nat, K = (m : Int) := ⟨K.toNat, by omega⟩
        have hm0 : ¬ (m : Int) < 0 := hneg
        have hd0 : decide ((m : Int) < 0) = false := decide_eq_false hneg
        by_cases hge : (n : Int) ≤ (m : Int)
        · have hf := hno (by unfold kidB; rw [decide_eq_true (by omega), decide_eq_false (by omega)]; rfl)
          have hd1 : decide (n ≤ m) = true := decide_eq_true (by omega)
          clear hK
          subst hf
          have hbel := H.bel
          clear hno HNO HLA HB HC HRR HH0 HH hsucc hat
          go_wp2_with fail
          refine Qt.below_all (by kernel_rfl) (by kernel_rfl) ?_
          repeat (go_big_quiet_step (fail))
          refine wpQuiet_nil ?_
          intro w1 hb1
          have hbb := Qt.more hbel hbel.size hb1
          clear e1 kc
          go_wp2
          go_ret
          exact ⟨rfl, hbb⟩
        · have hml : m < n := by omega
          have hd1 : decide (n ≤ m) = false := decide_eq_false (by omega)
          have hmz : (m : Int) < (l.length : Int) := by omega
          obtain ⟨m0, m1, m2, m3, m4, m5⟩ := HC.out m (by omega)
          obtain ⟨b1, b2, b3, b4⟩ := HB.out m hml
          have hnd : ndAt l (m : Int) = l.getD m deadN := ndAt_nat l m
          rw [hnd] at hsucc
          have hkb : kidB l n (x.1 - 1) (m : Int) = decide ((l.getD m deadN).1 = x.1 - 1) := by
            unfold kidB
            rw [decide_eq_true (by omega), decide_eq_true (by omega), hnd]
            rfl
          rw [hkb] at hno
          have m0 := Qt.keep H.bel m0
          have m5 := Qt.keep H.bel m5
          generalize (l.getD m deadN).1 = lv at *
          generalize (l.getD m deadN).2.2 = pp at *
          have e2 := Qt.cell_in m0
          have e3 := Qt.cell_in H.s0
          have e4 := Qt.cell_in H.lv
          by_cases hlv : lv = x.1 - 1
          · subst hlv
            have hnew : ∀ q, q < j + 1 → kidB l n (x.1 - 1) (kd x.2.1 q) = true := by
              intro q hq
              rcases Nat.lt_or_ge q j with h1 | h1
              · exact HH.out.2 q h1
              · obtain rfl : q = j := by omega
                rw [← hK, hkb]
                exact decide_eq_true rfl
            have HNW := Lib.hid hnew
            have HKK := Lib.hid hK
            clear hno hK hkb m1 m2 m3 m4 hnd hnew HH
            go_wp2_with fail
            refine Qt.below_all (by kernel_rfl) (by kernel_rfl) ?_
            repeat (go_big_quiet_step (fail))
            refine wpQuiet_nil ?_
            intro w1 hb1
            have H1 := H.below hb1
            have m5 := Qt.keep hb1 m5
            clear e1 kc e2 e3 e4 m0 hd0 hd1 H hb1
            have kc := H1.kid hlt
            rw [← HKK.out] at kc
            have e1 := Qt.cell_in kc
            have e3 := Qt.cell_in H1.s0
            have e5 := Qt.cell_in m5
            go_wp2_with fail
            refine Qt.below_all (by kernel_rfl) (by kernel_rfl) ?_
            repeat (go_big_quiet_step (fail))
            refine wpQuiet_nil ?_
            intro w2 hb2
            have HN : Hid (FitHead w w2 (some ⟨b0, off, none⟩) l.length c room x ∧ ∀ q, q < j + 1 → kidB l n (x.1 - 1) (kd x.2.1 q) = true) := ⟨H1.below hb2, HNW.out⟩
            have hpn : 0 ≤ popTo l x.2.1 (j + 1) ∧ popTo l x.2.1 (j + 1) ≤ 4611686018427387903 := by rw [hsucc]; omega
            have HSC := Lib.hid hsucc
            clear e1 e3 e5 kc m5 H1 hb2 hsucc
            go_wp2
            go_roundw
            case measure => simp [intOf]; omega
            case rel => exact ⟨j + 1, by omega, congrArg (Value.int .i64) (by rw [HSC.out]; omega), by go_num, hpn.1, hpn.2, HN.out⟩
          · have hf := hno (decide_eq_false hlv)
            have hd2 : (lv == x.1 - 1) = false := beq_eq_false_iff_ne.2 hlv
            clear hK hkb m1 m2 m3 m4 m5 hnd
            subst hf
            have hbel := H.bel
            clear hno HNO HLA HB HC HRR HH0 HH hsucc hat
            go_wp2_with fail
            refine Qt.below_all (by kernel_rfl) (by kernel_rfl) ?_
            repeat (go_big_quiet_step (fail))
            refine wpQuiet_nil ?_
            intro w1 hb1
            have hbb := Qt.more hbel hbel.size hb1
            clear e1 kc e2 e3 e4 m0
            go_wp2
            go_ret
            exact ⟨rfl, hbb⟩
    · obtain rfl : j = 4 := by omega
      have hall : ∀ i, i < 4 → kidB l n (x.1 - 1) (kd x.2.1 i) = true := HH.out.2
      have hrr := HLA.out hall
      have c0 := H.kid (i := 0) (by decide)
      have c1 := H.kid (i := 1) (by decide)
      have c2 := H.kid (i := 2) (by decide)
      have c3 := H.kid (i := 3) (by decide)
      simp only [kd, Nat.add_zero] at c0 c1 c2 c3
      have l0 := H.lv
      have l5 := H.pop
      have s0 := H.s0
      have s1 := H.s1
      have hatt := hat wr ((HRR.out.below H.bel (Nat.le_refl _)).more H.bel.size)
      unfold storeV kidsV at hatt
      have hbel := H.bel
      clear HNO HLA HB HC HH0 HH hat hall HRR
      by_cases h1 : 1 ≤ x.1
      · by_cases h2 : x.1 ≤ 42
        · by_cases h3 : x.2.2 = popTo l x.2.1 4
          · rw [decide_eq_true h1, decide_eq_true h2, decide_eq_true h3] at hrr
            have hav : (atV (at6 l x.2.1) == (n : Int)) = r := by
              rw [hrr]
              cases ho : at6 l x.2.1 with
              | none => unfold atV; simp
              | some q =>
                unfold atV
                rw [Bool.eq_iff_iff]
                simp
                constructor <;> intro h <;> omega
            have h3b : (x.2.2 == popTo l x.2.1 4) = true := beq_iff_eq.2 h3
            clear hrr
            generalize atV (at6 l x.2.1) = av at *
            generalize popTo l x.2.1 4 = pt at *
            go_wp2_with fail
            refine hatt.mono ?_
            rintro e w3 ⟨rfl, hb3⟩
            have hbb := Qt.more hbel hbel.size hb3
            clear hatt hb3 c0 c1 c2 c3 l0 l5 s0 s1 H
            go_wp2
            go_ret
            exact ⟨by first | rfl | (simp [*]; done), hbb⟩
          · rw [decide_eq_true h1, decide_eq_true h2, decide_eq_false h3] at hrr
            have hf : r = false := hrr
            subst hf
            have h3b : (x.2.2 == popTo l x.2.1 4) = false := beq_eq_false_iff_ne.2 h3
            clear hatt hrr
            go_wp2
            go_ret
            exact ⟨by first | rfl | (simp [*]; done), hbel⟩
        · rw [decide_eq_true h1, decide_eq_false h2] at hrr
          have hf : r = false := hrr
          subst hf
          clear hatt hrr
          go_wp2
          go_ret
          exact ⟨by first | rfl | (simp [*]; done), hbel⟩
      · rw [decide_eq_false h1] at hrr
        have hf : r = false := hrr
        subst hf
        clear hatt hrr
        go_wp2
        go_ret
        exact ⟨by first | rfl | (simp [*]; done), hbel⟩
end Go.Proofs.Ytklccoodfhejbaa
namespace Go.Proofs.Ytklccoodfhejbaa
set_option linter.unusedVariables false
set_option linter.unusedSimpArgs false
open Go.RowKit Go.Sort

set_option maxHeartbeats 4000000 in
set_option maxRecDepth 100000 in
theorem refFits_low (A : Option Addr) (l : List Nd) (c : Nat) (room : Int) (n : Nat) (w : World) (hR : RdN w w.heap.size A l) (hl : l.length ≤ 1000000) (hn : n < l.length)
    (hb : ∀ i, i < n → 0 ≤ (l.getD i deadN).1 ∧ (l.getD i deadN).1 ≤ 42 ∧ 0 ≤ (l.getD i deadN).2.2 ∧ (l.getD i deadN).2.2 ≤ 4611686018427387903) (hw : (l.getD n deadN).1 = -9223372036854775808) :
    Calls Try.prog 57 #[storeV A l.length c room, .int .i64 n] w fun e w' => e = .returned (.bool (fits6 l n)) ∧ Below w.heap.size w w' := by
  have HH0 := Lib.hid (fitHead_0 w A l.length c room (l.getD n deadN))
  obtain ⟨b0, off, rfl, hbB, hcell⟩ := hR.at_ (by omega)
  obtain ⟨n0, n1, n2, n3, n4, n5⟩ := hcell n hn
  have hf : fits6 l n = false := by
    cases h : fits6 l n with
    | false => rfl
    | true =>
      have h1 := (fits_iff.1 h).lo
      omega
  rw [hf]
  have hnn : n ≤ 1000000 := by omega
  have hnz : (n : Int) < (l.length : Int) := by omega
  generalize l.getD n deadN = x at *
  obtain ⟨lv0, kk, pq⟩ := x
  simp only at hw n0 n1 n2 n3 n4 n5 HH0
  subst hw
  have HB := Lib.hid hb
  have HC := Lib.hid hcell
  unfold storeV
  clear hf hb hcell hR
  go_enter Try.func57, Try.ntmps57
  go_wp2
  clear n0 n1 n2 n3 n4 n5
  go_loopw [6, 7] (fun p i wr => p = .int .i64 0 ∧ i = .int .i64 0 ∧ Hid (FitHead w wr (some ⟨b0, off, none⟩) l.length c room (-9223372036854775808, kk, pq))) (fun _ i _ => 0)
  case atStart => exact ⟨rfl, rfl, HH0⟩
  case round =>
    obtain ⟨rfl, rfl, HH⟩ := hrel
    have H := HH.out
    have kc := H.kid (i := 0) (by decide)
    simp only [kd] at kc
    obtain ⟨K, hK⟩ : ∃ K, K = kk.1 := ⟨_, rfl⟩
    rw [← hK] at kc
    have e1 := Qt.cell_in kc
    have hbel := H.bel
    by_cases hneg : K < 0
    · clear HB HC HH0 HH hK H
      go_wp2_with fail
      refine Qt.below_all (by kernel_rfl) (by kernel_rfl) ?_
      repeat (go_big_quiet_step (fail))
      refine wpQuiet_nil ?_
      intro w1 hb1
      have hbb := Qt.more hbel hbel.size hb1
      clear e1 kc
      go_wp2
      go_ret
      exact ⟨rfl, hbb⟩
    · obtain ⟨m, rfl⟩ : ∃ m : Nat, K = (m : Int) := ⟨K.toNat, by omega⟩
      have hm0 : ¬ (m : Int) < 0 := hneg
      have hd0 : decide ((m : Int) < 0) = false := decide_eq_false hneg
      by_cases hge : (n : Int) ≤ (m : Int)
      · have hd1 : decide (n ≤ m) = true := decide_eq_true (by omega)
        clear HB HC HH0 HH hK H
        go_wp2_with fail
        refine Qt.below_all (by kernel_rfl) (by kernel_rfl) ?_
        repeat (go_big_quiet_step (fail))
        refine wpQuiet_nil ?_
        intro w1 hb1
        have hbb := Qt.more hbel hbel.size hb1
        clear e1 kc
        go_wp2
        go_ret
        exact ⟨rfl, hbb⟩
      · have hml : m < n := by omega
        have hd1 : decide (n ≤ m) = false := decide_eq_false (by omega)
        have hmz : (m : Int) < (l.length : Int) := by omega
        obtain ⟨m0, _, _, _, _, _⟩ := HC.out m (by omega)
        obtain ⟨b1, b2, b3, b4⟩ := HB.out m hml
        have m0 := Qt.keep H.bel m0
        generalize (l.getD m deadN).1 = lv at *
        have e2 := Qt.cell_in m0
        have e3 := Qt.cell_in H.s0
        have l0 := H.lv
        simp only at l0
        have e4 := Qt.cell_in l0
        have hd2 : (lv != wrap64 (-9223372036854775809)) = true := by
          rw [show wrap64 (-9223372036854775809) = 9223372036854775807 by first | decide +kernel | kernel_rfl]
          exact bne_iff_ne.2 (by omega)
        clear HB HC HH0 HH hK H
        go_wp2_with fail
        refine Qt.below_all (by kernel_rfl) (by kernel_rfl) ?_
        repeat (go_big_quiet_step (fail))
        refine wpQuiet_nil ?_
        intro w1 hb1
        have hbb := Qt.more hbel hbel.size hb1
        clear e1 kc e2 e3 e4 m0
        go_wp2
        go_ret
        exact ⟨rfl, hbb⟩
/-- whatever the level -/
theorem refFits_all (A : Option Addr) (l : List Nd) (c : Nat) (room : Int) (n : Nat) (w : World) (hR : RdN w w.heap.size A l) (hl : l.length ≤ 1000000) (hn : n < l.length)
    (hb : ∀ i, i < n → 0 ≤ (l.getD i deadN).1 ∧ (l.getD i deadN).1 ≤ 42 ∧ 0 ≤ (l.getD i deadN).2.2 ∧ (l.getD i deadN).2.2 ≤ 4611686018427387903) (hw : -9223372036854775808 ≤ (l.getD n deadN).1 ∧ (l.getD n deadN).1 ≤ 9223372036854775807) :
    Calls Try.prog 57 #[storeV A l.length c room, .int .i64 n] w fun e w' => e = .returned (.bool (fits6 l n)) ∧ Below w.heap.size w w' := by
  by_cases h : (l.getD n deadN).1 = -9223372036854775808
  · exact refFits_low A l c room n w hR hl hn hb h
  · exact refFits_any A l c room n w hR hl hn hb ⟨by omega, hw.2⟩
end Go.Proofs.Ytklccoodfhejbaa
namespace Go.Proofs.Ytklccoodfhejbaa
set_option linter.unusedVariables false
set_option linter.unusedSimpArgs false
open Go.RowKit Go.Sort

theorem nd_eq (x y : Nd) : (x.1 == y.1 && (decide (x.2.1 = y.2.1) && x.2.2 == y.2.2)) = decide (x = y) := by
  obtain ⟨a, b, c⟩ := x
  obtain ⟨a', b', c'⟩ := y
  rw [Bool.eq_iff_iff]
  simp
theorem eqN_at (x y : Nd) (w : World) : (Op.equalIn 10000 35 (.agg #[.int .i64 x.1, .int .i64 x.2.1.1, .int .i64 x.2.1.2.1, .int .i64 x.2.1.2.2.1, .int .i64 x.2.1.2.2.2, .int .i64 x.2.2]) (.agg #[.int .i64 y.1, .int .i64 y.2.1.1, .int .i64 y.2.1.2.1, .int .i64 y.2.1.2.2.1, .int .i64 y.2.1.2.2.2, .int .i64 y.2.2])).run Try.prog w = .ok (decide (x = y)) w := by
  have u3 := Try.underlying3
  have a3 := Try.isAgg3
  have z3 := Try.sizeOf3
  have hS : Try.prog.underlying 35 = some (.struct (Try.prog.fieldsOf 35)) := by kernel_rfl
  have hp : Try.prog.stoodInHeld 35 = false := by kernel_rfl
  have hK := fun w => eqK_at 9997 x.2.1.1 x.2.1.2.1 x.2.1.2.2.1 x.2.1.2.2.2 y.2.1.1 y.2.1.2.1 y.2.1.2.2.1 y.2.1.2.2.2 w
  rw [show (10000 : Nat) = 9999 + 1 from rfl, run_equalIn_agg w 9999 _ _ _ hS hp]
  simp only [Program.fieldsOf, Try.underlying35]
  go_simp
  rw [← nd_eq x y, ← kd_eq x.2.1 y.2.1]
  by_cases h0 : x.1 = y.1
  · by_cases h1 : x.2.1.1 = y.2.1.1
    · by_cases h2 : x.2.1.2.1 = y.2.1.2.1
      · by_cases h3 : x.2.1.2.2.1 = y.2.1.2.2.1
        · by_cases h4 : x.2.1.2.2.2 = y.2.1.2.2.2
          · by_cases h5 : x.2.2 = y.2.2 <;> simp [h0, h1, h2, h3, h4, h5]
          · simp [h0, h1, h2, h3, h4]
        · simp [h0, h1, h2, h3]
      · simp [h0, h1, h2]
    · simp [h0, h1]
  · simp [h0]
theorem neqN (x y : Nd) (w : World) : (binOp .neq 35 (.agg #[.int .i64 x.1, .int .i64 x.2.1.1, .int .i64 x.2.1.2.1, .int .i64 x.2.1.2.2.1, .int .i64 x.2.1.2.2.2, .int .i64 x.2.2]) (.agg #[.int .i64 y.1, .int .i64 y.2.1.1, .int .i64 y.2.1.2.1, .int .i64 y.2.1.2.2.1, .int .i64 y.2.1.2.2.2, .int .i64 y.2.2])).run Try.prog w = .ok (.bool (!decide (x = y))) w := by
  rw [run_neq_struct, eqN_at]
  rfl
/-- levels and cells are within bounds, as far as nodes fit -/
theorem bd_to {l : List Nd} (hd : l.getD 0 deadN = deadN) (hv : l.getD 1 deadN = liveN) (j : Nat) (hf : ∀ i, 2 ≤ i → i < j → fits6 l i = true) : ∀ n, n < j → 0 ≤ (l.getD n deadN).1 ∧ (l.getD n deadN).1 ≤ 42 ∧ 0 ≤ (l.getD n deadN).2.2 ∧ (l.getD n deadN).2.2 ≤ 4611686018427387903 := by
  intro n
  induction n using Nat.strongRecOn with
  | ind n ih =>
    intro hn
    by_cases h2 : n < 2
    · rcases (by omega : n = 0 ∨ n = 1) with rfl | rfl
      · rw [hd]; decide
      · rw [hv]; decide
    · have hft := fits_iff.1 (hf n (by omega) hn)
      have := popTo_bd (l := l) (k := (l.getD n deadN).2.1) (fun i hi => by
        obtain ⟨k1, k2, _⟩ := hft.kid i hi
        have := ih (kd (l.getD n deadN).2.1 i).toNat (by omega) (by omega)
        exact this.2.2.1) 4 (Nat.le_refl _)
      rw [← hft.pop] at this
      exact ⟨by have := hft.lo; omega, hft.hi, this.1, this.2⟩
/-- What is known within Right. -/
structure StoreAt (w wr : World) (A : Option Addr) (n c : Nat) (room : Int) : Prop where
  store : wr.heap[w.heap.size]? = some (.cells #[.slice A n c, .int .i64 room] 26 (0, 0))
  bel : Below w.heap.size w wr
section
variable {w wr w' : World} {A : Option Addr} {n c : Nat} {room : Int}
theorem StoreAt.below (h : StoreAt w wr A n c room) (hb : Below wr.heap.size wr w') : StoreAt w w' A n c room :=
  ⟨(hb.block _ (lt_heap6 h.store)).trans h.store, Qt.more h.bel h.bel.size hb⟩
theorem StoreAt.s0 (h : StoreAt w wr A n c room) : wr.cell? ⟨w.heap.size, 0, none⟩ = some (.slice A n c) := by rw [Lib.cell_of_heap h.store]; rfl
theorem StoreAt.s1 (h : StoreAt w wr A n c room) : wr.cell? ⟨w.heap.size, 1, none⟩ = some (.int .i64 room) := by rw [Lib.cell_of_heap h.store]; rfl
theorem storeAt_0 (w : World) (A : Option Addr) (n c : Nat) (room : Int) : StoreAt w (w.alloc (.cells #[.slice A n c, .int .i64 room] 26)) A n c room :=
  ⟨heap_alloc_new w _, (Below.refl _ _).alloc (Nat.le_refl _) _⟩
end
theorem right_no {l : List Nd} {room : Int} (h : headB6 l room = false) : right6 l room = false := by unfold right6; rw [h]; rfl
theorem right_nofit {l : List Nd} {room : Int} {j : Nat} (h2 : 2 ≤ j) (hj : j < l.length) (h : fits6 l j = false) : right6 l room = false := by
  rw [Bool.eq_false_iff]
  intro hr
  have := (right_iff.1 hr).fits j h2 hj
  rw [h] at this
  cases this

set_option maxHeartbeats 4000000 in
set_option maxRecDepth 100000 in
theorem refRight6_any (A : Option Addr) (l : List Nd) (c : Nat) (room : Int) (w : World) (hR : RdN w w.heap.size A l) (hl : l.length ≤ 1000000)
    (hw : ∀ i, i < l.length → -9223372036854775808 ≤ (l.getD i deadN).1 ∧ (l.getD i deadN).1 ≤ 9223372036854775807) :
    Calls Try.prog 28 #[storeV A l.length c room] w fun e w' => e = .returned (.bool (right6 l room)) ∧ Below w.heap.size w w' := by
  have HH0 := Lib.hid (storeAt_0 w A l.length c room)
  have hs0 := HH0.out.s0
  have hs1 := HH0.out.s1
  have hbel0 := HH0.out.bel
  obtain ⟨r, hr⟩ : ∃ r, r = right6 l room := ⟨_, rfl⟩
  have hno := right_no (l := l) (room := room)
  rw [← hr] at hno ⊢
  unfold storeV
  have hhead : headB6 l room = (decide (2 ≤ room) && decide (room ≤ 100000) && decide (2 ≤ l.length) && decide ((l.length : Int) ≤ room) && decide (l.getD 0 deadN = deadN) && decide (l.getD 1 deadN = liveN)) := rfl
  by_cases h1 : room < 2
  · have hf := hno (by rw [hhead, decide_eq_false (show ¬ 2 ≤ room by omega)]; rfl)
    subst hf
    clear hno hhead hr
    go_enter Try.func28, Try.ntmps28
    go_wp2
    go_ret
    exact ⟨rfl, hbel0⟩
  by_cases h2 : 100000 < room
  · have hf := hno (by rw [hhead, decide_eq_false (show ¬ room ≤ 100000 by omega), Bool.and_false]; rfl)
    subst hf
    clear hno hhead hr
    go_enter Try.func28, Try.ntmps28
    go_wp2
    go_ret
    exact ⟨rfl, hbel0⟩
  by_cases h3 : l.length < 2
  · have hf := hno (by rw [hhead, decide_eq_false (show ¬ 2 ≤ l.length by omega), Bool.and_false]; rfl)
    subst hf
    have h3z : (l.length : Int) < 2 := by omega
    clear hno hhead hr
    go_enter Try.func28, Try.ntmps28
    go_wp2
    go_ret
    exact ⟨rfl, hbel0⟩
  by_cases h4 : room < (l.length : Int)
  · have hf := hno (by rw [hhead, decide_eq_false (show ¬ (l.length : Int) ≤ room by omega), Bool.and_false]; rfl)
    subst hf
    have h3z : ¬ (l.length : Int) < 2 := by omega
    clear hno hhead hr
    go_enter Try.func28, Try.ntmps28
    go_wp2
    go_ret
    exact ⟨rfl, hbel0⟩
  have h3z : ¬ (l.length : Int) < 2 := by omega
  obtain ⟨b0, off, rfl, hbB, hcell⟩ := hR.at_ (by omega)
  obtain ⟨n0, n1, n2, n3, n4, n5⟩ := hcell 0 (by omega)
  obtain ⟨m0, m1, m2, m3, m4, m5⟩ := hcell 1 (by omega)
  simp only [Nat.zero_mul, Nat.one_mul, Nat.add_zero] at n0 n1 n2 n3 n4 n5 m0 m1 m2 m3 m4 m5
  have n0 := Qt.keep hbel0 n0
  have n1 := Qt.keep hbel0 n1
  have n2 := Qt.keep hbel0 n2
  have n3 := Qt.keep hbel0 n3
  have n4 := Qt.keep hbel0 n4
  have n5 := Qt.keep hbel0 n5
  have m0 := Qt.keep hbel0 m0
  have m1 := Qt.keep hbel0 m1
  have m2 := Qt.keep hbel0 m2
  have m3 := Qt.keep hbel0 m3
  have m4 := Qt.keep hbel0 m4
  have m5 := Qt.keep hbel0 m5
  have hne0 : ∀ W, (binOp .neq 35 (.agg #[.int .i64 (l.getD 0 deadN).1, .int .i64 (l.getD 0 deadN).2.1.1, .int .i64 (l.getD 0 deadN).2.1.2.1, .int .i64 (l.getD 0 deadN).2.1.2.2.1, .int .i64 (l.getD 0 deadN).2.1.2.2.2, .int .i64 (l.getD 0 deadN).2.2]) (.agg #[.int .i64 0, .int .i64 0, .int .i64 0, .int .i64 0, .int .i64 0, .int .i64 0])).run Try.prog W = .ok (.bool (!decide (l.getD 0 deadN = deadN))) W := fun W => neqN (l.getD 0 deadN) deadN W
  have hne1 : ∀ W, (binOp .neq 35 (.agg #[.int .i64 (l.getD 1 deadN).1, .int .i64 (l.getD 1 deadN).2.1.1, .int .i64 (l.getD 1 deadN).2.1.2.1, .int .i64 (l.getD 1 deadN).2.1.2.2.1, .int .i64 (l.getD 1 deadN).2.1.2.2.2, .int .i64 (l.getD 1 deadN).2.2]) (.agg #[.int .i64 0, .int .i64 0, .int .i64 0, .int .i64 0, .int .i64 0, .int .i64 1])).run Try.prog W = .ok (.bool (!decide (l.getD 1 deadN = liveN))) W := fun W => neqN (l.getD 1 deadN) liveN W
  by_cases h5 : l.getD 0 deadN = deadN
  · rw [decide_eq_true h5] at hne0
    by_cases h6 : l.getD 1 deadN = liveN
    · rw [decide_eq_true h6] at hne1
      have hfits := fun (j : Nat) (h2 : 2 ≤ j) (hj : j < l.length) (hf : ∀ i, 2 ≤ i → i < j → fits6 l i = true) W hR => refFits_all (some ⟨b0, off, none⟩) l c room j W hR hl hj (bd_to h5 h6 j hf) (hw j hj)
      have hnof := fun (j : Nat) (h2 : 2 ≤ j) (hj : j < l.length) (hf : fits6 l j = false) => hr.trans (right_nofit (room := room) h2 hj hf)
      have hyes : (∀ i, 2 ≤ i → i < l.length → fits6 l i = true) → r = true := fun hf => hr.trans (right_iff.2 ⟨by omega, by omega, by omega, by omega, h5, h6, hf⟩)
      unfold storeV at hfits
      generalize l.getD 0 deadN = x0 at *
      generalize l.getD 1 deadN = x1 at *
      have HF := Lib.hid hfits
      have HN := Lib.hid hnof
      have HY := Lib.hid hyes
      have HRR := Lib.hid hR
      clear hfits hnof hyes hno hhead hr hcell hw h5 h6 hR
      go_enter Try.func28, Try.ntmps28
      go_wp2
      clear n0 n1 n2 n3 n4 n5 m0 m1 m2 m3 m4 m5 hne0 hne1 hs0 hs1 hbel0
      go_loopw [3] (fun i wr => ∃ j : Nat, 2 ≤ j ∧ j ≤ l.length ∧ i = .int .i64 j ∧ Hid (StoreAt w wr (some ⟨b0, off, none⟩) l.length c room ∧ ∀ q, 2 ≤ q → q < j → fits6 l q = true)) (fun i _ => l.length - (intOf i).toNat)
      case atStart => exact ⟨2, Nat.le_refl _, by omega, rfl, HH0.out, fun q h1 h2 => by omega⟩
      case round =>
        obtain ⟨j, hj2, hj, rfl, HH⟩ := hrel
        have H := HH.out.1
        have s0 := H.s0
        have s1 := H.s1
        by_cases hlt : j < l.length
        · have hltz : (j : Int) < (l.length : Int) := by omega
          have hcall := HF.out j hj2 hlt HH.out.2 wr ((HRR.out.below H.bel (Nat.le_refl _)).more H.bel.size)
          cases hft : fits6 l j with
          | true =>
            rw [hft] at hcall
            have hnew : ∀ q, 2 ≤ q → q < j + 1 → fits6 l q = true := by
              intro q h7 h8
              rcases Nat.lt_or_ge q j with h9 | h9
              · exact HH.out.2 q h7 h9
              · obtain rfl : q = j := by omega
                exact hft
            have HNW := Lib.hid hnew
            clear hnew hft HH
            go_wp2_with fail
            refine hcall.mono ?_
            rintro e w1 ⟨rfl, hb1⟩
            have HN2 : Hid (StoreAt w w1 (some ⟨b0, off, none⟩) l.length c room ∧ ∀ q, 2 ≤ q → q < j + 1 → fits6 l q = true) := ⟨H.below hb1, HNW.out⟩
            clear hcall hb1 H s0 s1
            go_wp2
            go_roundw
            case measure => simp [intOf]; omega
            case rel => exact ⟨j + 1, by omega, by omega, by go_num, HN2.out⟩
          | false =>
            rw [hft] at hcall
            have hf := HN.out j hj2 hlt hft
            subst hf
            have hbel := H.bel
            clear hft HH
            go_wp2_with fail
            refine hcall.mono ?_
            rintro e w1 ⟨rfl, hb1⟩
            have hbb := Qt.more hbel hbel.size hb1
            clear hcall hb1 H s0 s1
            go_wp2
            go_ret
            exact ⟨rfl, hbb⟩
        · obtain rfl : j = l.length := by omega
          have hltz : ¬ (l.length : Int) < (l.length : Int) := by omega
          have hf := HY.out HH.out.2
          subst hf
          have hbel := H.bel
          clear HH H
          go_wp2
          go_ret
          exact ⟨rfl, hbel⟩
    · rw [decide_eq_false h6] at hne1
      have hf := hno (by rw [hhead, decide_eq_false h6, Bool.and_false])
      subst hf
      clear hno hhead hr hcell hw h5 h6 hR
      generalize l.getD 0 deadN = x0 at *
      generalize l.getD 1 deadN = x1 at *
      go_enter Try.func28, Try.ntmps28
      go_wp2
      go_ret
      exact ⟨rfl, hbel0⟩
  · rw [decide_eq_false h5] at hne0
    have hf := hno (by rw [hhead, decide_eq_false h5, Bool.and_false]; rfl)
    subst hf
    clear hno hhead hr hcell hw h5 hR
    generalize l.getD 0 deadN = x0 at *
    generalize l.getD 1 deadN = x1 at *
    go_enter Try.func28, Try.ntmps28
    go_wp2
    go_ret
    exact ⟨rfl, hbel0⟩
end Go.Proofs.Ytklccoodfhejbaa
namespace Go.Proofs.Ytklccoodfhejbaa.Qt
open Go Go.Sort Go.RowKit

section
variable {P : Program} {ops : Array Oper} {md : Region.Mode} {C : World → Prop}

/-- whatever stands behind n waits for something that stands at n or behind it -/
def depB (md : Region.Mode) (ops : Array Oper) (n : Nat) : Bool :=
  (List.range ops.size).all fun t => decide (t ≤ n) || (List.range t).any fun j => decide (n ≤ j) && Region.waitsFor md ops t j

theorem last_waits {n : Nat} {listed : Array Bool} (hs : Region.sinkB md ops n = true) (hn : n < ops.size) (inv : HeadInv md ops n listed) (d : Nat) :
    ∀ i, n - i ≤ d → i < n → listed.getD i true = false → n ∉ Region.ready md ops listed := by
  induction d with
  | zero => intro i hd hi; omega
  | succ d ih =>
    intro i hd hi hun hr
    obtain ⟨j, hj, hj2⟩ := List.any_eq_true.1 (List.all_eq_true.1 hs i (List.mem_range.2 hi))
    simp only [Bool.and_eq_true, decide_eq_true_eq] at hj2
    obtain ⟨oj, hoj, e, he, hb, hon⟩ := Region.waitsFor_spec hj2.2
    have hjn := List.mem_range.1 hj
    by_cases hl : listed.getD j false = true
    · have h2 := inv.closed j oj hoj hl e he hb
      rw [hon, getD_both hun] at h2
      cases h2
    · rcases Nat.lt_or_eq_of_le (Nat.le_of_lt_succ hjn) with hlt | heq
      · exact ih j (by omega) hlt (getD_in (by rw [inv.size]; omega) (by simpa using hl)) hr
      · subst heq
        obtain ⟨_, ot, hot, hall⟩ := mem_ready.1 hr
        obtain rfl : oj = ot := Option.some.inj (hoj.symm.trans hot)
        have h2 := hall e he hb
        rw [hon, getD_both hun] at h2
        cases h2

theorem rest_waits {n : Nat} {listed : Array Bool} (hs : Region.sinkB md ops n = true) (hd : depB md ops n = true) (hn : n < ops.size) (inv : HeadInv md ops n listed) {i : Nat} (hi : i < n) (hun : listed.getD i true = false) :
    ∀ t, n ≤ t → t ∉ Region.ready md ops listed := by
  intro t ht hr
  rcases Nat.lt_or_eq_of_le ht with hlt | heq
  · obtain ⟨_, ot, hot, hall⟩ := mem_ready.1 hr
    have hts : t < ops.size := (Array.getElem?_eq_some_iff.1 hot).1
    have h1 := List.all_eq_true.1 hd t (List.mem_range.2 hts)
    simp only [Bool.or_eq_true, decide_eq_true_eq] at h1
    rcases h1 with h1 | h1
    · omega
    · obtain ⟨j, hj, hj2⟩ := List.any_eq_true.1 h1
      simp only [Bool.and_eq_true, decide_eq_true_eq] at hj2
      obtain ⟨oj, hoj, e, he, hb, hon⟩ := Region.waitsFor_spec hj2.2
      obtain rfl : oj = ot := Option.some.inj (hoj.symm.trans hot)
      have h2 := hall e he hb
      have hjt := List.mem_range.1 hj
      rw [hon, getD_both (inv.tail j hj2.1 (by omega))] at h2
      cases h2
  · subst heq
    exact last_waits hs hn inv _ i (Nat.le_refl _) hi hun hr

theorem mid_first {n i : Nat} {oi : Oper} {v : Value} {L : Array Bool → Act → Prop} (hi : ops[i]? = some oi) (hsel : ∀ (j : Nat) (o : Oper) cs b, ops[j]? = some o → o.op ≠ .select cs b)
    (hs : Region.sinkB md ops n = true) (hc : depB md ops n = true) (hn : n < ops.size) (hin : i < n) (hdone : ∀ listed a, L listed a → ∀ j ∈ Region.ready md ops listed, n ≤ j) (f : Nat) :
    ∀ (listed : Array Bool) (a : Act), HeadInv md ops n listed →
      (∀ j oj, ops[j]? = some oj → j ≠ i → listed.getD j true = false → (∀ e ∈ oj.after, Region.binds md e = true → e.on ≠ i) → oi.apart ops oj = true) →
      i ∈ Region.ready md ops listed → YieldsIn P ops C oi v a →
      headAny P md ops C n L f (listed.setIfInBounds i true) (a.put oi.dst v) → headAny P md ops C n L (f + 1) listed a := by
  induction f with
  | zero =>
    intro listed a inv _ hr hy H
    refine ⟨fun h => (by rw [h] at hr; cases hr), fun j hj => ?_⟩
    have hjn : j < n := Nat.lt_of_not_le fun h => rest_waits hs hc hn inv hin (mem_ready.1 hr).1 j h hj
    refine ⟨hjn, ?_⟩
    by_cases hji : j = i
    · subst hji; exact hy.qOp hi H
    · exact absurd (hdone _ _ H j (ready_mono hj hji)) (by omega)
  | succ f ih =>
    intro listed a inv hfree hr hy H
    have hun := (mem_ready.1 hr).1
    refine ⟨fun h => (by rw [h] at hr; cases hr), fun j hj => ?_⟩
    have hjn : j < n := Nat.lt_of_not_le fun h => rest_waits hs hc hn inv hin hun j h hj
    refine ⟨hjn, ?_⟩
    by_cases hji : j = i
    · subst hji; exact hy.qOp hi H
    · obtain ⟨hjun, oj, hoj, hall⟩ := mem_ready.1 hj
      have hnot : ∀ e ∈ oj.after, Region.binds md e = true → e.on ≠ i := fun e he hb heq => by
        have h1 := hall e he hb
        rw [heq, getD_both hun] at h1
        cases h1
      have hq := qOp_put hoj (hfree j oj hoj hji hjun hnot) (fun cs b => hsel i oi cs b hi) (fun cs b => hsel j oj cs b hoj) hy (H.2 j (ready_mono hj hji)).2
      refine qOp_mono (fun a' h3 => ih (listed.setIfInBounds j true) a' (inv.set hj hjn) (fun k ok hk hki hku hno => hfree k ok hk hki ?_ hno) (ready_mono hr (Ne.symm hji)) h3.1 ?_) hq
      · by_cases hjk : j = k
        · subst hjk; exact hjun
        · rwa [getD_set_ne true hjk] at hku
      · rw [Array.setIfInBounds_comm _ _ hji]; exact h3.2

theorem wpOp_call {n : Nat} {o : Oper} {f : FuncId} {ars : Array Operand} {ts : Array TypeId} {Q : Exit → Act → World → Prop} {K : Act → World → Prop} {a : Act} {w : World} (ho : ops[n]? = some o) (hg : o.guard = none)
    {fn : Func} (hf : P.funcs[f]? = some fn) (hnm0 : (fn.name == "runtime.NumGoroutine") = false) (hbd0 : fn.body.isNone = false) (hop : o.op = .call { callee := .value (.func f), args := ars, argTypes := ts }) (h : Calls P f (ars.map a.eval) w fun e w' => ∃ v, e = .returned v ∧ K (a.put o.dst v) w') : wpOp P ops Q n K a w := by
  unfold wpOp
  simp only [ho]
  have hw : Region.wanted o (yielded ops a.tmps) = true := by simp [Region.wanted, hg]
  rw [if_pos hw]
  left
  unfold Oper.wp
  have hnm : ¬ fn.name = "runtime.NumGoroutine" := by simpa using hnm0
  have hbd : ¬ fn.body = none := fun e => by rw [e] at hbd0; cases hbd0
  have he : a.eval (.func f) = .func (.func f) #[] #[] := rfl
  simp [execOp, hop, resolve, invoke, Result.andThen, Oper.upon, he, Deferred.ofValue, callFunc, hf, hnm, hbd]
  refine h.mono ?_
  rintro e w' ⟨v, rfl, hk⟩
  exact hk

end
end Go.Proofs.Ytklccoodfhejbaa.Qt
namespace Go.Proofs.Ytklccoodfhejbaa.Qt
open Go Go.Sort Go.RowKit

/-- It ends as it should, nothing else. -/
def Qn (K : Act → World → Prop) : Exit → Act → World → Prop := fun x a w => x = .normal ∧ K a w

section
variable {P : Program} {ops : Array Oper} {md : Region.Mode} {C : World → Prop}

def PureV (P : Program) (ops : Array Oper) (o : Oper) (v : Value) (a : Act) : Prop :=
  Region.wanted o (yielded ops a.tmps) = true ∧ ∀ w, (execOp a.eval o).run P w = .ok (.value v) w

theorem no_letsOut {K : Act → World → Prop} (h : LetsOut (Qn K)) : False := by
  obtain ⟨a, w, h1, _⟩ := h
  cases h1

theorem upon_qn {o : Oper} {a : Act} {K K' : Act → World → Prop} {Kf : Act → World → Prop} {Q' : Exit → Act → World → Prop} (h : ∀ a w, K a w → K' a w) (r : Result Next) (hh : o.upon P a K (Qn Kf) r) : o.upon P a K' Q' r := by
  cases r with
  | ok n w' =>
    cases n <;> simp only [Oper.upon] at hh ⊢ <;>
      first
        | exact h _ _ hh
        | exact Calls.mono hh (fun e w'' he => by cases e <;> first | exact h _ _ he | exact absurd he.1 (by simp) | exact (no_letsOut he).elim)
        | exact Rows.mono hh (fun _ _ he => h _ _ he)
  | halt x w' => cases x <;> simp only [Oper.upon] at hh ⊢ <;> first | exact hh | exact absurd hh.1 (by simp)

theorem wpOp_qn {i : Nat} {a : Act} {w : World} {K K' : Act → World → Prop} {Kf : Act → World → Prop} {Q' : Exit → Act → World → Prop} (h : ∀ a w, K a w → K' a w) (hh : wpOp P ops (Qn Kf) i K a w) : wpOp P ops Q' i K' a w := by
  unfold wpOp at *
  split
  · exact h _ _ (by simpa [*] using hh)
  · rename_i o ho
    simp only [ho] at hh
    split
    · rename_i hw
      simp only [hw, if_true] at hh
      rcases hh with hh | hh
      · left; unfold Oper.wp at *; exact upon_qn h _ hh
      · exact (no_letsOut hh.2).elim
    · rename_i hw; simp only [hw] at hh; exact h _ _ hh

theorem any_qn {Kf : Act → World → Prop} {Q : Exit → Act → World → Prop} (hQ : ∀ a w, Kf a w → Q .normal a w) (f : Nat) : ∀ listed a w, wpAny P md ops (Qn Kf) f listed a w → wpAny P md ops Q f listed a w := by
  induction f with
  | zero => intro listed a w h; exact ⟨h.1, hQ _ _ h.2.2⟩
  | succ f ih => intro listed a w h; exact ⟨fun h0 => hQ _ _ (h.1 h0).2, fun i hi => wpOp_qn (fun a' w' h' => ih _ a' w' h') (h.2 i hi)⟩

theorem upon_put {o : Oper} {a : Act} {d : Option Nat} {v : Value} {K : Act → World → Prop} {Kf : Act → World → Prop} {R : Act → Prop} (hc : ∀ (a : Act) u, (a.put d v).put o.dst u = (a.put o.dst u).put d v)
    (hk : ∀ a u, R a → R (a.put o.dst u)) (hd : ∀ (a : Act) ds, R a → R { a with defers := ds }) (ha : R a) (r : Result Next) (hh : o.upon P (a.put d v) K (Qn Kf) r) :
    o.upon P a (fun a' w' => R a' ∧ K (a'.put d v) w') (Qn Kf) r := by
  cases r with
  | ok n w' =>
    cases n <;> simp only [Oper.upon] at hh ⊢ <;>
      first
        | (rw [hc] at hh; exact ⟨hk _ _ ha, hh⟩)
        | exact Calls.mono hh (fun e w'' he => by cases e <;> first | (simp only [hc] at he; exact ⟨hk _ _ ha, he⟩) | exact absurd he.1 (by simp) | exact (no_letsOut he).elim)
        | exact Rows.mono hh (fun _ _ he => by rw [hc] at he; exact ⟨hk _ _ ha, he⟩)
        | (rename_i dd
           have e : ({ a.put d v with defers := dd :: (a.put d v).defers } : Act) = ({ a with defers := dd :: a.defers } : Act).put d v := by cases d <;> rfl
           rw [e, hc] at hh
           exact ⟨hk _ _ (hd _ _ ha), hh⟩)
  | halt x w' => cases x <;> simp only [Oper.upon] at hh ⊢ <;> first | exact hh | exact absurd hh.1 (by simp)

theorem wpOp_put {j : Nat} {oi oj : Oper} {v : Value} (hj : ops[j]? = some oj) (hap : oi.apart ops oj = true) (hsi : ∀ cs b, oi.op ≠ .select cs b) (hsj : ∀ cs b, oj.op ≠ .select cs b) {K : Act → World → Prop} {Kf : Act → World → Prop} {a : Act} {w : World}
    (hp : PureV P ops oi v a) (h : wpOp P ops (Qn Kf) j K (a.put oi.dst v) w) : wpOp P ops (Qn Kf) j (fun a' w' => PureV P ops oi v a' ∧ K (a'.put oi.dst v) w') a w := by
  obtain ⟨h1, h2, h3⟩ := Oper.apart_spec hap
  have keep : ∀ (a : Act) u, PureV P ops oi v a → PureV P ops oi v (a.put oj.dst u) := fun a u hp => by
    unfold PureV at *
    rw [execOp_put oi hsi a oj.dst u h3, wanted_put oi a oj.dst u h3]
    exact hp
  unfold wpOp at *
  simp only [hj] at *
  rw [wanted_put oj a oi.dst v h1] at h
  split
  · rename_i hw
    simp only [hw, if_true] at h
    rcases h with h | h
    · left
      unfold Oper.wp at *
      rw [execOp_put oj hsj a oi.dst v h1] at h
      exact upon_put (R := PureV P ops oi v) (fun a u => Act.put_comm a v u h2) keep (fun _ _ h => h) hp _ h
    · exact (no_letsOut h.2).elim
  · rename_i hw
    simp only [hw] at h
    exact ⟨keep _ _ hp, by rw [← Act.put_comm a v undef h2]; exact h⟩

theorem PureV.op {i : Nat} {oi : Oper} {v : Value} {a : Act} (hi : ops[i]? = some oi) (hp : PureV P ops oi v a) {K : Act → World → Prop} {Q : Exit → Act → World → Prop} {w : World} (h : K (a.put oi.dst v) w) : wpOp P ops Q i K a w := by
  unfold wpOp
  simp only [hi, hp.1, if_true]
  left
  unfold Oper.wp
  rw [hp.2 w]
  exact h

/-- It may come first. -/
theorem any_first {Kf : Act → World → Prop} {i : Nat} {oi : Oper} {v : Value} (hi : ops[i]? = some oi) (hsel : ∀ (j : Nat) (o : Oper) cs b, ops[j]? = some o → o.op ≠ .select cs b) (f : Nat) :
    ∀ (listed : Array Bool) (a : Act) (w : World),
      (∀ j oj, ops[j]? = some oj → j ≠ i → listed.getD j true = false → (∀ e ∈ oj.after, Region.binds md e = true → e.on ≠ i) → oi.apart ops oj = true) →
      i ∈ Region.ready md ops listed → PureV P ops oi v a →
      wpAny P md ops (Qn Kf) f (listed.setIfInBounds i true) (a.put oi.dst v) w → wpAny P md ops (Qn Kf) (f + 1) listed a w := by
  induction f with
  | zero =>
    intro listed a w _ hr hp H
    refine ⟨fun h => (by rw [h] at hr; cases hr), fun j hj => ?_⟩
    by_cases hji : j = i
    · subst hji; exact hp.op hi H
    · have := ready_mono hj hji
      rw [H.1] at this
      cases this
  | succ f ih =>
    intro listed a w hfree hr hp H
    refine ⟨fun h => (by rw [h] at hr; cases hr), fun j hj => ?_⟩
    by_cases hji : j = i
    · subst hji; exact hp.op hi H
    · obtain ⟨hjun, oj, hoj, hall⟩ := mem_ready.1 hj
      have hun := (mem_ready.1 hr).1
      have hnot : ∀ e ∈ oj.after, Region.binds md e = true → e.on ≠ i := fun e he hb heq => by
        have h1 := hall e he hb
        rw [heq, getD_both hun] at h1
        cases h1
      refine wpOp_mono (fun a' w' h3 => ih (listed.setIfInBounds j true) a' w' (fun k ok hk hki hku hno => hfree k ok hk hki ?_ hno) (ready_mono hr (Ne.symm hji)) h3.1 ?_)
        (wpOp_put hoj (hfree j oj hoj hji hjun hnot) (fun cs b => hsel i oi cs b hi) (fun cs b => hsel j oj cs b hoj) hp (H.2 j (ready_mono hj hji)))
      · by_cases hjk : j = k
        · subst hjk; exact hjun
        · rwa [getD_set_ne true hjk] at hku
      · rw [Array.setIfInBounds_comm _ _ hji]; exact h3.2

/-! ### operations that only move come first, then the rest in the one order that is left -/

/-! ### Operation 0 first, then quiet ones in whatever order, then the rest in one order -/
def sinkFrom (md : Region.Mode) (ops : Array Oper) (s n : Nat) : Bool :=
  (List.range n).all fun i => decide (i < s) || (List.range (n + 1)).any fun j => decide (i < j) && Region.waitsFor md ops j i

theorem last_waits' {s n : Nat} {listed : Array Bool} (hs : sinkFrom md ops s n = true) (hn : n < ops.size) (inv : HeadInv md ops n listed) (d : Nat) :
    ∀ i, n - i ≤ d → s ≤ i → i < n → listed.getD i true = false → n ∉ Region.ready md ops listed := by
  induction d with
  | zero => intro i hd _ hi; omega
  | succ d ih =>
    intro i hd hsi hi hun hr
    have h0 := List.all_eq_true.1 hs i (List.mem_range.2 hi)
    simp only [Bool.or_eq_true, decide_eq_true_eq] at h0
    rcases h0 with h0 | h0
    · omega
    obtain ⟨j, hj, hj2⟩ := List.any_eq_true.1 h0
    simp only [Bool.and_eq_true, decide_eq_true_eq] at hj2
    obtain ⟨oj, hoj, e, he, hb, hon⟩ := Region.waitsFor_spec hj2.2
    have hjn := List.mem_range.1 hj
    by_cases hl : listed.getD j false = true
    · have h2 := inv.closed j oj hoj hl e he hb
      rw [hon, getD_both hun] at h2
      cases h2
    · rcases Nat.lt_or_eq_of_le (Nat.le_of_lt_succ hjn) with hlt | heq
      · exact ih j (by omega) (by omega) hlt (getD_in (by rw [inv.size]; omega) (by simpa using hl)) hr
      · subst heq
        obtain ⟨_, ot, hot, hall⟩ := mem_ready.1 hr
        obtain rfl : oj = ot := Option.some.inj (hoj.symm.trans hot)
        have h2 := hall e he hb
        rw [hon, getD_both hun] at h2
        cases h2

theorem rest_waits' {s n : Nat} {listed : Array Bool} (hs : sinkFrom md ops s n = true) (hd : depB md ops n = true) (hn : n < ops.size) (inv : HeadInv md ops n listed) {i : Nat} (hsi : s ≤ i) (hi : i < n) (hun : listed.getD i true = false) :
    ∀ t, n ≤ t → t ∉ Region.ready md ops listed := by
  intro t ht hr
  rcases Nat.lt_or_eq_of_le ht with hlt | heq
  · obtain ⟨_, ot, hot, hall⟩ := mem_ready.1 hr
    have hts : t < ops.size := (Array.getElem?_eq_some_iff.1 hot).1
    have h1 := List.all_eq_true.1 hd t (List.mem_range.2 hts)
    simp only [Bool.or_eq_true, decide_eq_true_eq] at h1
    rcases h1 with h1 | h1
    · omega
    · obtain ⟨j, hj, hj2⟩ := List.any_eq_true.1 h1
      simp only [Bool.and_eq_true, decide_eq_true_eq] at hj2
      obtain ⟨oj, hoj, e, he, hb, hon⟩ := Region.waitsFor_spec hj2.2
      obtain rfl : oj = ot := Option.some.inj (hoj.symm.trans hot)
      have h2 := hall e he hb
      have hjt := List.mem_range.1 hj
      rw [hon, getD_both (inv.tail j hj2.1 (by omega))] at h2
      cases h2
  · subst heq
    exact last_waits' hs hn inv _ i (Nat.le_refl _) hsi hi hun hr

theorem late_first {s n i : Nat} {oi : Oper} {v : Value} {L : Array Bool → Act → Prop} (hi : ops[i]? = some oi) (hsel : ∀ (j : Nat) (o : Oper) cs b, ops[j]? = some o → o.op ≠ .select cs b)
    (hs : sinkFrom md ops s n = true) (hc : depB md ops n = true) (hn : n < ops.size) (hsi : s ≤ i) (hin : i < n) (hdone : ∀ listed a, L listed a → ∀ j ∈ Region.ready md ops listed, n ≤ j) (f : Nat) :
    ∀ (listed : Array Bool) (a : Act), HeadInv md ops n listed →
      (∀ j oj, ops[j]? = some oj → j ≠ i → listed.getD j true = false → (∀ e ∈ oj.after, Region.binds md e = true → e.on ≠ i) → oi.apart ops oj = true) →
      i ∈ Region.ready md ops listed → YieldsIn P ops C oi v a →
      headAny P md ops C n L f (listed.setIfInBounds i true) (a.put oi.dst v) → headAny P md ops C n L (f + 1) listed a := by
  induction f with
  | zero =>
    intro listed a inv _ hr hy H
    refine ⟨fun h => (by rw [h] at hr; cases hr), fun j hj => ?_⟩
    have hjn : j < n := Nat.lt_of_not_le fun h => rest_waits' hs hc hn inv hsi hin (mem_ready.1 hr).1 j h hj
    refine ⟨hjn, ?_⟩
    by_cases hji : j = i
    · subst hji; exact hy.qOp hi H
    · exact absurd (hdone _ _ H j (ready_mono hj hji)) (by omega)
  | succ f ih =>
    intro listed a inv hfree hr hy H
    have hun := (mem_ready.1 hr).1
    refine ⟨fun h => (by rw [h] at hr; cases hr), fun j hj => ?_⟩
    have hjn : j < n := Nat.lt_of_not_le fun h => rest_waits' hs hc hn inv hsi hin hun j h hj
    refine ⟨hjn, ?_⟩
    by_cases hji : j = i
    · subst hji; exact hy.qOp hi H
    · obtain ⟨hjun, oj, hoj, hall⟩ := mem_ready.1 hj
      have hnot : ∀ e ∈ oj.after, Region.binds md e = true → e.on ≠ i := fun e he hb heq => by
        have h1 := hall e he hb
        rw [heq, getD_both hun] at h1
        cases h1
      have hq := qOp_put hoj (hfree j oj hoj hji hjun hnot) (fun cs b => hsel i oi cs b hi) (fun cs b => hsel j oj cs b hoj) hy (H.2 j (ready_mono hj hji)).2
      refine qOp_mono (fun a' h3 => ih (listed.setIfInBounds j true) a' (inv.set hj hjn) (fun k ok hk hki hku hno => hfree k ok hk hki ?_ hno) (ready_mono hr (Ne.symm hji)) h3.1 ?_) hq
      · by_cases hjk : j = k
        · subst hjk; exact hjun
        · rwa [getD_set_ne true hjk] at hku
      · rw [Array.setIfInBounds_comm _ _ hji]; exact h3.2

theorem late_lex {s n g : Nat} {Lq : Act → Prop} (hsel : Region.noSelect ops = true) (hs : sinkFrom md ops s n = true) (hc : depB md ops n = true) (hn : n < ops.size) (l : List Oper) :
    ∀ (k : Nat) (listed : Array Bool) (a : Act), s ≤ k → (∀ j, j < l.length → l[j]? = ops[k + j]?) → k + l.length = n → HeadInv md ops n listed →
    Region.lexHead md ops g l.length k listed = true → wpQuiet P ops C Lq l a →
    headAny P md ops C n (fun listed' a' => Region.seqB md ops g n listed' = true ∧ Lq a') l.length listed a := by
  induction l with
  | nil =>
    intro k listed a _ _ hk _ hB h
    obtain rfl : k = n := by simpa using hk
    exact ⟨by simpa [Region.lexHead] using hB, h⟩
  | cons o l ih =>
    intro k listed a hsk hl hk inv hB h
    have h0 : ops[k]? = some o := by simpa using (hl 0 (by simp)).symm
    simp only [List.length_cons, Region.lexHead, Bool.and_eq_true] at hB
    have hkn : k < n := by simp only [List.length_cons] at hk; omega
    have hr' : k ∈ Region.ready md ops listed := by simpa using hB.1.1
    have hst : qOp P ops C k (wpQuiet P ops C Lq l) a := by unfold qOp; simp only [h0]; exact h
    obtain ⟨v, hy, hK⟩ := yieldsIn_of_qOp h0 hst
    exact late_first h0 (Region.noSelect_spec hsel) hs hc hn hsk hkn (fun listed' a' hL => seqB_ready hL.1) l.length listed a inv (Region.free_spec h0 hB.1.2) hr' hy
      (ih (k + 1) _ _ (by omega) (fun j hj => by have := hl (j + 1) (by simp; omega); simpa [Nat.add_assoc, Nat.add_comm 1 j] using this) (by simp only [List.length_cons] at hk; omega) (inv.set hr' hkn) hB.2 hK)

def lateB (md : Region.Mode) (ops : Array Oper) (n : Nat) : Bool :=
  Region.noSelect ops && decide (n < ops.size) && sinkFrom md ops 1 n && depB md ops n && (Region.ready md ops (Array.replicate ops.size false)).contains 0 && Region.free md ops (Array.replicate ops.size false) 0 &&
    Region.lexHead md ops (ops.size - n) (n - 1) 1 ((Array.replicate ops.size false).setIfInBounds 0 true)

theorem region_late {id : Nat} {Q : Exit → Act → World → Prop} {a : Act} {w : World} {l : List Oper} {o : Oper} {v : Value} (n : Nat) (hn0 : 0 < n) (hm : P.follows .mixedOrders = true) (hB : lateB .any l.toArray n = true) (ho : l[0]? = some o) (hp : PureV P l.toArray o v a)
    (h : wpQuiet P l.toArray (fun w' => ∃ p : Regrown, w' = grow (redrawn w p.d) p.os) (fun a' => ∀ w', Below w.heap.size w w' → wpList P l.toArray (Qn fun a w => Q .normal a w) (l.drop n) a' w') ((l.take n).drop 1) (a.put o.dst v)) : (Code.region id l.toArray true).wp P Q a w := by
  simp only [lateB, Bool.and_eq_true, decide_eq_true_eq] at hB
  obtain ⟨⟨⟨⟨⟨⟨hsel, hn⟩, hs⟩, hc⟩, hr0⟩, hf0⟩, hlex⟩ := hB
  have hn' : n < l.length := by simpa using hn
  have htl : ((l.take n).drop 1).length = n - 1 := by simp; omega
  have hdl : (l.drop n).length = l.toArray.size - n := by simp
  have ho' : l.toArray[0]? = some o := by simpa using ho
  have hr0' : 0 ∈ Region.ready .any l.toArray (Array.replicate l.toArray.size false) := by simpa using hr0
  have inv0 : HeadInv .any l.toArray n (Array.replicate l.toArray.size false) :=
    ⟨by simp, fun j oj _ hl => (by rw [getD_replicate_false] at hl; cases hl), fun t _ ht => getD_in (by simpa using ht) (getD_replicate_false _ _)⟩
  have inv1 := inv0.set hr0' hn0
  have H := late_lex (P := P) (C := fun w' => ∃ p : Regrown, w' = grow (redrawn w p.d) p.os) (md := .any) (g := l.toArray.size - n) hsel hs hc hn ((l.take n).drop 1) 1 _ (a.put o.dst v) (Nat.le_refl _)
    (fun j hj => by rw [htl] at hj; rw [List.getElem?_drop, List.getElem?_take, if_pos (by omega)]; simp) (by rw [htl]; omega) inv1 (by rw [htl]; exact hlex) h
  refine wp_region_any hm ?_
  have e := any_of_head (Q := Qn fun a w => Q .normal a w) (g := l.toArray.size - n) (fun listed a' w' hw' hL => by
    obtain ⟨p, hp'⟩ := hw'
    have := wpAny_of_seq (md := .any) (Q' := Qn fun a w => Q .normal a w) (l.drop n) n listed a' w' (fun j => by simp [List.getElem?_drop]) (by rw [hdl]; exact hL.1) (hL.2 w' (hp' ▸ below_regrown w p.d p.os))
    rwa [hdl] at this) _ _ _ w.drew ⟨⟨w.drawn + 1, #[]⟩, by rw [grow_empty]; rfl⟩ H
  have e2 := any_first (P := P) (md := .any) (Kf := fun a w => Q .normal a w) ho' (Region.noSelect_spec hsel) _ _ a w.drew (Region.free_spec ho' hf0) hr0' hp e
  rw [htl, show n - 1 + (l.toArray.size - n) + 1 = l.toArray.size by omega] at e2
  exact any_qn (fun a w h => h) _ _ _ _ e2
end
end Go.Proofs.Ytklccoodfhejbaa.Qt
namespace Go.Proofs.Ytklccoodfhejbaa.Qt
open Go Go.Sort Go.RowKit

inductive Scr where
  | done : Scr
  | pure : Nat → Scr → Scr
  | only : Nat → Scr → Scr
  | two : Nat → Nat → Scr → Scr → Scr
  | three : Nat → Nat → Nat → Scr → Scr → Scr → Scr

def Scr.len : Scr → Nat
  | .done => 0
  | .pure _ s => s.len + 1
  | .only _ s => s.len + 1
  | .two _ _ s _ => s.len + 1
  | .three _ _ _ s _ _ => s.len + 1

section
variable {P : Program} {ops : Array Oper} {md : Region.Mode}

def treeB (md : Region.Mode) (ops : Array Oper) : Scr → Array Bool → Bool
  | .done, listed => (Region.ready md ops listed).isEmpty
  | .pure k s, listed => (Region.ready md ops listed).contains k && Region.free md ops listed k && treeB md ops s (listed.setIfInBounds k true)
  | .only k s, listed => decide (Region.ready md ops listed = [k]) && treeB md ops s (listed.setIfInBounds k true)
  | .two j k s t, listed => decide (Region.ready md ops listed = [j, k]) && decide (s.len = t.len) && treeB md ops s (listed.setIfInBounds j true) && treeB md ops t (listed.setIfInBounds k true)
  | .three i j k r s t, listed => decide (Region.ready md ops listed = [i, j, k]) && decide (r.len = s.len) && decide (r.len = t.len) && treeB md ops r (listed.setIfInBounds i true) && treeB md ops s (listed.setIfInBounds j true) && treeB md ops t (listed.setIfInBounds k true)
def treeW (P : Program) (ops : Array Oper) (Kf : Act → World → Prop) : Scr → Act → World → Prop
  | .done, a, w => Kf a w
  | .pure k s, a, w => ∃ (o : Oper) (d : Option Tmp) (v : Value), ops[k]? = some o ∧ o.dst = d ∧ PureV P ops o v a ∧ treeW P ops Kf s (a.put d v) w
  | .only k s, a, w => ∃ o : Oper, ops[k]? = some o ∧ wpList P ops (Qn (treeW P ops Kf s)) [o] a w
  | .two j k s t, a, w => (∃ o : Oper, ops[j]? = some o ∧ wpList P ops (Qn (treeW P ops Kf s)) [o] a w) ∧ ∃ o : Oper, ops[k]? = some o ∧ wpList P ops (Qn (treeW P ops Kf t)) [o] a w
  | .three i j k r s t, a, w => (∃ o : Oper, ops[i]? = some o ∧ wpList P ops (Qn (treeW P ops Kf r)) [o] a w) ∧ (∃ o : Oper, ops[j]? = some o ∧ wpList P ops (Qn (treeW P ops Kf s)) [o] a w) ∧ ∃ o : Oper, ops[k]? = some o ∧ wpList P ops (Qn (treeW P ops Kf t)) [o] a w

theorem any_tree {Kf : Act → World → Prop} (hsel : Region.noSelect ops = true) (s : Scr) :
    ∀ (listed : Array Bool) (a : Act) (w : World), treeB md ops s listed = true → treeW P ops Kf s a w → wpAny P md ops (Qn Kf) s.len listed a w := by
  induction s with
  | done =>
    intro listed a w hB h
    exact ⟨by simpa [treeB] using hB, rfl, h⟩
  | pure k s ih =>
    intro listed a w hB h
    obtain ⟨o, d, v, ho, hd, hp, hrest⟩ := h
    subst hd
    simp only [treeB, Bool.and_eq_true] at hB
    exact any_first ho (Region.noSelect_spec hsel) _ listed a w (Region.free_spec ho hB.1.2) (by simpa using hB.1.1) hp (ih _ _ _ hB.2 hrest)
  | only k s ih =>
    intro listed a w hB h
    obtain ⟨o, ho, h⟩ := h
    simp only [treeB, Bool.and_eq_true, decide_eq_true_eq] at hB
    refine ⟨fun h1 => (by rw [hB.1] at h1; cases h1), fun i hi => ?_⟩
    rw [hB.1] at hi
    obtain rfl : i = k := by simpa using hi
    have hw : wpOp P ops (Qn (treeW P ops Kf s)) i (wpList P ops (Qn (treeW P ops Kf s)) []) a w := by unfold wpOp; simp only [ho]; exact h
    exact wpOp_qn (fun a' w' h' => ih _ a' w' hB.2 h'.2) hw
  | two j k s t ihs iht =>
    intro listed a w hB h
    obtain ⟨⟨o, ho, h1⟩, ⟨o', ho', h2⟩⟩ := h
    simp only [treeB, Bool.and_eq_true, decide_eq_true_eq] at hB
    obtain ⟨⟨⟨hr, hl⟩, hs⟩, ht⟩ := hB
    refine ⟨fun h1 => (by rw [hr] at h1; cases h1), fun i hi => ?_⟩
    rw [hr] at hi
    simp only [List.mem_cons, List.not_mem_nil, or_false] at hi
    rcases hi with rfl | rfl
    · have hw : wpOp P ops (Qn (treeW P ops Kf s)) i (wpList P ops (Qn (treeW P ops Kf s)) []) a w := by unfold wpOp; simp only [ho]; exact h1
      exact wpOp_qn (fun a' w' h' => ihs _ a' w' hs h'.2) hw
    · have hw : wpOp P ops (Qn (treeW P ops Kf t)) i (wpList P ops (Qn (treeW P ops Kf t)) []) a w := by unfold wpOp; simp only [ho']; exact h2
      refine wpOp_qn (fun a' w' h' => ?_) hw
      have := iht _ a' w' ht h'.2
      rwa [← hl] at this
  | three p j k r s t ihr ihs iht =>
    intro listed a w hB h
    obtain ⟨⟨o0, ho0, h0⟩, ⟨o, ho, h1⟩, ⟨o', ho', h2⟩⟩ := h
    simp only [treeB, Bool.and_eq_true, decide_eq_true_eq] at hB
    obtain ⟨⟨⟨⟨⟨hr, hl⟩, hl2⟩, h3⟩, hs⟩, ht⟩ := hB
    refine ⟨fun h1 => (by rw [hr] at h1; cases h1), fun i hi => ?_⟩
    rw [hr] at hi
    simp only [List.mem_cons, List.not_mem_nil, or_false] at hi
    rcases hi with rfl | rfl | rfl
    · have hw : wpOp P ops (Qn (treeW P ops Kf r)) i (wpList P ops (Qn (treeW P ops Kf r)) []) a w := by unfold wpOp; simp only [ho0]; exact h0
      exact wpOp_qn (fun a' w' h' => ihr _ a' w' h3 h'.2) hw
    · have hw : wpOp P ops (Qn (treeW P ops Kf s)) i (wpList P ops (Qn (treeW P ops Kf s)) []) a w := by unfold wpOp; simp only [ho]; exact h1
      refine wpOp_qn (fun a' w' h' => ?_) hw
      have := ihs _ a' w' hs h'.2
      rwa [← hl] at this
    · have hw : wpOp P ops (Qn (treeW P ops Kf t)) i (wpList P ops (Qn (treeW P ops Kf t)) []) a w := by unfold wpOp; simp only [ho']; exact h2
      refine wpOp_qn (fun a' w' h' => ?_) hw
      have := iht _ a' w' ht h'.2
      rwa [← hl2] at this

theorem region_tree {id : Nat} {Q : Exit → Act → World → Prop} {a : Act} {w : World} {l : List Oper} (s : Scr) (hm : P.follows .mixedOrders = true) (hsel : Region.noSelect l.toArray = true)
    (hB : treeB .any l.toArray s (Array.replicate l.toArray.size false) = true) (hlen : s.len = l.length)
    (h : treeW P l.toArray (fun a w => Q .normal a w) s a w.drew) : (Code.region id l.toArray true).wp P Q a w := by
  refine wp_region_any hm ?_
  have := any_tree (P := P) (md := .any) (Kf := fun a w => Q .normal a w) hsel s _ a w.drew hB h
  rw [hlen] at this
  have e := any_qn (fun a w h => h) _ _ _ _ this
  simpa using e
end
end Go.Proofs.Ytklccoodfhejbaa.Qt
namespace Go.Proofs.Ytklccoodfhejbaa
set_option linter.unusedVariables false
set_option linter.unusedSimpArgs false
open Go.RowKit Go.Sort

/-- three results, the first of which lies in a cell -/
theorem results_cell3 {P : Program} {fn : Func} {p u v : Tmp} {ty : TypeId} (h : fn.results = #[.cell p ty, .tmp u, .tmp v]) (tmps : Array Value) (w : World) (g : Nat) (t : TypeId) (cs : Array Value) (fr : Nat × Nat) (d : TypeDesc)
    (hp : tmps.getD p undef = .pointer (some ⟨g, 0, none⟩)) (hg : w.heap[g]? = some (.cells cs t fr))
    (hu : P.underlying ty = some d) (hd : (match d with | .struct _ | .array _ _ => true | _ => false) = true) (hi : (P.info? ty).map (·.size) = some cs.size) :
    (results fn tmps).run P w = .ok (.tuple #[.agg cs, tmps.getD u undef, tmps.getD v undef]) w := by
  have hp' : tmps[p]?.getD undef = .pointer (some ⟨g, 0, none⟩) := by simpa using hp
  simp [results, h, hp', asAddr, run_loadVar_row w g t ty cs fr d hg hu hd hi]
/-- What is known within Put: the store, the kids, what is to be told. -/
structure PutHead (w wr : World) (A : Option Addr) (n c : Nat) (room : Int) (k : Kd) : Prop where
  store : wr.heap[w.heap.size]? = some (.cells #[.slice A n c, .int .i64 room] 26 (0, 0))
  kids : wr.heap[w.heap.size + 1]? = some (.cells #[.int .i64 k.1, .int .i64 k.2.1, .int .i64 k.2.2.1, .int .i64 k.2.2.2] 33 (0, 0))
  res : wr.heap[w.heap.size + 2]? = some (.cells #[.slice none 0 0, .int .i64 0] 26 (0, 0))
  bel : Below w.heap.size w wr
section
variable {w wr w' : World} {A : Option Addr} {n c : Nat} {room : Int} {k : Kd}
theorem PutHead.below (h : PutHead w wr A n c room k) (hb : Below wr.heap.size wr w') : PutHead w w' A n c room k :=
  ⟨(hb.block _ (lt_heap6 h.store)).trans h.store, (hb.block _ (lt_heap6 h.kids)).trans h.kids, (hb.block _ (lt_heap6 h.res)).trans h.res, Qt.more h.bel h.bel.size hb⟩
theorem PutHead.s0 (h : PutHead w wr A n c room k) : wr.cell? ⟨w.heap.size, 0, none⟩ = some (.slice A n c) := by rw [Lib.cell_of_heap h.store]; rfl
theorem PutHead.s1 (h : PutHead w wr A n c room k) : wr.cell? ⟨w.heap.size, 1, none⟩ = some (.int .i64 room) := by rw [Lib.cell_of_heap h.store]; rfl
theorem PutHead.kid (h : PutHead w wr A n c room k) {i : Nat} (hi : i < 4) : wr.cell? ⟨w.heap.size + 1, i, none⟩ = some (.int .i64 (kd k i)) := by
  rw [Lib.cell_of_heap h.kids]
  match i, hi with
  | 0, _ => rfl
  | 1, _ => rfl
  | 2, _ => rfl
  | 3, _ => rfl
theorem PutHead.r0 (h : PutHead w wr A n c room k) : wr.cell? ⟨w.heap.size + 2, 0, none⟩ = some (.slice none 0 0) := by rw [Lib.cell_of_heap h.res]; rfl
theorem PutHead.r1 (h : PutHead w wr A n c room k) : wr.cell? ⟨w.heap.size + 2, 1, none⟩ = some (.int .i64 0) := by rw [Lib.cell_of_heap h.res]; rfl
theorem PutHead.free (h : PutHead w wr A n c room k) (j : Nat) : wr.frozen? ⟨w.heap.size + 2, j, none⟩ = false := Lib.frozen_of_heap h.res j
/-- what was told -/
theorem PutHead.told (h : PutHead w wr A n c room k) (u v : Value) : ((wr.setCell ⟨w.heap.size + 2, 0, none⟩ u).setCell ⟨w.heap.size + 2, 1, none⟩ v).heap[w.heap.size + 2]? = some (.cells #[u, v] 26 (0, 0)) ∧ Below w.heap.size w ((wr.setCell ⟨w.heap.size + 2, 0, none⟩ u).setCell ⟨w.heap.size + 2, 1, none⟩ v) := by
  have hr := h.res
  refine ⟨?_, (h.bel.setCell (by show _ ≤ _ + 2; omega) _).setCell (by show _ ≤ _ + 2; omega) _⟩
  simp [World.setCell, Array.getElem?_modify, hr]
end
theorem putHead_0 (w : World) (A : Option Addr) (n c : Nat) (room : Int) (k : Kd) : PutHead w (((w.alloc (.cells #[.slice A n c, .int .i64 room] 26)).alloc (.cells #[.int .i64 k.1, .int .i64 k.2.1, .int .i64 k.2.2.1, .int .i64 k.2.2.2] 33)).alloc (.cells #[.slice none 0 0, .int .i64 0] 26)) A n c room k := by
  have h1 := atHead_0 w A n c room k
  have hs := lt_heap6 h1.kids
  have hsz : ((w.alloc (.cells #[.slice A n c, .int .i64 room] 26)).alloc (.cells #[.int .i64 k.1, .int .i64 k.2.1, .int .i64 k.2.2.1, .int .i64 k.2.2.2] 33)).heap.size = w.heap.size + 2 := by simp
  refine ⟨(Lib.alloc_old _ _ _ (by omega)).trans h1.store, (Lib.alloc_old _ _ _ (by omega)).trans h1.kids, ?_, h1.bel.alloc (by omega) _⟩
  rw [← hsz]
  exact heap_alloc_new ((w.alloc (.cells #[.slice A n c, .int .i64 room] 26)).alloc (.cells #[.int .i64 k.1, .int .i64 k.2.1, .int .i64 k.2.2.1, .int .i64 k.2.2.2] 33)) _
theorem put_no {l : List Nd} {room : Int} {k : Kd} {i : Nat} (hi : i < 4) (h : kidB l l.length (ndAt l k.1).1 (kd k i) = false) : put6 l room k = (l, 0, 1) := by
  unfold put6
  rw [if_pos]
  rw [Bool.eq_false_iff]
  intro hk
  have := kidsB_iff.1 hk i hi
  rw [h] at this
  cases this
theorem put_yes {l : List Nd} {room : Int} {k : Kd} (h : ∀ i, i < 4 → kidB l l.length (ndAt l k.1).1 (kd k i) = true) :
    (42 < (ndAt l k.1).1 + 1 → put6 l room k = (l, 0, 1)) ∧ (¬ 42 < (ndAt l k.1).1 + 1 → (∀ n, at6 l k = some n → put6 l room k = (l, (n : Int), 0)) ∧ (at6 l k = none → (room ≤ l.length → put6 l room k = (l, 0, 40)) ∧ (¬ room ≤ l.length → put6 l room k = (l ++ [((ndAt l k.1).1 + 1, k, popTo l k 4)], (l.length : Int), 0)))) := by
  have hk := kidsB_iff.2 h
  unfold put6
  rw [if_neg (by rw [hk]; decide)]
  refine ⟨fun h1 => by rw [if_pos h1], fun h1 => ?_⟩
  rw [if_neg h1]
  refine ⟨fun n hn => by rw [hn], fun hn => ?_⟩
  rw [hn]
  exact ⟨fun h2 => by simp only; rw [if_pos h2], fun h2 => by simp only; rw [if_neg h2]⟩
/-- What Put answers. -/
def PutR (p : List Nd × Int × Int) (room : Int) (w : World) (e : Ending) (w' : World) : Prop :=
  ∃ v, e = .returned (.tuple #[.agg #[v, .int .i64 room], .int .i64 p.2.1, .int .i64 p.2.2]) ∧ ReadsN w' v p.1 ∧ Below w.heap.size w w'

end Go.Proofs.Ytklccoodfhejbaa
namespace Go.Proofs.Ytklccoodfhejbaa
set_option linter.unusedVariables false
set_option linter.unusedSimpArgs false
open Go.RowKit Go.Sort

theorem but_set {b : Nat} {w : World} (j : Nat) (u : Value) : w.grownBy (w.setCell ⟨b, j, none⟩ u) (some b) := by
  have h := (Below.refl b w).setCell (p := ⟨b, j, none⟩) (Nat.le_refl _) u
  refine ⟨h.os, h.tape, h.output, h.size, fun k hk hne => ?_⟩
  have hkb : k ≠ b := fun e => hne (by rw [e])
  simp [World.setCell, Array.getElem?_modify, Ne.symm hkb]

theorem below_drewN6 (w : World) : Below w.heap.size w w.drew := (Below.refl _ _).drew
theorem ownN_kind {w : World} {B T s : Nat} {v : Value} {n : Nat} {xs : List Value} (h : w.ownsRow B T s v n xs) : ∀ k, v.ownBlock = some k → B ≤ k ∧ k < w.heap.size ∧ ∃ c fz, w.heap[k]? = some (.cells c T fz) := by
  intro k hk
  have hl := World.ownsRow.lt h k hk
  rcases h.2 with ⟨rfl, h0⟩ | ⟨g, cap, cur, rfl, hB, hg, _⟩
  · simp [Value.ownBlock] at hk
  · simp [Value.ownBlock] at hk
    subst hk
    exact ⟨hl.1, hl.2, _, _, hg⟩
/-- What is known once the nodes are copied. -/
structure NewAt (w wr : World) (A : Option Addr) (n c : Nat) (room : Int) (k : Kd) (l : List Nd) (g B : Nat) (v : Value) : Prop where
  head : PutHead w wr A n c room k
  row : wr.heap[g]? = some (.cells #[v, .int .i64 room] 26 (0, 0))
  own : OwnN wr B v l
  lo : w.heap.size + 3 ≤ B
  gB : B ≤ g ∨ w.heap.size + 3 ≤ g
  hB : B ≤ wr.heap.size
theorem PutHead.size {w wr : World} {A : Option Addr} {n c : Nat} {room : Int} {k : Kd} (h : PutHead w wr A n c room k) : w.heap.size + 3 ≤ wr.heap.size := lt_heap6 h.res
theorem NewAt.ne {w wr : World} {A : Option Addr} {n c : Nat} {room : Int} {k : Kd} {l : List Nd} {g B : Nat} {v : Value} (h : NewAt w wr A n c room k l g B v) : v.ownBlock ≠ some g := by
  intro e
  obtain ⟨_, _, cs, fz, hc⟩ := ownN_kind h.own g e
  rw [h.row] at hc
  injection hc with hc
  injection hc with _ hc _
  exact absurd hc (by decide)
theorem set_row {w : World} {g T : Nat} {a b u v : Value} (h : w.heap[g]? = some (.cells #[a, b] T (0, 0))) : ((w.setCell ⟨g, 0, none⟩ u).setCell ⟨g, 1, none⟩ v).heap[g]? = some (.cells #[u, v] T (0, 0)) := by
  simp [World.setCell, Array.getElem?_modify, h]
/-- the copy is made first -/
theorem newAt_copy {w w1 wa : World} {A : Option Addr} {n c : Nat} {room : Int} {k : Kd} {l : List Nd} {v : Value} (H : PutHead w w1 A n c room k) (ho : OwnN wa w1.heap.size v l) (hg : w1.drew.grownBy wa none) :
    NewAt w (wa.alloc (.cells #[v, .int .i64 room] 26)) A n c room k l wa.heap.size w1.heap.size v := by
  have hb0 : Below w1.heap.size w1 wa := (below_drewN6 w1).grown hg (Nat.le_refl _) (fun k e => by cases e)
  have hb1 := hb0.alloc hb0.size (.cells #[v, .int .i64 room] 26)
  exact ⟨H.below hb1, heap_alloc_new wa _, World.ownsRow.alloc ho _, H.size, .inl hb0.size, hb1.size⟩
/-- the new store's row is made first -/
theorem newAt_row {w w1 wb : World} {A : Option Addr} {n c : Nat} {room : Int} {k : Kd} {l : List Nd} {v : Value} (H : PutHead w w1 A n c room k) (ho : OwnN wb (w1.heap.size + 1) v l) (hg : (w1.drew.alloc (.cells #[.slice none 0 0, .int .i64 0] 26)).grownBy wb none) :
    NewAt w ((wb.setCell ⟨w1.heap.size, 0, none⟩ v).setCell ⟨w1.heap.size, 1, none⟩ (.int .i64 room)) A n c room k l w1.heap.size (w1.heap.size + 1) v := by
  have hsz : (w1.drew.alloc (.cells #[.slice none 0 0, .int .i64 0] 26)).heap.size = w1.heap.size + 1 := by
    show (w1.heap.push _).size = _
    simp
  have hb0 : Below w1.heap.size w1 wb := ((below_drewN6 w1).alloc (Nat.le_refl _) _).grown hg (by omega) (fun k e => by cases e)
  have hrow : wb.heap[w1.heap.size]? = some (.cells #[.slice none 0 0, .int .i64 0] 26 (0, 0)) := by
    rw [hg.block w1.heap.size (by omega) (by simp)]
    exact heap_alloc_new w1.drew _
  have hb2 := (hb0.setCell (p := ⟨w1.heap.size, 0, none⟩) (Nat.le_refl _) v).setCell (p := ⟨w1.heap.size, 1, none⟩) (Nat.le_refl _) (.int .i64 room)
  have hne : v.ownBlock = none ∨ v.ownBlock ≠ some w1.heap.size := by
    cases hv : v.ownBlock with
    | none => exact .inl rfl
    | some q => exact .inr (fun e => by injection e with e; have := (ownN_kind ho q hv).1; omega)
  refine ⟨H.below hb2, set_row hrow, ?_, by have := H.size; omega, .inr H.size, ?_⟩
  · exact World.ownsRow.kept (World.ownsRow.kept ho (but_set 0 _) hne) (but_set 1 _) hne
  · have := lt_heap6 (set_row (u := v) (v := .int .i64 room) hrow)
    omega
/-- one node more, and the row told -/
theorem newAt_push {w wr w' : World} {A : Option Addr} {n c : Nat} {room : Int} {k : Kd} {l : List Nd} {g B : Nat} {v v' : Value} {o : Obj} {x : Nd} (h : NewAt w wr A n c room k l g B v) (ho : OwnN w' B v' (l ++ [x])) (hg : (wr.alloc o).grownBy w' v.ownBlock) :
    NewAt w (w'.setCell ⟨g, 0, none⟩ v') A n c room k (l ++ [x]) g B v' := by
  have hgl := lt_heap6 h.row
  have hsz : (wr.alloc o).heap.size = wr.heap.size + 1 := by simp
  have hbB : Below B wr w' := ((Below.refl B wr).alloc h.hB o).grown hg (by have := h.hB; omega) (fun q e => (ownN_kind h.own q e).1)
  have hrow : w'.heap[g]? = some (.cells #[v, .int .i64 room] 26 (0, 0)) := by
    rw [hg.block g (by omega) (fun e => h.ne e.symm), Lib.alloc_old _ _ _ hgl]
    exact h.row
  have hne : v'.ownBlock ≠ some g := by
    intro e
    obtain ⟨_, _, cs, fz, hc⟩ := ownN_kind ho g e
    rw [hrow] at hc
    injection hc with hc
    injection hc with _ hc _
    exact absurd hc (by decide)
  have hlo := h.lo
  have hg3 : w.heap.size + 3 ≤ g := by rcases h.gB with h1 | h1 <;> omega
  have hkeep : ∀ q, q < w.heap.size + 3 → (w'.setCell ⟨g, 0, none⟩ v').heap[q]? = wr.heap[q]? := by
    intro q hq
    rw [Below.heap_setCell _ _ _ _ (by simp; omega)]
    exact hbB.block q (by omega)
  have hbel : Below w.heap.size w (w'.setCell ⟨g, 0, none⟩ v') := (h.head.bel.trans (hbB.mono (by omega))).setCell (by show _ ≤ g; omega) _
  refine ⟨⟨(hkeep _ (by omega)).trans h.head.store, (hkeep _ (by omega)).trans h.head.kids, (hkeep _ (by omega)).trans h.head.res, hbel⟩, ?_, World.ownsRow.kept ho (but_set 0 _) (.inr hne), h.lo, h.gB, ?_⟩
  · simp [World.setCell, Array.getElem?_modify, hrow]
  · have h1 := hbB.size
    have h2 : (w'.setCell ⟨g, 0, none⟩ v').heap.size = w'.heap.size := by simp [World.setCell]
    have := h.hB
    omega
/-- the row, before the new node is told in it -/
theorem newAt_keep {w wr w' : World} {A : Option Addr} {n c : Nat} {room : Int} {k : Kd} {l : List Nd} {g B : Nat} {v : Value} {o : Obj} (h : NewAt w wr A n c room k l g B v) (hg : (wr.alloc o).grownBy w' v.ownBlock) :
    w'.heap[g]? = some (.cells #[v, .int .i64 room] 26 (0, 0)) := by
  have hgl := lt_heap6 h.row
  have hsz : (wr.alloc o).heap.size = wr.heap.size + 1 := by simp
  rw [hg.block g (by omega) (fun e => h.ne e.symm), Lib.alloc_old _ _ _ hgl]
  exact h.row
/-- A region that draws its order, by a script, to what is known at its end. -/
theorem region_tree_to {P : Program} {id : Nat} {Q : Exit → Act → World → Prop} {a : Act} {w : World} {l : List Oper} (R : Act → Act → World → Prop) (s : Qt.Scr) (hm : P.follows .mixedOrders = true) (hsel : Region.noSelect l.toArray = true)
    (hB : Qt.treeB .any l.toArray s (Array.replicate l.toArray.size false) = true) (hlen : s.len = l.length)
    (h : Qt.treeW P l.toArray (R a) s a w.drew) (hQ : ∀ a' w', R a a' w' → Q .normal a' w') : (Code.region id l.toArray true).wp P Q a w := by
  refine wp_region_any hm ?_
  have := Qt.any_tree (P := P) (md := .any) (Kf := R a) hsel s _ a w.drew hB h
  rw [hlen] at this
  have e := Qt.any_qn hQ _ _ _ _ this
  simpa using e
end Go.Proofs.Ytklccoodfhejbaa
