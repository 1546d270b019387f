/-
  Texts that the claims of this seat share, part 1.
-/
import Derived.Test.YtmmaeikeafemaaaGreatB00
set_option linter.unusedVariables false
set_option linter.unusedSimpArgs false
namespace Go.Proofs.YtmmaeikeafemaaaGreat
set_option linter.unusedVariables false
set_option linter.unusedSimpArgs false
open Go.RowKit Go.Sort

def kidsV (k : Kd) : Value := .agg #[.int .i64 k.1, .int .i64 k.2.1, .int .i64 k.2.2.1, .int .i64 k.2.2.2]
def nodeV (x : Nd) : Value := .agg #[.int .i64 x.1, .int .i64 x.2.1.1, .int .i64 x.2.1.2.1, .int .i64 x.2.1.2.2.1, .int .i64 x.2.1.2.2.2, .int .i64 x.2.2]
theorem kd_eq (x y : Kd) : (x.1 == y.1 && (x.2.1 == y.2.1 && (x.2.2.1 == y.2.2.1 && x.2.2.2 == y.2.2.2))) = decide (x = y) := by
  obtain ⟨a, b, c, d⟩ := x
  obtain ⟨a', b', c', d'⟩ := y
  rw [Bool.eq_iff_iff]
  simp
theorem eqK_at (n : Nat) (a b c d a' b' c' d' : Int) (w : World) : (Op.equalIn (n + 1 + 1) 55 (.agg #[.int .i64 a, .int .i64 b, .int .i64 c, .int .i64 d]) (.agg #[.int .i64 a', .int .i64 b', .int .i64 c', .int .i64 d'])).run Tryz.prog w = .ok (a == a' && (b == b' && (c == c' && d == d'))) w := by
  have u3 := Tryz.underlying3
  have a3 := Tryz.isAgg3
  have z3 := Tryz.sizeOf3
  rw [Op.equalIn]
  simp only [Sem.run_bind, run_underlying Tryz.underlying55, Result.andThen_ok]
  simp only [Std.Legacy.Range.forIn_eq_forIn_range', Std.Legacy.Range.size, Nat.sub_zero, Nat.add_sub_cancel, Nat.div_one, List.range'_succ, List.range'_zero, List.forIn_cons, List.forIn_nil]
  go_simp
  by_cases h1 : a = a' <;> by_cases h2 : b = b' <;> by_cases h3 : c = c' <;> by_cases h4 : d = d' <;> simp [h1, h2, h3, h4]
theorem eqlK (x y : Kd) (w : World) : (binOp .eql 55 (.agg #[.int .i64 x.1, .int .i64 x.2.1, .int .i64 x.2.2.1, .int .i64 x.2.2.2]) (.agg #[.int .i64 y.1, .int .i64 y.2.1, .int .i64 y.2.2.1, .int .i64 y.2.2.2])).run Tryz.prog w = .ok (.bool (decide (x = y))) w := by
  rw [run_eql_struct, show (10000 : Nat) = 9998 + 1 + 1 from rfl, eqK_at, kd_eq]
  rfl

/-- a store as it comes in -/
def storeV (A : Option Addr) (n c : Nat) (room : Int) : Value := .agg #[.slice A n c, .int .i64 room]
def atV (o : Option Nat) : Int := match o with | some n => (n : Int) | none => -1
/-- What is known at the head of the loop. -/
structure AtHead (w wr : World) (A : Option Addr) (n c : Nat) (room : Int) (k : Kd) : Prop where
  store : wr.heap[w.heap.size]? = some (.cells #[.slice A n c, .int .i64 room] 26 (0, 0))
  kids : wr.heap[w.heap.size + 1]? = some (.cells #[.int .i64 k.1, .int .i64 k.2.1, .int .i64 k.2.2.1, .int .i64 k.2.2.2] 55 (0, 0))
  bel : Below w.heap.size w wr
theorem lt_heap6 {w : World} {k : Nat} {o : Obj} (h : w.heap[k]? = some o) : k < w.heap.size := (Array.getElem?_eq_some_iff.1 h).1
theorem AtHead.below {w wr w' : World} {A : Option Addr} {n c : Nat} {room : Int} {k : Kd} (h : AtHead w wr A n c room k) (hb : Below wr.heap.size wr w') : AtHead w w' A n c room k :=
  ⟨(hb.block _ (lt_heap6 h.store)).trans h.store, (hb.block _ (lt_heap6 h.kids)).trans h.kids, Qt.more h.bel h.bel.size hb⟩
theorem atHead_0 (w : World) (A : Option Addr) (n c : Nat) (room : Int) (k : Kd) : AtHead w ((w.alloc (.cells #[.slice A n c, .int .i64 room] 26)).alloc (.cells #[.int .i64 k.1, .int .i64 k.2.1, .int .i64 k.2.2.1, .int .i64 k.2.2.2] 55)) A n c room k := by
  have hb1 : Below w.heap.size w (w.alloc (.cells #[.slice A n c, .int .i64 room] 26)) := (Below.refl _ _).alloc (Nat.le_refl _) _
  have hs1 : (w.alloc (.cells #[.slice A n c, .int .i64 room] 26)).heap.size = w.heap.size + 1 := by simp
  refine ⟨?_, ?_, hb1.alloc (by omega) _⟩
  · rw [Lib.alloc_old _ _ _ (by omega)]
    exact heap_alloc_new w _
  · rw [← hs1]
    exact heap_alloc_new (w.alloc (.cells #[.slice A n c, .int .i64 room] 26)) _

set_option maxHeartbeats 4000000 in
set_option maxRecDepth 100000 in
theorem refAt_any (A : Option Addr) (l : List Nd) (c : Nat) (room : Int) (k : Kd) (w : World) (hR : RdN w w.heap.size A l) (hl : l.length ≤ 1000000) :
    Calls Tryz.prog 86 #[storeV A l.length c room, kidsV k] w fun e w' => e = .returned (.int .i64 (atV (at6 l k))) ∧ Below w.heap.size w w' := by
  have HH0 := Lib.hid (atHead_0 w A l.length c room k)
  obtain ⟨r, hr⟩ : ∃ r, r = at6 l k := ⟨_, rfl⟩
  rw [← hr]
  have hat0 : Hid (2 ≤ l.length → atFrom l k 2 (l.length - 2) = r) := fun _ => hr.symm
  have HR0 := Lib.hid hr
  have heql := eqlK
  unfold storeV kidsV
  clear hr
  go_enter Tryz.func86, Tryz.ntmps86
  go_wp2
  go_loopw [5] (fun i wr => ∃ j : Nat, 2 ≤ j ∧ (j ≤ l.length ∨ j = 2) ∧ i = .int .i64 j ∧ Hid (AtHead w wr A l.length c room k ∧ (j ≤ l.length → atFrom l k j (l.length - j) = r))) (fun i _ => l.length - (intOf i).toNat)
  case atStart => exact ⟨2, Nat.le_refl _, .inr rfl, rfl, HH0.out, hat0.out⟩
  case round =>
    obtain ⟨j, hj2, hj, rfl, HH⟩ := hrel
    have H := HH.out.1
    have s0 : wr.cell? ⟨w.heap.size, 0, none⟩ = some (.slice A l.length c) := by rw [Lib.cell_of_heap H.store]; rfl
    by_cases hlt : j < l.length
    · have hltz : (j : Int) < (l.length : Int) := by omega
      obtain ⟨b0, off, rfl, hbB, hcell⟩ := hR.at_ (by omega)
      obtain ⟨n0, n1, n2, n3, n4, n5⟩ := hcell j hlt
      obtain ⟨⟨lv, kk, pp⟩, hx⟩ : ∃ x, x = l.getD j deadN := ⟨_, rfl⟩
      rw [← hx] at n0 n1 n2 n3 n4 n5
      simp only at n0 n1 n2 n3 n4 n5
      have hstep : (if kk = k then some j else atFrom l k (j + 1) (l.length - (j + 1))) = r := by
        have h1 := HH.out.2 (by omega)
        rw [show l.length - j = (l.length - (j + 1)) + 1 by omega] at h1
        unfold atFrom at h1
        rw [← hx] at h1
        exact h1
      have HS := Lib.hid hstep
      have q1 := Qt.cell_in (Qt.keep H.bel n1)
      have q2 := Qt.cell_in (Qt.keep H.bel n2)
      have q3 := Qt.cell_in (Qt.keep H.bel n3)
      have q4 := Qt.cell_in (Qt.keep H.bel n4)
      have p0 := Qt.cell_in s0
      have k0 : wr.cell? ⟨w.heap.size + 1, 0, none⟩ = some (.int .i64 k.1) := by rw [Lib.cell_of_heap H.kids]; rfl
      have k1 : wr.cell? ⟨w.heap.size + 1, 1, none⟩ = some (.int .i64 k.2.1) := by rw [Lib.cell_of_heap H.kids]; rfl
      have k2 : wr.cell? ⟨w.heap.size + 1, 2, none⟩ = some (.int .i64 k.2.2.1) := by rw [Lib.cell_of_heap H.kids]; rfl
      have k3 : wr.cell? ⟨w.heap.size + 1, 3, none⟩ = some (.int .i64 k.2.2.2) := by rw [Lib.cell_of_heap H.kids]; rfl
      have p1 := Qt.cell_in k0
      have p2 := Qt.cell_in k1
      have p3 := Qt.cell_in k2
      have p4 := Qt.cell_in k3
      have he := fun W => heql kk k W
      clear hstep hx hcell n0 n1 n2 n3 n4 n5 k0 k1 k2 k3 heql HR0 hat0 HH0
      go_wp2_with fail
      refine Qt.below_all (by kernel_rfl) (by kernel_rfl) ?_
      repeat (go_big_quiet_step (fail))
      refine wpQuiet_nil ?_
      intro w1 hb1
      have H1 := H.below hb1
      clear p0 p1 p2 p3 p4 q1 q2 q3 q4 he s0 H
      by_cases hkk : kk = k
      · have hrr := HS.out
        rw [if_pos hkk] at hrr
        subst hrr
        have hbel := H1.bel
        clear HS HH
        go_wp2
        go_ret
        exact ⟨rfl, hbel⟩
      · have hrr := HS.out
        rw [if_neg hkk] at hrr
        have HN : Hid (AtHead w w1 (some ⟨b0, off, none⟩) l.length c room k ∧ (j + 1 ≤ l.length → atFrom l k (j + 1) (l.length - (j + 1)) = r)) := ⟨H1, fun _ => hrr⟩
        clear HS HH hrr H1
        go_wp2
        go_roundw
        case measure => simp [intOf]; omega
        case rel => exact ⟨j + 1, by omega, .inl (by omega), by go_num, HN.out⟩
    · have hltz : ¬ (j : Int) < (l.length : Int) := by omega
      have hrr : r = none := by
        rw [HR0.out]
        by_cases h2 : 2 ≤ l.length
        · have h1 := HH.out.2 (by omega)
          rw [show l.length - j = 0 by omega] at h1
          rw [← HR0.out, ← h1]
          rfl
        · unfold at6
          rw [show l.length - 2 = 0 by omega]
          rfl
      subst hrr
      have hbel := H.bel
      clear HH HR0 hat0 HH0 H
      go_wp2
      go_ret
      exact ⟨rfl, hbel⟩
end Go.Proofs.YtmmaeikeafemaaaGreat
namespace Go.Proofs.YtmmaeikeafemaaaGreat
set_option linter.unusedVariables false
set_option linter.unusedSimpArgs false
open Go.RowKit Go.Sort

/-- What is known within fits: the store, the node. -/
structure FitHead (w wr : World) (A : Option Addr) (n c : Nat) (room : Int) (x : Nd) : Prop where
  store : wr.heap[w.heap.size]? = some (.cells #[.slice A n c, .int .i64 room] 26 (0, 0))
  node : wr.heap[w.heap.size + 1]? = some (.cells #[.int .i64 x.1, .int .i64 x.2.1.1, .int .i64 x.2.1.2.1, .int .i64 x.2.1.2.2.1, .int .i64 x.2.1.2.2.2, .int .i64 x.2.2] 57 (0, 0))
  bel : Below w.heap.size w wr
section
variable {w wr w' : World} {A : Option Addr} {n c : Nat} {room : Int} {x : Nd}
theorem FitHead.below (h : FitHead w wr A n c room x) (hb : Below wr.heap.size wr w') : FitHead w w' A n c room x :=
  ⟨(hb.block _ (lt_heap6 h.store)).trans h.store, (hb.block _ (lt_heap6 h.node)).trans h.node, Qt.more h.bel h.bel.size hb⟩
theorem FitHead.s0 (h : FitHead w wr A n c room x) : wr.cell? ⟨w.heap.size, 0, none⟩ = some (.slice A n c) := by rw [Lib.cell_of_heap h.store]; rfl
theorem FitHead.s1 (h : FitHead w wr A n c room x) : wr.cell? ⟨w.heap.size, 1, none⟩ = some (.int .i64 room) := by rw [Lib.cell_of_heap h.store]; rfl
theorem FitHead.lv (h : FitHead w wr A n c room x) : wr.cell? ⟨w.heap.size + 1, 0, none⟩ = some (.int .i64 x.1) := by rw [Lib.cell_of_heap h.node]; rfl
theorem FitHead.pop (h : FitHead w wr A n c room x) : wr.cell? ⟨w.heap.size + 1, 5, none⟩ = some (.int .i64 x.2.2) := by rw [Lib.cell_of_heap h.node]; rfl
theorem FitHead.kid (h : FitHead w wr A n c room x) {i : Nat} (hi : i < 4) : wr.cell? ⟨w.heap.size + 1, 1 + i, none⟩ = some (.int .i64 (kd x.2.1 i)) := by
  rw [Lib.cell_of_heap h.node]
  match i, hi with
  | 0, _ => rfl
  | 1, _ => rfl
  | 2, _ => rfl
  | 3, _ => rfl
end
theorem fitHead_0 (w : World) (A : Option Addr) (n c : Nat) (room : Int) (x : Nd) : FitHead w ((w.alloc (.cells #[.slice A n c, .int .i64 room] 26)).alloc (.cells #[.int .i64 x.1, .int .i64 x.2.1.1, .int .i64 x.2.1.2.1, .int .i64 x.2.1.2.2.1, .int .i64 x.2.1.2.2.2, .int .i64 x.2.2] 57)) A n c room x := by
  have hb1 : Below w.heap.size w (w.alloc (.cells #[.slice A n c, .int .i64 room] 26)) := (Below.refl _ _).alloc (Nat.le_refl _) _
  have hs1 : (w.alloc (.cells #[.slice A n c, .int .i64 room] 26)).heap.size = w.heap.size + 1 := by simp
  refine ⟨?_, ?_, hb1.alloc (by omega) _⟩
  · rw [Lib.alloc_old _ _ _ (by omega)]
    exact heap_alloc_new w _
  · rw [← hs1]
    exact heap_alloc_new (w.alloc (.cells #[.slice A n c, .int .i64 room] 26)) _
theorem fits_no {l : List Nd} {n i : Nat} (hi : i < 4) (h : kidB l n ((l.getD n deadN).1 - 1) (kd (l.getD n deadN).2.1 i) = false) : fits6 l n = false := by
  rw [Bool.eq_false_iff]
  intro hf
  unfold fits6 at hf
  simp only [Bool.and_eq_true] at hf
  have := kidsB_iff.1 hf.1.1.1.1 i hi
  rw [h] at this
  cases this
/-- what is left to ask, where the kids are right -/
def lastB (l : List Nd) (n : Nat) : Bool := decide (1 ≤ (l.getD n deadN).1) && decide ((l.getD n deadN).1 ≤ 42) && decide ((l.getD n deadN).2.2 = popTo l (l.getD n deadN).2.1 4) && decide (at6 l (l.getD n deadN).2.1 = some n)
theorem fits_last {l : List Nd} {n : Nat} (h : ∀ i, i < 4 → kidB l n ((l.getD n deadN).1 - 1) (kd (l.getD n deadN).2.1 i) = true) : fits6 l n = lastB l n := by
  unfold fits6 lastB
  rw [kidsB_iff.2 h, Bool.true_and]

set_option maxHeartbeats 4000000 in
set_option maxRecDepth 100000 in
theorem refFits_any (A : Option Addr) (l : List Nd) (c : Nat) (room : Int) (n : Nat) (w : World) (hR : RdN w w.heap.size A l) (hl : l.length ≤ 1000000) (hn : n < l.length)
    (hb : ∀ i, i < n → 0 ≤ (l.getD i deadN).1 ∧ (l.getD i deadN).1 ≤ 42 ∧ 0 ≤ (l.getD i deadN).2.2 ∧ (l.getD i deadN).2.2 ≤ 4611686018427387903) (hw : -9223372036854775807 ≤ (l.getD n deadN).1 ∧ (l.getD n deadN).1 ≤ 9223372036854775807) :
    Calls Tryz.prog 62 #[storeV A l.length c room, .int .i64 n] w fun e w' => e = .returned (.bool (fits6 l n)) ∧ Below w.heap.size w w' := by
  have HH0 := Lib.hid (fitHead_0 w A l.length c room (l.getD n deadN))
  obtain ⟨b0, off, rfl, hbB, hcell⟩ := hR.at_ (by omega)
  obtain ⟨n0, n1, n2, n3, n4, n5⟩ := hcell n hn
  obtain ⟨r, hr⟩ : ∃ r, r = fits6 l n := ⟨_, rfl⟩
  have hno := fun i hi h => fits_no (l := l) (n := n) (i := i) hi h
  have hlast := fits_last (l := l) (n := n)
  rw [← hr] at hno hlast ⊢
  have hat := fun W hR => refAt_any (some ⟨b0, off, none⟩) l c room (l.getD n deadN).2.1 W hR hl
  have hlastB : lastB l n = (decide (1 ≤ (l.getD n deadN).1) && decide ((l.getD n deadN).1 ≤ 42) && decide ((l.getD n deadN).2.2 = popTo l (l.getD n deadN).2.1 4) && decide (at6 l (l.getD n deadN).2.1 = some n)) := rfl
  rw [hlastB] at hlast
  have hnn : n ≤ 1000000 := by omega
  have hnz : (n : Int) < (l.length : Int) := by omega
  generalize l.getD n deadN = x at *
  have HNO := Lib.hid hno
  have HLA := Lib.hid hlast
  have HB := Lib.hid hb
  have HC := Lib.hid hcell
  have HRR := Lib.hid hR
  unfold storeV
  clear hr hno hlast hlastB hb hcell hR
  go_enter Tryz.func62, Tryz.ntmps62
  go_wp2
  clear n0 n1 n2 n3 n4 n5
  go_loopw [6, 7] (fun p i wr => ∃ j : Nat, j ≤ 4 ∧ p = .int .i64 (popTo l x.2.1 j) ∧ i = .int .i64 j ∧ 0 ≤ popTo l x.2.1 j ∧ popTo l x.2.1 j ≤ 4611686018427387903 ∧ Hid (FitHead w wr (some ⟨b0, off, none⟩) l.length c room x ∧ ∀ q, q < j → kidB l n (x.1 - 1) (kd x.2.1 q) = true)) (fun _ i _ => 4 - (intOf i).toNat)
  case atStart => exact ⟨0, by omega, rfl, rfl, Int.le_refl _, (show (0 : Int) ≤ 4611686018427387903 by decide), HH0.out, fun q hq => absurd hq (Nat.not_lt_zero q)⟩
  case round =>
    obtain ⟨j, hj, rfl, rfl, hp0, hp1, HH⟩ := hrel
    have H := HH.out.1
    by_cases hlt : j < 4
    · have hltz : (j : Int) < 4 := by omega
      have kc := H.kid hlt
      have hsucc : popTo l x.2.1 (j + 1) = min (popTo l x.2.1 j + (ndAt l (kd x.2.1 j)).2.2) 4611686018427387903 := rfl
      have hno := HNO.out j hlt
      obtain ⟨K, hK⟩ : ∃ K, K = kd x.2.1 j := ⟨_, rfl⟩
      rw [← hK] at kc hsucc hno
      have e1 := Qt.cell_in kc
      by_cases hneg : K < 0
      · have hf := hno (by unfold kidB; rw [decide_eq_false (by omega)]; rfl)
        subst hf
        have hbel := H.bel
        clear hno HNO HLA HB HC HRR HH0 HH hsucc hK hat
        go_wp2_with fail
        refine Qt.below_all (by kernel_rfl) (by kernel_rfl) ?_
        repeat (go_big_quiet_step (fail))
        refine wpQuiet_nil ?_
        intro w1 hb1
        have hbb := Qt.more hbel hbel.size hb1
        clear e1 kc
        go_wp2
        go_ret
        exact ⟨rfl, hbb⟩
      · obtain ⟨m, rfl⟩ : ∃ m : Nat, K = (m : Int) := ⟨K.toNat, by omega⟩
        have hm0 : ¬ (m : Int) < 0 := hneg
        have hd0 : decide ((m : Int) < 0) = false := decide_eq_false hneg
        by_cases hge : (n : Int) ≤ (m : Int)
        · have hf := hno (by unfold kidB; rw [decide_eq_true (by omega), decide_eq_false (by omega)]; rfl)
          have hd1 : decide (n ≤ m) = true := decide_eq_true (by omega)
          clear hK
          subst hf
          have hbel := H.bel
          clear hno HNO HLA HB HC HRR HH0 HH hsucc hat
          go_wp2_with fail
          refine Qt.below_all (by kernel_rfl) (by kernel_rfl) ?_
          repeat (go_big_quiet_step (fail))
          refine wpQuiet_nil ?_
          intro w1 hb1
          have hbb := Qt.more hbel hbel.size hb1
          clear e1 kc
          go_wp2
          go_ret
          exact ⟨rfl, hbb⟩
        · have hml : m < n := by omega
          have hd1 : decide (n ≤ m) = false := decide_eq_false (by omega)
          have hmz : (m : Int) < (l.length : Int) := by omega
          obtain ⟨m0, m1, m2, m3, m4, m5⟩ := HC.out m (by omega)
          obtain ⟨b1, b2, b3, b4⟩ := HB.out m hml
          have hnd : ndAt l (m : Int) = l.getD m deadN := ndAt_nat l m
          rw [hnd] at hsucc
          have hkb : kidB l n (x.1 - 1) (m : Int) = decide ((l.getD m deadN).1 = x.1 - 1) := by
            unfold kidB
            rw [decide_eq_true (by omega), decide_eq_true (by omega), hnd]
            rfl
          rw [hkb] at hno
          have m0 := Qt.keep H.bel m0
          have m5 := Qt.keep H.bel m5
          generalize (l.getD m deadN).1 = lv at *
          generalize (l.getD m deadN).2.2 = pp at *
          have e2 := Qt.cell_in m0
          have e3 := Qt.cell_in H.s0
          have e4 := Qt.cell_in H.lv
          by_cases hlv : lv = x.1 - 1
          · subst hlv
            have hnew : ∀ q, q < j + 1 → kidB l n (x.1 - 1) (kd x.2.1 q) = true := by
              intro q hq
              rcases Nat.lt_or_ge q j with h1 | h1
              · exact HH.out.2 q h1
              · obtain rfl : q = j := by omega
                rw [← hK, hkb]
                exact decide_eq_true rfl
            have HNW := Lib.hid hnew
            have HKK := Lib.hid hK
            clear hno hK hkb m1 m2 m3 m4 hnd hnew HH
            go_wp2_with fail
            refine Qt.below_all (by kernel_rfl) (by kernel_rfl) ?_
            repeat (go_big_quiet_step (fail))
            refine wpQuiet_nil ?_
            intro w1 hb1
            have H1 := H.below hb1
            have m5 := Qt.keep hb1 m5
            clear e1 kc e2 e3 e4 m0 hd0 hd1 H hb1
            have kc := H1.kid hlt
            rw [← HKK.out] at kc
            have e1 := Qt.cell_in kc
            have e3 := Qt.cell_in H1.s0
            have e5 := Qt.cell_in m5
            go_wp2_with fail
            refine Qt.below_all (by kernel_rfl) (by kernel_rfl) ?_
            repeat (go_big_quiet_step (fail))
            refine wpQuiet_nil ?_
            intro w2 hb2
            have HN : Hid (FitHead w w2 (some ⟨b0, off, none⟩) l.length c room x ∧ ∀ q, q < j + 1 → kidB l n (x.1 - 1) (kd x.2.1 q) = true) := ⟨H1.below hb2, HNW.out⟩
            have hpn : 0 ≤ popTo l x.2.1 (j + 1) ∧ popTo l x.2.1 (j + 1) ≤ 4611686018427387903 := by rw [hsucc]; omega
            have HSC := Lib.hid hsucc
            clear e1 e3 e5 kc m5 H1 hb2 hsucc
            go_wp2
            go_roundw
            case measure => simp [intOf]; omega
            case rel => exact ⟨j + 1, by omega, congrArg (Value.int .i64) (by rw [HSC.out]; omega), by go_num, hpn.1, hpn.2, HN.out⟩
          · have hf := hno (decide_eq_false hlv)
            have hd2 : (lv == x.1 - 1) = false := beq_eq_false_iff_ne.2 hlv
            clear hK hkb m1 m2 m3 m4 m5 hnd
            subst hf
            have hbel := H.bel
            clear hno HNO HLA HB HC HRR HH0 HH hsucc hat
            go_wp2_with fail
            refine Qt.below_all (by kernel_rfl) (by kernel_rfl) ?_
            repeat (go_big_quiet_step (fail))
            refine wpQuiet_nil ?_
            intro w1 hb1
            have hbb := Qt.more hbel hbel.size hb1
            clear e1 kc e2 e3 e4 m0
            go_wp2
            go_ret
            exact ⟨rfl, hbb⟩
    · obtain rfl : j = 4 := by omega
      have hall : ∀ i, i < 4 → kidB l n (x.1 - 1) (kd x.2.1 i) = true := HH.out.2
      have hrr := HLA.out hall
      have c0 := H.kid (i := 0) (by decide)
      have c1 := H.kid (i := 1) (by decide)
      have c2 := H.kid (i := 2) (by decide)
      have c3 := H.kid (i := 3) (by decide)
      simp only [kd, Nat.add_zero] at c0 c1 c2 c3
      have l0 := H.lv
      have l5 := H.pop
      have s0 := H.s0
      have s1 := H.s1
      have hatt := hat wr ((HRR.out.below H.bel (Nat.le_refl _)).more H.bel.size)
      unfold storeV kidsV at hatt
      have hbel := H.bel
      clear HNO HLA HB HC HH0 HH hat hall HRR
      by_cases h1 : 1 ≤ x.1
      · by_cases h2 : x.1 ≤ 42
        · by_cases h3 : x.2.2 = popTo l x.2.1 4
          · rw [decide_eq_true h1, decide_eq_true h2, decide_eq_true h3] at hrr
            have hav : (atV (at6 l x.2.1) == (n : Int)) = r := by
              rw [hrr]
              cases ho : at6 l x.2.1 with
              | none => unfold atV; simp
              | some q =>
                unfold atV
                rw [Bool.eq_iff_iff]
                simp
                constructor <;> intro h <;> omega
            have h3b : (x.2.2 == popTo l x.2.1 4) = true := beq_iff_eq.2 h3
            clear hrr
            generalize atV (at6 l x.2.1) = av at *
            generalize popTo l x.2.1 4 = pt at *
            go_wp2_with fail
            refine hatt.mono ?_
            rintro e w3 ⟨rfl, hb3⟩
            have hbb := Qt.more hbel hbel.size hb3
            clear hatt hb3 c0 c1 c2 c3 l0 l5 s0 s1 H
            go_wp2
            go_ret
            exact ⟨by first | rfl | (simp [*]; done), hbb⟩
          · rw [decide_eq_true h1, decide_eq_true h2, decide_eq_false h3] at hrr
            have hf : r = false := hrr
            subst hf
            have h3b : (x.2.2 == popTo l x.2.1 4) = false := beq_eq_false_iff_ne.2 h3
            clear hatt hrr
            go_wp2
            go_ret
            exact ⟨by first | rfl | (simp [*]; done), hbel⟩
        · rw [decide_eq_true h1, decide_eq_false h2] at hrr
          have hf : r = false := hrr
          subst hf
          clear hatt hrr
          go_wp2
          go_ret
          exact ⟨by first | rfl | (simp [*]; done), hbel⟩
      · rw [decide_eq_false h1] at hrr
        have hf : r = false := hrr
        subst hf
        clear hatt hrr
        go_wp2
        go_ret
        exact ⟨by first | rfl | (simp [*]; done), hbel⟩
end Go.Proofs.YtmmaeikeafemaaaGreat
namespace Go.Proofs.YtmmaeikeafemaaaGreat
set_option linter.unusedVariables false
set_option linter.unusedSimpArgs false
open Go.RowKit Go.Sort

set_option maxHeartbeats 4000000 in
set_option maxRecDepth 100000 in
theorem refFits_low (A : Option Addr) (l : List Nd) (c : Nat) (room : Int) (n : Nat) (w : World) (hR : RdN w w.heap.size A l) (hl : l.length ≤ 1000000) (hn : n < l.length)
    (hb : ∀ i, i < n → 0 ≤ (l.getD i deadN).1 ∧ (l.getD i deadN).1 ≤ 42 ∧ 0 ≤ (l.getD i deadN).2.2 ∧ (l.getD i deadN).2.2 ≤ 4611686018427387903) (hw : (l.getD n deadN).1 = -9223372036854775808) :
    Calls Tryz.prog 62 #[storeV A l.length c room, .int .i64 n] w fun e w' => e = .returned (.bool (fits6 l n)) ∧ Below w.heap.size w w' := by
  have HH0 := Lib.hid (fitHead_0 w A l.length c room (l.getD n deadN))
  obtain ⟨b0, off, rfl, hbB, hcell⟩ := hR.at_ (by omega)
  obtain ⟨n0, n1, n2, n3, n4, n5⟩ := hcell n hn
  have hf : fits6 l n = false := by
    cases h : fits6 l n with
    | false => rfl
    | true =>
      have h1 := (fits_iff.1 h).lo
      omega
  rw [hf]
  have hnn : n ≤ 1000000 := by omega
  have hnz : (n : Int) < (l.length : Int) := by omega
  generalize l.getD n deadN = x at *
  obtain ⟨lv0, kk, pq⟩ := x
  simp only at hw n0 n1 n2 n3 n4 n5 HH0
  subst hw
  have HB := Lib.hid hb
  have HC := Lib.hid hcell
  unfold storeV
  clear hf hb hcell hR
  go_enter Tryz.func62, Tryz.ntmps62
  go_wp2
  clear n0 n1 n2 n3 n4 n5
  go_loopw [6, 7] (fun p i wr => p = .int .i64 0 ∧ i = .int .i64 0 ∧ Hid (FitHead w wr (some ⟨b0, off, none⟩) l.length c room (-9223372036854775808, kk, pq))) (fun _ i _ => 0)
  case atStart => exact ⟨rfl, rfl, HH0⟩
  case round =>
    obtain ⟨rfl, rfl, HH⟩ := hrel
    have H := HH.out
    have kc := H.kid (i := 0) (by decide)
    simp only [kd] at kc
    obtain ⟨K, hK⟩ : ∃ K, K = kk.1 := ⟨_, rfl⟩
    rw [← hK] at kc
    have e1 := Qt.cell_in kc
    have hbel := H.bel
    by_cases hneg : K < 0
    · clear HB HC HH0 HH hK H
      go_wp2_with fail
      refine Qt.below_all (by kernel_rfl) (by kernel_rfl) ?_
      repeat (go_big_quiet_step (fail))
      refine wpQuiet_nil ?_
      intro w1 hb1
      have hbb := Qt.more hbel hbel.size hb1
      clear e1 kc
      go_wp2
      go_ret
      exact ⟨rfl, hbb⟩
    · obtain ⟨m, rfl⟩ : ∃ m : Nat, K = (m : Int) := ⟨K.toNat, by omega⟩
      have hm0 : ¬ (m : Int) < 0 := hneg
      have hd0 : decide ((m : Int) < 0) = false := decide_eq_false hneg
      by_cases hge : (n : Int) ≤ (m : Int)
      · have hd1 : decide (n ≤ m) = true := decide_eq_true (by omega)
        clear HB HC HH0 HH hK H
        go_wp2_with fail
        refine Qt.below_all (by kernel_rfl) (by kernel_rfl) ?_
        repeat (go_big_quiet_step (fail))
        refine wpQuiet_nil ?_
        intro w1 hb1
        have hbb := Qt.more hbel hbel.size hb1
        clear e1 kc
        go_wp2
        go_ret
        exact ⟨rfl, hbb⟩
      · have hml : m < n := by omega
        have hd1 : decide (n ≤ m) = false := decide_eq_false (by omega)
        have hmz : (m : Int) < (l.length : Int) := by omega
        obtain ⟨m0, _, _, _, _, _⟩ := HC.out m (by omega)
        obtain ⟨b1, b2, b3, b4⟩ := HB.out m hml
        have m0 := Qt.keep H.bel m0
        generalize (l.getD m deadN).1 = lv at *
        have e2 := Qt.cell_in m0
        have e3 := Qt.cell_in H.s0
        have l0 := H.lv
        simp only at l0
        have e4 := Qt.cell_in l0
        have hd2 : (lv != wrap64 (-9223372036854775809)) = true := by
          rw [show wrap64 (-9223372036854775809) = 9223372036854775807 by first | decide +kernel | kernel_rfl]
          exact bne_iff_ne.2 (by omega)
        clear HB HC HH0 HH hK H
        go_wp2_with fail
        refine Qt.below_all (by kernel_rfl) (by kernel_rfl) ?_
        repeat (go_big_quiet_step (fail))
        refine wpQuiet_nil ?_
        intro w1 hb1
        have hbb := Qt.more hbel hbel.size hb1
        clear e1 kc e2 e3 e4 m0
        go_wp2
        go_ret
        exact ⟨rfl, hbb⟩
/-- whatever the level -/
theorem refFits_all (A : Option Addr) (l : List Nd) (c : Nat) (room : Int) (n : Nat) (w : World) (hR : RdN w w.heap.size A l) (hl : l.length ≤ 1000000) (hn : n < l.length)
    (hb : ∀ i, i < n → 0 ≤ (l.getD i deadN).1 ∧ (l.getD i deadN).1 ≤ 42 ∧ 0 ≤ (l.getD i deadN).2.2 ∧ (l.getD i deadN).2.2 ≤ 4611686018427387903) (hw : -9223372036854775808 ≤ (l.getD n deadN).1 ∧ (l.getD n deadN).1 ≤ 9223372036854775807) :
    Calls Tryz.prog 62 #[storeV A l.length c room, .int .i64 n] w fun e w' => e = .returned (.bool (fits6 l n)) ∧ Below w.heap.size w w' := by
  by_cases h : (l.getD n deadN).1 = -9223372036854775808
  · exact refFits_low A l c room n w hR hl hn hb h
  · exact refFits_any A l c room n w hR hl hn hb ⟨by omega, hw.2⟩
end Go.Proofs.YtmmaeikeafemaaaGreat
namespace Go.Proofs.YtmmaeikeafemaaaGreat
set_option linter.unusedVariables false
set_option linter.unusedSimpArgs false
open Go.RowKit Go.Sort

theorem nd_eq (x y : Nd) : (x.1 == y.1 && (decide (x.2.1 = y.2.1) && x.2.2 == y.2.2)) = decide (x = y) := by
  obtain ⟨a, b, c⟩ := x
  obtain ⟨a', b', c'⟩ := y
  rw [Bool.eq_iff_iff]
  simp
theorem eqN_at (x y : Nd) (w : World) : (Op.equalIn 10000 57 (.agg #[.int .i64 x.1, .int .i64 x.2.1.1, .int .i64 x.2.1.2.1, .int .i64 x.2.1.2.2.1, .int .i64 x.2.1.2.2.2, .int .i64 x.2.2]) (.agg #[.int .i64 y.1, .int .i64 y.2.1.1, .int .i64 y.2.1.2.1, .int .i64 y.2.1.2.2.1, .int .i64 y.2.1.2.2.2, .int .i64 y.2.2])).run Tryz.prog w = .ok (decide (x = y)) w := by
  have u3 := Tryz.underlying3
  have a3 := Tryz.isAgg3
  have z3 := Tryz.sizeOf3
  have hS : Tryz.prog.underlying 57 = some (.struct (Tryz.prog.fieldsOf 57)) := by kernel_rfl
  have hp : Tryz.prog.stoodInHeld 57 = false := by kernel_rfl
  have hK := fun w => eqK_at 9997 x.2.1.1 x.2.1.2.1 x.2.1.2.2.1 x.2.1.2.2.2 y.2.1.1 y.2.1.2.1 y.2.1.2.2.1 y.2.1.2.2.2 w
  rw [show (10000 : Nat) = 9999 + 1 from rfl, run_equalIn_agg w 9999 _ _ _ hS hp]
  simp only [Program.fieldsOf, Tryz.underlying57]
  go_simp
  rw [← nd_eq x y, ← kd_eq x.2.1 y.2.1]
  by_cases h0 : x.1 = y.1
  · by_cases h1 : x.2.1.1 = y.2.1.1
    · by_cases h2 : x.2.1.2.1 = y.2.1.2.1
      · by_cases h3 : x.2.1.2.2.1 = y.2.1.2.2.1
        · by_cases h4 : x.2.1.2.2.2 = y.2.1.2.2.2
          · by_cases h5 : x.2.2 = y.2.2 <;> simp [h0, h1, h2, h3, h4, h5]
          · simp [h0, h1, h2, h3, h4]
        · simp [h0, h1, h2, h3]
      · simp [h0, h1, h2]
    · simp [h0, h1]
  · simp [h0]
theorem neqN (x y : Nd) (w : World) : (binOp .neq 57 (.agg #[.int .i64 x.1, .int .i64 x.2.1.1, .int .i64 x.2.1.2.1, .int .i64 x.2.1.2.2.1, .int .i64 x.2.1.2.2.2, .int .i64 x.2.2]) (.agg #[.int .i64 y.1, .int .i64 y.2.1.1, .int .i64 y.2.1.2.1, .int .i64 y.2.1.2.2.1, .int .i64 y.2.1.2.2.2, .int .i64 y.2.2])).run Tryz.prog w = .ok (.bool (!decide (x = y))) w := by
  rw [run_neq_struct, eqN_at]
  rfl
/-- levels and cells are within bounds, as far as nodes fit -/
theorem bd_to {l : List Nd} (hd : l.getD 0 deadN = deadN) (hv : l.getD 1 deadN = liveN) (j : Nat) (hf : ∀ i, 2 ≤ i → i < j → fits6 l i = true) : ∀ n, n < j → 0 ≤ (l.getD n deadN).1 ∧ (l.getD n deadN).1 ≤ 42 ∧ 0 ≤ (l.getD n deadN).2.2 ∧ (l.getD n deadN).2.2 ≤ 4611686018427387903 := by
  intro n
  induction n using Nat.strongRecOn with
  | ind n ih =>
    intro hn
    by_cases h2 : n < 2
    · rcases (by omega : n = 0 ∨ n = 1) with rfl | rfl
      · rw [hd]; decide
      · rw [hv]; decide
    · have hft := fits_iff.1 (hf n (by omega) hn)
      have := popTo_bd (l := l) (k := (l.getD n deadN).2.1) (fun i hi => by
        obtain ⟨k1, k2, _⟩ := hft.kid i hi
        have := ih (kd (l.getD n deadN).2.1 i).toNat (by omega) (by omega)
        exact this.2.2.1) 4 (Nat.le_refl _)
      rw [← hft.pop] at this
      exact ⟨by have := hft.lo; omega, hft.hi, this.1, this.2⟩
/-- What is known within Right. -/
structure StoreAt (w wr : World) (A : Option Addr) (n c : Nat) (room : Int) : Prop where
  store : wr.heap[w.heap.size]? = some (.cells #[.slice A n c, .int .i64 room] 26 (0, 0))
  bel : Below w.heap.size w wr
section
variable {w wr w' : World} {A : Option Addr} {n c : Nat} {room : Int}
theorem StoreAt.below (h : StoreAt w wr A n c room) (hb : Below wr.heap.size wr w') : StoreAt w w' A n c room :=
  ⟨(hb.block _ (lt_heap6 h.store)).trans h.store, Qt.more h.bel h.bel.size hb⟩
theorem StoreAt.s0 (h : StoreAt w wr A n c room) : wr.cell? ⟨w.heap.size, 0, none⟩ = some (.slice A n c) := by rw [Lib.cell_of_heap h.store]; rfl
theorem StoreAt.s1 (h : StoreAt w wr A n c room) : wr.cell? ⟨w.heap.size, 1, none⟩ = some (.int .i64 room) := by rw [Lib.cell_of_heap h.store]; rfl
theorem storeAt_0 (w : World) (A : Option Addr) (n c : Nat) (room : Int) : StoreAt w (w.alloc (.cells #[.slice A n c, .int .i64 room] 26)) A n c room :=
  ⟨heap_alloc_new w _, (Below.refl _ _).alloc (Nat.le_refl _) _⟩
end
theorem right_no {l : List Nd} {room : Int} (h : headB6 l room = false) : right6 l room = false := by unfold right6; rw [h]; rfl
theorem right_nofit {l : List Nd} {room : Int} {j : Nat} (h2 : 2 ≤ j) (hj : j < l.length) (h : fits6 l j = false) : right6 l room = false := by
  rw [Bool.eq_false_iff]
  intro hr
  have := (right_iff.1 hr).fits j h2 hj
  rw [h] at this
  cases this

set_option maxHeartbeats 4000000 in
set_option maxRecDepth 100000 in
theorem refRight6_any (A : Option Addr) (l : List Nd) (c : Nat) (room : Int) (w : World) (hR : RdN w w.heap.size A l) (hl : l.length ≤ 1000000)
    (hw : ∀ i, i < l.length → -9223372036854775808 ≤ (l.getD i deadN).1 ∧ (l.getD i deadN).1 ≤ 9223372036854775807) :
    Calls Tryz.prog 29 #[storeV A l.length c room] w fun e w' => e = .returned (.bool (right6 l room)) ∧ Below w.heap.size w w' := by
  have HH0 := Lib.hid (storeAt_0 w A l.length c room)
  have hs0 := HH0.out.s0
  have hs1 := HH0.out.s1
  have hbel0 := HH0.out.bel
  obtain ⟨r, hr⟩ : ∃ r, r = right6 l room := ⟨_, rfl⟩
  have hno := right_no (l := l) (room := room)
  rw [← hr] at hno ⊢
  unfold storeV
  have hhead : headB6 l room = (decide (2 ≤ room) && decide (room ≤ 100000) && decide (2 ≤ l.length) && decide ((l.length : Int) ≤ room) && decide (l.getD 0 deadN = deadN) && decide (l.getD 1 deadN = liveN)) := rfl
  by_cases h1 : room < 2
  · have hf := hno (by rw [hhead, decide_eq_false (show ¬ 2 ≤ room by omega)]; rfl)
    subst hf
    clear hno hhead hr
    go_enter Tryz.func29, Tryz.ntmps29
    go_wp2
    go_ret
    exact ⟨rfl, hbel0⟩
  by_cases h2 : 100000 < room
  · have hf := hno (by rw [hhead, decide_eq_false (show ¬ room ≤ 100000 by omega), Bool.and_false]; rfl)
    subst hf
    clear hno hhead hr
    go_enter Tryz.func29, Tryz.ntmps29
    go_wp2
    go_ret
    exact ⟨rfl, hbel0⟩
  by_cases h3 : l.length < 2
  · have hf := hno (by rw [hhead, decide_eq_false (show ¬ 2 ≤ l.length by omega), Bool.and_false]; rfl)
    subst hf
    have h3z : (l.length : Int) < 2 := by omega
    clear hno hhead hr
    go_enter Tryz.func29, Tryz.ntmps29
    go_wp2
    go_ret
    exact ⟨rfl, hbel0⟩
  by_cases h4 : room < (l.length : Int)
  · have hf := hno (by rw [hhead, decide_eq_false (show ¬ (l.length : Int) ≤ room by omega), Bool.and_false]; rfl)
    subst hf
    have h3z : ¬ (l.length : Int) < 2 := by omega
    clear hno hhead hr
    go_enter Tryz.func29, Tryz.ntmps29
    go_wp2
    go_ret
    exact ⟨rfl, hbel0⟩
  have h3z : ¬ (l.length : Int) < 2 := by omega
  obtain ⟨b0, off, rfl, hbB, hcell⟩ := hR.at_ (by omega)
  obtain ⟨n0, n1, n2, n3, n4, n5⟩ := hcell 0 (by omega)
  obtain ⟨m0, m1, m2, m3, m4, m5⟩ := hcell 1 (by omega)
  simp only [Nat.zero_mul, Nat.one_mul, Nat.add_zero] at n0 n1 n2 n3 n4 n5 m0 m1 m2 m3 m4 m5
  have n0 := Qt.keep hbel0 n0
  have n1 := Qt.keep hbel0 n1
  have n2 := Qt.keep hbel0 n2
  have n3 := Qt.keep hbel0 n3
  have n4 := Qt.keep hbel0 n4
  have n5 := Qt.keep hbel0 n5
  have m0 := Qt.keep hbel0 m0
  have m1 := Qt.keep hbel0 m1
  have m2 := Qt.keep hbel0 m2
  have m3 := Qt.keep hbel0 m3
  have m4 := Qt.keep hbel0 m4
  have m5 := Qt.keep hbel0 m5
  have hne0 : ∀ W, (binOp .neq 57 (.agg #[.int .i64 (l.getD 0 deadN).1, .int .i64 (l.getD 0 deadN).2.1.1, .int .i64 (l.getD 0 deadN).2.1.2.1, .int .i64 (l.getD 0 deadN).2.1.2.2.1, .int .i64 (l.getD 0 deadN).2.1.2.2.2, .int .i64 (l.getD 0 deadN).2.2]) (.agg #[.int .i64 0, .int .i64 0, .int .i64 0, .int .i64 0, .int .i64 0, .int .i64 0])).run Tryz.prog W = .ok (.bool (!decide (l.getD 0 deadN = deadN))) W := fun W => neqN (l.getD 0 deadN) deadN W
  have hne1 : ∀ W, (binOp .neq 57 (.agg #[.int .i64 (l.getD 1 deadN).1, .int .i64 (l.getD 1 deadN).2.1.1, .int .i64 (l.getD 1 deadN).2.1.2.1, .int .i64 (l.getD 1 deadN).2.1.2.2.1, .int .i64 (l.getD 1 deadN).2.1.2.2.2, .int .i64 (l.getD 1 deadN).2.2]) (.agg #[.int .i64 0, .int .i64 0, .int .i64 0, .int .i64 0, .int .i64 0, .int .i64 1])).run Tryz.prog W = .ok (.bool (!decide (l.getD 1 deadN = liveN))) W := fun W => neqN (l.getD 1 deadN) liveN W
  by_cases h5 : l.getD 0 deadN = deadN
  · rw [decide_eq_true h5] at hne0
    by_cases h6 : l.getD 1 deadN = liveN
    · rw [decide_eq_true h6] at hne1
      have hfits := fun (j : Nat) (h2 : 2 ≤ j) (hj : j < l.length) (hf : ∀ i, 2 ≤ i → i < j → fits6 l i = true) W hR => refFits_all (some ⟨b0, off, none⟩) l c room j W hR hl hj (bd_to h5 h6 j hf) (hw j hj)
      have hnof := fun (j : Nat) (h2 : 2 ≤ j) (hj : j < l.length) (hf : fits6 l j = false) => hr.trans (right_nofit (room := room) h2 hj hf)
      have hyes : (∀ i, 2 ≤ i → i < l.length → fits6 l i = true) → r = true := fun hf => hr.trans (right_iff.2 ⟨by omega, by omega, by omega, by omega, h5, h6, hf⟩)
      unfold storeV at hfits
      generalize l.getD 0 deadN = x0 at *
      generalize l.getD 1 deadN = x1 at *
      have HF := Lib.hid hfits
      have HN := Lib.hid hnof
      have HY := Lib.hid hyes
      have HRR := Lib.hid hR
      clear hfits hnof hyes hno hhead hr hcell hw h5 h6 hR
      go_enter Tryz.func29, Tryz.ntmps29
      go_wp2
      clear n0 n1 n2 n3 n4 n5 m0 m1 m2 m3 m4 m5 hne0 hne1 hs0 hs1 hbel0
      go_loopw [3] (fun i wr => ∃ j : Nat, 2 ≤ j ∧ j ≤ l.length ∧ i = .int .i64 j ∧ Hid (StoreAt w wr (some ⟨b0, off, none⟩) l.length c room ∧ ∀ q, 2 ≤ q → q < j → fits6 l q = true)) (fun i _ => l.length - (intOf i).toNat)
      case atStart => exact ⟨2, Nat.le_refl _, by omega, rfl, HH0.out, fun q h1 h2 => by omega⟩
      case round =>
        obtain ⟨j, hj2, hj, rfl, HH⟩ := hrel
        have H := HH.out.1
        have s0 := H.s0
        have s1 := H.s1
        by_cases hlt : j < l.length
        · have hltz : (j : Int) < (l.length : Int) := by omega
          have hcall := HF.out j hj2 hlt HH.out.2 wr ((HRR.out.below H.bel (Nat.le_refl _)).more H.bel.size)
          cases hft : fits6 l j with
          | true =>
            rw [hft] at hcall
            have hnew : ∀ q, 2 ≤ q → q < j + 1 → fits6 l q = true := by
              intro q h7 h8
              rcases Nat.lt_or_ge q j with h9 | h9
              · exact HH.out.2 q h7 h9
              · obtain rfl : q = j := by omega
                exact hft
            have HNW := Lib.hid hnew
            clear hnew hft HH
            go_wp2_with fail
            refine hcall.mono ?_
            rintro e w1 ⟨rfl, hb1⟩
            have HN2 : Hid (StoreAt w w1 (some ⟨b0, off, none⟩) l.length c room ∧ ∀ q, 2 ≤ q → q < j + 1 → fits6 l q = true) := ⟨H.below hb1, HNW.out⟩
            clear hcall hb1 H s0 s1
            go_wp2
            go_roundw
            case measure => simp [intOf]; omega
            case rel => exact ⟨j + 1, by omega, by omega, by go_num, HN2.out⟩
          | false =>
            rw [hft] at hcall
            have hf := HN.out j hj2 hlt hft
            subst hf
            have hbel := H.bel
            clear hft HH
            go_wp2_with fail
            refine hcall.mono ?_
            rintro e w1 ⟨rfl, hb1⟩
            have hbb := Qt.more hbel hbel.size hb1
            clear hcall hb1 H s0 s1
            go_wp2
            go_ret
            exact ⟨rfl, hbb⟩
        · obtain rfl : j = l.length := by omega
          have hltz : ¬ (l.length : Int) < (l.length : Int) := by omega
          have hf := HY.out HH.out.2
          subst hf
          have hbel := H.bel
          clear HH H
          go_wp2
          go_ret
          exact ⟨rfl, hbel⟩
    · rw [decide_eq_false h6] at hne1
      have hf := hno (by rw [hhead, decide_eq_false h6, Bool.and_false])
      subst hf
      clear hno hhead hr hcell hw h5 h6 hR
      generalize l.getD 0 deadN = x0 at *
      generalize l.getD 1 deadN = x1 at *
      go_enter Tryz.func29, Tryz.ntmps29
      go_wp2
      go_ret
      exact ⟨rfl, hbel0⟩
  · rw [decide_eq_false h5] at hne0
    have hf := hno (by rw [hhead, decide_eq_false h5, Bool.and_false]; rfl)
    subst hf
    clear hno hhead hr hcell hw h5 hR
    generalize l.getD 0 deadN = x0 at *
    generalize l.getD 1 deadN = x1 at *
    go_enter Tryz.func29, Tryz.ntmps29
    go_wp2
    go_ret
    exact ⟨rfl, hbel0⟩
end Go.Proofs.YtmmaeikeafemaaaGreat
namespace Go.Proofs.YtmmaeikeafemaaaGreat.Qt
open Go Go.Sort Go.RowKit

section
variable {P : Program} {ops : Array Oper} {md : Region.Mode} {C : World → Prop}

/-- whatever stands behind n waits for something that stands at n or behind it -/
def depB (md : Region.Mode) (ops : Array Oper) (n : Nat) : Bool :=
  (List.range ops.size).all fun t => decide (t ≤ n) || (List.range t).any fun j => decide (n ≤ j) && Region.waitsFor md ops t j

theorem last_waits {n : Nat} {listed : Array Bool} (hs : Region.sinkB md ops n = true) (hn : n < ops.size) (inv : HeadInv md ops n listed) (d : Nat) :
    ∀ i, n - i ≤ d → i < n → listed.getD i true = false → n ∉ Region.ready md ops listed := by
  induction d with
  | zero => intro i hd hi; omega
  | succ d ih =>
    intro i hd hi hun hr
    obtain ⟨j, hj, hj2⟩ := List.any_eq_true.1 (List.all_eq_true.1 hs i (List.mem_range.2 hi))
    simp only [Bool.and_eq_true, decide_eq_true_eq] at hj2
    obtain ⟨oj, hoj, e, he, hb, hon⟩ := Region.waitsFor_spec hj2.2
    have hjn := List.mem_range.1 hj
    by_cases hl : listed.getD j false = true
    · have h2 := inv.closed j oj hoj hl e he hb
      rw [hon, getD_both hun] at h2
      cases h2
    · rcases Nat.lt_or_eq_of_le (Nat.le_of_lt_succ hjn) with hlt | heq
      · exact ih j (by omega) hlt (getD_in (by rw [inv.size]; omega) (by simpa using hl)) hr
      · subst heq
        obtain ⟨_, ot, hot, hall⟩ := mem_ready.1 hr
        obtain rfl : oj = ot := Option.some.inj (hoj.symm.trans hot)
        have h2 := hall e he hb
        rw [hon, getD_both hun] at h2
        cases h2

theorem rest_waits {n : Nat} {listed : Array Bool} (hs : Region.sinkB md ops n = true) (hd : depB md ops n = true) (hn : n < ops.size) (inv : HeadInv md ops n listed) {i : Nat} (hi : i < n) (hun : listed.getD i true = false) :
    ∀ t, n ≤ t → t ∉ Region.ready md ops listed := by
  intro t ht hr
  rcases Nat.lt_or_eq_of_le ht with hlt | heq
  · obtain ⟨_, ot, hot, hall⟩ := mem_ready.1 hr
    have hts : t < ops.size := (Array.getElem?_eq_some_iff.1 hot).1
    have h1 := List.all_eq_true.1 hd t (List.mem_range.2 hts)
    simp only [Bool.or_eq_true, decide_eq_true_eq] at h1
    rcases h1 with h1 | h1
    · omega
    · obtain ⟨j, hj, hj2⟩ := List.any_eq_true.1 h1
      simp only [Bool.and_eq_true, decide_eq_true_eq] at hj2
      obtain ⟨oj, hoj, e, he, hb, hon⟩ := Region.waitsFor_spec hj2.2
      obtain rfl : oj = ot := Option.some.inj (hoj.symm.trans hot)
      have h2 := hall e he hb
      have hjt := List.mem_range.1 hj
      rw [hon, getD_both (inv.tail j hj2.1 (by omega))] at h2
      cases h2
  · subst heq
    exact last_waits hs hn inv _ i (Nat.le_refl _) hi hun hr

theorem mid_first {n i : Nat} {oi : Oper} {v : Value} {L : Array Bool → Act → Prop} (hi : ops[i]? = some oi) (hsel : ∀ (j : Nat) (o : Oper) cs b, ops[j]? = some o → o.op ≠ .select cs b)
    (hs : Region.sinkB md ops n = true) (hc : depB md ops n = true) (hn : n < ops.size) (hin : i < n) (hdone : ∀ listed a, L listed a → ∀ j ∈ Region.ready md ops listed, n ≤ j) (f : Nat) :
    ∀ (listed : Array Bool) (a : Act), HeadInv md ops n listed →
      (∀ j oj, ops[j]? = some oj → j ≠ i → listed.getD j true = false → (∀ e ∈ oj.after, Region.binds md e = true → e.on ≠ i) → oi.apart ops oj = true) →
      i ∈ Region.ready md ops listed → YieldsIn P ops C oi v a →
      headAny P md ops C n L f (listed.setIfInBounds i true) (a.put oi.dst v) → headAny P md ops C n L (f + 1) listed a := by
  induction f with
  | zero =>
    intro listed a inv _ hr hy H
    refine ⟨fun h => (by rw [h] at hr; cases hr), fun j hj => ?_⟩
    have hjn : j < n := Nat.lt_of_not_le fun h => rest_waits hs hc hn inv hin (mem_ready.1 hr).1 j h hj
    refine ⟨hjn, ?_⟩
    by_cases hji : j = i
    · subst hji; exact hy.qOp hi H
    · exact absurd (hdone _ _ H j (ready_mono hj hji)) (by omega)
  | succ f ih =>
    intro listed a inv hfree hr hy H
    have hun := (mem_ready.1 hr).1
    refine ⟨fun h => (by rw [h] at hr; cases hr), fun j hj => ?_⟩
    have hjn : j < n := Nat.lt_of_not_le fun h => rest_waits hs hc hn inv hin hun j h hj
    refine ⟨hjn, ?_⟩
    by_cases hji : j = i
    · subst hji; exact hy.qOp hi H
    · obtain ⟨hjun, oj, hoj, hall⟩ := mem_ready.1 hj
      have hnot : ∀ e ∈ oj.after, Region.binds md e = true → e.on ≠ i := fun e he hb heq => by
        have h1 := hall e he hb
        rw [heq, getD_both hun] at h1
        cases h1
      have hq := qOp_put hoj (hfree j oj hoj hji hjun hnot) (fun cs b => hsel i oi cs b hi) (fun cs b => hsel j oj cs b hoj) hy (H.2 j (ready_mono hj hji)).2
      refine qOp_mono (fun a' h3 => ih (listed.setIfInBounds j true) a' (inv.set hj hjn) (fun k ok hk hki hku hno => hfree k ok hk hki ?_ hno) (ready_mono hr (Ne.symm hji)) h3.1 ?_) hq
      · by_cases hjk : j = k
        · subst hjk; exact hjun
        · rwa [getD_set_ne true hjk] at hku
      · rw [Array.setIfInBounds_comm _ _ hji]; exact h3.2

theorem wpOp_call {n : Nat} {o : Oper} {f : FuncId} {ars : Array Operand} {ts : Array TypeId} {Q : Exit → Act → World → Prop} {K : Act → World → Prop} {a : Act} {w : World} (ho : ops[n]? = some o) (hg : o.guard = none)
    {fn : Func} (hf : P.funcs[f]? = some fn) (hnm0 : (fn.name == "runtime.NumGoroutine") = false) (hbd0 : fn.body.isNone = false) (hop : o.op = .call { callee := .value (.func f), args := ars, argTypes := ts }) (h : Calls P f (ars.map a.eval) w fun e w' => ∃ v, e = .returned v ∧ K (a.put o.dst v) w') : wpOp P ops Q n K a w := by
  unfold wpOp
  simp only [ho]
  have hw : Region.wanted o (yielded ops a.tmps) = true := by simp [Region.wanted, hg]
  rw [if_pos hw]
  left
  unfold Oper.wp
  have hnm : ¬ fn.name = "runtime.NumGoroutine" := by simpa using hnm0
  have hbd : ¬ fn.body = none := fun e => by rw [e] at hbd0; cases hbd0
  have he : a.eval (.func f) = .func (.func f) #[] #[] := rfl
  simp [execOp, hop, resolve, invoke, Result.andThen, Oper.upon, he, Deferred.ofValue, callFunc, hf, hnm, hbd]
  refine h.mono ?_
  rintro e w' ⟨v, rfl, hk⟩
  exact hk

end
end Go.Proofs.YtmmaeikeafemaaaGreat.Qt
