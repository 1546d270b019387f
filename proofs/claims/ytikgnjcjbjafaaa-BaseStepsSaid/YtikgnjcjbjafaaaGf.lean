/-
  The document's answer of layer 2: Lives, and how many neighbours a cell has.
-/
import Derived.Test.YtikgnjcjbjafaaaB15
import Derived.Test.YtikgnjcjbjafaaaB21
import Derived.Test.YtikgnjcjbjafaaaLc
namespace Go.Proofs.Ytikgnjcjbjafaaa.Cel
open Go.RowKit Go.Sort

theorem refLives_any (a : Bool) (n : Int) (w : World) : Calls Try.prog 81 #[.bool a, .int .i64 n] w fun e w' => e = .returned (.bool (livesB a n)) ∧ w = w' := by
  generalize hr : livesB a n = r
  have HR := Lib.hid hr
  clear hr
  go_enter Try.func81, Try.ntmps81
  go_wp2
  all_goals go_ret
  all_goals refine ⟨?_, rfl⟩
  all_goals (refine Qt.ret_bool ?_; rw [← HR.out]; simp_all [livesB])

theorem nbr_take {l : List (Int × Int)} {k : Nat} {p : Int × Int} (hk : k < l.length) : nbr (l.take (k + 1)) p = nbr (l.take k) p + if nbB (l.getD k (0, 0)) p = true then 1 else 0 := by
  unfold nbr
  rw [take_snoc hk, List.countP_append, List.countP_singleton]

set_option maxHeartbeats 4000000 in
set_option maxRecDepth 100000 in
theorem refAround_any (A : Option Addr) (l : List (Int × Int)) (c : Nat) (q : Int × Int) (w : World) (hR : Now w A l) (hl : l.length ≤ 2000) (hc : l.length ≤ c) (hin : ∀ p ∈ l, inB p = true) (hq : -1099511627800 ≤ q.1 ∧ q.1 ≤ 1099511627800 ∧ -1099511627800 ≤ q.2 ∧ q.2 ≤ 1099511627800) :
    Calls Try.prog 82 #[.slice A l.length c, .agg #[.int .i64 q.1, .int .i64 q.2]] w fun e w' => e = .returned (.int .i64 (nbr l q)) ∧ Below w.heap.size w w' := by
  obtain ⟨qx, qy⟩ := q
  obtain ⟨r, hr⟩ : ∃ r, r = nbr l (qx, qy) := ⟨_, rfl⟩
  rw [← hr]
  have HR := Lib.hid hr
  have HIN := Lib.hid hin
  simp only at hq
  obtain ⟨q1, q2, q3, q4⟩ := hq
  clear hr hin
  go_enter Try.func82, Try.ntmps82
  go_wp2
  go_loopw [5, 6] (fun v i wr => ∃ k : Nat, k ≤ l.length ∧ i = .int .i64 k ∧ v = .int .i64 (nbr (l.take k) (qx, qy)) ∧ wr.cell? ⟨w.heap.size, 0, none⟩ = some (.int .i64 qx) ∧ wr.cell? ⟨w.heap.size, 1, none⟩ = some (.int .i64 qy) ∧ Below w.heap.size w wr) (fun _ i _ => l.length - (intOf i).toNat)
  case atStart => exact ⟨0, Nat.zero_le _, rfl, rfl, by simp, by simp, (Below.refl _ _).alloc (Nat.le_refl _) _⟩
  case round =>
    obtain ⟨k, hk, rfl, rfl, b0, b1, hb⟩ := hrel
    have hnb : nbr (l.take k) (qx, qy) ≤ k := Nat.le_trans (nbr_le _ _) (by rw [List.length_take]; omega)
    by_cases hlt : k < l.length
    · have hltz : (k : Int) < (l.length : Int) := by omega
      obtain ⟨b, off, rfl, hbB, hcell⟩ := Rd.at_ hR (by omega)
      obtain ⟨⟨x, y⟩, hxy⟩ : ∃ p, p = l.getD k (0, 0) := ⟨_, rfl⟩
      have a0 := (hcell k hlt).1
      have a1 := (hcell k hlt).2
      rw [← hxy] at a0 a1
      simp only at a0 a1
      have c0 := Qt.keep hb a0
      have c1 := Qt.keep hb a1
      have hbd := inB_bd (HIN.out (x, y) (by rw [hxy]; exact getD_mem hlt))
      simp only at hbd
      obtain ⟨x1, x2, x3, x4⟩ := hbd
      have HT := Lib.hid (nbr_take (p := (qx, qy)) hlt)
      rw [← hxy] at HT
      clear hxy a0 a1 hcell
      have k0 := Qt.cell_in c0
      have k1 := Qt.cell_in c1
      have k2 := Qt.cell_in b0
      have k3 := Qt.cell_in b1
      obtain ⟨u, hu⟩ : ∃ u, u = x - qx := ⟨_, rfl⟩
      obtain ⟨v, hv⟩ : ∃ v, v = y - qy := ⟨_, rfl⟩
      have s1 : IntKind.i64.wrap (x - qx) = u := by rw [IntWalk.i64_in _ (by omega), hu]
      have s2 : IntKind.i64.wrap (y - qy) = v := by rw [IntWalk.i64_in _ (by omega), hv]
      have HU := Lib.hid hu
      have HV := Lib.hid hv
      have HN : Hid (nbB (x, y) (qx, qy) = decide (-1 ≤ u ∧ u ≤ 1 ∧ -1 ≤ v ∧ v ≤ 1 ∧ (x, y) ≠ (qx, qy))) := by subst hu hv; rfl
      clear hu hv
      go_wp2
      refine Qt.below_all (by kernel_rfl) (by kernel_rfl) ?_
      repeat (go_big_quiet_step (fail))
      refine wpQuiet_nil ?_
      intro w1 hb1
      have l0 := Qt.cell_in (Qt.keep hb1 c0)
      have l1 := Qt.cell_in (Qt.keep hb1 c1)
      have l2 := Qt.cell_in (Qt.keep hb1 b0)
      have l3 := Qt.cell_in (Qt.keep hb1 b1)
      clear k0 k1 k2 k3
      go_wp2
      refine Qt.below_all (by kernel_rfl) (by kernel_rfl) ?_
      repeat (go_big_quiet_step (fail))
      refine wpQuiet_nil ?_
      intro w2 hb2
      have m0 := Qt.cell_in (Qt.keep hb2 (Qt.keep hb1 c0))
      have m1 := Qt.cell_in (Qt.keep hb2 (Qt.keep hb1 c1))
      have m2 := Qt.cell_in (Qt.keep hb2 (Qt.keep hb1 b0))
      have m3 := Qt.cell_in (Qt.keep hb2 (Qt.keep hb1 b1))
      clear l0 l1 l2 l3 s1 s2
      have HB2 := Lib.hid (Qt.more (Qt.more hb hb.size hb1) (Nat.le_trans hb.size hb1.size) hb2)
      have HC0 := Lib.hid (Qt.keep hb2 (Qt.keep hb1 b0))
      have HC1 := Lib.hid (Qt.keep hb2 (Qt.keep hb1 b1))
      have hcase : (decide (-1 ≤ u) = false) ∨ (decide (-1 ≤ u) = true ∧ decide (u ≤ 1) = false) ∨ (decide (-1 ≤ u) = true ∧ decide (u ≤ 1) = true ∧ decide (-1 ≤ v) = false) ∨ (decide (-1 ≤ u) = true ∧ decide (u ≤ 1) = true ∧ decide (-1 ≤ v) = true ∧ decide (v ≤ 1) = false) ∨
          (decide (-1 ≤ u) = true ∧ decide (u ≤ 1) = true ∧ decide (-1 ≤ v) = true ∧ decide (v ≤ 1) = true ∧ x = qx ∧ y = qy) ∨ (decide (-1 ≤ u) = true ∧ decide (u ≤ 1) = true ∧ decide (-1 ≤ v) = true ∧ decide (v ≤ 1) = true ∧ x = qx ∧ ¬ y = qy) ∨ (decide (-1 ≤ u) = true ∧ decide (u ≤ 1) = true ∧ decide (-1 ≤ v) = true ∧ decide (v ≤ 1) = true ∧ ¬ x = qx) := by
        simp only [decide_eq_true_eq, decide_eq_false_iff_not]; omega
      have hno : ∀ {P : Prop}, nbB (x, y) (qx, qy) = false → (nbr (l.take (k + 1)) (qx, qy) = nbr (l.take k) (qx, qy)) := fun h => by rw [HT.out, h]; rfl
      have hyes : nbB (x, y) (qx, qy) = true → (nbr (l.take (k + 1)) (qx, qy) = nbr (l.take k) (qx, qy) + 1) := fun h => by rw [HT.out, h]; rfl
      have HNO := Lib.hid (@hno True)
      have HYES := Lib.hid hyes
      clear hno hyes hb hb1 hb2 b0 b1 c0 c1
      rcases hcase with g1 | ⟨g1, g2⟩ | ⟨g1, g2, g3⟩ | ⟨g1, g2, g3, g4⟩ | ⟨g1, g2, g3, g4, rfl, rfl⟩ | ⟨g1, g2, g3, g4, rfl, g6⟩ | ⟨g1, g2, g3, g4, g5⟩
      case inr.inr.inr.inr.inr.inl | inr.inr.inr.inr.inr.inr =>
        have HE := HYES.out (by rw [HN.out, decide_eq_true_eq]; simp only [decide_eq_true_eq] at g1 g2 g3 g4; refine ⟨g1, g2, g3, g4, fun e => ?_⟩; simp only [Prod.mk.injEq] at e; omega)
        have HE' := Lib.hid HE
        clear HE
        go_wp2
        refine Qt.below_all (by kernel_rfl) (by kernel_rfl) ?_
        repeat (go_big_quiet_step (fail))
        refine wpQuiet_nil ?_
        intro w3 hb3
        clear m0 m1 m2 m3
        have d0 := Qt.keep hb3 HC0.out
        have d1 := Qt.keep hb3 HC1.out
        go_wp2
        go_roundw
        case measure => simp [intOf]; omega
        case rel => exact ⟨k + 1, by omega, by go_num, by rw [HE'.out]; go_num, d0, d1, Qt.more HB2.out HB2.out.size hb3⟩
      all_goals
        have HE := HNO.out (by rw [HN.out, decide_eq_false_iff_not]; simp only [decide_eq_true_eq, decide_eq_false_iff_not] at *; rintro ⟨e1, e2, e3, e4, e5⟩; first | omega | exact e5 rfl)
        have HE' := Lib.hid HE
        clear HE
        go_wp2
        refine Qt.below_all (by kernel_rfl) (by kernel_rfl) ?_
        repeat (go_big_quiet_step (fail))
        refine wpQuiet_nil ?_
        intro w3 hb3
        clear m0 m1 m2 m3
        have d0 := Qt.keep hb3 HC0.out
        have d1 := Qt.keep hb3 HC1.out
        go_wp2
        go_roundw
        case measure => simp [intOf]; omega
        case rel => exact ⟨k + 1, by omega, by go_num, by rw [HE'.out], d0, d1, Qt.more HB2.out HB2.out.size hb3⟩
    · have hltz : ¬ (k : Int) < (l.length : Int) := by omega
      obtain rfl : k = l.length := by omega
      rw [List.take_length, ← HR.out]
      go_wp2
      go_ret
      exact ⟨rfl, hb⟩

end Go.Proofs.Ytikgnjcjbjafaaa.Cel
