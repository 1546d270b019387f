/-
  Layer 3's Sum: what the powers of two with some exponents are together.
-/
import Derived.Test.YtkmcleekiienmaaDoorNd
namespace Go.Proofs.YtkmcleekiienmaaDoor
set_option linter.unusedVariables false
set_option linter.unusedSimpArgs false
open Go.RowKit Go.Sort

theorem pow_bd {y : Nat} (h : y ≤ 61) : 1 ≤ 2 ^ y ∧ 2 ^ y ≤ 2305843009213693952 := by
  have h1 := Nat.pow_le_pow_right (n := 2) (by decide) h
  have h2 : (2 : Nat) ^ 61 = 2305843009213693952 := by decide
  have h3 : 0 < 2 ^ y := Nat.pow_pos (by decide)
  omega
theorem sum_away {l : List Int} {k : Nat} (h : k < l.length) (hb : l.getD k 0 < 0 ∨ 61 < l.getD k 0) : sumL l = (0, 1) := by
  unfold sumL
  rw [if_pos]
  unfold awayB
  rw [List.any_eq_true]
  refine ⟨l.getD k 0, ?_, by simpa using hb⟩
  rw [List.getD_eq_getElem?_getD, List.getElem?_eq_getElem h]
  exact List.getElem_mem _
theorem all_in {l : List Int} (h : ∀ j, j < l.length → 0 ≤ l.getD j 0 ∧ l.getD j 0 ≤ 61) : ∀ e ∈ l, 0 ≤ e ∧ e ≤ 61 := by
  intro e he
  obtain ⟨j, hj, rfl⟩ := List.getElem_of_mem he
  have := h j hj
  rwa [List.getD_eq_getElem?_getD, List.getElem?_eq_getElem hj] at this
theorem sum_big {l : List Int} (h : ∀ j, j < l.length → 0 ≤ l.getD j 0 ∧ l.getD j 0 ≤ 61) (ht : 4611686018427387903 < total l) : sumL l = (0, 21) := by
  unfold sumL
  rw [awayB_no (all_in h), if_neg (by decide), if_pos ht]
theorem sum_fits {l : List Int} (h : ∀ j, j < l.length → 0 ≤ l.getD j 0 ∧ l.getD j 0 ≤ 61) (ht : ¬ 4611686018427387903 < total l) : sumL l = ((total l : Int), 0) := by
  unfold sumL
  rw [awayB_no (all_in h), if_neg (by decide), if_neg ht]
theorem in_to {l : List Int} {k : Nat} (hk : ∀ j, j < k → 0 ≤ l.getD j 0 ∧ l.getD j 0 ≤ 61) (hd : 0 ≤ l.getD k 0 ∧ l.getD k 0 ≤ 61) : ∀ j, j < k + 1 → 0 ≤ l.getD j 0 ∧ l.getD j 0 ≤ 61 := by
  intro j hj
  by_cases e : j = k
  · subst e; exact hd
  · exact hk j (by omega)

theorem min_step (t p : Nat) : min (min t 4611686018427387904 + p) 4611686018427387904 = min (t + p) 4611686018427387904 := by omega

def PairR (p : Int × Int) (w : World) (e : Ending) (w' : World) : Prop := e = .returned (.tuple #[.int .i64 p.1, .int .i64 p.2]) ∧ Below w.heap.size w w'

set_option maxHeartbeats 2000000 in
theorem sum_any (A : Option Addr) (l : List Int) (c : Nat) (w : World) (hR : Now w A l) (hl : l.length ≤ 9223372036854775807) (hc : l.length ≤ c) (hw : ∀ x ∈ l, I64 x) :
    Calls Tryd.prog 18 #[.slice A l.length c] w (PairR (sumL l) w) := by
  generalize hr : sumL l = r
  obtain ⟨r1, r2⟩ := r
  have HR := Lib.hid hr
  have HW := Lib.hid hw
  clear hr hw
  go_enter Tryd.func18, Tryd.ntmps18
  go_wp2
  go_loop [4, 9] (fun v i => ∃ k n : Nat, k ≤ l.length ∧ n ≤ 4611686018427387904 ∧ v = .int .i64 n ∧ i = .int .i64 k ∧ Hid (n = min (total (l.take k)) 4611686018427387904 ∧ ∀ j, j < k → 0 ≤ l.getD j 0 ∧ l.getD j 0 ≤ 61)) (fun _ i => l.length - (intOf i).toNat)
  case atStart => exact ⟨0, 0, Nat.zero_le _, Nat.zero_le _, rfl, rfl, rfl, fun j hj => absurd hj (Nat.not_lt_zero j)⟩
  case round =>
    obtain ⟨k, n, hk, hn, rfl, rfl, HK⟩ := hrel
    by_cases hlt : k < l.length
    · have hltz : (k : Int) < (l.length : Int) := by omega
      obtain ⟨b, off, rfl, hbB, hcell⟩ := hR.at_ (by omega)
      have a0 := hcell k hlt
      clear hcell
      have hx64 : I64 (l.getD k 0) := HW.out _ (by rw [List.getD_eq_getElem?_getD, List.getElem?_eq_getElem hlt]; exact List.getElem_mem _)
      obtain ⟨x, hx⟩ : ∃ x, x = l.getD k 0 := ⟨_, rfl⟩
      rw [← hx] at a0 hx64
      have HX := Lib.hid hx
      have hx1 := hx64.1
      have hx2 := hx64.2
      clear hx hx64
      by_cases hin : 0 ≤ x ∧ x ≤ 61
      · obtain ⟨y, rfl⟩ : ∃ y : Nat, x = y := ⟨x.toNat, by omega⟩
        have hy : y ≤ 61 := by omega
        have hp := pow_bd hy
        have hpc : ((2 ^ y : Nat) : Int) = (2 : Int) ^ y := by simp
        have hp1 : 1 ≤ (2 : Int) ^ y := by omega
        have hp2 : (2 : Int) ^ y ≤ 2305843009213693952 := by omega
        have hmin : min ((n : Int) + 2 ^ y) 4611686018427387904 = ((min (n + 2 ^ y) 4611686018427387904 : Nat) : Int) := by omega
        have htot : total (l.take (k + 1)) = total (l.take k) + 2 ^ y := by rw [total_take_succ hlt, ← HX.out]; simp
        have HPC := Lib.hid hpc
        have HMIN := Lib.hid hmin
        have HT := Lib.hid htot
        have HP := Lib.hid hp
        clear hpc hmin htot hp
        go_wp2
        go_round
        case measure => simp [intOf]; omega
        case rel =>
          refine ⟨k + 1, min (n + 2 ^ y) 4611686018427387904, by omega, by omega, by rw [HMIN.out], by go_num, ?_, in_to HK.out.2 (by rw [← HX.out]; omega)⟩
          rw [HT.out, HK.out.1]
          exact min_step _ _
      · have he := HR.out.symm.trans (sum_away hlt (by rw [← HX.out]; omega))
        simp only [Prod.mk.injEq] at he
        obtain ⟨rfl, rfl⟩ := he
        clear HR HX HK
        by_cases hneg : x < 0
        · clear hin
          go_wp2
          all_goals go_ret2
          all_goals exact ⟨rfl, Below.refl _ _⟩
        · have h62 : 62 ≤ x := by omega
          clear hin
          go_wp2
          all_goals go_ret2
          all_goals exact ⟨rfl, Below.refl _ _⟩
    · have hltz : ¬ (k : Int) < (l.length : Int) := by omega
      have hfull : l.take k = l := List.take_of_length_le (by omega)
      have hks : k = l.length := by omega
      have hin : ∀ j, j < l.length → 0 ≤ l.getD j 0 ∧ l.getD j 0 ≤ 61 := by rw [← hks]; exact HK.out.2
      have hmin : n = min (total l) 4611686018427387904 := by have := HK.out.1; rwa [hfull] at this
      clear hfull hks HK
      by_cases hbig : 4611686018427387903 < total l
      · have he := HR.out.symm.trans (sum_big hin hbig)
        simp only [Prod.mk.injEq] at he
        obtain ⟨rfl, rfl⟩ := he
        have hn : 4611686018427387903 < (n : Int) := by omega
        clear hin hmin hbig
        go_wp2_with (go_at_call 20; refine (counted_no _ _ (.inr hn)).mono ?_; rintro e w' ⟨rfl, rfl⟩)
        all_goals go_ret2
        all_goals exact ⟨rfl, Below.refl _ _⟩
      · have he := HR.out.symm.trans (sum_fits hin hbig)
        have ht : total l = n := by omega
        rw [ht] at he
        simp only [Prod.mk.injEq] at he
        obtain ⟨rfl, rfl⟩ := he
        have hn : (n : Int) ≤ 4611686018427387903 := by omega
        clear hin hmin hbig ht
        go_wp2_with (go_at_call 20; refine (counted_yes _ _ (by omega) hn).mono ?_; rintro e w' ⟨rfl, rfl⟩)
        all_goals go_ret2
        all_goals exact ⟨rfl, Below.refl _ _⟩

end Go.Proofs.YtkmcleekiienmaaDoor
