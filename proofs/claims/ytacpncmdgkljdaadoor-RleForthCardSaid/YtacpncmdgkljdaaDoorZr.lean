/-
  Layer 5: the law RleShort, walked.
-/
import Derived.Test.YtacpncmdgkljdaaDoorZo
import Derived.Test.YtacpncmdgkljdaaDoorZn
namespace Go.Proofs.YtacpncmdgkljdaaDoor
set_option linter.unusedVariables false
set_option linter.unusedSimpArgs false
open Go.RowKit Go.Sort
open Cel (rawSet)

theorem str_at (l : List UInt8) (i : Nat) (h : i < (str l).size) (h2 : i < l.length) : (str l)[i]'h = l[i]'h2 := rfl
/-- a text's first line feed -/
theorem ten_str {T : List UInt8} {n : Nat} (h : Ten T n) : n < (str T).size ∧ (∀ (i : Nat) (hi : i < (str T).size), i < n → (str T)[i]'hi ≠ 10) ∧ ∀ hi, (str T)[n]'hi = 10 := by
  have hz := str_size T
  have := h.lt
  exact ⟨by omega, fun i hi hn => h.no i (by omega) hn, fun hi => h.is⟩

set_option maxHeartbeats 8000000 in
set_option maxRecDepth 100000 in
theorem rleShort_walk (A : Option Addr) (raw : List (Int × Int)) (c : Nat) (far at_ : Int) (w : World) (hR : NowP w A raw) (hl : raw.length ≤ 9223372036854775807) (hc : raw.length ≤ c) (hw : ∀ p ∈ raw, I64 p.1 ∧ I64 p.2) (hf : I64 far) (hat : I64 at_) (hT : Tab w) (hM : Mx w) :
    Calls Tryd.prog 6 #[.slice A raw.length c, .int .i64 far, .int .i64 at_] w fun e w' => e = .returned (.bool true) ∧ Below w.heap.size w w' := by
  have h1 := awake5_any w hT hM
  have hfar := fun W (hb : Below w.heap.size w W) => far_any A raw c far W ((Cel.Rd.below hR hb (Nat.le_refl _)).more hb.size) hl hc hw hf
  have hown := own5_far (decide (pickI far 5 = 4)) raw
  generalize farL (decide (pickI far 5 = 4)) (rawSet raw) = l at *
  have hshort := hown.short
  have hsize := print_size l
  obtain ⟨t1, t2, t3⟩ := ten_str (ten_print l)
  have hz := str_size (printL l)
  obtain ⟨m, hm⟩ : ∃ m, m = (bodyL l).length := ⟨_, rfl⟩
  obtain ⟨n, hn⟩ : ∃ n, n = (headL l).length := ⟨_, rfl⟩
  have hpk := fun W => pick_any at_ ((m : Int) + 1) W hat.1 hat.2 (by omega) (by omega)
  have hpb := pickI_bd at_ ((m : Int) + 1) (by omega)
  obtain ⟨j, hj⟩ : ∃ j, j = (pickI at_ ((m : Int) + 1)).toNat := ⟨_, rfl⟩
  have hjz : pickI at_ ((m : Int) + 1) = (j : Int) := by omega
  rw [hjz] at hpk
  have hjm : j ≤ m := by omega
  obtain ⟨e, q, hp, hcase⟩ := cut_home hown.right hown.small (by omega) j (by omega)
  rw [← hn] at hp hcase hsize t1 t2 t3
  rw [← hm] at hsize
  have hS : str (printL l) = str (printL l) := rfl
  have hpr := fun (A : Option Addr) (c : Nat) (W : World) (hR : Cel.Rd W W.heap.size A l) (hc : l.length ≤ c) (hT : Tab W) => print_reads hR hc hown.right hT hS
  have hx := str_take (printL l) (n + 1 + j)
  have hpa := fun W (hM : Mx W) => rleParse_any ((printL l).take (n + 1 + j)) W (by rw [List.length_take]; omega) hM
  rw [hp, ← hx] at hpa
  unfold SetR at hpa
  simp only at hpa
  have hdig : e = 30 → ∃ d : UInt8, 48 ≤ d.toNat ∧ d.toNat ≤ 57 ∧ ∀ (i : Nat) (hi : i < (str (printL l)).size), i = n + j → (str (printL l))[i]'hi = d := by
    intro he
    rcases hcase with ⟨h2, _⟩ | ⟨_, _, h4⟩
    · rw [he] at h2; exact absurd h2 (by decide)
    · refine ⟨(printL l).getD (n + j) 0, ?_, ?_, fun i hi hij => ?_⟩
      · unfold digB at h4; simp only [Bool.and_eq_true, decide_eq_true_eq] at h4; exact h4.1
      · unfold digB at h4; simp only [Bool.and_eq_true, decide_eq_true_eq] at h4; exact h4.2
      · subst hij
        rw [List.getD_eq_getElem?_getD, List.getElem?_eq_getElem (by omega)]
        rfl
  have hsz2 : (str (printL l)).size = n + 3 + m := by omega
  have hn2 : n ≤ 2600 := by omega
  have hm2 : m ≤ 2600 := by omega
  clear hx hp hshort hsize hz hown hS hjz hj hpb hn hm
  generalize str (printL l) = S at *
  generalize (printL l) = P at *
  have hpk2 : ∀ W, Calls Tryd.prog 12 #[.int .i64 at_, .int .i64 ((S.size : Int) - (n : Int) - 2)] W fun e w' => e = .returned (.int .i64 (j : Int)) ∧ W = w' := by
    rw [show (S.size : Int) - (n : Int) - 2 = (m : Int) + 1 by omega]
    exact hpk
  have hs1 : ¬ (S.size : Int) < (n : Int) + 3 := by omega
  have hs2 : (n : Int) + 1 + (j : Int) ≤ (S.size : Int) := by omega
  have hs3 : n + 1 + j ≤ S.size := by omega
  have hnz : S.size ≤ 5300 := by omega
  clear hpk hsz2
  have HT2 := Lib.hid t2
  have HT3 := Lib.hid t3
  have HD := Lib.hid hdig
  have HC := Lib.hid hcase
  clear t2 t3 hdig hcase
  go_enter Tryd.func6, Tryd.ntmps6
  go_wp2_with fail
  refine h1.mono ?_
  rintro e w1 ⟨rfl, B1⟩
  clear h1
  go_wp2_with fail
  refine (hfar w1 B1).mono ?_
  rintro e w2 ⟨v2, rfl, ⟨A2, c2, rfl, hc2, hR2⟩, hb2⟩
  have B2 := Qt.more B1 B1.size hb2
  clear hfar hb2 B1
  go_wp2_with fail
  refine (hpr A2 c2 w2 hR2 hc2 (hT.below B2)).mono ?_
  rintro e w3 ⟨rfl, hb3⟩
  have B3 := Qt.more B2 B2.size hb3
  clear hpr hb3 B2 hR2 hc2
  go_wp2
  go_loop [10] (fun i => ∃ k : Nat, k ≤ n ∧ i = .int .i64 k) (fun i => n - (intOf i).toNat)
  case atStart => exact ⟨0, Nat.zero_le _, rfl⟩
  case round =>
    obtain ⟨k, hk, rfl⟩ := hrel
    have hltz : (k : Int) < (S.size : Int) := by omega
    have hkS : k < S.size := by omega
    obtain ⟨t, ht⟩ : ∃ t, t = S[k]'hkS := ⟨_, rfl⟩
    have hidx : ∀ h, S[k]'h = t := fun _ => ht.symm
    rcases Nat.lt_or_ge k n with hkn | hkn
    · have hne : t ≠ 10 := by rw [ht]; exact HT2.out k hkS hkn
      have hz : ((t.toNat : Int) == 10) = false := by
        have : ¬ t.toNat = 10 := fun e => hne (UInt8.toNat_inj.1 e)
        simp
        omega
      clear ht hne hs1 hs2 hs3 HT2 HT3 HD HC hpa hpk2
      go_wp2
      go_round
      case measure => simp [intOf]; omega
      case rel => exact ⟨k + 1, by omega, by go_num⟩
    · obtain rfl : k = n := by omega
      obtain rfl : t = 10 := by rw [ht]; exact HT3.out _
      have hz : (((10 : UInt8).toNat : Int) == 10) = true := rfl
      clear ht HT2 HT3 hltz
      go_wp2_with fail
      refine (hpk2 _).mono ?_
      rintro e w4 ⟨rfl, rfl⟩
      go_wp2_with fail
      refine (hpa _ (hM.below B3)).mono ?_
      rintro e5 w5 ⟨v5, rfl, ⟨A5, c5, rfl, hc5, hR5⟩, hb5⟩
      have B5 := Qt.more B3 B3.size hb5
      clear hpk2 hpa hb5 B3 hR5
      rcases HC.out with ⟨rfl, rfl⟩ | ⟨rfl, hq, _⟩
      · go_wp2
        go_ret
        exact ⟨by first | rfl | (simp [*]; done), B5⟩
      · obtain ⟨d, d1, d2, d3⟩ := HD.out rfl
        have hix : ∀ h, S[k + j]'h = d := fun h => d3 _ h rfl
        have hqz : (q : Int) < (k : Int) + 1 + (j : Int) := by omega
        have d1z : (48 : Int) ≤ (d.toNat : Int) := by omega
        have d2z : (d.toNat : Int) ≤ 57 := by omega
        clear HD HC d3 hq
        go_wp2
        go_ret
        exact ⟨by first | rfl | (simp [*]; done), B5⟩
end Go.Proofs.YtacpncmdgkljdaaDoor
