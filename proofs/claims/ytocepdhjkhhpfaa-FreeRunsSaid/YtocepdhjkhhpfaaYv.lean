/-
  The document's own answers to layer 12: Make; a run without error.
-/
import Derived.Test.YtocepdhjkhhpfaaYu
import Derived.Test.YtocepdhjkhhpfaaB12
namespace Go.Proofs.Ytocepdhjkhhpfaa
set_option maxRecDepth 100000
set_option linter.unusedVariables false
set_option linter.unusedSimpArgs false
open Go.RowKit Go.Sort

theorem runW_ok {at0 : Int} {picks m m' : List Int} {l l' : List Wk} (h : runW at0 picks m l = (m', l', 0)) : l.length ≤ 64 ∧ runA at0 picks 100000 0 m l (-1) = (m', l', 0) := by
  unfold runW at h
  split at h
  · injection h with _ h2
    injection h2 with _ h3
    exact absurd h3 (by decide)
  · rename_i hl
    split at h
    · exact ⟨by omega, h⟩
    · rename_i hne
      injection h with _ h2
      injection h2 with _ h3
      exact absurd h3 hne
def mkTo (n i : Nat) : List Int := if n = 0 then [0] else if i < n then (List.range (i + 1)).map (fun (j : Nat) => (j : Int) + 1) else makeL n
theorem mkTo_zero {n : Nat} : mkTo n 0 = [min (n : Int) 1] := by
  unfold mkTo
  by_cases h : n = 0
  · subst h; rfl
  · rw [if_neg h, if_pos (by omega)]
    have : min (n : Int) 1 = 1 := by omega
    rw [this]
    rfl
theorem mkTo_all (n : Nat) : mkTo n n = makeL n := by
  unfold mkTo
  by_cases h : n = 0
  · subst h; rfl
  · rw [if_neg h, if_neg (by omega)]
theorem mkTo_succ {n i : Nat} (h : i < n) : mkTo n (i + 1) = mkTo n i ++ [if i + 1 = n then 0 else (i : Int) + 2] := by
  unfold mkTo
  rw [if_neg (show ¬ n = 0 by omega), if_neg (show ¬ n = 0 by omega), if_pos h]
  by_cases h1 : i + 1 = n
  · subst h1
    rw [if_neg (show ¬ i + 1 < i + 1 by omega), if_pos rfl]
    unfold makeL makeTo
    rw [show i + 1 + 1 - (i + 1) = 1 by omega]
    first | rfl | skip
  · rw [if_pos (show i + 1 < n by omega), if_neg h1, List.range_succ, List.map_append]
    congr 1
theorem mkTo_len {n i : Nat} (h : i ≤ n) : (mkTo n i).length = i + 1 := by
  unfold mkTo
  by_cases h0 : n = 0
  · subst h0
    obtain rfl : i = 0 := by omega
    rfl
  · rw [if_neg h0]
    split
    · simp
    · obtain rfl : i = n := by omega
      exact makeL_len _
set_option maxHeartbeats 4000000 in
theorem refMake_any (n : Nat) (hn : n ≤ 900) (w : World) : Calls Try.prog 13 #[.int .i64 n] w (NumsR (makeL n) w) := by
  have h0 : ¬ (n : Int) < 0 := by omega
  have h1 : ¬ (1000 : Int) < (n : Int) := by omega
  rcases (show n = 0 ∨ n = 1 ∨ 1 < n by omega) with rfl | rfl | hn1
  · skip
    have HO : Hid (Own (w.alloc (.cells #[.int .i64 0] 3)) w.heap.size (.slice (some ⟨w.heap.size, 0, none⟩) 1 1) (mkTo 0 0) ∧ Below w.heap.size w (w.alloc (.cells #[.int .i64 0] 3))) := by
      rw [mkTo_zero, show min ((0 : Nat) : Int) 1 = 0 by omega]
      exact ⟨⟨rfl, .inr ⟨w.heap.size, 1, #[.int .i64 0], rfl, Nat.le_refl _, heap_alloc_new w _, Nat.le_refl _, by unfold maxLen; decide, rfl, rfl⟩⟩, (Below.refl _ _).alloc (Nat.le_refl _) _⟩
    go_enter Try.func13, Try.ntmps13
    go_wp2_with fail
    go_loopw [3, 4] (fun out i wr => ∃ k : Nat, k ≤ 0 ∧ i = .int .i64 k ∧ Hid (Own wr w.heap.size out (mkTo 0 k) ∧ Below w.heap.size w wr)) (fun _ i _ => 0 - (intOf i).toNat)
    case atStart => exact ⟨0, Nat.zero_le _, rfl, HO.out⟩
    case round =>
      obtain ⟨k, hk, rfl, HH⟩ := hrel
      by_cases hlt : k < 0
      · exact absurd hlt (by omega)
      · obtain hke : k = 0 := by omega
        have hltz : ¬ (k : Int) < ((0 : Nat) : Int) := by omega
        have HF : Hid (Own wr w.heap.size u3 (makeL 0) ∧ Below w.heap.size w wr) := by
          have h9 := HH.out
          rw [hke, mkTo_all] at h9
          exact h9
        clear HH hke
        go_wp2_with fail
        go_ret
        exact ⟨u3, rfl, HF.out⟩
  · skip
    have HO : Hid (Own (w.alloc (.cells #[.int .i64 1] 3)) w.heap.size (.slice (some ⟨w.heap.size, 0, none⟩) 1 1) (mkTo 1 0) ∧ Below w.heap.size w (w.alloc (.cells #[.int .i64 1] 3))) := by
      rw [mkTo_zero, show min ((1 : Nat) : Int) 1 = 1 by omega]
      exact ⟨⟨rfl, .inr ⟨w.heap.size, 1, #[.int .i64 1], rfl, Nat.le_refl _, heap_alloc_new w _, Nat.le_refl _, by unfold maxLen; decide, rfl, rfl⟩⟩, (Below.refl _ _).alloc (Nat.le_refl _) _⟩
    go_enter Try.func13, Try.ntmps13
    go_wp2_with fail
    go_loopw [3, 4] (fun out i wr => ∃ k : Nat, k ≤ 1 ∧ i = .int .i64 k ∧ Hid (Own wr w.heap.size out (mkTo 1 k) ∧ Below w.heap.size w wr)) (fun _ i _ => 1 - (intOf i).toNat)
    case atStart => exact ⟨0, Nat.zero_le _, rfl, HO.out⟩
    case round =>
      obtain ⟨k, hk, rfl, HH⟩ := hrel
      by_cases hlt : k < 1
      · have hltz : (k : Int) < ((1 : Nat) : Int) := by omega
        have hs := mkTo_succ hlt
        have hlen := mkTo_len (n := 1) (i := k) (by omega)
        by_cases hl1 : k + 1 = 1
        · rw [if_pos hl1] at hs
          obtain ⟨v', w', hrun, hown, hb⟩ := push_any 0 HH.out.2.size HH.out.1 (by rw [hlen]; omega)
          rw [← hs] at hown
          have hq : ((k : Int) == ((1 : Nat) : Int) - 1) = true := by rw [beq_iff_eq]; omega
          have HRun := Lib.hid hrun
          have HN := Lib.hid (And.intro hown (HH.out.2.trans hb))
          clear hs hlen hrun hown hb
          go_wp2_with (at_builtin; refine Lib.wpList_append_run _ rfl (.tmp 23) (.tmp 24) 23 23 rfl _ _ rfl rfl _ _ HRun.out ?_)
          go_roundw
          case measure => simp [intOf]; omega
          case rel => exact ⟨k + 1, by omega, by go_num, HN.out⟩
        · exact absurd (show k + 1 = 1 by omega) hl1
      · obtain hke : k = 1 := by omega
        have hltz : ¬ (k : Int) < ((1 : Nat) : Int) := by omega
        have HF : Hid (Own wr w.heap.size u3 (makeL 1) ∧ Below w.heap.size w wr) := by
          have h9 := HH.out
          rw [hke, mkTo_all] at h9
          exact h9
        clear HH hke
        go_wp2_with fail
        go_ret
        exact ⟨u3, rfl, HF.out⟩
  · have hm2 : (1 : Int) < (n : Int) := by omega
    have HO : Hid (Own (w.alloc (.cells #[.int .i64 1] 3)) w.heap.size (.slice (some ⟨w.heap.size, 0, none⟩) 1 1) (mkTo n 0) ∧ Below w.heap.size w (w.alloc (.cells #[.int .i64 1] 3))) := by
      rw [mkTo_zero, show min ((n : Nat) : Int) 1 = 1 by omega]
      exact ⟨⟨rfl, .inr ⟨w.heap.size, 1, #[.int .i64 1], rfl, Nat.le_refl _, heap_alloc_new w _, Nat.le_refl _, by unfold maxLen; decide, rfl, rfl⟩⟩, (Below.refl _ _).alloc (Nat.le_refl _) _⟩
    go_enter Try.func13, Try.ntmps13
    go_wp2_with fail
    go_loopw [3, 4] (fun out i wr => ∃ k : Nat, k ≤ n ∧ i = .int .i64 k ∧ Hid (Own wr w.heap.size out (mkTo n k) ∧ Below w.heap.size w wr)) (fun _ i _ => n - (intOf i).toNat)
    case atStart => exact ⟨0, Nat.zero_le _, rfl, HO.out⟩
    case round =>
      obtain ⟨k, hk, rfl, HH⟩ := hrel
      by_cases hlt : k < n
      · have hltz : (k : Int) < ((n : Nat) : Int) := by omega
        have hs := mkTo_succ hlt
        have hlen := mkTo_len (n := n) (i := k) (by omega)
        by_cases hl1 : k + 1 = n
        · rw [if_pos hl1] at hs
          obtain ⟨v', w', hrun, hown, hb⟩ := push_any 0 HH.out.2.size HH.out.1 (by rw [hlen]; omega)
          rw [← hs] at hown
          have hq : ((k : Int) == ((n : Nat) : Int) - 1) = true := by rw [beq_iff_eq]; omega
          have HRun := Lib.hid hrun
          have HN := Lib.hid (And.intro hown (HH.out.2.trans hb))
          clear hs hlen hrun hown hb
          go_wp2_with (at_builtin; refine Lib.wpList_append_run _ rfl (.tmp 23) (.tmp 24) 23 23 rfl _ _ rfl rfl _ _ HRun.out ?_)
          go_roundw
          case measure => simp [intOf]; omega
          case rel => exact ⟨k + 1, by omega, by go_num, HN.out⟩
        · rw [if_neg hl1] at hs
          obtain ⟨v', w', hrun, hown, hb⟩ := push_any ((k : Int) + 2) HH.out.2.size HH.out.1 (by rw [hlen]; omega)
          rw [← hs] at hown
          have hq : ((k : Int) == ((n : Nat) : Int) - 1) = false := by rw [beq_eq_false_iff_ne]; omega
          have HRun := Lib.hid hrun
          have HN := Lib.hid (And.intro hown (HH.out.2.trans hb))
          clear hs hlen hrun hown hb
          go_wp2_with (at_builtin; refine Lib.wpList_append_run _ rfl (.tmp 26) (.tmp 29) 23 23 rfl _ _ rfl rfl _ _ HRun.out ?_)
          go_roundw
          case measure => simp [intOf]; omega
          case rel => exact ⟨k + 1, by omega, by go_num, HN.out⟩
      · obtain hke : k = n := by omega
        have hltz : ¬ (k : Int) < ((n : Nat) : Int) := by omega
        have HF : Hid (Own wr w.heap.size u3 (makeL n) ∧ Below w.heap.size w wr) := by
          have h9 := HH.out
          rw [hke, mkTo_all] at h9
          exact h9
        clear HH hke
        go_wp2_with fail
        go_ret
        exact ⟨u3, rfl, HF.out⟩
end Go.Proofs.Ytocepdhjkhhpfaa
