/-
  The document's answers of layer 3 over slices: Ints, Bits, Sum.
-/
import Derived.Test.YtkmcleekiienmaaDoorNe
namespace Go.Proofs.YtkmcleekiienmaaDoor
set_option linter.unusedVariables false
set_option linter.unusedSimpArgs false
open Go.RowKit Go.Sort

theorem eq_of_all {l m : List Int} (hlen : l.length = m.length) (h : ∀ j, j < l.length → l.getD j 0 = m.getD j 0) : l = m := by
  refine List.ext_getElem hlen fun j h1 h2 => ?_
  have := h j h1
  rwa [List.getD_eq_getElem?_getD, List.getD_eq_getElem?_getD, List.getElem?_eq_getElem h1, List.getElem?_eq_getElem h2] at this

theorem ints_len (A A' : Option Addr) (n m c c' : Nat) (w : World) (hne : n ≠ m) :
    Calls Tryd.prog 13 #[.slice A n c, .slice A' m c'] w fun e w' => e = .returned (.bool false) ∧ Below w.heap.size w w' := by
  have hz : ((n : Int) == (m : Int)) = false := beq_eq_false_iff_ne.2 (by omega)
  have hz2 : ((n : Int) != (m : Int)) = true := by rw [bne, hz]; rfl
  go_enter Tryd.func13, Tryd.ntmps13
  go_wp2
  go_ret
  exact ⟨rfl, Below.refl _ _⟩

theorem ints_same (A A' : Option Addr) (l m : List Int) (c c' : Nat) (w : World) (hR : Now w A l) (hR' : Now w A' m) (hl : l.length ≤ 1000000) (hlm : l.length = m.length) :
    Calls Tryd.prog 13 #[.slice A l.length c, .slice A' l.length c'] w fun e w' => e = .returned (.bool (decide (l = m))) ∧ Below w.heap.size w w' := by
  generalize hr : decide (l = m) = r
  have HR := Lib.hid hr
  have HLM := Lib.hid hlm
  clear hr hlm
  go_enter Tryd.func13, Tryd.ntmps13
  go_wp2
  go_loopw [5] (fun i wr => ∃ k : Nat, k ≤ l.length ∧ i = .int .i64 k ∧ Hid (∀ j, j < k → l.getD j 0 = m.getD j 0) ∧ Below w.heap.size w wr) (fun i _ => l.length - (intOf i).toNat)
  case atStart => exact ⟨0, Nat.zero_le _, rfl, (show Hid _ from fun j hj => absurd hj (Nat.not_lt_zero j)), Below.refl _ _⟩
  case round =>
    obtain ⟨k, hk, rfl, HK, hb⟩ := hrel
    by_cases hlt : k < l.length
    · have hltz : (k : Int) < (l.length : Int) := by omega
      obtain ⟨b, off, rfl, hbB, hcell⟩ := hR.at_ (by omega)
      obtain ⟨b2, off2, rfl, hbB2, hcell2⟩ := hR'.at_ (by have := HLM.out; omega)
      obtain ⟨x, hx⟩ : ∃ p, p = l.getD k 0 := ⟨_, rfl⟩
      obtain ⟨y, hy⟩ : ∃ p, p = m.getD k 0 := ⟨_, rfl⟩
      have a0 := hcell k hlt
      have e0 := hcell2 k (by have := HLM.out; omega)
      rw [← hx] at a0
      rw [← hy] at e0
      have k0 := Qt.cell_in (Qt.keep hb a0)
      have k2 := Qt.cell_in (Qt.keep hb e0)
      have HX := Lib.hid hx
      have HY := Lib.hid hy
      clear hx hy hcell hcell2 a0 e0
      by_cases hxy : x = y
      · subst hxy
        go_wp2
        refine Qt.below_all (by kernel_rfl) (by kernel_rfl) ?_
        repeat (go_big_quiet_step (fail))
        refine wpQuiet_nil ?_
        intro w1 hb1
        clear k0 k2
        go_wp2
        go_roundw
        case measure => simp [intOf]; omega
        case rel =>
          refine ⟨k + 1, by omega, by go_num, (show Hid _ from fun j hj => ?_), Qt.more hb hb.size hb1⟩
          by_cases hjk : j = k
          · subst hjk; rw [← HX.out, ← HY.out]
          · exact HK.out j (by omega)
      · have hne : l ≠ m := by
          intro e
          subst e
          exact hxy (HX.out.trans HY.out.symm)
        have HNE := Lib.hid hne
        clear hne
        go_wp2
        refine Qt.below_all (by kernel_rfl) (by kernel_rfl) ?_
        repeat (go_big_quiet_step (fail))
        refine wpQuiet_nil ?_
        intro w1 hb1
        clear k0 k2
        go_wp2
        go_ret
        exact ⟨by rw [← HR.out, decide_eq_false HNE.out]; rfl, Qt.more hb hb.size hb1⟩
    · have hltz : ¬ (k : Int) < (l.length : Int) := by omega
      have he : l = m := eq_of_all HLM.out fun j hj => HK.out j (by omega)
      have HE := Lib.hid he
      clear he
      go_wp2
      go_ret
      exact ⟨by rw [← HR.out, decide_eq_true HE.out]; rfl, hb⟩

theorem ints_any {A A' : Option Addr} {l m : List Int} {n n' c c' : Nat} {w : World} (hR : Now w A l) (hR' : Now w A' m) (hn : n = l.length) (hn' : n' = m.length) (hl : n ≤ 1000000) :
    Calls Tryd.prog 13 #[.slice A n c, .slice A' n' c'] w fun e w' => e = .returned (.bool (decide (l = m))) ∧ Below w.heap.size w w' := by
  subst hn hn'
  by_cases h : l.length = m.length
  · have := ints_same A A' l m c c' w hR hR' hl h
    rwa [← h]
  · rw [decide_eq_false fun e => h (congrArg List.length e)]
    exact ints_len A A' _ _ c c' w h
theorem ints_yes {A A' : Option Addr} {l m : List Int} {n n' c c' : Nat} {w : World} (hR : Now w A l) (hR' : Now w A' m) (hn : n = l.length) (hn' : n' = m.length) (hl : n ≤ 1000000) (he : l = m) :
    Calls Tryd.prog 13 #[.slice A n c, .slice A' n' c'] w fun e w' => e = .returned (.bool true) ∧ Below w.heap.size w w' := by
  have := ints_any (c := c) (c' := c') hR hR' hn hn' hl
  rwa [decide_eq_true he] at this

set_option maxHeartbeats 1000000 in
theorem refBits_any (n : Int) (w : World) (hi : I64 n) :
    Calls Tryd.prog 15 #[.int .i64 n] w (OutR (bitsL n) w) := by
  by_cases h : 0 ≤ n ∧ n ≤ 4611686018427387903
  · obtain ⟨h0, h1⟩ := h
    obtain ⟨u, rfl⟩ : ∃ u : Nat, n = u := ⟨n.toNat, by omega⟩
    have hu : u ≤ 4611686018427387903 := by omega
    rw [bitsL_nat hu]
    clear hi
    go_enter Tryd.func15, Tryd.ntmps15
    go_wp2
    go_loopw [3, 4] (fun v i wr => ∃ k : Nat, k ≤ 62 ∧ i = .int .i64 k ∧ Hid (Own wr w.heap.size v (bitsTo u k)) ∧ Below w.heap.size w wr) (fun _ i _ => 62 - (intOf i).toNat)
    case atStart => exact ⟨0, Nat.zero_le _, rfl, World.ownsRow_nil _ _ _ _, Below.refl _ _⟩
    case round =>
      obtain ⟨k, hk, rfl, HO, hb⟩ := hrel
      by_cases hlt : k < 62
      · have hltz : (k : Int) < 62 := by omega
        have hq : ((u : Int) / 2 ^ k) = ((u / 2 ^ k : Nat) : Int) := bit_of u k
        have hq0 : 0 ≤ (u : Int) / 2 ^ k := by rw [hq]; exact Int.natCast_nonneg _
        have HQ := Lib.hid hq
        clear hq
        by_cases hbit : u.testBit k = true
        · have hs : bitsTo u (k + 1) = bitsTo u k ++ [(k : Int)] := by rw [bitsTo_succ, if_pos hbit]
          have hy : ((u : Int) / 2 ^ k % 2 == 1) = true := by
            rw [Nat.testBit_eq_decide_div_mod_eq] at hbit
            have := of_decide_eq_true hbit
            rw [HQ.out, beq_iff_eq]
            omega
          have hlen := bitsTo_len u k
          obtain ⟨v', w', hrun, hown, hb2⟩ := push_any (k : Int) hb.size HO.out (by omega)
          have HS := Lib.hid hs
          have HO2 := Lib.hid hown
          have HRUN := Lib.hid hrun
          clear hbit hs hown hrun hlen
          go_wp2_with (at_builtin; refine Lib.wpList_append_run _ rfl (.tmp 22) (.tmp 24) 22 22 rfl _ _ rfl rfl _ _ HRUN.out ?_)
          go_roundw
          case measure => simp [intOf]; omega
          case rel => exact ⟨k + 1, by omega, by go_num, (by rw [HS.out]; exact HO2.out), hb.trans hb2⟩
        · have hn : u.testBit k = false := by simpa using hbit
          have hs : bitsTo u (k + 1) = bitsTo u k := by rw [bitsTo_succ, if_neg hbit, List.append_nil]
          have hy : ((u : Int) / 2 ^ k % 2 == 1) = false := by
            rw [Nat.testBit_eq_decide_div_mod_eq] at hn
            have := of_decide_eq_false hn
            rw [HQ.out, beq_eq_false_iff_ne]
            omega
          have HS := Lib.hid hs
          clear hbit hn hs
          go_wp2
          go_roundw
          case measure => simp [intOf]; omega
          case rel => exact ⟨k + 1, by omega, by go_num, (by rw [HS.out]; exact HO.out), hb⟩
      · obtain rfl : k = 62 := by omega
        go_wp2
        go_ret
        exact ⟨_, rfl, HO.out.reads, hb⟩
  · have e : bitsL n = [] := by unfold bitsL; rw [if_neg h]
    rw [e]
    clear e
    have h' : n < 0 ∨ 4611686018427387903 < n := by omega
    have hnil : ∀ w : World, OutR [] w (.returned (.slice none 0 0)) w := fun w => ⟨_, rfl, ⟨none, 0, rfl, Nat.le_refl _, now_nil _ _⟩, Below.refl _ _⟩
    rcases h' with h' | h'
    · have h0 : ¬ 0 ≤ n := by omega
      clear h
      go_enter Tryd.func15, Tryd.ntmps15
      go_wp2
      go_rounds 1
      all_goals go_ret
      all_goals exact hnil w
    · have h0 : 0 ≤ n := by omega
      have h1 : ¬ n ≤ 4611686018427387903 := by omega
      clear h
      go_enter Tryd.func15, Tryd.ntmps15
      go_wp2
      go_rounds 1
      all_goals go_ret
      all_goals exact hnil w

theorem total_bound {l : List Int} {k x : Nat} (h : k < l.length) (hx : (x : Int) = l.getD k 0) (hn : 4611686018427387903 < total (l.take k) + 2 ^ x) : 4611686018427387903 < total l := by
  have h1 := total_take_le l (k + 1)
  rw [total_take_succ h, ← hx] at h1
  simp only [Int.toNat_natCast] at h1
  omega

set_option maxHeartbeats 2000000 in
theorem refSum_any (A : Option Addr) (l : List Int) (c : Nat) (w : World) (hR : Now w A l) (hl : l.length ≤ 9223372036854775807) (hc : l.length ≤ c) (hw : ∀ x ∈ l, I64 x) :
    Calls Tryd.prog 19 #[.slice A l.length c] w (PairR (sumL l) w) := by
  generalize hr : sumL l = r
  obtain ⟨r1, r2⟩ := r
  have HR := Lib.hid hr
  have HW := Lib.hid hw
  clear hr hw
  go_enter Tryd.func19, Tryd.ntmps19
  go_wp2
  go_loop [4] (fun i => ∃ k : Nat, k ≤ l.length ∧ i = .int .i64 k ∧ Hid (∀ j, j < k → 0 ≤ l.getD j 0 ∧ l.getD j 0 ≤ 61)) (fun i => l.length - (intOf i).toNat)
  case atStart => exact ⟨0, Nat.zero_le _, rfl, fun j hj => absurd hj (Nat.not_lt_zero j)⟩
  case round =>
    obtain ⟨k, hk, rfl, HK⟩ := hrel
    by_cases hlt : k < l.length
    · have hltz : (k : Int) < (l.length : Int) := by omega
      obtain ⟨b, off, rfl, hbB, hcell⟩ := hR.at_ (by omega)
      have a0 := hcell k hlt
      clear hcell
      obtain ⟨x, hx⟩ : ∃ x, x = l.getD k 0 := ⟨_, rfl⟩
      rw [← hx] at a0
      have HX := Lib.hid hx
      clear hx
      by_cases hin : 0 ≤ x ∧ x ≤ 61
      · obtain ⟨hx1, hx2⟩ := hin
        go_wp2
        go_round
        case measure => simp [intOf]; omega
        case rel => exact ⟨k + 1, by omega, by go_num, in_to HK.out (by rw [← HX.out]; omega)⟩
      · have he := HR.out.symm.trans (sum_away hlt (by rw [← HX.out]; omega))
        simp only [Prod.mk.injEq] at he
        obtain ⟨rfl, rfl⟩ := he
        clear HR HX HK
        by_cases hneg : x < 0
        · clear hin
          go_wp2
          all_goals go_ret2
          all_goals exact ⟨rfl, Below.refl _ _⟩
        · have h62 : 61 < x := by omega
          clear hin
          go_wp2
          all_goals go_ret2
          all_goals exact ⟨rfl, Below.refl _ _⟩
    · have hltz : ¬ (k : Int) < (l.length : Int) := by omega
      have hin : ∀ j, j < l.length → 0 ≤ l.getD j 0 ∧ l.getD j 0 ≤ 61 := by rw [show l.length = k by omega]; exact HK.out
      have HIN := Lib.hid hin
      clear hin HK
      go_wp2
      go_loop [5, 6] (fun v i => ∃ k n : Nat, k ≤ l.length ∧ n ≤ 4611686018427387903 ∧ v = .int .i64 n ∧ i = .int .i64 k ∧ Hid (n = total (l.take k))) (fun _ i => l.length - (intOf i).toNat)
      case atStart => exact ⟨0, 0, Nat.zero_le _, Nat.zero_le _, rfl, rfl, rfl⟩
      case round =>
        obtain ⟨k, n, hk, hn, rfl, rfl, HK⟩ := hrel
        by_cases hlt : k < l.length
        · have hltz : (k : Int) < (l.length : Int) := by omega
          obtain ⟨b, off, rfl, hbB, hcell⟩ := hR.at_ (by omega)
          have a0 := hcell k hlt
          clear hcell
          have hin := HIN.out k hlt
          obtain ⟨x, hx⟩ : ∃ x : Nat, (x : Int) = l.getD k 0 := ⟨(l.getD k 0).toNat, by omega⟩
          rw [← hx] at a0 hin
          have hx61 : x ≤ 61 := by omega
          have HX := Lib.hid hx
          have hp := pow_bd hx61
          have hpc : ((2 ^ x : Nat) : Int) = (2 : Int) ^ x := by simp
          have hp1 : 1 ≤ (2 : Int) ^ x := by omega
          have hp2 : (2 : Int) ^ x ≤ 2305843009213693952 := by omega
          clear hin hx
          by_cases hbig : 4611686018427387903 - (2 : Int) ^ x < (n : Int)
          · have he := HR.out.symm.trans (sum_big HIN.out (total_bound hlt HX.out (by rw [← HK.out]; omega)))
            simp only [Prod.mk.injEq] at he
            obtain ⟨rfl, rfl⟩ := he
            clear HR HX HK hp hpc
            go_wp2
            all_goals go_ret2
            all_goals exact ⟨rfl, Below.refl _ _⟩
          · have hsum : ((n + 2 ^ x : Nat) : Int) = (n : Int) + 2 ^ x := by omega
            have htot : total (l.take (k + 1)) = total (l.take k) + 2 ^ x := by rw [total_take_succ hlt, ← HX.out]; simp
            have hle : n + 2 ^ x ≤ 4611686018427387903 := by omega
            have HS := Lib.hid hsum
            have HT := Lib.hid htot
            have HLE := Lib.hid hle
            clear hsum htot hle hp hpc
            go_wp2
            go_round
            case measure => simp [intOf]; omega
            case rel => exact ⟨k + 1, n + 2 ^ x, by omega, HLE.out, by rw [HS.out], by go_num, (show n + 2 ^ x = total _ by rw [HT.out, ← HK.out])⟩
        · have hltz : ¬ (k : Int) < (l.length : Int) := by omega
          have hfull : l.take k = l := List.take_of_length_le (by omega)
          have ht : n = total l := by rw [HK.out, hfull]
          have he := HR.out.symm.trans (sum_fits HIN.out (by omega))
          rw [← ht] at he
          simp only [Prod.mk.injEq] at he
          obtain ⟨rfl, rfl⟩ := he
          clear hfull ht HK HR
          go_wp2
          all_goals go_ret2
          all_goals exact ⟨rfl, Below.refl _ _⟩

end Go.Proofs.YtkmcleekiienmaaDoor
