/-
  The document's answers of layer 3 over texts: Text, Parse.
-/
import Derived.Test.YtildobjgohddoaaDoorNc
import Derived.Laws.IdiomStrings
namespace Go.Proofs.YtildobjgohddoaaDoor
set_option linter.unusedVariables false
set_option linter.unusedSimpArgs false
open Go.RowKit Go.Sort

theorem txt_out {n : Int} (h : n < 0 ∨ 4611686018427387903 < n) : txt n = ⟨#[]⟩ := by unfold txt txtL; rw [if_neg (by omega)]
theorem txt_size (n : Int) : (txt n).size ≤ 19 := by
  have := txtL_len n
  show (txtL n).toArray.size ≤ 19
  simpa using this
theorem txt_small {u : Nat} (h : u < 10) : txt u = ⟨[UInt8.ofNat (48 + u % 10)].toArray⟩ := by
  unfold txt
  rw [txtL_nat (by omega), dec_small h, show u % 10 = u by omega]
theorem txt_big {u : Nat} (h : ¬ u < 10) (hu : u ≤ 4611686018427387903) : txt u = txt ((u / 10 : Nat) : Int) ++ ⟨[UInt8.ofNat (48 + u % 10)].toArray⟩ := by
  unfold txt
  rw [txtL_nat hu, txtL_nat (by omega), dec_big h]
  apply ByteArray.ext
  simp

theorem conv_one (w : World) (u : Nat) : (convert 41 9 (.slice (some ⟨w.heap.size, 0, none⟩) 1 1)).run Tryd.prog (w.alloc (.cells #[.int .u8 (48 + (u : Int) % 10)] 5)) = .ok (.string ⟨[UInt8.ofNat (48 + u % 10)].toArray⟩) (w.alloc (.cells #[.int .u8 (48 + (u : Int) % 10)] 5)) := by
  refine run_convert_bytes_back (P := Tryd.prog) _ 41 9 5 ⟨w.heap.size, 0, none⟩ 1 [UInt8.ofNat (48 + u % 10)] Tryd.underlying41 Tryd.underlying5 Tryd.underlying9 fun j hj => ?_
  have hj0 : j = 0 := by simp at hj; omega
  subst hj0
  have e : ((UInt8.ofNat (48 + u % 10)).toNat : Int) = 48 + (u : Int) % 10 := by
    rw [ofNat_to (u % 10) (by omega)]
    omega
  simp only [List.getElem_cons_zero, e]
  simp [Addr.add]

set_option maxHeartbeats 1000000 in
set_option maxRecDepth 100000 in
theorem refText_nat (u : Nat) (hu : u ≤ 4611686018427387903) (w : World) :
    Calls Tryd.prog 17 #[.int .i64 u] w fun e w' => e = .returned (.string (txt u)) ∧ Below w.heap.size w w' := by
  induction u using Nat.strongRecOn generalizing w with
  | _ u ih =>
    have hcv := conv_one w u
    have hb1 : Below w.heap.size w (w.alloc (.cells #[.int .u8 (48 + (u : Int) % 10)] 5)) := (Below.refl _ _).alloc (Nat.le_refl _) _
    by_cases h10 : u < 10
    · rw [txt_small h10]
      generalize (⟨[UInt8.ofNat (48 + u % 10)].toArray⟩ : ByteArray) = c at hcv ⊢
      clear ih
      have h10z : (u : Int) < 10 := by omega
      go_enter Tryd.func17, Tryd.ntmps17
      go_wp2
      go_ret
      exact ⟨rfl, hb1⟩
    · have hi := ih (u / 10) (by omega) (by omega)
      have HB := Lib.hid (txt_big h10 hu)
      have hs := txt_size ((u / 10 : Nat) : Int)
      have hq : ((u / 10 : Nat) : Int) = (u : Int) / 10 := by omega
      rw [hq] at hi hs
      rw [HB.out, hq]
      generalize txt ((u : Int) / 10) = t at hi hs ⊢
      have h10z : ¬ (u : Int) < 10 := by omega
      clear hq ih HB
      generalize hc : (⟨[UInt8.ofNat (48 + u % 10)].toArray⟩ : ByteArray) = c at hcv ⊢
      have hcs : c.size = 1 := by rw [← hc]; rfl
      have hcs1 : c.size ≤ 1 := by omega
      clear hc hcs
      go_enter Tryd.func17, Tryd.ntmps17
      go_wp2_with (go_at_call 17; refine (hi _).mono ?_; rintro e w' ⟨rfl, hb2⟩)
      go_ret
      exact ⟨rfl, Qt.more hb1 hb1.size hb2⟩

theorem refText_any (n : Int) (w : World) (hi : I64 n) :
    Calls Tryd.prog 17 #[.int .i64 n] w fun e w' => e = .returned (.string (txt n)) ∧ Below w.heap.size w w' := by
  by_cases h : 0 ≤ n ∧ n ≤ 4611686018427387903
  · have := refText_nat n.toNat (by omega) w
    rwa [show ((n.toNat : Nat) : Int) = n by omega] at this
  · rw [txt_out (by omega)]
    have h' : n < 0 ∨ ¬ n < 0 ∧ 4611686018427387903 < n := by omega
    clear h hi
    rcases h' with h | ⟨h0, h⟩
    all_goals
      go_enter Tryd.func17, Tryd.ntmps17
      go_wp2
      all_goals go_ret
      all_goals exact ⟨rfl, Below.refl _ _⟩

set_option maxHeartbeats 4000000 in
theorem refParse_any (s : ByteArray) (w : World) (hs : s.size ≤ maxLen) :
    Calls Tryd.prog 23 #[.string s] w (ParseR (parseL s.data.toList) w) := by
  unfold maxLen at hs
  generalize hr : parseL s.data.toList = r
  obtain ⟨r1, r2⟩ := r
  have HR := Lib.hid hr
  clear hr
  go_enter Tryd.func23, Tryd.ntmps23
  go_wp2
  go_loop [4] (fun i => ∃ k : Nat, k ≤ s.size ∧ i = .int .i64 k ∧ Hid (∀ j, j < k → 48 ≤ byt s j ∧ byt s j ≤ 57)) (fun i => s.size - (intOf i).toNat)
  case atStart => exact ⟨0, Nat.zero_le _, rfl, fun j hj => absurd hj (Nat.not_lt_zero j)⟩
  case round =>
    obtain ⟨k, hk, rfl, HK⟩ := hrel
    by_cases hlt : k < s.size
    · have hltz : (k : Int) < (s.size : Int) := by omega
      have hbk := byt_at s k hlt
      obtain ⟨d, hd⟩ : ∃ d : Nat, d = (s[k]'hlt).toNat := ⟨_, rfl⟩
      by_cases hin : 48 ≤ (s[k]'hlt).toNat ∧ (s[k]'hlt).toNat ≤ 57
      · obtain ⟨h1, h2⟩ := hin
        have HK2 := Lib.hid (digs_to hlt HK.out (by omega))
        clear hbk hd HK
        go_wp2
        go_round
        case measure => simp [intOf]; omega
        case rel => exact ⟨k + 1, by omega, by go_num, HK2.out⟩
      · have he := HR.out.symm.trans (parse_off hlt (by omega))
        simp only [Prod.mk.injEq] at he
        obtain ⟨rfl, rfl⟩ := he
        have h' : (s[k]'hlt).toNat < 48 ∨ ¬ (s[k]'hlt).toNat < 48 ∧ 57 < (s[k]'hlt).toNat := by omega
        clear hbk hd HK HR hin
        rcases h' with h | ⟨h0, h⟩
        all_goals
          go_wp2
          all_goals go_ret2
          all_goals exact ⟨rfl, Below.refl _ _⟩
    · have hltz : ¬ (k : Int) < (s.size : Int) := by omega
      have hdig : ∀ j, j < s.size → 48 ≤ byt s j ∧ byt s j ≤ 57 := by rw [show s.size = k by omega]; exact HK.out
      have HD := Lib.hid hdig
      clear hdig HK
      by_cases h0 : s.size = 0
      · have hp := HR.out.symm.trans (parse_none h0)
        simp only [Prod.mk.injEq] at hp
        obtain ⟨rfl, rfl⟩ := hp
        have hs0 : s.toList = [] := list_none h0
        clear h0 HR
        go_wp2
        all_goals go_ret2
        all_goals exact ⟨rfl, Below.refl _ _⟩
      · have hs0 : ¬ s.toList = [] := list_some (by omega)
        have hs1 : s.toList.isEmpty = false := by simpa using hs0
        have hpos : 0 < s.size := by omega
        clear h0
        by_cases hz : 1 < s.size ∧ byt s 0 = 48
        · have hp := HR.out.symm.trans (parse_zero hz.1 hz.2)
          simp only [Prod.mk.injEq] at hp
          obtain ⟨rfl, rfl⟩ := hp
          have h1 : (1 : Int) < (s.size : Int) := by omega
          have h2 : (((s[0]'hpos).toNat : Int) == 48) = true := by rw [byt_at s 0 hpos, hz.2]; rfl
          clear hz HR
          go_wp2
          all_goals go_ret2
          all_goals exact ⟨rfl, Below.refl _ _⟩
        · have hgood : badL s.data.toList = false := parse_all hpos hz HD.out
          have HG := Lib.hid hgood
          have hcase : ¬ (1 : Int) < (s.size : Int) ∨ (1 : Int) < (s.size : Int) ∧ (((s[0]'hpos).toNat : Int) == 48) = false := by
            by_cases h1 : 1 < s.size
            · right
              refine ⟨by omega, ?_⟩
              rw [byt_at s 0 hpos, beq_eq_false_iff_ne]
              intro e
              exact hz ⟨h1, by omega⟩
            · left; omega
          clear hz hgood
          by_cases h19 : 19 < s.size
          · have hp := HR.out.symm.trans (parse_big HG.out (long_big HG.out (by rw [← size_list]; exact h19)))
            simp only [Prod.mk.injEq] at hp
            obtain ⟨rfl, rfl⟩ := hp
            have h19z : (19 : Int) < (s.size : Int) := by omega
            clear HR
            rcases hcase with h1 | ⟨h1, h2⟩
            all_goals
              go_wp2
              all_goals go_ret2
              all_goals exact ⟨rfl, Below.refl _ _⟩
          · have h19z : ¬ (19 : Int) < (s.size : Int) := by omega
            rcases hcase with h1 | ⟨h1, h2⟩
            all_goals
              go_wp2
              go_loop [5, 6] (fun v i => ∃ k n : Nat, k ≤ s.size ∧ n ≤ 4611686018427387903 ∧ v = .int .i64 n ∧ i = .int .i64 k ∧ Hid (n = val (s.data.toList.take k))) (fun _ i => s.size - (intOf i).toNat)
              case atStart => exact ⟨0, 0, Nat.zero_le _, Nat.zero_le _, rfl, rfl, rfl⟩
              case round =>
                obtain ⟨k, n, hk, hn, rfl, rfl, HK⟩ := hrel
                by_cases hlt : k < s.size
                · have hltz : (k : Int) < (s.size : Int) := by omega
                  have hdg := HD.out k hlt
                  have hbk := byt_at s k hlt
                  have hb1 : 48 ≤ (s[k]'hlt).toNat := by omega
                  have hb2 : (s[k]'hlt).toNat ≤ 57 := by omega
                  have HV := Lib.hid (val_to hlt)
                  have HBK := Lib.hid hbk
                  clear hdg hbk
                  by_cases hc : (4611686018427387903 - (((s[k]'hlt).toNat : Int) - 48)) / 10 < (n : Int)
                  · have hp := HR.out.symm.trans (parse_big HG.out (val_more (k := k + 1) (by rw [HV.out, ← HK.out, ← HBK.out]; omega)))
                    simp only [Prod.mk.injEq] at hp
                    obtain ⟨rfl, rfl⟩ := hp
                    clear HR
                    go_wp2
                    all_goals go_ret2
                    all_goals exact ⟨rfl, Below.refl _ _⟩
                  · have hnn : 10 * n + ((s[k]'hlt).toNat - 48) ≤ 4611686018427387903 := by omega
                    have heq : ((10 * n + ((s[k]'hlt).toNat - 48) : Nat) : Int) = 10 * (n : Int) + (((s[k]'hlt).toNat : Int) - 48) := by omega
                    have HE := Lib.hid heq
                    clear heq
                    go_wp2
                    go_round
                    case measure => simp [intOf]; omega
                    case rel => exact ⟨k + 1, 10 * n + ((s[k]'hlt).toNat - 48), by omega, hnn, by rw [HE.out], by go_num, (show _ = val _ by rw [HV.out, ← HK.out, HBK.out])⟩
                · have hltz : ¬ (k : Int) < (s.size : Int) := by omega
                  have hv : n = val s.data.toList := by rw [HK.out, List.take_of_length_le (by rw [← size_list]; omega)]
                  have hp := HR.out.symm.trans (parse_ok HG.out (by omega))
                  rw [← hv] at hp
                  simp only [Prod.mk.injEq] at hp
                  obtain ⟨rfl, rfl⟩ := hp
                  clear HR hv HK
                  go_wp2
                  all_goals go_ret2
                  all_goals exact ⟨rfl, Below.refl _ _⟩

end Go.Proofs.YtildobjgohddoaaDoor
