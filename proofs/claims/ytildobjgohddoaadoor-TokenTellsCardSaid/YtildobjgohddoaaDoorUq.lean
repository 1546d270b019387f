/-
  The document's answers of layer 4: what a byte is; Text.
-/
import Derived.Test.YtildobjgohddoaaDoorUi
namespace Go.Proofs.YtildobjgohddoaaDoor
set_option linter.unusedVariables false
set_option linter.unusedSimpArgs false
open Go.RowKit Go.Sort

theorem byte_eq (t : UInt8) (n : Nat) (h : n < 256) : (t == UInt8.ofNat n) = ((t.toNat : Int) == (n : Int)) := by
  rw [Bool.eq_iff_iff, beq_iff_eq, beq_iff_eq, ← UInt8.toNat_inj]
  have : (UInt8.ofNat n).toNat = n := by simp; omega
  rw [this]
  omega
theorem refTag_any (t : UInt8) (w : World) : Calls Tryd.prog 16 #[.int .u8 t.toNat] w fun e w' => e = .returned (.bool (tagB t)) ∧ w = w' := by
  have h1 : (t == 98) = ((t.toNat : Int) == 98) := byte_eq t 98 (by decide)
  have h2 : (t == 111) = ((t.toNat : Int) == 111) := byte_eq t 111 (by decide)
  have h3 : (t == 36) = ((t.toNat : Int) == 36) := byte_eq t 36 (by decide)
  have hr : tagB t = (((t.toNat : Int) == 98) || ((t.toNat : Int) == 111) || ((t.toNat : Int) == 36)) := by unfold tagB; rw [h1, h2, h3]
  rw [hr]
  clear h1 h2 h3 hr
  generalize (t.toNat : Int) = n
  cases e1 : (n == 98)
  · cases e2 : (n == 111)
    · cases e3 : (n == 36)
      all_goals
        go_enter Tryd.func16, Tryd.ntmps16
        go_wp2
        all_goals go_ret
        all_goals exact ⟨rfl, rfl⟩
    · go_enter Tryd.func16, Tryd.ntmps16
      go_wp2
      all_goals go_ret
      all_goals exact ⟨rfl, rfl⟩
  · go_enter Tryd.func16, Tryd.ntmps16
    go_wp2
    all_goals go_ret
    all_goals exact ⟨rfl, rfl⟩
theorem refBlank_any (t : UInt8) (w : World) : Calls Tryd.prog 21 #[.int .u8 t.toNat] w fun e w' => e = .returned (.bool (blankB t)) ∧ w = w' := by
  have h1 : (t == 32) = ((t.toNat : Int) == 32) := byte_eq t 32 (by decide)
  have h2 : (t == 9) = ((t.toNat : Int) == 9) := byte_eq t 9 (by decide)
  have h3 : (t == 10) = ((t.toNat : Int) == 10) := byte_eq t 10 (by decide)
  have h4 : (t == 13) = ((t.toNat : Int) == 13) := byte_eq t 13 (by decide)
  have hr : blankB t = (((t.toNat : Int) == 32) || ((t.toNat : Int) == 9) || ((t.toNat : Int) == 10) || ((t.toNat : Int) == 13)) := by unfold blankB; rw [h1, h2, h3, h4]
  rw [hr]
  clear h1 h2 h3 h4 hr
  generalize (t.toNat : Int) = n
  cases e1 : (n == 32)
  · cases e2 : (n == 9)
    · cases e3 : (n == 10)
      · cases e4 : (n == 13)
        all_goals
          go_enter Tryd.func21, Tryd.ntmps21
          go_wp2
          all_goals go_ret
          all_goals exact ⟨rfl, rfl⟩
      · go_enter Tryd.func21, Tryd.ntmps21
        go_wp2
        all_goals go_ret
        all_goals exact ⟨rfl, rfl⟩
    · go_enter Tryd.func21, Tryd.ntmps21
      go_wp2
      all_goals go_ret
      all_goals exact ⟨rfl, rfl⟩
  · go_enter Tryd.func21, Tryd.ntmps21
    go_wp2
    all_goals go_ret
    all_goals exact ⟨rfl, rfl⟩
theorem refDigit_any (t : UInt8) (w : World) : Calls Tryd.prog 22 #[.int .u8 t.toNat] w fun e w' => e = .returned (.bool (digB t)) ∧ w = w' := by
  by_cases h1 : 48 ≤ t.toNat
  · have d1 : (48 : Int) ≤ (t.toNat : Int) := by omega
    by_cases h2 : t.toNat ≤ 57
    · have d2 : (t.toNat : Int) ≤ 57 := by omega
      have hr : digB t = true := (digB_iff t).2 ⟨h1, h2⟩
      rw [hr]
      go_enter Tryd.func22, Tryd.ntmps22
      go_wp2
      all_goals go_ret
      all_goals exact ⟨by first | rfl | (simp [*]; done), rfl⟩
    · have d2 : ¬ (t.toNat : Int) ≤ 57 := by omega
      have hr : digB t = false := by unfold digB; rw [decide_eq_true h1, decide_eq_false h2]; rfl
      rw [hr]
      go_enter Tryd.func22, Tryd.ntmps22
      go_wp2
      all_goals go_ret
      all_goals exact ⟨by first | rfl | (simp [*]; done), rfl⟩
  · have d1 : ¬ (48 : Int) ≤ (t.toNat : Int) := by omega
    have hr : digB t = false := by unfold digB; rw [decide_eq_false h1]; rfl
    rw [hr]
    go_enter Tryd.func22, Tryd.ntmps22
    go_wp2
    all_goals go_ret
    all_goals exact ⟨by first | rfl | (simp [*]; done), rfl⟩

theorem conv_byteR (x : UInt8) (w : World) : (convert 41 9 (.slice (some ⟨w.heap.size, 0, none⟩) 1 1)).run Tryd.prog (w.alloc (.cells #[.int .u8 x.toNat] 5)) = .ok (.string (str [x])) (w.alloc (.cells #[.int .u8 x.toNat] 5)) := by
  refine run_convert_bytes_back (P := Tryd.prog) _ 41 9 5 ⟨w.heap.size, 0, none⟩ 1 [x] Tryd.underlying41 Tryd.underlying5 Tryd.underlying9 fun j hj => ?_
  have hj0 : j = 0 := by simp at hj; omega
  subst hj0
  simp [Addr.add]

set_option maxHeartbeats 4000000 in
set_option maxRecDepth 100000 in
theorem refTextE_any (A : Option Addr) (l : List Ite) (c : Nat) (w : World) (hR : NowE w A l) (hl : l.length * 24 ≤ 140737488351232) (hw : ∀ x ∈ l, I64 x.2.1) :
    Calls Tryd.prog 10 #[.slice A l.length c] w (TextR l w) := by
  have HW := Lib.hid hw
  clear hw
  go_enter Tryd.func10, Tryd.ntmps10
  go_wp2
  go_loopw [3, 4] (fun s i wr => ∃ k : Nat, k ≤ l.length ∧ i = .int .i64 k ∧ s = .string (str (textE (l.take k))) ∧ Below w.heap.size w wr) (fun _ i _ => l.length - (intOf i).toNat)
  case atStart => exact ⟨0, Nat.zero_le _, rfl, rfl, Below.refl _ _⟩
  case round =>
    obtain ⟨k, hk, rfl, rfl, hb⟩ := hrel
    by_cases hlt : k < l.length
    · have hltz : (k : Int) < (l.length : Int) := by omega
      obtain ⟨b0, off, rfl, hbB, hcell⟩ := hR.at_ (by omega)
      have a0 := Qt.keep hb (hcell k hlt).1
      have a1 := Qt.keep hb (hcell k hlt).2.1
      have hsucc := textE_succ hlt
      have hx64 := HW.out (l.getD k noE) (getD_memE hlt)
      have htl := textE_take_len k hk
      obtain ⟨⟨t, n, p⟩, hx⟩ : ∃ x, x = l.getD k noE := ⟨_, rfl⟩
      rw [← hx] at a0 a1 hsucc hx64
      simp only at a0 a1 hx64
      have HS := Lib.hid hsucc
      have htg := fun W => refTag_any t W
      have hss := str_size (textE (l.take k))
      have hss2 : (str (textE (l.take k))).size ≤ 140737488351232 := by omega
      generalize hs0 : str (textE (l.take k)) = s at *
      have HS0 := Lib.hid hs0
      clear hcell hx hsucc hs0 hss htl
      cases hok : okE (t, n, p) with
      | false =>
        have he : textE (l.take (k + 1)) = textE (l.take k) := by rw [HS.out, itemE_no hok, List.append_nil]
        have hcase : tagB t = false ∨ (tagB t = true ∧ n < 1) ∨ (tagB t = true ∧ ¬ n < 1 ∧ 1099511627776 < n) := by
          unfold okE at hok
          cases hb : tagB t
          · exact .inl rfl
          · rw [hb] at hok
            simp only [Bool.true_and, Bool.and_eq_false_iff, decide_eq_false_iff_not] at hok
            simp only [reduceCtorEq, true_and, false_or]
            omega
        have HE := Lib.hid he
        clear hok he HS
        rcases hcase with h | ⟨h, h1⟩ | ⟨h, h1, h2⟩
        all_goals
          rw [h] at htg
          go_wp2_with fail
          refine (htg _).mono ?_
          rintro e w1 ⟨rfl, rfl⟩
          go_wp2
          go_roundw
          case measure => simp [intOf]; omega
          case rel => exact ⟨k + 1, by omega, by go_num, (by rw [HE.out, HS0.out]), hb⟩
      | true =>
        have hok3 := (okE_iff _).1 hok
        simp only at hok3
        rw [hok3.1] at htg
        have hn1 : ¬ n < 1 := by omega
        have hn2 : ¬ 1099511627776 < n := by omega
        have hsx : (str [t]).size = 1 := by rw [str_size]; rfl
        by_cases h1 : n = 1
        · subst h1
          have he : textE (l.take (k + 1)) = textE (l.take k) ++ [t] := by rw [HS.out, itemE_one hok rfl]
          have HE : Hid (str (textE (l.take (k + 1))) = s ++ str [t]) := by show _ = _; rw [he, ← str_append, HS0.out]
          have hcv := conv_byteR t wr
          have hba : Below w.heap.size w (wr.alloc (.cells #[.int .u8 t.toNat] 5)) := hb.alloc hb.size _
          clear hok he HS hok3
          generalize str [t] = sx at *
          go_wp2_with fail
          refine (htg _).mono ?_
          rintro e w1 ⟨rfl, rfl⟩
          go_wp2
          go_roundw
          case measure => simp [intOf]; omega
          case rel => exact ⟨k + 1, by omega, by go_num, (by rw [HE.out]), hba⟩
        · have he : textE (l.take (k + 1)) = textE (l.take k) ++ (txt n).data.toList ++ [t] := by rw [HS.out, itemE_many hok h1, List.append_assoc]; rfl
          have HE : Hid (str (textE (l.take (k + 1))) = s ++ txt n ++ str [t]) := by show _ = _; rw [he, ← str_append, ← str_append, HS0.out, str_list]
          have hts : (txt n).size ≤ 19 := txt_size n
          have hgt : 1 < n := by omega
          have hcv := fun W => conv_byteR t W
          clear hok he HS hok3 h1
          generalize str [t] = sx at *
          go_wp2_with fail
          refine (htg _).mono ?_
          rintro e w1 ⟨rfl, rfl⟩
          go_wp2_with fail
          refine (refText_any n _ hx64).mono ?_
          rintro e w2 ⟨rfl, hb2⟩
          have a0b := Qt.keep hb2 a0
          have hcv2 := hcv w2
          have hb3 := Qt.more hb hb.size hb2
          have hba : Below w.heap.size w (w2.alloc (.cells #[.int .u8 t.toNat] 5)) := hb3.alloc hb3.size _
          generalize txt n = tn at *
          have hz : (s ++ tn).size ≤ 140737488351300 := by rw [ByteArray.size_append]; omega
          clear hcv a0 a1 hb2 htg
          go_wp2
          go_roundw
          case measure => simp [intOf]; omega
          case rel => exact ⟨k + 1, by omega, by go_num, (by rw [HE.out]), hba⟩
    · have hltz : ¬ (k : Int) < (l.length : Int) := by omega
      have hfull : l.take k = l := List.take_of_length_le (by omega)
      rw [hfull]
      clear hfull
      go_wp2
      go_ret
      exact ⟨rfl, hb⟩

end Go.Proofs.YtildobjgohddoaaDoor
