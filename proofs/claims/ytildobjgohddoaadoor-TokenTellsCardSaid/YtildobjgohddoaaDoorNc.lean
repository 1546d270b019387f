/-
  Layer 3's Parse: the number that decimal digits tell.
-/
import Derived.Test.YtildobjgohddoaaDoorNb
import Derived.Lib.OthersKept
namespace Go.Proofs.YtildobjgohddoaaDoor
open Go.RowKit Go.Sort

theorem code_hi (s : ByteArray) (pos : Nat) (h : pos < s.size) (hb : 128 ≤ (s[pos]'h).toNat) : 128 ≤ (Utf8.decode s pos).1 := (decode_high s pos h hb).1

/-- byte k of a string, as a number -/
def byt (s : ByteArray) (k : Nat) : Nat := (s.data.toList.getD k 0).toNat
theorem byt_at (s : ByteArray) (k : Nat) (h : k < s.size) : (s[k]'h).toNat = byt s k := by
  unfold byt
  rw [List.getD_eq_getElem?_getD, List.getElem?_eq_getElem (by simpa using h)]
  rfl
theorem size_list (s : ByteArray) : s.size = s.data.toList.length := Array.length_toList.symm
theorem list_none {s : ByteArray} (h : s.size = 0) : s.toList = [] := by rw [ByteArray.toList_eq]; exact List.eq_nil_of_length_eq_zero (by rw [← size_list]; exact h)
theorem list_some {s : ByteArray} (h : 0 < s.size) : ¬ s.toList = [] := by rw [ByteArray.toList_eq]; intro e; have := size_list s; rw [e] at this; simp only [List.length_nil] at this; omega
theorem digs_to {s : ByteArray} {k : Nat} (h : k < s.size) (hk : ∀ j, j < k → 48 ≤ byt s j ∧ byt s j ≤ 57) (hd : 48 ≤ byt s k ∧ byt s k ≤ 57) : ∀ j, j < k + 1 → 48 ≤ byt s j ∧ byt s j ≤ 57 := by
  intro j hj
  by_cases e : j = k
  · subst e; exact hd
  · exact hk j (by omega)
theorem val_to {s : ByteArray} {k : Nat} (h : k < s.size) : val (s.data.toList.take (k + 1)) = 10 * val (s.data.toList.take k) + (byt s k - 48) := by
  rw [List.take_succ_eq_append_getElem (by simpa using h), val_snoc]
  unfold byt dv
  rw [List.getD_eq_getElem?_getD, List.getElem?_eq_getElem (by simpa using h)]
  rfl
theorem val_more {s : ByteArray} {k : Nat} (h : 4611686018427387903 < val (s.data.toList.take k)) : 4611686018427387903 < val s.data.toList := Nat.lt_of_lt_of_le h (val_mono k)

theorem parse_off {s : ByteArray} {k : Nat} (h : k < s.size) (hb : byt s k < 48 ∨ 57 < byt s k) : parseL s.data.toList = (0, 20) := by
  unfold parseL
  rw [if_pos]
  cases hbad : badL s.data.toList with
  | true => rfl
  | false =>
    have hm : s.data.toList.getD k 0 ∈ s.data.toList := by
      rw [List.getD_eq_getElem?_getD, List.getElem?_eq_getElem (by simpa using h)]
      exact List.getElem_mem _
    have := (digB_iff _).1 (((badL_iff _).1 hbad).2.2 _ hm)
    unfold byt at hb
    omega
theorem parse_none {s : ByteArray} (h : s.size = 0) : parseL s.data.toList = (0, 20) := by
  have : s.data.toList = [] := List.eq_nil_of_length_eq_zero (by rw [← size_list]; exact h)
  rw [this]
  rfl
theorem parse_zero {s : ByteArray} (h : 1 < s.size) (h0 : byt s 0 = 48) : parseL s.data.toList = (0, 20) := by
  unfold parseL
  rw [if_pos]
  unfold badL zeroB
  have e : s.data.toList.getD 0 0 = 48 := UInt8.toNat_inj.1 h0
  rw [e, decide_eq_true (by rw [← size_list]; exact h)]
  simp
theorem parse_all {s : ByteArray} (hp : 0 < s.size) (hz : ¬ (1 < s.size ∧ byt s 0 = 48)) (hk : ∀ j, j < s.size → 48 ≤ byt s j ∧ byt s j ≤ 57) : badL s.data.toList = false := by
  refine (badL_iff _).2 ⟨fun e => ?_, ?_, fun c hc => ?_⟩
  · have := size_list s; rw [e] at this; simp only [List.length_nil] at this; omega
  · unfold zeroB
    rw [Bool.and_eq_false_iff]
    rw [size_list] at hz
    by_cases h1 : 1 < s.data.toList.length
    · right
      rw [beq_eq_false_iff_ne]
      intro e
      exact hz ⟨h1, by unfold byt; rw [e]; rfl⟩
    · left; exact decide_eq_false h1
  · obtain ⟨j, hj, rfl⟩ := List.getElem_of_mem hc
    have := hk j (by rw [size_list]; exact hj)
    unfold byt at this
    rw [List.getD_eq_getElem?_getD, List.getElem?_eq_getElem hj] at this
    exact (digB_iff _).2 this
theorem parse_big {l : List UInt8} (hb : badL l = false) (hv : 4611686018427387903 < val l) : parseL l = (0, 21) := by
  unfold parseL; rw [hb, if_neg (by decide), if_pos hv]
theorem parse_ok {l : List UInt8} (hb : badL l = false) (hv : ¬ 4611686018427387903 < val l) : parseL l = ((val l : Int), 0) := by
  unfold parseL; rw [hb, if_neg (by decide), if_neg hv]

def ParseR (p : Int × Int) (w : World) (e : Ending) (w' : World) : Prop := e = .returned (.tuple #[.int .i64 p.1, .int .i64 p.2]) ∧ Below w.heap.size w w'

/-- What is known of the number at byte k: it is the value of the bytes ahead, or these are too great. -/
def At (s : ByteArray) (k n : Nat) (big : Bool) : Prop := (∀ j, j < k → 48 ≤ byt s j ∧ byt s j ≤ 57) ∧ (big = false → n = val (s.data.toList.take k)) ∧ (big = true → 4611686018427387903 < val (s.data.toList.take k))

set_option maxHeartbeats 4000000 in
theorem parse_any (s : ByteArray) (w : World) (hs : s.size ≤ maxLen) :
    Calls Tryd.prog 43 #[.string s] w (ParseR (parseL s.data.toList) w) := by
  unfold maxLen at hs
  generalize hr : parseL s.data.toList = r
  obtain ⟨r1, r2⟩ := r
  have HR := Lib.hid hr
  clear hr
  by_cases h0 : s.size = 0
  · have hp := HR.out.symm.trans (parse_none h0)
    simp only [Prod.mk.injEq] at hp
    obtain ⟨rfl, rfl⟩ := hp
    have hs0 : s.toList = [] := list_none h0
    clear h0 HR
    go_enter Tryd.func43, Tryd.ntmps43
    go_wp2
    all_goals go_ret2
    all_goals exact ⟨rfl, Below.refl _ _⟩
  · have hs0 : ¬ s.toList = [] := list_some (by omega)
    have hs1 : s.toList.isEmpty = false := by simpa using hs0
    have hpos : 0 < s.size := by omega
    clear h0
    by_cases hz : 1 < s.size ∧ byt s 0 = 48
    · have hp := HR.out.symm.trans (parse_zero hz.1 hz.2)
      simp only [Prod.mk.injEq] at hp
      obtain ⟨rfl, rfl⟩ := hp
      have h1 : (1 : Int) < (s.size : Int) := by omega
      have h2 : (((s[0]'hpos).toNat : Int) == 48) = true := by rw [byt_at s 0 hpos, hz.2]; rfl
      clear hz HR
      go_enter Tryd.func43, Tryd.ntmps43
      go_wp2
      all_goals go_ret2
      all_goals exact ⟨rfl, Below.refl _ _⟩
    · have HZ := Lib.hid hz
      have hcase : ¬ (1 : Int) < (s.size : Int) ∨ (1 : Int) < (s.size : Int) ∧ (((s[0]'hpos).toNat : Int) == 48) = false := by
        by_cases h1 : 1 < s.size
        · right
          refine ⟨by omega, ?_⟩
          rw [byt_at s 0 hpos, beq_eq_false_iff_ne]
          intro e
          exact hz ⟨h1, by omega⟩
        · left; omega
      clear hz
      rcases hcase with h1 | ⟨h1, h2⟩
      all_goals
        go_enter Tryd.func43, Tryd.ntmps43
        go_wp2
        go_loopw [4, 5] (fun n big wr => ∃ (k m : Nat) (b : Bool), k ≤ s.size ∧ m ≤ 4611686018427387903 ∧ n = .int .i64 m ∧ big = .bool b ∧ wr.heap[w.heap.size]? = some (.stringIter s k) ∧ Below w.heap.size w wr ∧ Hid (At s k m b)) (fun _ _ wr => s.size - wr.iterPos w.heap.size)
        case atStart => exact ⟨0, 0, false, Nat.zero_le _, Nat.zero_le _, rfl, rfl, World.iter_heap w s 0, (Below.refl _ _).alloc (Nat.le_refl _) _, (fun j hj => absurd hj (Nat.not_lt_zero j)), fun _ => rfl, fun h => by cases h⟩
        case round =>
          obtain ⟨k, m, b, hk, hm, rfl, rfl, hit, hb, HA⟩ := hrel
          have hpos0 := iterPos_of hit
          by_cases hp : k < s.size
          · have hlim : byt s k < 48 ∨ (57 < byt s k ∧ byt s k < 128) ∨ 128 ≤ byt s k ∨ ∃ x : Nat, byt s k = x + 48 ∧ x ≤ 9 := by
              by_cases h1 : byt s k < 48
              · exact .inl h1
              · by_cases h2 : byt s k ≤ 57
                · exact .inr (.inr (.inr ⟨byt s k - 48, by omega, by omega⟩))
                · by_cases h3 : byt s k < 128
                  · exact .inr (.inl ⟨by omega, h3⟩)
                  · exact .inr (.inr (.inl (by omega)))
            have hasc : byt s k < 128 → ∀ ty, (Instr.next (.pointer (some ⟨w.heap.size, 0, none⟩)) true ty).run Tryd.prog wr = .ok (.tuple #[.bool true, .int .i64 k, .int .i32 (byt s k)]) (wr.iterAt w.heap.size s (k + 1)) := fun ha ty => by
              rw [Lib.run_next_ascii_at wr w.heap.size s k ty hit hp (by rw [byt_at s k hp]; exact ha), byt_at s k hp]
            have hbad : byt s k < 48 ∨ 57 < byt s k → r1 = 0 ∧ r2 = 20 := fun h => by
              have := HR.out.symm.trans (parse_off hp h)
              simpa using this
            rcases hlim with hlow | ⟨hh1, hh2⟩ | hhi | ⟨x, hx, hx9⟩
            · obtain ⟨rfl, rfl⟩ := hbad (.inl hlow)
              have hnx := hasc (by omega)
              have hb2 := Lib.below_iterAt hb (k := w.heap.size) (Nat.le_refl _) s (k + 1)
              generalize wr.iterAt w.heap.size s (k + 1) = W1 at hnx hb2
              generalize byt s k = d at hnx hlow
              clear hbad hasc hit hpos0
              go_wp2
              all_goals go_ret2
              all_goals exact ⟨rfl, hb2⟩
            · obtain ⟨rfl, rfl⟩ := hbad (.inr hh1)
              have hnx := hasc hh2
              have hb2 := Lib.below_iterAt hb (k := w.heap.size) (Nat.le_refl _) s (k + 1)
              generalize wr.iterAt w.heap.size s (k + 1) = W1 at hnx hb2
              generalize byt s k = d at hnx hh1 hh2
              clear hbad hasc hit hpos0
              go_wp2
              all_goals go_ret2
              all_goals exact ⟨rfl, hb2⟩
            · obtain ⟨rfl, rfl⟩ := hbad (.inr (by omega))
              have hd := code_hi s k hp (by rw [byt_at s k hp]; exact hhi)
              have hd2 := decode_le s k
              have hnx : ∀ ty, (Instr.next (.pointer (some ⟨w.heap.size, 0, none⟩)) true ty).run Tryd.prog wr = _ := fun ty => Lib.run_next_any_at wr w.heap.size s k ty hit hp
              have hb2 := Lib.below_iterAt hb (k := w.heap.size) (Nat.le_refl _) s (k + (Utf8.decode s k).2)
              generalize wr.iterAt w.heap.size s (k + (Utf8.decode s k).2) = W1 at hnx hb2
              generalize (Utf8.decode s k).1 = d at hnx hd hd2
              clear hbad hasc hit hpos0 hhi
              go_wp2
              all_goals go_ret2
              all_goals exact ⟨rfl, hb2⟩
            · have hnx := hasc (by omega)
              have hb2 := Lib.below_iterAt hb (k := w.heap.size) (Nat.le_refl _) s (k + 1)
              have hit2 := Lib.iterAt_heap wr w.heap.size s k (k + 1) hit
              generalize wr.iterAt w.heap.size s (k + 1) = W1 at hnx hb2 hit2
              rw [hx] at hnx
              have hpos2 := iterPos_of hit2
              have HX := Lib.hid hx
              have HP0 := Lib.hid hpos0
              have HP2 := Lib.hid hpos2
              clear hbad hasc hit hpos0 hx hpos2
              have hmeas : s.size - W1.iterPos w.heap.size < s.size - wr.iterPos w.heap.size := by rw [HP0.out, HP2.out]; omega
              have HM := Lib.hid hmeas
              clear hmeas
              have hds : ∀ j, j < k + 1 → 48 ≤ byt s j ∧ byt s j ≤ 57 := digs_to hp HA.out.1 (by rw [HX.out]; omega)
              have hv : val (s.data.toList.take (k + 1)) = 10 * val (s.data.toList.take k) + x := by rw [val_to hp, HX.out]; omega
              have HD := Lib.hid hds
              have HV := Lib.hid hv
              clear hds hv
              cases b
              · by_cases hc : (4611686018427387903 - (x : Int)) / 10 < (m : Int)
                · have hbig : 4611686018427387903 < val (s.data.toList.take (k + 1)) := by rw [HV.out, ← HA.out.2.1 rfl]; omega
                  have HB := Lib.hid hbig
                  clear hbig
                  go_wp2
                  go_roundw
                  case measure => exact HM.out
                  case rel => exact ⟨k + 1, m, true, by omega, hm, rfl, rfl, hit2, hb2, HD.out, (fun h => by cases h), fun _ => HB.out⟩
                · have hm2 : 10 * m + x ≤ 4611686018427387903 := by omega
                  have hval : 10 * m + x = val (s.data.toList.take (k + 1)) := by rw [HV.out, ← HA.out.2.1 rfl]
                  have HB := Lib.hid hval
                  clear hval
                  go_wp2
                  go_roundw
                  case measure => exact HM.out
                  case rel => exact ⟨k + 1, 10 * m + x, false, by omega, hm2, by go_num, rfl, hit2, hb2, HD.out, (fun _ => HB.out), fun h => by cases h⟩
              · have hbig : 4611686018427387903 < val (s.data.toList.take (k + 1)) := by have := HA.out.2.2 rfl; rw [HV.out]; omega
                have HB := Lib.hid hbig
                clear hbig
                go_wp2
                go_roundw
                case measure => exact HM.out
                case rel => exact ⟨k + 1, m, true, by omega, hm, rfl, rfl, hit2, hb2, HD.out, (fun h => by cases h), fun _ => HB.out⟩
          · have hnx : ∀ ty, (Instr.next (.pointer (some ⟨w.heap.size, 0, none⟩)) true ty).run Tryd.prog wr = _ := fun ty => Lib.run_next_end_at wr w.heap.size s k ty hit hp
            have hks : k = s.size := by omega
            have hfull : s.data.toList.take k = s.data.toList := List.take_of_length_le (by rw [← size_list]; omega)
            have hgood : badL s.data.toList = false := parse_all hpos HZ.out (by rw [← hks]; exact HA.out.1)
            clear hit hpos0
            cases b
            · have hv : m = val s.data.toList := by rw [HA.out.2.1 rfl, hfull]
              have hp2 := HR.out.symm.trans (parse_ok hgood (by rw [← hv]; omega))
              rw [← hv] at hp2
              simp only [Prod.mk.injEq] at hp2
              obtain ⟨rfl, rfl⟩ := hp2
              clear hks hfull hgood hv
              go_wp2
              all_goals go_ret2
              all_goals exact ⟨rfl, hb⟩
            · have hp2 := HR.out.symm.trans (parse_big hgood (by have := HA.out.2.2 rfl; rwa [hfull] at this))
              simp only [Prod.mk.injEq] at hp2
              obtain ⟨rfl, rfl⟩ := hp2
              clear hks hfull hgood
              go_wp2
              all_goals go_ret2
              all_goals exact ⟨rfl, hb⟩

end Go.Proofs.YtildobjgohddoaaDoor
