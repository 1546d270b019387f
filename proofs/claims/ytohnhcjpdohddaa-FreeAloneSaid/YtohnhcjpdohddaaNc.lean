/-
  Layer 3's Parse: the number that decimal digits tell.
-/
import Derived.Test.YtohnhcjpdohddaaB00
import Derived.Lib.OthersKept
namespace Go.Proofs.Ytohnhcjpdohddaa
open Go.RowKit Go.Sort

theorem code_hi (s : ByteArray) (pos : Nat) (h : pos < s.size) (hb : 128 ≤ (s[pos]'h).toNat) : 128 ≤ (Utf8.decode s pos).1 := (decode_high s pos h hb).1

/-- byte k of a string, as a number -/
def byt (s : ByteArray) (k : Nat) : Nat := (s.data.toList.getD k 0).toNat
theorem byt_at (s : ByteArray) (k : Nat) (h : k < s.size) : (s[k]'h).toNat = byt s k := by
  unfold byt
  rw [List.getD_eq_getElem?_getD, List.getElem?_eq_getElem (by simpa using h)]
  rfl
theorem size_list (s : ByteArray) : s.size = s.data.toList.length := Array.length_toList.symm
theorem list_none {s : ByteArray} (h : s.size = 0) : s.toList = [] := by rw [ByteArray.toList_eq]; exact List.eq_nil_of_length_eq_zero (by rw [← size_list]; exact h)
theorem list_some {s : ByteArray} (h : 0 < s.size) : ¬ s.toList = [] := by rw [ByteArray.toList_eq]; intro e; have := size_list s; rw [e] at this; simp only [List.length_nil] at this; omega
theorem digs_to {s : ByteArray} {k : Nat} (h : k < s.size) (hk : ∀ j, j < k → 48 ≤ byt s j ∧ byt s j ≤ 57) (hd : 48 ≤ byt s k ∧ byt s k ≤ 57) : ∀ j, j < k + 1 → 48 ≤ byt s j ∧ byt s j ≤ 57 := by
  intro j hj
  by_cases e : j = k
  · subst e; exact hd
  · exact hk j (by omega)
theorem val_to {s : ByteArray} {k : Nat} (h : k < s.size) : val (s.data.toList.take (k + 1)) = 10 * val (s.data.toList.take k) + (byt s k - 48) := by
  rw [List.take_succ_eq_append_getElem (by simpa using h), val_snoc]
  unfold byt dv
  rw [List.getD_eq_getElem?_getD, List.getElem?_eq_getElem (by simpa using h)]
  rfl
theorem val_more {s : ByteArray} {k : Nat} (h : 4611686018427387903 < val (s.data.toList.take k)) : 4611686018427387903 < val s.data.toList := Nat.lt_of_lt_of_le h (val_mono k)

theorem parse_off {s : ByteArray} {k : Nat} (h : k < s.size) (hb : byt s k < 48 ∨ 57 < byt s k) : parseL s.data.toList = (0, 20) := by
  unfold parseL
  rw [if_pos]
  cases hbad : badL s.data.toList with
  | true => rfl
  | false =>
    have hm : s.data.toList.getD k 0 ∈ s.data.toList := by
      rw [List.getD_eq_getElem?_getD, List.getElem?_eq_getElem (by simpa using h)]
      exact List.getElem_mem _
    have := (digB_iff _).1 (((badL_iff _).1 hbad).2.2 _ hm)
    unfold byt at hb
    omega
theorem parse_none {s : ByteArray} (h : s.size = 0) : parseL s.data.toList = (0, 20) := by
  have : s.data.toList = [] := List.eq_nil_of_length_eq_zero (by rw [← size_list]; exact h)
  rw [this]
  rfl
theorem parse_zero {s : ByteArray} (h : 1 < s.size) (h0 : byt s 0 = 48) : parseL s.data.toList = (0, 20) := by
  unfold parseL
  rw [if_pos]
  unfold badL zeroB
  have e : s.data.toList.getD 0 0 = 48 := UInt8.toNat_inj.1 h0
  rw [e, decide_eq_true (by rw [← size_list]; exact h)]
  simp
theorem parse_all {s : ByteArray} (hp : 0 < s.size) (hz : ¬ (1 < s.size ∧ byt s 0 = 48)) (hk : ∀ j, j < s.size → 48 ≤ byt s j ∧ byt s j ≤ 57) : badL s.data.toList = false := by
  refine (badL_iff _).2 ⟨fun e => ?_, ?_, fun c hc => ?_⟩
  · have := size_list s; rw [e] at this; simp only [List.length_nil] at this; omega
  · unfold zeroB
    rw [Bool.and_eq_false_iff]
    rw [size_list] at hz
    by_cases h1 : 1 < s.data.toList.length
    · right
      rw [beq_eq_false_iff_ne]
      intro e
      exact hz ⟨h1, by unfold byt; rw [e]; rfl⟩
    · left; exact decide_eq_false h1
  · obtain ⟨j, hj, rfl⟩ := List.getElem_of_mem hc
    have := hk j (by rw [size_list]; exact hj)
    unfold byt at this
    rw [List.getD_eq_getElem?_getD, List.getElem?_eq_getElem hj] at this
    exact (digB_iff _).2 this
theorem parse_big {l : List UInt8} (hb : badL l = false) (hv : 4611686018427387903 < val l) : parseL l = (0, 21) := by
  unfold parseL; rw [hb, if_neg (by decide), if_pos hv]
theorem parse_ok {l : List UInt8} (hb : badL l = false) (hv : ¬ 4611686018427387903 < val l) : parseL l = ((val l : Int), 0) := by
  unfold parseL; rw [hb, if_neg (by decide), if_neg hv]

def ParseR (p : Int × Int) (w : World) (e : Ending) (w' : World) : Prop := e = .returned (.tuple #[.int .i64 p.1, .int .i64 p.2]) ∧ Below w.heap.size w w'

/-- What is known of the number at byte k: it is the value of the bytes ahead, or these are too great. -/
def At (s : ByteArray) (k n : Nat) (big : Bool) : Prop := (∀ j, j < k → 48 ≤ byt s j ∧ byt s j ≤ 57) ∧ (big = false → n = val (s.data.toList.take k)) ∧ (big = true → 4611686018427387903 < val (s.data.toList.take k))

end Go.Proofs.Ytohnhcjpdohddaa
