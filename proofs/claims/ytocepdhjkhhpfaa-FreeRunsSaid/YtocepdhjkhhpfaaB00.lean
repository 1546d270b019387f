/-
  Texts that the claims of this seat share, part 0.
-/
import Derived.Lib.ItoaMem
import GoSem.Op.String
import Derived.Lib.QuietBelow
import Derived.StillTail
import Derived.BigQuiet
import Derived.KernelRfl
import Derived.Test.YtocepdhjkhhpfaaRows
import Derived.Test.YtocepdhjkhhpfaaSh
import Derived.WalkKit
import Derived.WalkSpells
import Derived.WalkLawsBesides
import Derived.WalkArith
import Derived.IntWalk
import Derived.Lib.Hide
import Derived.Lib.AppendIntMem
import Derived.StillTailTactics
import Derived.LoopN
import Derived.Handy
import Derived.Deep.LoopGhost
import Derived.Lib.AppendZerosOnto
set_option linter.unusedVariables false
set_option linter.unusedSimpArgs false
namespace Go.Proofs.Ytocepdhjkhhpfaa
open Go.Lib

/-! ### texts -/
def dv (c : UInt8) : Nat := c.toNat - 48
def digB (c : UInt8) : Bool := decide (48 ≤ c.toNat) && decide (c.toNat ≤ 57)
theorem digB_iff (c : UInt8) : digB c = true ↔ 48 ≤ c.toNat ∧ c.toNat ≤ 57 := by unfold digB; simp
theorem dv_le {c : UInt8} (h : digB c = true) : dv c ≤ 9 := by have := (digB_iff c).1 h; unfold dv; omega
def val (l : List UInt8) : Nat := l.foldl (fun n c => 10 * n + dv c) 0
theorem val_snoc (l : List UInt8) (c : UInt8) : val (l ++ [c]) = 10 * val l + dv c := by unfold val; rw [List.foldl_append]; rfl
theorem foldl_val (l : List UInt8) (a : Nat) : l.foldl (fun n c => 10 * n + dv c) a = a * 10 ^ l.length + val l := by
  induction l generalizing a with
  | nil => simp [val]
  | cons c l ih =>
    unfold val
    simp only [List.foldl_cons, List.length_cons]
    rw [ih, ih (10 * 0 + dv c), Nat.pow_succ]
    grind
theorem val_cons (c : UInt8) (l : List UInt8) : val (c :: l) = dv c * 10 ^ l.length + val l := by
  have := foldl_val l (10 * 0 + dv c)
  simpa [val] using this
theorem val_lt {l : List UInt8} (h : ∀ c ∈ l, digB c = true) : val l < 10 ^ l.length := by
  induction l with
  | nil => simp [val]
  | cons c l ih =>
    rw [val_cons, List.length_cons, Nat.pow_succ]
    have h1 := ih fun d hd => h d (List.mem_cons_of_mem _ hd)
    have h2 := dv_le (h c List.mem_cons_self)
    have h3 : dv c * 10 ^ l.length ≤ 9 * 10 ^ l.length := Nat.mul_le_mul_right _ h2
    omega

/-- a 0 that others follow -/
def zeroB (l : List UInt8) : Bool := decide (1 < l.length) && (l.getD 0 0 == 48)
def badL (l : List UInt8) : Bool := l.isEmpty || zeroB l || !l.all digB
def parseL (l : List UInt8) : Int × Int := if badL l = true then (0, 20) else if 4611686018427387903 < val l then (0, 21) else (val l, 0)
theorem badL_iff (l : List UInt8) : badL l = false ↔ l ≠ [] ∧ zeroB l = false ∧ ∀ c ∈ l, digB c = true := by
  unfold badL
  simp [List.all_eq_true, and_assoc]

theorem ofNat_to (u : Nat) (h : u < 10) : (UInt8.ofNat (48 + u)).toNat = 48 + u := by simp; omega
theorem dig_of (u : Nat) (h : u < 10) : digB (UInt8.ofNat (48 + u)) = true ∧ dv (UInt8.ofNat (48 + u)) = u := by
  rw [digB_iff]
  unfold dv
  rw [ofNat_to u h]
  omega
theorem dec_small {u : Nat} (h : u < 10) : decDigits u = [UInt8.ofNat (48 + u)] := decDigits_one h
theorem dec_big {u : Nat} (h : ¬ u < 10) : decDigits u = decDigits (u / 10) ++ [UInt8.ofNat (48 + u % 10)] := by rw [decDigits, dif_neg h]
theorem dec_dig (u : Nat) : ∀ c ∈ decDigits u, digB c = true := by
  induction u using Nat.strongRecOn with
  | _ u ih =>
    by_cases h : u < 10
    · rw [dec_small h]; intro c hc; simp at hc; subst hc; have := (dig_of u h).1; simpa using this
    · rw [dec_big h]
      intro c hc
      rcases List.mem_append.1 hc with h1 | h1
      · exact ih (u / 10) (by omega) c h1
      · rw [List.mem_singleton.1 h1]; exact (dig_of (u % 10) (by omega)).1
theorem dec_val (u : Nat) : val (decDigits u) = u := by
  induction u using Nat.strongRecOn with
  | _ u ih =>
    by_cases h : u < 10
    · rw [dec_small h]; have := (dig_of u h).2; simp only [val, List.foldl_cons, List.foldl_nil]; omega
    · rw [dec_big h, val_snoc, ih (u / 10) (by omega), (dig_of (u % 10) (by omega)).2]; omega
theorem dec_pos (u : Nat) : 0 < (decDigits u).length := by rw [decDigits_length]; exact nDigits_pos u
theorem dec_head (u : Nat) (h1 : 1 ≤ u) : (decDigits u).getD 0 0 ≠ 48 := by
  induction u using Nat.strongRecOn with
  | _ u ih =>
    by_cases h : u < 10
    · rw [dec_small h]
      intro e
      have e2 := congrArg UInt8.toNat e
      rw [List.getD_cons_zero, ofNat_to u h] at e2
      have : (48 : UInt8).toNat = 48 := rfl
      omega
    · rw [dec_big h]
      have hp := dec_pos (u / 10)
      rw [List.getD_eq_getElem?_getD, List.getElem?_append_left hp, ← List.getD_eq_getElem?_getD]
      exact ih (u / 10) (by omega) (by omega)
theorem dec_zero (u : Nat) : zeroB (decDigits u) = false := by
  unfold zeroB
  by_cases h : u < 10
  · rw [dec_small h]; simp
  · have := dec_head u (by omega)
    simp only [Bool.and_eq_false_iff]
    right
    simpa using this
theorem dec_good (u : Nat) : badL (decDigits u) = false := (badL_iff _).2 ⟨fun e => by have := dec_pos u; rw [e] at this; simp at this, dec_zero u, dec_dig u⟩
theorem parse_dec {u : Nat} (h : u ≤ 4611686018427387903) : parseL (decDigits u) = ((u : Int), 0) := by
  unfold parseL
  rw [dec_good, dec_val]
  simp
  omega
theorem dec_of_val : ∀ (n : Nat) (l : List UInt8), l.length = n → badL l = false → decDigits (val l) = l := by
  intro n
  induction n with
  | zero => intro l hl h; exact absurd (List.eq_nil_of_length_eq_zero hl) ((badL_iff l).1 h).1
  | succ n ih =>
    intro l hl h
    obtain ⟨hne, hz, hd⟩ := (badL_iff l).1 h
    obtain ⟨m, c, rfl⟩ : ∃ m c, l = m ++ [c] := ⟨l.dropLast, l.getLast hne, (List.dropLast_concat_getLast hne).symm⟩
    have hc := hd c (by simp)
    have hc9 := dv_le hc
    have hcc : UInt8.ofNat (48 + dv c) = c := by
      have := (digB_iff c).1 hc
      unfold dv
      rw [show 48 + (c.toNat - 48) = c.toNat by omega]
      simp
    by_cases hm : m = []
    · subst hm
      have e : val ([] ++ [c]) = dv c := by rw [val_snoc]; simp [val]
      rw [e, dec_small (by omega), hcc]
      rfl
    · have hml : 0 < m.length := List.length_pos_iff.2 hm
      have hh : (m ++ [c]).getD 0 0 = m.getD 0 0 := by rw [List.getD_eq_getElem?_getD, List.getElem?_append_left hml, ← List.getD_eq_getElem?_getD]
      have h48 : m.getD 0 0 ≠ 48 := by
        intro e
        unfold zeroB at hz
        rw [hh, e] at hz
        simp at hz
        exact hm hz
      have hgm : badL m = false := (badL_iff m).2 ⟨hm, by
        unfold zeroB
        simp only [Bool.and_eq_false_iff]
        right
        simpa using h48, fun d hdm => hd d (by simp [hdm])⟩
      have hi := ih m (by simp at hl; omega) hgm
      have h1 : 1 ≤ val m := by
        rcases Nat.eq_zero_or_pos (val m) with e | e
        · rw [e, dec_small (by omega)] at hi
          exact absurd (by rw [← hi]; rfl) h48
        · exact e
      rw [val_snoc, dec_big (by omega), show (10 * val m + dv c) / 10 = val m by omega, show (10 * val m + dv c) % 10 = dv c by omega, hi, hcc]
theorem dec_back {l : List UInt8} (h : badL l = false) : decDigits (val l) = l := dec_of_val _ l rfl h
theorem nd_le (u : Nat) (h : 1 ≤ u) : 10 ^ nDigits u ≤ 10 * u := by
  induction u using Nat.strongRecOn with
  | _ u ih =>
    by_cases h10 : u < 10
    · rw [nDigits_small h10]; omega
    · rw [nDigits_big h10, Nat.pow_succ]
      have := ih (u / 10) (by omega) (by omega)
      omega
theorem nd_max {u : Nat} (h : u ≤ 4611686018427387903) : nDigits u ≤ 19 := by
  rcases Nat.eq_zero_or_pos u with rfl | hp
  · rw [nDigits_small (by omega)]; omega
  · have := nd_le u hp
    rcases Nat.lt_or_ge 19 (nDigits u) with h1 | h1
    · have h2 := Nat.pow_le_pow_right (n := 10) (by decide) h1
      have h3 : (10 : Nat) ^ (19 + 1) = 100000000000000000000 := by decide
      have h4 : (10 : Nat) ^ Nat.succ 19 = 100000000000000000000 := by decide
      omega
    · exact h1
theorem nd_min {u : Nat} (h : 4611686018427387903 < u) : 19 ≤ nDigits u := by
  have := lt_pow_nDigits u
  rcases Nat.lt_or_ge (nDigits u) 19 with h1 | h1
  · have h2 := Nat.pow_le_pow_right (n := 10) (by decide) (show nDigits u ≤ 18 by omega)
    have h3 : (10 : Nat) ^ 18 = 1000000000000000000 := by decide
    omega
  · exact h1
theorem long_big {l : List UInt8} (h : badL l = false) (hl : 19 < l.length) : 4611686018427387903 < val l := by
  rcases Nat.lt_or_ge 4611686018427387903 (val l) with h1 | h1
  · exact h1
  · have := nd_max h1
    rw [← decDigits_length, dec_back h] at this
    omega
theorem big_long {l : List UInt8} (h : badL l = false) (hv : 4611686018427387903 < val l) : 19 ≤ l.length := by
  have := nd_min hv
  rwa [← decDigits_length, dec_back h] at this
theorem val_mono {l : List UInt8} (k : Nat) : val (l.take k) ≤ val l := by
  have h : ∀ (m : List UInt8) (a : Nat), a ≤ m.foldl (fun n c => 10 * n + dv c) a := by
    intro m
    induction m with
    | nil => intro a; exact Nat.le_refl _
    | cons c m ih => intro a; exact Nat.le_trans (by omega) (ih (10 * a + dv c))
  have e : l = l.take k ++ l.drop k := (List.take_append_drop k l).symm
  conv => rhs; rw [e]
  unfold val
  rw [List.foldl_append]
  exact h _ _

/-! ### the order of texts -/
theorem less_val : ∀ (l m : List UInt8), l.length = m.length → (∀ c ∈ l, digB c = true) → (∀ c ∈ m, digB c = true) → Op.bytesLess l m = decide (val l < val m)
  | [], [], _, _, _ => by simp [Op.bytesLess]
  | [], _ :: _, h, _, _ => by simp at h
  | _ :: _, [], h, _, _ => by simp at h
  | a :: l, b :: m, h, hl, hm => by
    have hlen : l.length = m.length := by simpa using h
    have ih := less_val l m hlen (fun c hc => hl c (List.mem_cons_of_mem _ hc)) (fun c hc => hm c (List.mem_cons_of_mem _ hc))
    have v1 := val_lt (l := l) (fun c hc => hl c (List.mem_cons_of_mem _ hc))
    have v2 := val_lt (l := m) (fun c hc => hm c (List.mem_cons_of_mem _ hc))
    have d1 := (digB_iff a).1 (hl a List.mem_cons_self)
    have d2 := (digB_iff b).1 (hm b List.mem_cons_self)
    have ea : dv a = a.toNat - 48 := rfl
    have eb : dv b = b.toNat - 48 := rfl
    rw [Op.bytesLess, ih, val_cons, val_cons, hlen]
    rw [hlen] at v1
    generalize val l = x at *
    generalize val m = y at *
    generalize 10 ^ m.length = p at *
    rw [Bool.eq_iff_iff]
    simp only [Bool.or_eq_true, Bool.and_eq_true, decide_eq_true_eq, beq_iff_eq, UInt8.lt_iff_toNat_lt, ← UInt8.toNat_inj]
    rcases Nat.lt_trichotomy a.toNat b.toNat with h1 | h1 | h1
    · have h2 : dv a * p + p ≤ dv b * p := by
        have : (dv a + 1) * p ≤ dv b * p := Nat.mul_le_mul_right p (by omega)
        rwa [Nat.add_mul, Nat.one_mul] at this
      omega
    · rw [ea, eb, h1]; omega
    · have h2 : dv b * p + p ≤ dv a * p := by
        have : (dv b + 1) * p ≤ dv a * p := Nat.mul_le_mul_right p (by omega)
        rwa [Nat.add_mul, Nat.one_mul] at this
      omega
theorem dec_order (x y : Nat) : decide (x < y) = (decide ((decDigits x).length < (decDigits y).length) || (decide ((decDigits x).length = (decDigits y).length) && Op.bytesLess (decDigits x) (decDigits y))) := by
  have key : ∀ x y : Nat, (decDigits x).length < (decDigits y).length → x < y := by
    intro x y h
    rw [decDigits_length, decDigits_length] at h
    have h1 := lt_pow_nDigits x
    have h0 := nDigits_pos x
    have h2 := nd_le y (by
      rcases Nat.eq_zero_or_pos y with rfl | hp
      · rw [nDigits_small (u := 0) (by decide)] at h; have := nDigits_pos x; omega
      · exact hp)
    have h3 := Nat.pow_le_pow_right (n := 10) (by decide) h
    rw [Nat.pow_succ] at h3
    omega
  rcases Nat.lt_trichotomy (decDigits x).length (decDigits y).length with h | h | h
  · have := key x y h
    simp [this, h]
  · rw [less_val _ _ h (dec_dig x) (dec_dig y), dec_val, dec_val]
    simp [h]
  · have := key y x h
    have h1 : ¬ x < y := by omega
    have h2 : ¬ (decDigits x).length < (decDigits y).length := by omega
    have h3 : ¬ (decDigits x).length = (decDigits y).length := by omega
    simp [h1, h2, h3]
theorem dec_inj {x y : Nat} (h : decDigits x = decDigits y) : x = y := by rw [← dec_val x, h, dec_val]

def txtL (n : Int) : List UInt8 := if 0 ≤ n ∧ n ≤ 4611686018427387903 then decDigits n.toNat else []
theorem txtL_nat {u : Nat} (h : u ≤ 4611686018427387903) : txtL (u : Int) = decDigits u := by unfold txtL; rw [if_pos (by omega)]; simp
theorem txtL_len (n : Int) : (txtL n).length ≤ 19 := by
  unfold txtL
  split
  · rw [decDigits_length]; exact nd_max (by omega)
  · simp

/-! ### exponents -/
def bitsTo (n k : Nat) : List Int := ((List.range k).filter fun i => n.testBit i).map fun i : Nat => (i : Int)
theorem bitsTo_succ (n k : Nat) : bitsTo n (k + 1) = bitsTo n k ++ if n.testBit k = true then [(k : Int)] else [] := by
  unfold bitsTo
  rw [List.range_succ, List.filter_append, List.map_append]
  congr 1
  by_cases h : n.testBit k = true <;> simp [h]
theorem bitsTo_len (n k : Nat) : (bitsTo n k).length ≤ k := by
  unfold bitsTo
  rw [List.length_map]
  exact Nat.le_trans (List.length_filter_le _ _) (by simp)
theorem bitsTo_bd (n k : Nat) : ∀ e ∈ bitsTo n k, 0 ≤ e ∧ e < k := by
  intro e he
  unfold bitsTo at he
  obtain ⟨i, hi, rfl⟩ := List.mem_map.1 he
  have := List.mem_range.1 (List.mem_filter.1 hi).1
  omega
theorem bitsTo_rises (n k : Nat) : (bitsTo n k).Pairwise (· < ·) := by
  unfold bitsTo
  rw [List.pairwise_map]
  refine List.Pairwise.imp ?_ (List.Pairwise.filter _ (List.pairwise_lt_range (n := k)))
  intro a b h
  omega
def bitsL (n : Int) : List Int := if 0 ≤ n ∧ n ≤ 4611686018427387903 then bitsTo n.toNat 62 else []
theorem bitsL_nat {u : Nat} (h : u ≤ 4611686018427387903) : bitsL (u : Int) = bitsTo u 62 := by unfold bitsL; rw [if_pos (by omega)]; simp
theorem bitsL_len (n : Int) : (bitsL n).length ≤ 62 := by
  unfold bitsL
  split
  · exact bitsTo_len _ _
  · simp
theorem bitsL_bd (n : Int) : ∀ e ∈ bitsL n, 0 ≤ e ∧ e ≤ 61 := by
  intro e he
  unfold bitsL at he
  split at he
  · have := bitsTo_bd _ _ e he; omega
  · simp at he
theorem bitsL_rises (n : Int) : (bitsL n).Pairwise (· < ·) := by
  unfold bitsL
  split
  · exact bitsTo_rises _ _
  · exact List.Pairwise.nil

def total (l : List Int) : Nat := (l.map fun e => 2 ^ e.toNat).sum
theorem total_nil : total [] = 0 := rfl
theorem total_append (l m : List Int) : total (l ++ m) = total l + total m := by unfold total; rw [List.map_append, List.sum_append]
theorem total_one (e : Int) : total [e] = 2 ^ e.toNat := by simp [total]
theorem total_take_succ {l : List Int} {k : Nat} (h : k < l.length) : total (l.take (k + 1)) = total (l.take k) + 2 ^ (l.getD k 0).toNat := by
  rw [List.take_succ_eq_append_getElem h, total_append, total_one, List.getD_eq_getElem?_getD, List.getElem?_eq_getElem h, Option.getD_some]
theorem total_take_le (l : List Int) (k : Nat) : total (l.take k) ≤ total l := by
  conv => rhs; rw [← List.take_append_drop k l]
  rw [total_append]
  omega
theorem total_up {l : List Int} (h : ∀ e ∈ l, 0 ≤ e) : total (l.map (· + 1)) = 2 * total l := by
  induction l with
  | nil => rfl
  | cons e l ih =>
    have h0 := h e List.mem_cons_self
    have hi := ih fun d hd => h d (List.mem_cons_of_mem _ hd)
    unfold total at *
    simp only [List.map_cons, List.sum_cons]
    rw [hi, show (e + 1).toNat = e.toNat + 1 by omega, Nat.pow_succ]
    omega
theorem total_bits (n k : Nat) : total (bitsTo n k) = n % 2 ^ k := by
  induction k with
  | zero => simp [bitsTo, total, Nat.mod_one]
  | succ k ih =>
    rw [bitsTo_succ, total_append, ih, Nat.pow_succ, Nat.mod_mul]
    congr 1
    rw [Nat.testBit_eq_decide_div_mod_eq]
    by_cases h : n / 2 ^ k % 2 = 1
    · simp [h, total]
    · have : n / 2 ^ k % 2 = 0 := by omega
      simp [this, total]
theorem total_bitsL {u : Nat} (h : u ≤ 4611686018427387903) : total (bitsL (u : Int)) = u := by
  rw [bitsL_nat h, total_bits]
  exact Nat.mod_eq_of_lt (by have : (2 : Nat) ^ 62 = 4611686018427387904 := by decide
                             omega)
def awayB (l : List Int) : Bool := l.any fun e => decide (e < 0) || decide (61 < e)
theorem awayB_no {l : List Int} (h : ∀ e ∈ l, 0 ≤ e ∧ e ≤ 61) : awayB l = false := by
  unfold awayB
  rw [List.any_eq_false]
  intro e he
  have := h e he
  simp
  omega
def sumL (l : List Int) : Int × Int := if awayB l = true then (0, 1) else if 4611686018427387903 < total l then (0, 21) else (total l, 0)
theorem sumL_ok {l : List Int} (h : ∀ e ∈ l, 0 ≤ e ∧ e ≤ 61) (ht : total l ≤ 4611686018427387903) : sumL l = ((total l : Int), 0) := by
  unfold sumL
  rw [awayB_no h, if_neg (by decide), if_neg (by omega)]
theorem sumL_bits {u : Nat} (h : u ≤ 4611686018427387903) : sumL (bitsL (u : Int)) = ((u : Int), 0) := by
  have := sumL_ok (bitsL_bd (u : Int)) (by rw [total_bitsL h]; exact h)
  rwa [total_bitsL h] at this

theorem bits_twice {x : Nat} (h : x < 1152921504606846976) : bitsTo (2 * x) 62 = (bitsTo x 62).map (· + 1) := by
  have h61 : x.testBit 61 = false := Nat.testBit_lt_two_pow (by have : (2 : Nat) ^ 61 = 2305843009213693952 := by decide
                                                                omega)
  have e1 : bitsTo x 62 = bitsTo x 61 := by rw [bitsTo_succ]; simp [h61]
  rw [e1]
  unfold bitsTo
  rw [List.range_succ_eq_map, List.filter_cons]
  have h0 : (2 * x).testBit 0 = false := by simp
  rw [if_neg (by rw [h0]; decide), List.filter_map, List.map_map, List.map_map]
  have e2 : ((fun i => (2 * x).testBit i) ∘ Nat.succ) = fun i => x.testBit i := by
    funext i
    simp only [Function.comp_apply]
    rw [Nat.testBit_succ, show 2 * x / 2 = x by omega]
  rw [e2]
  refine List.map_congr_left fun i _ => ?_
  simp
theorem bits_twice1 {x : Nat} (h : x < 1152921504606846976) : bitsTo (2 * x + 1) 62 = 0 :: (bitsTo x 62).map (· + 1) := by
  have h61 : x.testBit 61 = false := Nat.testBit_lt_two_pow (by have : (2 : Nat) ^ 61 = 2305843009213693952 := by decide
                                                                omega)
  have e1 : bitsTo x 62 = bitsTo x 61 := by rw [bitsTo_succ]; simp [h61]
  rw [e1]
  unfold bitsTo
  rw [List.range_succ_eq_map, List.filter_cons]
  have h0 : (2 * x + 1).testBit 0 = true := by simp
  rw [if_pos h0, List.filter_map, List.map_cons, List.map_map, List.map_map]
  have e2 : ((fun i => (2 * x + 1).testBit i) ∘ Nat.succ) = fun i => x.testBit i := by
    funext i
    simp only [Function.comp_apply]
    rw [Nat.testBit_succ, show (2 * x + 1) / 2 = x by omega]
  rw [e2]
  rfl

end Go.Proofs.Ytocepdhjkhhpfaa
namespace Go.Proofs.Ytocepdhjkhhpfaa.Qt
set_option linter.unusedVariables false
set_option linter.unusedSimpArgs false
open Go Go.Sort Go.RowKit

section
variable {P : Program} {ops : Array Oper} {md : Region.Mode} {C : World → Prop}

/-- f rounds of the head, whatever order, then L. -/
def headAny (P : Program) (md : Region.Mode) (ops : Array Oper) (C : World → Prop) (n : Nat) (L : Array Bool → Act → Prop) : Nat → Array Bool → Act → Prop
  | 0, listed, a => L listed a
  | f + 1, listed, a => Region.ready md ops listed ≠ [] ∧ ∀ i ∈ Region.ready md ops listed, i < n ∧ qOp P ops C i (headAny P md ops C n L f (listed.setIfInBounds i true)) a

theorem any_of_head {n g : Nat} {L : Array Bool → Act → Prop} {Q : Exit → Act → World → Prop} (hL : ∀ listed a w, C w → L listed a → wpAny P md ops Q g listed a w) (f : Nat) :
    ∀ listed a w, C w → headAny P md ops C n L f listed a → wpAny P md ops Q (f + g) listed a w := by
  induction f with
  | zero => intro listed a w hw h; rw [Nat.zero_add]; exact hL _ _ _ hw h
  | succ f ih =>
    intro listed a w hw h
    rw [Nat.succ_add]
    exact ⟨fun h0 => absurd h0 h.1, fun i hi => wpOp_of_qOp hw (fun a' w' hw' h' => ih _ a' w' hw' h') (h.2 i hi).2⟩

/-- What may be taken first is taken first. -/
theorem head_first {n i : Nat} {oi : Oper} {v : Value} {L : Array Bool → Act → Prop} (hi : ops[i]? = some oi) (hsel : ∀ (j : Nat) (o : Oper) cs b, ops[j]? = some o → o.op ≠ .select cs b)
    (hs : Region.sinkB md ops n = true) (hc : Region.chainB md ops n = true) (hn : n < ops.size) (hin : i < n) (hdone : ∀ listed a, L listed a → ∀ j ∈ Region.ready md ops listed, n ≤ j) (f : Nat) :
    ∀ (listed : Array Bool) (a : Act), HeadInv md ops n listed →
      (∀ j oj, ops[j]? = some oj → j ≠ i → listed.getD j true = false → (∀ e ∈ oj.after, Region.binds md e = true → e.on ≠ i) → oi.apart ops oj = true) →
      i ∈ Region.ready md ops listed → YieldsIn P ops C oi v a →
      headAny P md ops C n L f (listed.setIfInBounds i true) (a.put oi.dst v) → headAny P md ops C n L (f + 1) listed a := by
  induction f with
  | zero =>
    intro listed a inv _ hr hy H
    refine ⟨fun h => (by rw [h] at hr; cases hr), fun j hj => ?_⟩
    have hjn : j < n := Nat.lt_of_not_le fun h => tail_waits hs hc hn inv _ i rfl hin (mem_ready.1 hr).1 j h hj
    refine ⟨hjn, ?_⟩
    by_cases hji : j = i
    · subst hji; exact hy.qOp hi H
    · exact absurd (hdone _ _ H j (ready_mono hj hji)) (by omega)
  | succ f ih =>
    intro listed a inv hfree hr hy H
    have hun := (mem_ready.1 hr).1
    refine ⟨fun h => (by rw [h] at hr; cases hr), fun j hj => ?_⟩
    have hjn : j < n := Nat.lt_of_not_le fun h => tail_waits hs hc hn inv _ i rfl hin hun j h hj
    refine ⟨hjn, ?_⟩
    by_cases hji : j = i
    · subst hji; exact hy.qOp hi H
    · obtain ⟨hjun, oj, hoj, hall⟩ := mem_ready.1 hj
      have hnot : ∀ e ∈ oj.after, Region.binds md e = true → e.on ≠ i := fun e he hb heq => by
        have h1 := hall e he hb
        rw [heq, getD_both hun] at h1
        cases h1
      have hq := qOp_put hoj (hfree j oj hoj hji hjun hnot) (fun cs b => hsel i oi cs b hi) (fun cs b => hsel j oj cs b hoj) hy (H.2 j (ready_mono hj hji)).2
      refine qOp_mono (fun a' h3 => ih (listed.setIfInBounds j true) a' (inv.set hj hjn) (fun k ok hk hki hku hno => hfree k ok hk hki ?_ hno) (ready_mono hr (Ne.symm hji)) h3.1 ?_) hq
      · by_cases hjk : j = k
        · subst hjk; exact hjun
        · rwa [getD_set_ne true hjk] at hku
      · rw [Array.setIfInBounds_comm _ _ hji]; exact h3.2

theorem head_lex {n g : Nat} {Lq : Act → Prop} (hsel : Region.noSelect ops = true) (hs : Region.sinkB md ops n = true) (hc : Region.chainB md ops n = true) (hn : n < ops.size) (l : List Oper) :
    ∀ (k : Nat) (listed : Array Bool) (a : Act), (∀ j, j < l.length → l[j]? = ops[k + j]?) → k + l.length = n → HeadInv md ops n listed →
    Region.lexHead md ops g l.length k listed = true → wpQuiet P ops C Lq l a →
    headAny P md ops C n (fun listed' a' => Region.seqB md ops g n listed' = true ∧ Lq a') l.length listed a := by
  induction l with
  | nil =>
    intro k listed a _ hk _ hB h
    obtain rfl : k = n := by simpa using hk
    exact ⟨by simpa [Region.lexHead] using hB, h⟩
  | cons o l ih =>
    intro k listed a hl hk inv hB h
    have h0 : ops[k]? = some o := by simpa using (hl 0 (by simp)).symm
    simp only [List.length_cons, Region.lexHead, Bool.and_eq_true] at hB
    have hkn : k < n := by simp only [List.length_cons] at hk; omega
    have hr' : k ∈ Region.ready md ops listed := by simpa using hB.1.1
    have hst : qOp P ops C k (wpQuiet P ops C Lq l) a := by unfold qOp; simp only [h0]; exact h
    obtain ⟨v, hy, hK⟩ := yieldsIn_of_qOp h0 hst
    exact head_first h0 (Region.noSelect_spec hsel) hs hc hn hkn (fun listed' a' hL => seqB_ready hL.1) l.length listed a inv (Region.free_spec h0 hB.1.2) hr' hy
      (ih (k + 1) _ _ (fun j hj => by have := hl (j + 1) (by simp; omega); simpa [Nat.add_assoc, Nat.add_comm 1 j] using this) (by simp only [List.length_cons] at hk; omega) (inv.set hr' hkn) hB.2 hK)

theorem quiet_mono {Q Q' : Act → Prop} (hq : ∀ a, Q a → Q' a) (l : List Oper) : ∀ a, wpQuiet P ops C Q l a → wpQuiet P ops C Q' l a := by
  induction l with
  | nil => exact hq
  | cons o l ih =>
    intro a h
    unfold wpQuiet at h ⊢
    split
    · rename_i hw; rw [if_pos hw] at h; exact Oper.quiet_mono ih h
    · rename_i hw; rw [if_neg hw] at h; exact ih _ h

theorem region_tail {id : Nat} {Q : Exit → Act → World → Prop} {a : Act} {w : World} {l : List Oper} (n : Nat) (hm : P.follows .mixedOrders = true) (hB : Region.lexTailB .any l.toArray n = true) (hC : C w.drew)
    (h : wpQuiet P l.toArray C (fun a' => ∀ w', C w' → wpList P l.toArray Q (l.drop n) a' w') (l.take n) a) : (Code.region id l.toArray true).wp P Q a w := by
  simp only [Region.lexTailB, Bool.and_eq_true, decide_eq_true_eq] at hB
  obtain ⟨⟨⟨⟨hsel, hn⟩, hs⟩, hc⟩, hlex⟩ := hB
  have hn' : n < l.length := by simpa using hn
  have htl : (l.take n).length = n := by simp; omega
  have hdl : (l.drop n).length = l.toArray.size - n := by simp
  have inv0 : HeadInv .any l.toArray n (Array.replicate l.toArray.size false) :=
    ⟨by simp, fun j oj _ hl => (by rw [getD_replicate_false] at hl; cases hl), fun t _ ht => getD_in (by simpa using ht) (getD_replicate_false _ _)⟩
  have H := head_lex (P := P) (C := C) (md := .any) (g := l.toArray.size - n) hsel hs hc hn (l.take n) 0 _ a (fun j hj => by rw [htl] at hj; simp [hj]) (by simpa using htl) inv0 (by rw [htl]; exact hlex) h
  refine wp_region_any hm ?_
  have e := any_of_head (Q := Q) (g := l.toArray.size - n) (fun listed a' w' hw' hL => by
    have := wpAny_of_seq (md := .any) (Q' := Q) (l.drop n) n listed a' w' (fun j => by simp [List.getElem?_drop]) (by rw [hdl]; exact hL.1) (hL.2 w' hw')
    rwa [hdl] at this) _ _ _ w.drew hC H
  rw [htl, show n + (l.toArray.size - n) = l.toArray.size by omega] at e
  exact e

/-- .. at the class 'of what was there nothing has turned'; the tail in whatever such world. -/
theorem below_tail {id : Nat} {Q : Exit → Act → World → Prop} {a : Act} {w : World} {l : List Oper} (n : Nat) (hm : P.follows .mixedOrders = true) (hB : Region.lexTailB .any l.toArray n = true)
    (h : wpQuiet P l.toArray (fun w' => ∃ p : Regrown, w' = grow (redrawn w p.d) p.os) (fun a' => ∀ w', Below w.heap.size w w' → wpList P l.toArray Q (l.drop n) a' w') (l.take n) a) : (Code.region id l.toArray true).wp P Q a w :=
  region_tail n hm hB ⟨⟨w.drawn + 1, #[]⟩, by rw [grow_empty]; rfl⟩ (quiet_mono (fun a' h w' ⟨p, hp⟩ => h w' (hp ▸ below_regrown w p.d p.os)) _ _ h)

/-- The whole region quiet. -/
theorem below_all {id : Nat} {Q : Exit → Act → World → Prop} {a : Act} {w : World} {l : List Oper} (hm : P.follows .mixedOrders = true) (hB : Region.lexB .any l.toArray = true)
    (h : wpQuiet P l.toArray (fun w' => ∃ p : Regrown, w' = grow (redrawn w p.d) p.os) (fun a' => ∀ w', Below w.heap.size w w' → Q .normal a' w') l a) : (Code.region id l.toArray true).wp P Q a w :=
  wp_region_quiet_below hm hB (quiet_mono (fun a' h w' ⟨p, hp⟩ => h w' (hp ▸ below_regrown w p.d p.os)) _ _ h)

/-- A contract that ends in 'Below', at a call within such a region. -/
theorem at_call {f : FuncId} {args : Array Value} {w : World} {d : Nat} {os : Array Obj} {v : Value} (h : ∀ W, Calls P f args W fun e w' => e = .returned v ∧ Below W.heap.size W w') :
    Calls P f args (grow (redrawn w d) os) fun e w'' => e = .returned v ∧ ∃ p : Regrown, w'' = grow (redrawn w p.d) p.os := Calls.regrown_of (h _)

/-- .. one that asks for the world ahead. -/
theorem at_call' {f : FuncId} {args : Array Value} {w : World} {d : Nat} {os : Array Obj} {v : Value} (h : ∀ W, Below w.heap.size w W → Calls P f args W fun e w' => e = .returned v ∧ Below W.heap.size W w') :
    Calls P f args (grow (redrawn w d) os) fun e w'' => e = .returned v ∧ ∃ p : Regrown, w'' = grow (redrawn w p.d) p.os := Calls.regrown_of (h _ (below_regrown w d os))

/-- .. one that leaves the world alone. -/
theorem at_same {f : FuncId} {args : Array Value} {w : World} {d : Nat} {os : Array Obj} {v : Value} (h : ∀ W, Below w.heap.size w W → Calls P f args W fun e w' => e = .returned v ∧ W = w') :
    Calls P f args (grow (redrawn w d) os) fun e w'' => e = .returned v ∧ ∃ p : Regrown, w'' = grow (redrawn w p.d) p.os :=
  Calls.regrown_of ((h _ (below_regrown w d os)).mono fun _ _ ⟨he, hw⟩ => ⟨he, hw ▸ Below.refl _ _⟩)

/-- A cell that is there, in every world of the class. -/
theorem cell_in {w : World} {a : Addr} {v : Value} (h : w.cell? a = some v) : ∀ d os, (grow (redrawn w d) os).cell? a = some v := cell_regrown h
/-- a cell that is there stays, and Below adds up -/
theorem keep {w w' : World} {a : Addr} {v : Value} (hb : Below w.heap.size w w') (h : w.cell? a = some v) : w'.cell? a = some v := (hb.cell (block_lt_of_cell h)).trans h
theorem more {B : Nat} {w0 w w' : World} (h : Below B w0 w) (hB : B ≤ w.heap.size) (hb : Below w.heap.size w w') : Below B w0 w' := h.trans (hb.mono hB)

theorem ret_bool {x y : Bool} (h : (x = true) ↔ (y = true)) : Ending.returned (.bool x) = .returned (.bool y) := by rw [Bool.eq_iff_iff.2 h]
theorem ret_int {k : IntKind} {x y : Int} (h : x = y) : Ending.returned (.int k x) = .returned (.int k y) := by rw [h]
end
end Go.Proofs.Ytocepdhjkhhpfaa.Qt
namespace Go.Proofs.Ytocepdhjkhhpfaa
open Go.RowKit Go.Sort

def I64 (n : Int) : Prop := -9223372036854775808 ≤ n ∧ n ≤ 9223372036854775807

/-- The table of powers of ten, that the library's Itoa looks into. -/
def tabName : String := Rows.freeRunsRow.named.getD 0 default
def Tab (w : World) : Prop := Lib.TabIs Try.prog w tabName .u64 Lib.pow10Tab
theorem Tab.below {w w' : World} (h : Tab w) (hb : Below w.heap.size w w') : Tab w' := Lib.tabBelow_of_tabIs h w' hb

def pickI (c n : Int) : Int := if c < 0 then (-(c + 1)) % n else c % n
theorem pickI_bd (c n : Int) (hn : 1 ≤ n) : 0 ≤ pickI c n ∧ pickI c n < n := by
  unfold pickI
  split
  · exact ⟨Int.emod_nonneg _ (by omega), Int.emod_lt_of_pos _ (by omega)⟩
  · exact ⟨Int.emod_nonneg _ (by omega), Int.emod_lt_of_pos _ (by omega)⟩

theorem pick_any (c n : Int) (w : World) (h1 : -9223372036854775808 ≤ c) (h2 : c ≤ 9223372036854775807) (hn : 1 ≤ n) (hn2 : n ≤ 9223372036854775807) :
    Calls Try.prog 36 #[.int .i64 c, .int .i64 n] w fun e w' => e = .returned (.int .i64 (pickI c n)) ∧ w = w' := by
  generalize hr : pickI c n = r
  have HR := Lib.hid hr
  clear hr
  go_enter Try.func36, Try.ntmps36
  go_wp2
  all_goals go_ret
  all_goals refine ⟨?_, rfl⟩
  all_goals (refine Qt.ret_int ?_; rw [← HR.out]; unfold pickI)
  · rw [if_pos (by assumption), ← Int.neg_tmod, Int.tmod_eq_emod_of_nonneg (by omega)]
  · rw [if_neg (by omega)]
/-- .. whatever number comes in: a number from 0 on, below n. -/
theorem pick_nat (c n : Int) (w : World) (hc : I64 c) (hn : 1 ≤ n) (hn2 : n ≤ 9223372036854775807) :
    Calls Try.prog 36 #[.int .i64 c, .int .i64 n] w fun e w' => e = .returned (.int .i64 ((pickI c n).toNat : Int)) ∧ w = w' := by
  have h := pickI_bd c n hn
  have := pick_any c n w hc.1 hc.2 hn hn2
  rwa [show (((pickI c n).toNat : Nat) : Int) = pickI c n by omega]

def txt (n : Int) : ByteArray := ⟨(txtL n).toArray⟩

/-! ### slices of numbers -/

/-- The slice at A of l.length numbers reads as l, below block B. -/
def Rd (w : World) (B : Nat) (A : Option Addr) (l : List Int) : Prop :=
  ∀ j, j < l.length → ∃ b off, A = some ⟨b, off, none⟩ ∧ b < B ∧ w.cell? ⟨b, off + j, none⟩ = some (.int .i64 (l.getD j 0))

theorem Rd.below {w w' : World} {B B' : Nat} {A : Option Addr} {l : List Int} (h : Rd w B A l) (hb : Below B' w w') (hB : B ≤ B') : Rd w' B A l := fun j hj => by
  obtain ⟨b, off, e, hlt, h0⟩ := h j hj
  exact ⟨b, off, e, hlt, (hb.cell (p := ⟨b, off + j, none⟩) (Nat.lt_of_lt_of_le hlt hB)).trans h0⟩
theorem Rd.more {w : World} {B B' : Nat} {A : Option Addr} {l : List Int} (h : Rd w B A l) (hB : B ≤ B') : Rd w B' A l := fun j hj => by
  obtain ⟨b, off, e, hlt, h0⟩ := h j hj
  exact ⟨b, off, e, by omega, h0⟩
theorem Rd.nil (w : World) (B : Nat) (A : Option Addr) : Rd w B A [] := fun j hj => absurd hj (Nat.not_lt_zero j)
theorem Rd.at_ {w : World} {B : Nat} {A : Option Addr} {l : List Int} (h : Rd w B A l) (hn : 0 < l.length) :
    ∃ b off, A = some ⟨b, off, none⟩ ∧ b < B ∧ ∀ j, j < l.length → w.cell? ⟨b, off + j, none⟩ = some (.int .i64 (l.getD j 0)) := by
  obtain ⟨b, off, e, hlt, _⟩ := h 0 hn
  refine ⟨b, off, e, hlt, fun j hj => ?_⟩
  obtain ⟨b', off', e', _, h0⟩ := h j hj
  rw [e] at e'
  injection e' with e'
  injection e' with e1 e2
  subst e1 e2
  exact h0
/-- A slice whose cells read as a list, now. -/
def Now (w : World) (A : Option Addr) (l : List Int) : Prop := Rd w w.heap.size A l
theorem Now.below {w w' : World} {A : Option Addr} {l : List Int} (h : Now w A l) (hb : Below w.heap.size w w') : Now w' A l := (Rd.below h hb (Nat.le_refl _)).more hb.size
theorem now_nil (w : World) (A : Option Addr) : Now w A [] := Rd.nil _ _ _

/-- A slice that the call itself has made. -/
abbrev Own (w : World) (B : Nat) (v : Value) (l : List Int) : Prop := w.ownsRow B 3 1 v l.length (l.map (Value.int .i64))
/-- It reads as its list. -/
def Reads (w : World) (v : Value) (l : List Int) : Prop := ∃ A c, v = .slice A l.length c ∧ l.length ≤ c ∧ Now w A l
theorem Own.reads {w : World} {B : Nat} {v : Value} {l : List Int} (h : Own w B v l) : Reads w v l := by
  rcases h.2 with ⟨rfl, h0⟩ | ⟨g, cap, cur, rfl, hb, hh, hn, hcap, hsz, htake⟩
  · have : l = [] := by simpa using h0
    subst this
    exact ⟨none, 0, rfl, Nat.le_refl _, now_nil _ _⟩
  · refine ⟨some ⟨g, 0, none⟩, cap, rfl, hn, fun j hj => ⟨g, 0, rfl, (World.ownsRow.lt h g rfl).2, ?_⟩⟩
    have := World.ownsRow.cellAt h j (by simpa using hj)
    rw [Nat.zero_add]
    rw [this]
    simp [List.getD_eq_getElem?_getD, List.getElem?_eq_getElem hj]
theorem Reads.below {w w' : World} {v : Value} {l : List Int} (h : Reads w v l) (hb : Below w.heap.size w w') : Reads w' v l := by
  obtain ⟨A, c, e, hc, hR⟩ := h
  exact ⟨A, c, e, hc, hR.below hb⟩

end Go.Proofs.Ytocepdhjkhhpfaa
namespace Go.Proofs.Ytocepdhjkhhpfaa
set_option linter.unusedVariables false
set_option linter.unusedSimpArgs false

/-! ### how many are left -/
def livI (x : Int) : Nat := if 0 < x then 1 else 0
theorem livI_le (x : Int) : livI x ≤ 1 := by unfold livI; split <;> omega
theorem livI_yes {x : Int} (h : 0 < x) : livI x = 1 := by unfold livI; rw [if_pos h]
theorem livI_no {x : Int} (h : ¬ 0 < x) : livI x = 0 := by unfold livI; rw [if_neg h]
/-- how many are left of those ahead of a place -/
def cntP (l : List Int) : Nat → Nat
  | 0 => 0
  | p + 1 => cntP l p + livI (l.getD p 0)
def manyP (l : List Int) : Nat := cntP l l.length
theorem cntP_succ (l : List Int) (p : Nat) : cntP l (p + 1) = cntP l p + livI (l.getD p 0) := rfl
theorem cntP_mono (l : List Int) {p q : Nat} (h : p ≤ q) : cntP l p ≤ cntP l q := by
  induction q with
  | zero => obtain rfl : p = 0 := by omega
            exact Nat.le_refl _
  | succ q ih =>
    by_cases hp : p = q + 1
    · subst hp; exact Nat.le_refl _
    · exact Nat.le_trans (ih (by omega)) (by rw [cntP_succ]; omega)
theorem cntP_le (l : List Int) (p : Nat) : cntP l p ≤ p := by
  induction p with
  | zero => exact Nat.le_refl _
  | succ p ih => have := livI_le (l.getD p 0); rw [cntP_succ]; omega
theorem getD_past (l : List Int) {p : Nat} (h : l.length ≤ p) : l.getD p 0 = 0 := by
  rw [List.getD_eq_getElem?_getD, List.getElem?_eq_none h]; rfl
theorem cntP_past (l : List Int) {p : Nat} (h : l.length ≤ p) : cntP l p = manyP l := by
  induction p with
  | zero => obtain h0 : l.length = 0 := by omega
            unfold manyP; rw [h0]
  | succ p ih =>
    by_cases hp : l.length = p + 1
    · unfold manyP; rw [hp]
    · rw [cntP_succ, ih (by omega), getD_past l (by omega)]; rfl
theorem cntP_many (l : List Int) (p : Nat) : cntP l p ≤ manyP l := by
  rcases Nat.le_total p l.length with h | h
  · exact cntP_mono l h
  · rw [cntP_past l h]; exact Nat.le_refl _
theorem many_le (l : List Int) : manyP l ≤ l.length := cntP_le l _
/-- the place of the one that has so many ahead of it (below a bound) -/
def kthTo (l : List Int) (r : Nat) : Nat → Nat
  | 0 => 0
  | p + 1 => if r < cntP l p + livI (l.getD p 0) ∧ cntP l p ≤ r then p else kthTo l r p
def kthP (l : List Int) (r : Nat) : Nat := kthTo l r l.length
theorem kthTo_ok (l : List Int) (r : Nat) : ∀ p, r < cntP l p → kthTo l r p < p ∧ 0 < l.getD (kthTo l r p) 0 ∧ cntP l (kthTo l r p) = r := by
  intro p
  induction p with
  | zero => intro h; exact absurd h (Nat.not_lt_zero r)
  | succ p ih =>
    intro h
    rw [cntP_succ] at h
    have hl := livI_le (l.getD p 0)
    unfold kthTo
    by_cases hc : r < cntP l p + livI (l.getD p 0) ∧ cntP l p ≤ r
    · rw [if_pos hc]
      refine ⟨by omega, ?_, by omega⟩
      by_cases h0 : 0 < l.getD p 0
      · exact h0
      · have := livI_no h0; omega
    · rw [if_neg hc]
      obtain ⟨h1, h2, h3⟩ := ih (by omega)
      exact ⟨by omega, h2, h3⟩
theorem kth_ok {l : List Int} {r : Nat} (h : r < manyP l) : kthP l r < l.length ∧ 0 < l.getD (kthP l r) 0 ∧ cntP l (kthP l r) = r := kthTo_ok l r l.length h
theorem live_lt {l : List Int} {p : Nat} (h : 0 < l.getD p 0) : p < l.length := by
  rcases Nat.lt_or_ge p l.length with h1 | h1
  · exact h1
  · rw [getD_past l h1] at h; omega
theorem live_cnt {l : List Int} {p : Nat} (h : 0 < l.getD p 0) : cntP l (p + 1) = cntP l p + 1 := by rw [cntP_succ, livI_yes h]
theorem live_many {l : List Int} {p : Nat} (h : 0 < l.getD p 0) : cntP l p < manyP l := by
  have := cntP_many l (p + 1)
  rw [live_cnt h] at this
  omega
theorem live_inj {l : List Int} {p q : Nat} (hp : 0 < l.getD p 0) (hq : 0 < l.getD q 0) (h : cntP l p = cntP l q) : p = q := by
  rcases Nat.lt_trichotomy p q with h1 | h1 | h1
  · have := cntP_mono l (show p + 1 ≤ q from h1); rw [live_cnt hp] at this; omega
  · exact h1
  · have := cntP_mono l (show q + 1 ≤ p from h1); rw [live_cnt hq] at this; omega
theorem kth_eq {l : List Int} {p r : Nat} (hp : 0 < l.getD p 0) (h : cntP l p = r) : kthP l r = p := by
  have hm := live_many hp
  obtain ⟨_, h2, h3⟩ := kth_ok (l := l) (r := r) (by omega)
  exact live_inj h2 hp (by omega)
/-- of two places: behind, if so many are ahead -/
theorem kth_lt {l : List Int} {r p : Nat} (h : r < manyP l) : kthP l r < p ↔ r < cntP l p := by
  obtain ⟨_, h2, h3⟩ := kth_ok h
  constructor
  · intro hp
    have := cntP_mono l (show kthP l r + 1 ≤ p from hp)
    rw [live_cnt h2] at this
    omega
  · intro hp
    rcases Nat.lt_or_ge (kthP l r) p with h4 | h4
    · exact h4
    · have := cntP_mono l h4; omega
theorem cntP_set (l : List Int) (k : Nat) (x : Int) (hk : k < l.length) (p : Nat) : cntP (l.set k x) p + (if k < p then livI (l.getD k 0) else 0) = cntP l p + (if k < p then livI x else 0) := by
  induction p with
  | zero => rfl
  | succ p ih =>
    rw [cntP_succ, cntP_succ]
    by_cases h1 : k < p
    · have e : (l.set k x).getD p 0 = l.getD p 0 := by simp [List.getD_eq_getElem?_getD, List.getElem?_set, show ¬ k = p by omega]
      rw [if_pos h1] at ih
      rw [if_pos h1] at ih
      rw [if_pos (by omega), if_pos (by omega), e]
      omega
    · rw [if_neg h1, if_neg h1] at ih
      by_cases h2 : k = p
      · subst h2
        have e : (l.set k x).getD k 0 = x := by simp [List.getD_eq_getElem?_getD, List.getElem?_set, hk]
        rw [if_pos (by omega), if_pos (by omega), e]
        omega
      · have e : (l.set k x).getD p 0 = l.getD p 0 := by simp [List.getD_eq_getElem?_getD, List.getElem?_set, h2]
        rw [if_neg (by omega), if_neg (by omega), e]
        omega
/-! ### who is next -/
/-- of those that are left, the how-manieth it is -/
def rankP (picks : List Int) (step : Int) (many upto : Nat) : Nat :=
  if 0 ≤ step ∧ step < picks.length then (pickI (picks.getD step.toNat 0) many).toNat else upto % many
theorem rankP_lt (picks : List Int) (step : Int) {many : Nat} (upto : Nat) (h : 0 < many) : rankP picks step many upto < many := by
  unfold rankP
  split
  · have := pickI_bd (picks.getD step.toNat 0) many (by omega); omega
  · exact Nat.mod_lt _ h
/-- how many are left up to the last one -/
def uptoP (l : List Int) (last : Int) : Nat := cntP l (last + 1).toNat
def nextN (picks : List Int) (step : Int) (l : List Int) (last : Int) : Nat := kthP l (rankP picks step (manyP l) (uptoP l last))
def nextP (picks : List Int) (step : Int) (l : List Int) (last : Int) : Int := if manyP l = 0 then -1 else (nextN picks step l last : Int)
theorem nextN_ok (picks : List Int) (step : Int) {l : List Int} (last : Int) (h : 0 < manyP l) : nextN picks step l last < l.length ∧ 0 < l.getD (nextN picks step l last) 0 ∧ cntP l (nextN picks step l last) = rankP picks step (manyP l) (uptoP l last) :=
  kth_ok (rankP_lt _ _ _ h)
/-! ### all turns -/
/-- what is left, and who was last, behind so many turns -/
def stP (picks : List Int) (l : List Int) : Nat → List Int × Int
  | 0 => (l, -1)
  | j + 1 => ((stP picks l j).1.set (nextN picks j (stP picks l j).1 (stP picks l j).2) ((stP picks l j).1.getD (nextN picks j (stP picks l j).1 (stP picks l j).2) 0 - 1), (nextN picks j (stP picks l j).1 (stP picks l j).2 : Int))
/-- who has the turn j -/
def tnP (picks : List Int) (l : List Int) (j : Nat) : Nat := nextN picks j (stP picks l j).1 (stP picks l j).2
theorem stP_succ (picks l : List Int) (j : Nat) : stP picks l (j + 1) = ((stP picks l j).1.set (tnP picks l j) ((stP picks l j).1.getD (tnP picks l j) 0 - 1), (tnP picks l j : Int)) := rfl
/-- how many turns there are -/
def totP : List Int → Nat
  | [] => 0
  | x :: l => x.toNat + totP l
theorem totP_set : ∀ (l : List Int) (k : Nat), 0 < l.getD k 0 → totP (l.set k (l.getD k 0 - 1)) + 1 = totP l := by
  intro l
  induction l with
  | nil => intro k h; simp at h
  | cons x l ih =>
    intro k h
    cases k with
    | zero => simp only [List.getD_cons_zero, List.set_cons_zero, totP] at h ⊢; omega
    | succ k =>
      simp only [List.getD_cons_succ, List.set_cons_succ, totP] at h ⊢
      have := ih k h
      omega
theorem totP_live : ∀ (l : List Int), 0 < totP l → ∃ k, 0 < l.getD k 0 := by
  intro l
  induction l with
  | nil => intro h; simp [totP] at h
  | cons x l ih =>
    intro h
    by_cases hx : 0 < x
    · exact ⟨0, by simpa using hx⟩
    · obtain ⟨k, hk⟩ := ih (by unfold totP at h; omega)
      exact ⟨k + 1, by simpa using hk⟩
theorem totP_dead : ∀ (l : List Int), totP l = 0 → ∀ k, ¬ 0 < l.getD k 0 := by
  intro l
  induction l with
  | nil => intro _ k h; simp at h
  | cons x l ih =>
    intro h k hk
    unfold totP at h
    cases k with
    | zero => simp at hk; omega
    | succ k => exact ih (by omega) k (by simpa using hk)
theorem many_pos {l : List Int} : 0 < manyP l ↔ 0 < totP l := by
  constructor
  · intro h
    obtain ⟨_, h2, _⟩ := kth_ok (l := l) (r := 0) h
    rcases Nat.eq_zero_or_pos (totP l) with h0 | h0
    · exact absurd h2 (totP_dead l h0 _)
    · exact h0
  · intro h
    obtain ⟨k, hk⟩ := totP_live l h
    have := live_many hk
    omega
theorem stP_ok (picks l : List Int) : ∀ j, j ≤ totP l → totP (stP picks l j).1 + j = totP l ∧ (stP picks l j).1.length = l.length := by
  intro j
  induction j with
  | zero => intro _; exact ⟨rfl, rfl⟩
  | succ j ih =>
    intro h
    obtain ⟨h1, h2⟩ := ih (by omega)
    have hm : 0 < manyP (stP picks l j).1 := many_pos.2 (by omega)
    obtain ⟨_, h4, _⟩ := nextN_ok picks j (stP picks l j).2 hm
    rw [stP_succ]
    have := totP_set _ _ h4
    refine ⟨?_, by rw [List.length_set]; exact h2⟩
    show totP (List.set _ (tnP picks l j) _) + _ = _
    unfold tnP
    omega
theorem tnP_ok (picks l : List Int) {j : Nat} (h : j < totP l) : 0 < manyP (stP picks l j).1 ∧ tnP picks l j < l.length ∧ 0 < (stP picks l j).1.getD (tnP picks l j) 0 ∧ nextP picks j (stP picks l j).1 (stP picks l j).2 = (tnP picks l j : Int) := by
  obtain ⟨h1, h2⟩ := stP_ok picks l j (by omega)
  have hm : 0 < manyP (stP picks l j).1 := many_pos.2 (by omega)
  obtain ⟨h3, h4, _⟩ := nextN_ok picks j (stP picks l j).2 hm
  refine ⟨hm, by rw [← h2]; exact h3, h4, ?_⟩
  unfold nextP
  rw [if_neg (by omega)]
  rfl
theorem stP_end (picks l : List Int) : manyP (stP picks l (totP l)).1 = 0 := by
  have := (stP_ok picks l (totP l) (Nat.le_refl _)).1
  rcases Nat.eq_zero_or_pos (manyP (stP picks l (totP l)).1) with h | h
  · exact h
  · have := many_pos.1 h; omega
def turnsP (picks l : List Int) : List Int := (List.range (totP l)).map fun j => (tnP picks l j : Int)
def turnsTo (picks l : List Int) (k : Nat) : List Int := (List.range k).map fun j => (tnP picks l j : Int)
theorem turnsTo_succ (picks l : List Int) (k : Nat) : turnsTo picks l (k + 1) = turnsTo picks l k ++ [(tnP picks l k : Int)] := by unfold turnsTo; rw [List.range_succ, List.map_append]; rfl
theorem turnsTo_len (picks l : List Int) (k : Nat) : (turnsTo picks l k).length = k := by unfold turnsTo; simp
theorem turns_len (picks l : List Int) : (turnsP picks l).length = totP l := turnsTo_len picks l _
theorem turnsTo_get (picks l : List Int) {k j : Nat} (h : j < k) : (turnsTo picks l k).getD j 0 = (tnP picks l j : Int) := by
  unfold turnsTo
  rw [List.getD_eq_getElem?_getD, List.getElem?_map, List.getElem?_range h]
  rfl
theorem turns_get (picks l : List Int) {j : Nat} (h : j < totP l) : (turnsP picks l).getD j 0 = (tnP picks l j : Int) := turnsTo_get picks l h
theorem stP_bd (picks l : List Int) (m : Int) (hm : ∀ k, 0 ≤ l.getD k 0 ∧ l.getD k 0 ≤ m) : ∀ j, j ≤ totP l → ∀ k, 0 ≤ (stP picks l j).1.getD k 0 ∧ (stP picks l j).1.getD k 0 ≤ m := by
  intro j
  induction j with
  | zero => intro _; exact hm
  | succ j ih =>
    intro h k
    obtain ⟨_, h2, h3, _⟩ := tnP_ok picks l (show j < totP l by omega)
    have i := ih (by omega) k
    have hl := (stP_ok picks l j (by omega)).2
    rw [stP_succ]
    show 0 ≤ (List.set _ (tnP picks l j) _).getD k 0 ∧ (List.set _ (tnP picks l j) _).getD k 0 ≤ m
    by_cases hk : tnP picks l j = k
    · subst hk
      simp only [List.getD_eq_getElem?_getD, List.getElem?_set, if_true, show tnP picks l j < (stP picks l j).1.length by omega, Option.getD_some] at i h3 ⊢
      omega
    · simp only [List.getD_eq_getElem?_getD, List.getElem?_set, if_neg hk] at i ⊢
      exact i
end Go.Proofs.Ytocepdhjkhhpfaa
namespace Go.Proofs.Ytocepdhjkhhpfaa
set_option linter.unusedVariables false
set_option linter.unusedSimpArgs false

/-- an access: its kind, its place, what is to be there, what is to be written -/
abbrev Ac := Int × Int × Int × Int
def deadA : Ac := (0, 0, 0, 0)
/-- what an access answers: the words, what was there, whether it was done, the error -/
abbrev DoT := List Int × Int × Bool × Int
def mayW (n : Int) : Bool := decide (-1152921504606846975 ≤ n) && decide (n ≤ 1152921504606846975)
def knownA (k : Int) : Bool := decide (1 ≤ k) && decide (k ≤ 4)
/-- what is to be written -/
def toA (y : Ac) (x : Int) : Int := if y.1 = 4 then x + y.2.2.2 else y.2.2.2
def doA (m : List Int) (y : Ac) : DoT :=
  if knownA y.1 = false ∨ 100000 < m.length then (m, 0, false, 1)
  else if y.2.1 < 0 ∨ (m.length : Int) ≤ y.2.1 then (m, 0, false, 2)
  else if y.1 = 1 then (m, m.getD y.2.1.toNat 0, true, 0)
  else if mayW (toA y (m.getD y.2.1.toNat 0)) = false then (m, 0, false, 2)
  else if y.1 = 3 ∧ m.getD y.2.1.toNat 0 ≠ y.2.2.1 then (m, m.getD y.2.1.toNat 0, false, 0)
  else (m.set y.2.1.toNat (toA y (m.getD y.2.1.toNat 0)), m.getD y.2.1.toNat 0, true, 0)
/-- all accesses, one behind the other; the first error ends it -/
def playA (m0 : List Int) : List Ac → List Int → List Int → List Int × List Int × Int
  | [], m, f => (m, f, 0)
  | y :: r, m, f => if (doA m y).2.2.2 = 0 then playA m0 r (doA m y).1 (f ++ [(doA m y).2.1]) else (m0, [], (doA m y).2.2.2)

theorem doA_len (m : List Int) (y : Ac) : (doA m y).1.length = m.length := by
  unfold doA
  repeat' split
  all_goals simp
theorem doA_err (m : List Int) (y : Ac) : (doA m y).2.2.2 = 0 ∨ (doA m y).2.2.2 = 1 ∨ (doA m y).2.2.2 = 2 := by
  unfold doA
  repeat' split
  all_goals simp
theorem doA_bad {m : List Int} {y : Ac} (h : (doA m y).2.2.2 ≠ 0) : doA m y = (m, 0, false, (doA m y).2.2.2) := by
  revert h
  unfold doA
  repeat' split
  all_goals simp
theorem i64_getD0 {l : List Int} (h : ∀ x ∈ l, I64 x) (j : Nat) : I64 (l.getD j 0) := by
  rw [List.getD_eq_getElem?_getD]
  by_cases hj : j < l.length
  · rw [List.getElem?_eq_getElem hj]; exact h _ (List.getElem_mem hj)
  · rw [List.getElem?_eq_none (by omega)]; exact ⟨by decide, by decide⟩
theorem doA_fine {m : List Int} (y : Ac) (h : ∀ x ∈ m, I64 x) : (∀ x ∈ (doA m y).1, I64 x) ∧ I64 (doA m y).2.1 := by
  have h0 : I64 0 := ⟨by decide, by decide⟩
  have hg := i64_getD0 h y.2.1.toNat
  unfold doA
  split
  · exact ⟨h, h0⟩
  split
  · exact ⟨h, h0⟩
  split
  · exact ⟨h, hg⟩
  split
  · exact ⟨h, h0⟩
  rename_i hm
  split
  · exact ⟨h, hg⟩
  refine ⟨fun x hx => ?_, hg⟩
  rcases List.mem_or_eq_of_mem_set hx with hx | rfl
  · exact h x hx
  · simp only [mayW, Bool.not_eq_false, Bool.and_eq_true, decide_eq_true_eq] at hm
    unfold I64
    omega
theorem playA_cons (m0 : List Int) (y : Ac) (r : List Ac) (m f : List Int) : playA m0 (y :: r) m f = if (doA m y).2.2.2 = 0 then playA m0 r (doA m y).1 (f ++ [(doA m y).2.1]) else (m0, [], (doA m y).2.2.2) := rfl
theorem playA_append (m0 : List Int) (l r : List Ac) : ∀ (m f : List Int), (playA m0 l m f).2.2 = 0 → playA m0 (l ++ r) m f = playA m0 r (playA m0 l m f).1 (playA m0 l m f).2.1 := by
  induction l with
  | nil => intro m f _; rfl
  | cons y l ih =>
    intro m f h
    rw [List.cons_append, playA_cons]
    rw [playA_cons] at h ⊢
    by_cases h0 : (doA m y).2.2.2 = 0
    · rw [if_pos h0] at h ⊢
      rw [if_pos h0]
      exact ih _ _ h
    · rw [if_neg h0] at h
      exact absurd h h0
/-- accesses of which none is an error -/
def GoodA (m : List Int) : List Ac → Prop
  | [] => True
  | y :: r => (doA m y).2.2.2 = 0 ∧ GoodA (doA m y).1 r
def wordsA (m : List Int) : List Ac → List Int
  | [] => m
  | y :: r => wordsA (doA m y).1 r
def foundA (m : List Int) : List Ac → List Int
  | [] => []
  | y :: r => (doA m y).2.1 :: foundA (doA m y).1 r
theorem playA_good (m0 : List Int) (l : List Ac) : ∀ (m f : List Int), GoodA m l → playA m0 l m f = (wordsA m l, f ++ foundA m l, 0) := by
  induction l with
  | nil => intro m f _; simp [playA, wordsA, foundA]
  | cons y l ih =>
    intro m f h
    rw [playA_cons, if_pos h.1, ih _ _ h.2]
    simp [wordsA, foundA]
theorem foundA_len (l : List Ac) : ∀ m, (foundA m l).length = l.length := by
  induction l with
  | nil => intro m; rfl
  | cons y l ih => intro m; simp [foundA, ih]
theorem wordsA_len (l : List Ac) : ∀ m, (wordsA m l).length = m.length := by
  induction l with
  | nil => intro m; rfl
  | cons y l ih => intro m; rw [wordsA, ih, doA_len]
theorem wordsA_append (l r : List Ac) : ∀ m, wordsA m (l ++ r) = wordsA (wordsA m l) r := by
  induction l with
  | nil => intro m; rfl
  | cons y l ih => intro m; exact ih _
theorem foundA_append (l r : List Ac) : ∀ m, foundA m (l ++ r) = foundA m l ++ foundA (wordsA m l) r := by
  induction l with
  | nil => intro m; rfl
  | cons y l ih => intro m; simp [foundA, wordsA, ih]
theorem goodA_append (l r : List Ac) : ∀ m, GoodA m (l ++ r) ↔ GoodA m l ∧ GoodA (wordsA m l) r := by
  induction l with
  | nil => intro m; simp [GoodA, wordsA]
  | cons y l ih => intro m; simp [GoodA, wordsA, ih, and_assoc]
end Go.Proofs.Ytocepdhjkhhpfaa
namespace Go.Proofs.Ytocepdhjkhhpfaa
set_option linter.unusedVariables false
set_option linter.unusedSimpArgs false

/-- a worker whose numbers from r3 on are 0 -/
structure Wk where
  pc : Int
  job : Int
  r0 : Int
  r1 : Int
  r2 : Int
  done : Bool
  out : Int
def hdH (n : Int) : Int := if n < 0 then 0 else n % 1048576
def hdC (n : Int) : Int := if n < 0 then 0 else n / 1048576
theorem hdH_bd (n : Int) : 0 ≤ hdH n ∧ hdH n ≤ 1048575 := by unfold hdH; split <;> omega
theorem hdC_bd {n : Int} (h : n ≤ 1152921504606846975) : 0 ≤ hdC n ∧ hdC n ≤ 1099511627775 := by unfold hdC; split <;> omega
/-- a word's number, as it may be -/
def WdI (n : Int) : Prop := -1152921504606846975 ≤ n ∧ n ≤ 1152921504606846975
theorem WdI.i64 {n : Int} (h : WdI n) : I64 n := by unfold WdI at h; unfold I64; omega
theorem wdI0 : WdI 0 := ⟨by decide, by decide⟩
theorem wdI_may {n : Int} : WdI n ↔ mayW n = true := by
  unfold WdI mayW
  simp
def popW : Wk := ⟨0, 1, 0, 0, 0, false, 0⟩
def pushW (n : Int) : Wk := ⟨0, 2, n, 0, 0, false, 0⟩
/-- what a worker does next -/
def accW (at0 : Int) (w : Wk) : Ac :=
  if w.pc = 0 then (1, at0, 0, 0)
  else if w.job = 1 then if w.pc = 1 then (1, at0 + hdH w.r1, 0, 0) else (3, at0, w.r1, (hdC w.r1 + 1) * 1048576 + w.r2)
  else if w.pc = 1 then (2, at0 + 1 + w.r0, 0, hdH w.r1) else (3, at0, w.r1, (hdC w.r1 + 1) * 1048576 + (w.r0 + 1))
/-- what a worker is behind its access -/
def behW (w : Wk) (x : Int) (dn : Bool) : Wk :=
  if w.pc = 0 then if w.job = 1 ∧ hdH x = 0 then { w with r1 := x, done := true, out := -1 } else { w with r1 := x, pc := 1 }
  else if w.pc = 1 then if w.job = 1 then { w with r2 := x, pc := 2 } else { w with pc := 2 }
  else if dn = false then { w with pc := 0 } else if w.job = 1 then { w with done := true, out := hdH w.r1 - 1 } else { w with done := true, out := w.r0 }
/-- one step of a worker that is at work -/
def stepW (at0 : Int) (m : List Int) (w : Wk) : List Int × Wk × Int :=
  if (doA m (accW at0 w)).2.2.2 = 0 then ((doA m (accW at0 w)).1, behW w (doA m (accW at0 w)).2.1 (doA m (accW at0 w)).2.2.1, 0) else (m, w, (doA m (accW at0 w)).2.2.2)
/-- a worker at work -/
structure FineW (w : Wk) : Prop where
  job : w.job = 1 ∨ w.job = 2
  pc : w.pc = 0 ∨ w.pc = 1 ∨ w.pc = 2
  done : w.done = false
  r0 : 0 ≤ w.r0 ∧ w.r0 ≤ 1000000
  r1 : WdI w.r1
  r2 : WdI w.r2
  out : WdI w.out
/-- a worker, at work or done -/
structure FitW (w : Wk) : Prop where
  job : w.job = 1 ∨ w.job = 2
  pc : w.pc = 0 ∨ w.pc = 1 ∨ w.pc = 2
  r0 : 0 ≤ w.r0 ∧ w.r0 ≤ 1000000
  r1 : WdI w.r1
  r2 : WdI w.r2
  out : WdI w.out
theorem FitW.fine {w : Wk} (h : FitW w) (hd : w.done = false) : FineW w := ⟨h.job, h.pc, hd, h.r0, h.r1, h.r2, h.out⟩
theorem pop_fit : FitW popW := ⟨.inl rfl, .inl rfl, ⟨by decide, by decide⟩, wdI0, wdI0, wdI0⟩
theorem push_fit {n : Int} (h : 0 ≤ n ∧ n ≤ 1000000) : FitW (pushW n) := ⟨.inr rfl, .inl rfl, h, wdI0, wdI0, wdI0⟩
theorem behW_fit {w : Wk} (h : FitW w) {x : Int} (hx : WdI x) (dn : Bool) : FitW (behW w x dn) := by
  have hh := hdH_bd w.r1
  have hr := h.r0
  unfold behW
  repeat' split
  all_goals refine ⟨h.job, ?_, h.r0, ?_, ?_, ?_⟩
  all_goals first | exact .inl rfl | exact .inr (.inl rfl) | exact .inr (.inr rfl) | exact h.pc | exact hx | exact h.r1 | exact h.r2 | exact h.out | (unfold WdI; simp only; omega)
theorem doA_wd {m : List Int} (y : Ac) (h : ∀ x ∈ m, WdI x) : (∀ x ∈ (doA m y).1, WdI x) ∧ WdI (doA m y).2.1 := by
  have hg : WdI (m.getD y.2.1.toNat 0) := by
    rw [List.getD_eq_getElem?_getD]
    by_cases hj : y.2.1.toNat < m.length
    · rw [List.getElem?_eq_getElem hj]; exact h _ (List.getElem_mem hj)
    · rw [List.getElem?_eq_none (by omega)]; exact wdI0
  unfold doA
  split
  · exact ⟨h, wdI0⟩
  split
  · exact ⟨h, wdI0⟩
  split
  · exact ⟨h, hg⟩
  split
  · exact ⟨h, wdI0⟩
  rename_i hm
  split
  · exact ⟨h, hg⟩
  refine ⟨fun x hx => ?_, hg⟩
  rcases List.mem_or_eq_of_mem_set hx with hx | rfl
  · exact h x hx
  · exact wdI_may.2 (by simpa using hm)
theorem stepW_len (at0 : Int) (m : List Int) (w : Wk) : (stepW at0 m w).1.length = m.length := by
  unfold stepW
  split
  · exact doA_len _ _
  · rfl
theorem stepW_fit {at0 : Int} {m : List Int} {w : Wk} (hm : ∀ x ∈ m, WdI x) (hw : FitW w) : (∀ x ∈ (stepW at0 m w).1, WdI x) ∧ FitW (stepW at0 m w).2.1 := by
  obtain ⟨h1, h2⟩ := doA_wd (accW at0 w) hm
  unfold stepW
  split
  · exact ⟨h1, behW_fit hw h2 _⟩
  · exact ⟨hm, hw⟩
theorem stepW_err (at0 : Int) (m : List Int) (w : Wk) : (stepW at0 m w).2.2 = 0 ∨ (stepW at0 m w).2.2 = 1 ∨ (stepW at0 m w).2.2 = 2 := by
  unfold stepW
  split
  · exact .inl rfl
  · exact doA_err _ _
/-- with an error nothing is changed -/
theorem stepW_bad {at0 : Int} {m : List Int} {w : Wk} (h : (stepW at0 m w).2.2 ≠ 0) : stepW at0 m w = (m, w, (stepW at0 m w).2.2) := by
  unfold stepW at h ⊢
  split
  · rename_i h0; rw [if_pos h0] at h; exact absurd rfl h
  · rfl
/-! ### all steps -/
def deadW : Wk := ⟨0, 0, 0, 0, 0, false, 0⟩
def leftW (l : List Wk) : List Int := l.map fun w => if w.done then 0 else 1
theorem leftW_len (l : List Wk) : (leftW l).length = l.length := by unfold leftW; simp
theorem leftW_get (l : List Wk) {k : Nat} (h : k < l.length) : (leftW l).getD k 0 = if (l.getD k deadW).done then 0 else 1 := by
  unfold leftW
  simp [List.getD_eq_getElem?_getD, List.getElem?_map, List.getElem?_eq_getElem h]
theorem leftW_set (l : List Wk) (k : Nat) (x : Wk) : leftW (l.set k x) = (leftW l).set k (if x.done then 0 else 1) := by
  unfold leftW
  rw [List.map_set]
theorem leftW_bd (l : List Wk) : ∀ x ∈ leftW l, x = 0 ∨ x = 1 := by
  intro x hx
  unfold leftW at hx
  obtain ⟨y, _, rfl⟩ := List.mem_map.1 hx
  by_cases h : y.done <;> simp [h]
/-- steps, one behind the other, at most so many: words, workers, error -/
def runA (at0 : Int) (picks : List Int) : Nat → Nat → List Int → List Wk → Int → List Int × List Wk × Int
  | 0, n, m, l, last => if manyP (leftW l) = 0 then (m, l, 0) else (m, l, 3)
  | f + 1, n, m, l, last =>
    if manyP (leftW l) = 0 then (m, l, 0)
    else if (stepW at0 m (l.getD (nextN picks n (leftW l) last) deadW)).2.2 = 0 then
      runA at0 picks f (n + 1) (stepW at0 m (l.getD (nextN picks n (leftW l) last) deadW)).1 (l.set (nextN picks n (leftW l) last) (stepW at0 m (l.getD (nextN picks n (leftW l) last) deadW)).2.1) (nextN picks n (leftW l) last : Int)
    else (m, l, (stepW at0 m (l.getD (nextN picks n (leftW l) last) deadW)).2.2)
/-- what Run answers -/
def runW (at0 : Int) (picks : List Int) (m : List Int) (l : List Wk) : List Int × List Wk × Int :=
  if 64 < l.length then (m, l, 1)
  else if (runA at0 picks 100000 0 m l (-1)).2.2 = 0 then runA at0 picks 100000 0 m l (-1) else (m, l, (runA at0 picks 100000 0 m l (-1)).2.2)
end Go.Proofs.Ytocepdhjkhhpfaa
namespace Go.Proofs.Ytocepdhjkhhpfaa
set_option maxRecDepth 100000
open Go.RowKit Go.Sort

def fl (l : List Int) : List Value := l.map (Value.int .i64)
theorem length_fl (l : List Int) : (fl l).length = l.length * 1 := by simp [fl]
theorem fl_append (l m : List Int) : fl (l ++ m) = fl l ++ fl m := List.map_append
theorem fl_at {w : World} {m : List Int} {b off : Nat} (h : ∀ j, j < m.length → w.cell? ⟨b, off + j, none⟩ = some (.int .i64 (m.getD j 0))) : ∀ j u, (fl m)[j]? = some u → w.cell? ((⟨b, off, none⟩ : Addr).add j) = some u := by
  intro j u hj
  have hlt : j < m.length := by
    have := (List.getElem?_eq_some_iff.1 hj).1
    simpa [fl] using this
  have e : u = .int .i64 (m.getD j 0) := by
    simp only [fl, List.getElem?_map, List.getElem?_eq_getElem hlt, Option.map_some, Option.some.injEq] at hj
    rw [← hj, List.getD_eq_getElem?_getD, List.getElem?_eq_getElem hlt, Option.getD_some]
  rw [e]
  rw [Addr.add_lit]
  exact h j hlt
theorem fl_cell1 (m : List Int) : ∀ u ∈ fl m, u.oneCell' = true := by
  intro u hu
  obtain ⟨x, _, rfl⟩ := List.mem_map.1 hu
  rfl

theorem info_int : (Try.prog.info? 3).map (fun i => (i.zero, i.size, i.bytes)) = some (some (.int .i64 0), 1, 8) := by kernel_rfl

theorem append_none {w : World} {B : Nat} {v : Value} {out : List Int} (c : Nat) (ho : Own w B v out) :
    (Builtin.append_ #[23, 23] 23 #[v, .slice none 0 c]).run Try.prog w = .ok v w := by
  obtain ⟨i0, hi, hz0, hz1, hz2⟩ := info_parts info_int
  rcases ho.2 with ⟨rfl, _⟩ | ⟨g, cap, cur, rfl, _, _, hnc, _⟩
  · simp [Builtin.append_, run_underlying Try.underlying23, sizeOf, typeInfo, hi, Builtin.lenOf, Builtin.firstCells]
  · simp [Builtin.append_, run_underlying Try.underlying23, sizeOf, typeInfo, hi, Builtin.lenOf, Builtin.firstCells, storeCells, hnc]

theorem app_any {w : World} {B : Nat} {v : Value} {out m : List Int} {A : Option Addr} (c : Nat) (hB : B ≤ w.heap.size) (ho : Own w B v out) (hm : Now w A m) (hl : out.length + m.length ≤ 1000000) :
    ∃ v' w', (Builtin.append_ #[23, 23] 23 #[v, .slice A m.length c]).run Try.prog w = .ok v' w' ∧ Own w' B v' (out ++ m) ∧ w.grownBy w' v.ownBlock := by
  obtain ⟨i0, hi, hz0, hz1, hz2⟩ := info_parts info_int
  by_cases h0 : m.length = 0
  · have : m = [] := List.eq_nil_of_length_eq_zero h0
    subst this
    cases A with
    | none => exact ⟨v, w, append_none c ho, by rw [List.append_nil]; exact ho, ⟨rfl, rfl, rfl, Nat.le_refl _, fun _ _ _ => rfl⟩⟩
    | some a =>
      obtain ⟨v', w', hr, h2, h3, _⟩ := run_append_own (P := Try.prog) (w := w) B 23 23 3 i0 (.int .i64 0) 1 8 Try.underlying23 hi hz0 hz1 hz2 rfl (by decide) v out.length (fl out) ho a 0 c [] rfl (fun j u h => by simp at h) (fun u h => by cases h) (by unfold maxLen; omega) (by omega) hB
      exact ⟨v', w', hr, by rw [List.append_nil] at h2 ⊢; exact h2, h3⟩
  · obtain ⟨b, off, rfl, _, hcell⟩ := hm.at_ (by omega)
    obtain ⟨v', w', hr, h2, h3, _⟩ := run_append_own (P := Try.prog) (w := w) B 23 23 3 i0 (.int .i64 0) 1 8 Try.underlying23 hi hz0 hz1 hz2 rfl (by decide) v out.length (fl out) ho ⟨b, off, none⟩ m.length c (fl m) (length_fl m) (fl_at hcell) (fl_cell1 m) (by unfold maxLen; omega) (by omega) hB
    refine ⟨v', w', hr, ?_, h3⟩
    show World.ownsRow _ _ _ _ _ _ (fl (out ++ m))
    rw [fl_append, List.length_append]
    exact h2

/-- one number more, that lies in a new block -/
theorem push_any {w : World} {B : Nat} {v : Value} {out : List Int} (x : Int) (hB : B ≤ w.heap.size) (ho : Own w B v out) (hl : out.length ≤ 999999) :
    ∃ v' w', (Builtin.append_ #[23, 23] 23 #[v, .slice (some ⟨w.heap.size, 0, none⟩) 1 1]).run Try.prog (w.alloc (.cells #[.int .i64 x] 3)) = .ok v' w' ∧ Own w' B v' (out ++ [x]) ∧ Below B w w' := by
  have hm : Now (w.alloc (.cells #[.int .i64 x] 3)) (some ⟨w.heap.size, 0, none⟩) [x] := fun j hj => by
    have hj1 : j = 0 := by simp at hj; omega
    subst hj1
    exact ⟨w.heap.size, 0, rfl, by simp, by simp⟩
  have ho' : Own (w.alloc (.cells #[.int .i64 x] 3)) B v out := World.ownsRow.alloc ho _
  obtain ⟨v', w', hr, h1, h2⟩ := app_any (m := [x]) 1 (by simp; omega) ho' hm (by simp; omega)
  exact ⟨v', w', hr, h1, Below.grown ((Below.refl _ _).alloc hB _) h2 (by simp; omega) (fun k e => (World.ownsRow.lt ho' k e).1)⟩

def OutR (l : List Int) (w : World) (e : Ending) (w' : World) : Prop := ∃ v, e = .returned v ∧ Reads w' v l ∧ Below w.heap.size w w'

/-! ### bit k of a number, as the two texts ask for it -/
theorem and_one (m : Nat) : bits .and .i64 (m : Int) 1 = ((m % 2 : Nat) : Int) := by
  have h1 : (BitVec.ofInt IntKind.i64.bits (m : Int) &&& BitVec.ofInt IntKind.i64.bits 1).toNat = m % 2 := by
    rw [BitVec.toNat_and]
    have e1 : (BitVec.ofInt IntKind.i64.bits (m : Int)).toNat = m % 2 ^ 64 := by
      rw [BitVec.toNat_ofInt]
      show ((m : Int) % ((2 ^ 64 : Nat) : Int)).toNat = m % 2 ^ 64
      omega
    have e2 : (BitVec.ofInt IntKind.i64.bits 1).toNat = 1 := by decide
    rw [e1, e2, Nat.and_one_is_mod]
    omega
  show IntKind.i64.wrap _ = _
  rw [h1, IntKind.wrap_i64]
  omega
theorem bit_of (u k : Nat) : ((u : Int) / 2 ^ k) = ((u / 2 ^ k : Nat) : Int) := by simp
theorem bit_yes {u k : Nat} (h : u.testBit k = true) : (bits BinOp.and IntKind.i64 ((u : Int) / 2 ^ k) 1 == 1) = true := by
  rw [Nat.testBit_eq_decide_div_mod_eq] at h
  rw [bit_of, and_one, of_decide_eq_true h]
  rfl
theorem bit_no {u k : Nat} (h : u.testBit k = false) : (bits BinOp.and IntKind.i64 ((u : Int) / 2 ^ k) 1 == 1) = false := by
  rw [Nat.testBit_eq_decide_div_mod_eq] at h
  have := of_decide_eq_false h
  rw [bit_of, and_one, beq_eq_false_iff_ne]
  omega

end Go.Proofs.Ytocepdhjkhhpfaa
namespace Go.Proofs.Ytocepdhjkhhpfaa
set_option linter.unusedVariables false
set_option linter.unusedSimpArgs false
open Go.RowKit Go.Sort

theorem pow_bd {y : Nat} (h : y ≤ 61) : 1 ≤ 2 ^ y ∧ 2 ^ y ≤ 2305843009213693952 := by
  have h1 := Nat.pow_le_pow_right (n := 2) (by decide) h
  have h2 : (2 : Nat) ^ 61 = 2305843009213693952 := by decide
  have h3 : 0 < 2 ^ y := Nat.pow_pos (by decide)
  omega
theorem sum_away {l : List Int} {k : Nat} (h : k < l.length) (hb : l.getD k 0 < 0 ∨ 61 < l.getD k 0) : sumL l = (0, 1) := by
  unfold sumL
  rw [if_pos]
  unfold awayB
  rw [List.any_eq_true]
  refine ⟨l.getD k 0, ?_, by simpa using hb⟩
  rw [List.getD_eq_getElem?_getD, List.getElem?_eq_getElem h]
  exact List.getElem_mem _
theorem all_in {l : List Int} (h : ∀ j, j < l.length → 0 ≤ l.getD j 0 ∧ l.getD j 0 ≤ 61) : ∀ e ∈ l, 0 ≤ e ∧ e ≤ 61 := by
  intro e he
  obtain ⟨j, hj, rfl⟩ := List.getElem_of_mem he
  have := h j hj
  rwa [List.getD_eq_getElem?_getD, List.getElem?_eq_getElem hj] at this
theorem sum_big {l : List Int} (h : ∀ j, j < l.length → 0 ≤ l.getD j 0 ∧ l.getD j 0 ≤ 61) (ht : 4611686018427387903 < total l) : sumL l = (0, 21) := by
  unfold sumL
  rw [awayB_no (all_in h), if_neg (by decide), if_pos ht]
theorem sum_fits {l : List Int} (h : ∀ j, j < l.length → 0 ≤ l.getD j 0 ∧ l.getD j 0 ≤ 61) (ht : ¬ 4611686018427387903 < total l) : sumL l = ((total l : Int), 0) := by
  unfold sumL
  rw [awayB_no (all_in h), if_neg (by decide), if_neg ht]
theorem in_to {l : List Int} {k : Nat} (hk : ∀ j, j < k → 0 ≤ l.getD j 0 ∧ l.getD j 0 ≤ 61) (hd : 0 ≤ l.getD k 0 ∧ l.getD k 0 ≤ 61) : ∀ j, j < k + 1 → 0 ≤ l.getD j 0 ∧ l.getD j 0 ≤ 61 := by
  intro j hj
  by_cases e : j = k
  · subst e; exact hd
  · exact hk j (by omega)

theorem min_step (t p : Nat) : min (min t 4611686018427387904 + p) 4611686018427387904 = min (t + p) 4611686018427387904 := by omega

def PairR (p : Int × Int) (w : World) (e : Ending) (w' : World) : Prop := e = .returned (.tuple #[.int .i64 p.1, .int .i64 p.2]) ∧ Below w.heap.size w w'

end Go.Proofs.Ytocepdhjkhhpfaa
namespace Go.Proofs.Ytocepdhjkhhpfaa
set_option linter.unusedVariables false
set_option linter.unusedSimpArgs false
open Go.RowKit Go.Sort

theorem eq_of_all {l m : List Int} (hlen : l.length = m.length) (h : ∀ j, j < l.length → l.getD j 0 = m.getD j 0) : l = m := by
  refine List.ext_getElem hlen fun j h1 h2 => ?_
  have := h j h1
  rwa [List.getD_eq_getElem?_getD, List.getD_eq_getElem?_getD, List.getElem?_eq_getElem h1, List.getElem?_eq_getElem h2] at this

theorem ints_len (A A' : Option Addr) (n m c c' : Nat) (w : World) (hne : n ≠ m) :
    Calls Try.prog 18 #[.slice A n c, .slice A' m c'] w fun e w' => e = .returned (.bool false) ∧ Below w.heap.size w w' := by
  have hz : ((n : Int) == (m : Int)) = false := beq_eq_false_iff_ne.2 (by omega)
  have hz2 : ((n : Int) != (m : Int)) = true := by rw [bne, hz]; rfl
  go_enter Try.func18, Try.ntmps18
  go_wp2
  go_ret
  exact ⟨rfl, Below.refl _ _⟩

theorem ints_same (A A' : Option Addr) (l m : List Int) (c c' : Nat) (w : World) (hR : Now w A l) (hR' : Now w A' m) (hl : l.length ≤ 1000000) (hlm : l.length = m.length) :
    Calls Try.prog 18 #[.slice A l.length c, .slice A' l.length c'] w fun e w' => e = .returned (.bool (decide (l = m))) ∧ Below w.heap.size w w' := by
  generalize hr : decide (l = m) = r
  have HR := Lib.hid hr
  have HLM := Lib.hid hlm
  clear hr hlm
  go_enter Try.func18, Try.ntmps18
  go_wp2
  go_loopw [5] (fun i wr => ∃ k : Nat, k ≤ l.length ∧ i = .int .i64 k ∧ Hid (∀ j, j < k → l.getD j 0 = m.getD j 0) ∧ Below w.heap.size w wr) (fun i _ => l.length - (intOf i).toNat)
  case atStart => exact ⟨0, Nat.zero_le _, rfl, (show Hid _ from fun j hj => absurd hj (Nat.not_lt_zero j)), Below.refl _ _⟩
  case round =>
    obtain ⟨k, hk, rfl, HK, hb⟩ := hrel
    by_cases hlt : k < l.length
    · have hltz : (k : Int) < (l.length : Int) := by omega
      obtain ⟨b, off, rfl, hbB, hcell⟩ := hR.at_ (by omega)
      obtain ⟨b2, off2, rfl, hbB2, hcell2⟩ := hR'.at_ (by have := HLM.out; omega)
      obtain ⟨x, hx⟩ : ∃ p, p = l.getD k 0 := ⟨_, rfl⟩
      obtain ⟨y, hy⟩ : ∃ p, p = m.getD k 0 := ⟨_, rfl⟩
      have a0 := hcell k hlt
      have e0 := hcell2 k (by have := HLM.out; omega)
      rw [← hx] at a0
      rw [← hy] at e0
      have k0 := Qt.cell_in (Qt.keep hb a0)
      have k2 := Qt.cell_in (Qt.keep hb e0)
      have HX := Lib.hid hx
      have HY := Lib.hid hy
      clear hx hy hcell hcell2 a0 e0
      by_cases hxy : x = y
      · subst hxy
        go_wp2
        refine Qt.below_all (by kernel_rfl) (by kernel_rfl) ?_
        repeat (go_big_quiet_step (fail))
        refine wpQuiet_nil ?_
        intro w1 hb1
        clear k0 k2
        go_wp2
        go_roundw
        case measure => simp [intOf]; omega
        case rel =>
          refine ⟨k + 1, by omega, by go_num, (show Hid _ from fun j hj => ?_), Qt.more hb hb.size hb1⟩
          by_cases hjk : j = k
          · subst hjk; rw [← HX.out, ← HY.out]
          · exact HK.out j (by omega)
      · have hne : l ≠ m := by
          intro e
          subst e
          exact hxy (HX.out.trans HY.out.symm)
        have HNE := Lib.hid hne
        clear hne
        go_wp2
        refine Qt.below_all (by kernel_rfl) (by kernel_rfl) ?_
        repeat (go_big_quiet_step (fail))
        refine wpQuiet_nil ?_
        intro w1 hb1
        clear k0 k2
        go_wp2
        go_ret
        exact ⟨by rw [← HR.out, decide_eq_false HNE.out]; rfl, Qt.more hb hb.size hb1⟩
    · have hltz : ¬ (k : Int) < (l.length : Int) := by omega
      have he : l = m := eq_of_all HLM.out fun j hj => HK.out j (by omega)
      have HE := Lib.hid he
      clear he
      go_wp2
      go_ret
      exact ⟨by rw [← HR.out, decide_eq_true HE.out]; rfl, hb⟩

theorem ints_any {A A' : Option Addr} {l m : List Int} {n n' c c' : Nat} {w : World} (hR : Now w A l) (hR' : Now w A' m) (hn : n = l.length) (hn' : n' = m.length) (hl : n ≤ 1000000) :
    Calls Try.prog 18 #[.slice A n c, .slice A' n' c'] w fun e w' => e = .returned (.bool (decide (l = m))) ∧ Below w.heap.size w w' := by
  subst hn hn'
  by_cases h : l.length = m.length
  · have := ints_same A A' l m c c' w hR hR' hl h
    rwa [← h]
  · rw [decide_eq_false fun e => h (congrArg List.length e)]
    exact ints_len A A' _ _ c c' w h
theorem ints_yes {A A' : Option Addr} {l m : List Int} {n n' c c' : Nat} {w : World} (hR : Now w A l) (hR' : Now w A' m) (hn : n = l.length) (hn' : n' = m.length) (hl : n ≤ 1000000) (he : l = m) :
    Calls Try.prog 18 #[.slice A n c, .slice A' n' c'] w fun e w' => e = .returned (.bool true) ∧ Below w.heap.size w w' := by
  have := ints_any (c := c) (c' := c') hR hR' hn hn' hl
  rwa [decide_eq_true he] at this

theorem total_bound {l : List Int} {k x : Nat} (h : k < l.length) (hx : (x : Int) = l.getD k 0) (hn : 4611686018427387903 < total (l.take k) + 2 ^ x) : 4611686018427387903 < total l := by
  have h1 := total_take_le l (k + 1)
  rw [total_take_succ h, ← hx] at h1
  simp only [Int.toNat_natCast] at h1
  omega

end Go.Proofs.Ytocepdhjkhhpfaa
namespace Go.Proofs.Ytocepdhjkhhpfaa
set_option maxRecDepth 100000
set_option linter.unusedVariables false
set_option linter.unusedSimpArgs false
open Go.RowKit Go.Sort

theorem known_any (k : Int) (w : World) : Calls Try.prog 87 #[.int .i64 k] w fun r w' => r = .returned (.bool (knownA k)) ∧ w = w' := by
  by_cases h : 1 ≤ k ∧ k ≤ 4
  · have e : knownA k = true := by simp [knownA, h]
    rw [e]
    have : k = 1 ∨ k = 2 ∨ k = 3 ∨ k = 4 := by omega
    rcases this with rfl | rfl | rfl | rfl
    all_goals
      go_enter Try.func87, Try.ntmps87
      go_wp2
      go_ret
      exact ⟨rfl, rfl⟩
  · have e : knownA k = false := by
      simp only [knownA, Bool.and_eq_false_iff, decide_eq_false_iff_not]
      omega
    rw [e]
    have e1 : (k == 1) = false := beq_eq_false_iff_ne.2 (by omega)
    have e2 : (k == 2) = false := beq_eq_false_iff_ne.2 (by omega)
    have e3 : (k == 3) = false := beq_eq_false_iff_ne.2 (by omega)
    have e4 : (k == 4) = false := beq_eq_false_iff_ne.2 (by omega)
    go_enter Try.func87, Try.ntmps87
    go_wp2
    go_ret
    exact ⟨rfl, rfl⟩

theorem fits_any (n : Int) (w : World) : Calls Try.prog 119 #[.int .i64 n] w fun r w' => r = .returned (.bool (mayW n)) ∧ w = w' := by
  unfold mayW
  by_cases h1 : -1152921504606846975 ≤ n
  · by_cases h2 : n ≤ 1152921504606846975
    all_goals
      go_enter Try.func119, Try.ntmps119
      go_wp2
      go_ret
      exact ⟨by simp [h1, h2], rfl⟩
  · go_enter Try.func119, Try.ntmps119
    go_wp2
    go_ret
    exact ⟨by rw [decide_eq_false (by omega)]; rfl, rfl⟩

theorem refFits_any10 (n : Int) (w : World) : Calls Try.prog 90 #[.int .i64 n] w fun r w' => r = .returned (.bool (mayW n)) ∧ w = w' := by
  unfold mayW
  by_cases h1 : -1152921504606846975 ≤ n
  · by_cases h2 : n ≤ 1152921504606846975
    all_goals
      go_enter Try.func90, Try.ntmps90
      go_wp2
      go_ret
      exact ⟨by simp [h1, h2], rfl⟩
  · go_enter Try.func90, Try.ntmps90
    go_wp2
    go_ret
    exact ⟨by rw [decide_eq_false (by omega)]; rfl, rfl⟩

abbrev acV (y : Ac) : Value := .agg #[.int .i64 y.1, .int .i64 y.2.1, .int .i64 y.2.2.1, .int .i64 y.2.2.2]
abbrev stepV (y : Ac) (A : Option Addr) (n c : Nat) : Value := .agg #[.int .i64 y.1, .int .i64 y.2.1, .int .i64 y.2.2.1, .int .i64 y.2.2.2, .slice A n c]
def Fine4A (y : Ac) : Prop := I64 y.1 ∧ I64 y.2.1 ∧ I64 y.2.2.1 ∧ I64 y.2.2.2

/-- no word at the place -/
theorem word_no (k a o n : Int) (A : Option Addr) (L c : Nat) (w : World) (h : a < 0 ∨ (L : Int) ≤ a) :
    Calls Try.prog 88 #[.agg #[.int .i64 k, .int .i64 a, .int .i64 o, .int .i64 n, .slice A L c]] w fun r w' => r = .returned (.pointer none) ∧ Below w.heap.size w w' := by
  by_cases h0 : a < 0
  · go_enter Try.func88, Try.ntmps88
    go_wp2
    go_ret
    exact ⟨rfl, (Below.refl _ _).alloc (Nat.le_refl _) _⟩
  · have h1 : (L : Int) ≤ a := by omega
    go_enter Try.func88, Try.ntmps88
    go_wp2
    go_ret
    exact ⟨rfl, (Below.refl _ _).alloc (Nat.le_refl _) _⟩
theorem word_yes (k o n : Int) (a : Nat) (b off : Nat) (L c : Nat) (w : World) (h : a < L) :
    Calls Try.prog 88 #[.agg #[.int .i64 k, .int .i64 a, .int .i64 o, .int .i64 n, .slice (some ⟨b, off, none⟩) L c]] w fun r w' => r = .returned (.pointer (some ⟨b, off + a, none⟩)) ∧ Below w.heap.size w w' := by
  have h0 : ¬ (a : Int) < 0 := by omega
  have h1 : ¬ (L : Int) ≤ (a : Int) := by omega
  go_enter Try.func88, Try.ntmps88
  go_wp2
  go_ret
  exact ⟨rfl, (Below.refl _ _).alloc (Nat.le_refl _) _⟩

/-- a step's block -/
theorem step_row (y : Ac) (A : Option Addr) (L c : Nat) (w : World) : (w.alloc (.cells #[.int .i64 y.1, .int .i64 y.2.1, .int .i64 y.2.2.1, .int .i64 y.2.2.2, .slice A L c] 120)).heap[w.heap.size]? = some (.cells #[.int .i64 y.1, .int .i64 y.2.1, .int .i64 y.2.2.1, .int .i64 y.2.2.2, .slice A L c] 120 (0, 0)) := heap_alloc_new w _
theorem next_not (k a o n x : Int) (A : Option Addr) (L c : Nat) (w : World) (h : k ≠ 4) (hn : I64 n) (hx : I64 x) :
    Calls Try.prog 89 #[.agg #[.int .i64 k, .int .i64 a, .int .i64 o, .int .i64 n, .slice A L c], .int .i64 x] w fun r w' => r = .returned (.tuple #[.int .i64 n, .bool (mayW n)]) ∧ Below w.heap.size w w' := by
  have h0 : (k == 4) = false := beq_eq_false_iff_ne.2 h
  have h1 : (k != 4) = true := by rw [bne, h0]; rfl
  have hrow := step_row (k, a, o, n) A L c w
  have hal := (Below.refl w.heap.size w).alloc (Nat.le_refl _) (.cells #[.int .i64 k, .int .i64 a, .int .i64 o, .int .i64 n, .slice A L c] 120)
  simp only at hrow
  have HR := Lib.hid hrow
  have HA := Lib.hid hal
  clear hrow hal
  go_enter Try.func89, Try.ntmps89
  go_wp2_with fail
  obtain ⟨w0, hw0⟩ : ∃ w0, w.alloc (.cells #[.int .i64 k, .int .i64 a, .int .i64 o, .int .i64 n, .slice A L c] 120) = w0 := ⟨_, rfl⟩
  rw [hw0] at HR HA ⊢
  clear hw0
  have hf := fun W (_ : Below w0.heap.size w0 W) => fits_any n W
  have k3 := Qt.cell_in (show w0.cell? ⟨w.heap.size, 3, none⟩ = some (.int .i64 n) by rw [Lib.cell_of_heap HR.out]; rfl)
  refine Qt.below_all (by kernel_rfl) (by kernel_rfl) ?_
  repeat (go_big_quiet_step (first | (go_at_call 119; exact Qt.at_same hf)))
  refine wpQuiet_nil ?_
  intro w2 hb2
  clear hf k3
  go_wp2_with fail
  go_ret2
  exact ⟨rfl, Qt.more HA.out HA.out.size hb2⟩
theorem add_cases {x n : Int} (hn : I64 n) (hx : I64 x) :
    (mayW (wrap64 (x + n)) = false ∧ mayW (x + n) = false) ∨ (mayW (wrap64 (x + n)) = true ∧ mayW (x + n) = true ∧ wrap64 (x + n) = x + n ∧ decide (n < 0) = decide (wrap64 (x + n) < x)) ∨
      (mayW (wrap64 (x + n)) = true ∧ mayW (x + n) = false ∧ decide (n < 0) = !decide (wrap64 (x + n) < x)) := by
  unfold I64 at hn hx
  have hs : wrap64 (x + n) = x + n ∨ (0 < n ∧ wrap64 (x + n) = x + n - 18446744073709551616 ∧ 9223372036854775807 < x + n) ∨ (n < 0 ∧ wrap64 (x + n) = x + n + 18446744073709551616 ∧ x + n < -9223372036854775808) := by
    unfold wrap64; omega
  cases hm : mayW (wrap64 (x + n)) with
  | false =>
    left
    refine ⟨rfl, ?_⟩
    rcases hs with hs | ⟨_, _, h⟩ | ⟨_, _, h⟩
    · rw [← hs]; exact hm
    · unfold mayW; rw [decide_eq_false (p := x + n ≤ 1152921504606846975) (by omega), Bool.and_false]
    · unfold mayW; rw [decide_eq_false (p := -1152921504606846975 ≤ x + n) (by omega), Bool.false_and]
  | true =>
    right
    rcases hs with hs | ⟨h1, h2, h⟩ | ⟨h1, h2, h⟩
    · left
      rw [hs] at hm ⊢
      exact ⟨rfl, hm, rfl, decide_eq_decide.2 (by omega)⟩
    · right
      refine ⟨rfl, ?_, ?_⟩
      · unfold mayW; rw [decide_eq_false (p := x + n ≤ 1152921504606846975) (by omega), Bool.and_false]
      · rw [decide_eq_false (p := n < 0) (by omega), decide_eq_true (p := wrap64 (x + n) < x) (by omega)]; rfl
    · right
      refine ⟨rfl, ?_, ?_⟩
      · unfold mayW; rw [decide_eq_false (p := -1152921504606846975 ≤ x + n) (by omega), Bool.false_and]
      · rw [decide_eq_true (p := n < 0) (by omega), decide_eq_false (p := wrap64 (x + n) < x) (by omega)]; rfl
set_option maxHeartbeats 2000000 in
theorem next_add (a o n x : Int) (A : Option Addr) (L c : Nat) (w : World) (hn : I64 n) (hx : I64 x) :
    Calls Try.prog 89 #[.agg #[.int .i64 4, .int .i64 a, .int .i64 o, .int .i64 n, .slice A L c], .int .i64 x] w fun r w' => (∃ v, r = .returned (.tuple #[.int .i64 v, .bool (mayW (x + n))]) ∧ (mayW (x + n) = true → v = x + n)) ∧ Below w.heap.size w w' := by
  have hrow := step_row (4, a, o, n) A L c w
  have hal := (Below.refl w.heap.size w).alloc (Nat.le_refl _) (.cells #[.int .i64 4, .int .i64 a, .int .i64 o, .int .i64 n, .slice A L c] 120)
  simp only at hrow
  have HR := Lib.hid hrow
  have HA := Lib.hid hal
  have hcs := add_cases hn hx
  obtain ⟨s, hs⟩ : ∃ s, s = wrap64 (x + n) := ⟨_, rfl⟩
  rw [← hs] at hcs
  have HS := Lib.hid hs
  clear hrow hal hs
  obtain ⟨b1, hb1⟩ : ∃ b1, decide (n < 0) = b1 := ⟨_, rfl⟩
  obtain ⟨b2, hb2⟩ : ∃ b2, decide (s < x) = b2 := ⟨_, rfl⟩
  obtain ⟨b3, hb3⟩ : ∃ b3, mayW s = b3 := ⟨_, rfl⟩
  rw [hb1, hb2, hb3] at hcs
  have hfin : ((b3 && b1 == b2) = mayW (x + n)) ∧ (mayW (x + n) = true → s = x + n) := by
    rcases hcs with ⟨rfl, h2⟩ | ⟨rfl, h2, h3, rfl⟩ | ⟨rfl, h2, rfl⟩
    · rw [h2]; exact ⟨rfl, fun h => by cases h⟩
    · rw [h2]; exact ⟨by simp, fun _ => h3⟩
    · rw [h2]; exact ⟨by simp, fun h => by cases h⟩
  have HF := Lib.hid hfin
  clear hfin hcs
  go_enter Try.func89, Try.ntmps89
  go_wp2_with fail
  obtain ⟨w0, hw0⟩ : ∃ w0, w.alloc (.cells #[.int .i64 4, .int .i64 a, .int .i64 o, .int .i64 n, .slice A L c] 120) = w0 := ⟨_, rfl⟩
  rw [hw0] at HR HA ⊢
  rw [← HS.out]
  clear hw0
  have hf := fun W (_ : Below w0.heap.size w0 W) => fits_any s W
  rw [hb3] at hf
  have k3 := Qt.cell_in (show w0.cell? ⟨w.heap.size, 3, none⟩ = some (.int .i64 n) by rw [Lib.cell_of_heap HR.out]; rfl)
  refine Qt.below_all (by kernel_rfl) (by kernel_rfl) ?_
  cases b3 <;> cases b1 <;> cases b2
  all_goals
    repeat (go_big_quiet_step (first | (go_at_call 119; exact Qt.at_same hf)))
    refine wpQuiet_nil ?_
    intro w2 hb2
    clear hf k3
    go_wp2_with fail
    go_ret2
    exact ⟨⟨s, by rw [← HF.out.1]; rfl, HF.out.2⟩, Qt.more HA.out HA.out.size hb2⟩
theorem next_any (k a o n x : Int) (A : Option Addr) (L c : Nat) (w : World) (hn : I64 n) (hx : I64 x) :
    Calls Try.prog 89 #[.agg #[.int .i64 k, .int .i64 a, .int .i64 o, .int .i64 n, .slice A L c], .int .i64 x] w fun r w' => (∃ v, r = .returned (.tuple #[.int .i64 v, .bool (mayW (toA (k, a, o, n) x))]) ∧ (mayW (toA (k, a, o, n) x) = true → v = toA (k, a, o, n) x)) ∧ Below w.heap.size w w' := by
  by_cases h : k = 4
  · subst h
    exact next_add a o n x A L c w hn hx
  · have e : toA (k, a, o, n) x = n := by unfold toA; rw [if_neg h]
    rw [e]
    refine (next_not k a o n x A L c w h hn hx).mono ?_
    rintro r w' ⟨rfl, hb⟩
    exact ⟨⟨n, rfl, fun _ => rfl⟩, hb⟩
end Go.Proofs.Ytocepdhjkhhpfaa
