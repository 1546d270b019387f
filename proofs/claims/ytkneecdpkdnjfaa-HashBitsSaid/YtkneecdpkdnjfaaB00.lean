/-
  Texts that the claims of this seat share, part 0.
-/
import Derived.Lib.ItoaMem
import GoSem.Op.String
import Derived.Lib.QuietBelow
import Derived.StillTail
import Derived.BigQuiet
import Derived.KernelRfl
import Derived.Test.YtkneecdpkdnjfaaRows
import Derived.Test.YtkneecdpkdnjfaaSh
import Derived.WalkKit
import Derived.WalkSpells
import Derived.WalkLawsBesides
import Derived.WalkArith
import Derived.IntWalk
import Derived.Lib.Hide
import Derived.Lib.AppendIntMem
import Derived.StillTailTactics
import Derived.LoopN
import Derived.Handy
import Derived.Deep.LoopGhost
import Derived.Lib.AppendZerosOnto
set_option linter.unusedVariables false
set_option linter.unusedSimpArgs false
namespace Go.Proofs.Ytkneecdpkdnjfaa
open Go.Lib

/-! ### texts -/
def dv (c : UInt8) : Nat := c.toNat - 48
def digB (c : UInt8) : Bool := decide (48 ≤ c.toNat) && decide (c.toNat ≤ 57)
theorem digB_iff (c : UInt8) : digB c = true ↔ 48 ≤ c.toNat ∧ c.toNat ≤ 57 := by unfold digB; simp
theorem dv_le {c : UInt8} (h : digB c = true) : dv c ≤ 9 := by have := (digB_iff c).1 h; unfold dv; omega
def val (l : List UInt8) : Nat := l.foldl (fun n c => 10 * n + dv c) 0
theorem val_snoc (l : List UInt8) (c : UInt8) : val (l ++ [c]) = 10 * val l + dv c := by unfold val; rw [List.foldl_append]; rfl
theorem foldl_val (l : List UInt8) (a : Nat) : l.foldl (fun n c => 10 * n + dv c) a = a * 10 ^ l.length + val l := by
  induction l generalizing a with
  | nil => simp [val]
  | cons c l ih =>
    unfold val
    simp only [List.foldl_cons, List.length_cons]
    rw [ih, ih (10 * 0 + dv c), Nat.pow_succ]
    grind
theorem val_cons (c : UInt8) (l : List UInt8) : val (c :: l) = dv c * 10 ^ l.length + val l := by
  have := foldl_val l (10 * 0 + dv c)
  simpa [val] using this
theorem val_lt {l : List UInt8} (h : ∀ c ∈ l, digB c = true) : val l < 10 ^ l.length := by
  induction l with
  | nil => simp [val]
  | cons c l ih =>
    rw [val_cons, List.length_cons, Nat.pow_succ]
    have h1 := ih fun d hd => h d (List.mem_cons_of_mem _ hd)
    have h2 := dv_le (h c List.mem_cons_self)
    have h3 : dv c * 10 ^ l.length ≤ 9 * 10 ^ l.length := Nat.mul_le_mul_right _ h2
    omega

/-- a 0 that others follow -/
def zeroB (l : List UInt8) : Bool := decide (1 < l.length) && (l.getD 0 0 == 48)
def badL (l : List UInt8) : Bool := l.isEmpty || zeroB l || !l.all digB
def parseL (l : List UInt8) : Int × Int := if badL l = true then (0, 20) else if 4611686018427387903 < val l then (0, 21) else (val l, 0)
theorem badL_iff (l : List UInt8) : badL l = false ↔ l ≠ [] ∧ zeroB l = false ∧ ∀ c ∈ l, digB c = true := by
  unfold badL
  simp [List.all_eq_true, and_assoc]

theorem ofNat_to (u : Nat) (h : u < 10) : (UInt8.ofNat (48 + u)).toNat = 48 + u := by simp; omega
theorem dig_of (u : Nat) (h : u < 10) : digB (UInt8.ofNat (48 + u)) = true ∧ dv (UInt8.ofNat (48 + u)) = u := by
  rw [digB_iff]
  unfold dv
  rw [ofNat_to u h]
  omega
theorem dec_small {u : Nat} (h : u < 10) : decDigits u = [UInt8.ofNat (48 + u)] := decDigits_one h
theorem dec_big {u : Nat} (h : ¬ u < 10) : decDigits u = decDigits (u / 10) ++ [UInt8.ofNat (48 + u % 10)] := by rw [decDigits, dif_neg h]
theorem dec_dig (u : Nat) : ∀ c ∈ decDigits u, digB c = true := by
  induction u using Nat.strongRecOn with
  | _ u ih =>
    by_cases h : u < 10
    · rw [dec_small h]; intro c hc; simp at hc; subst hc; have := (dig_of u h).1; simpa using this
    · rw [dec_big h]
      intro c hc
      rcases List.mem_append.1 hc with h1 | h1
      · exact ih (u / 10) (by omega) c h1
      · rw [List.mem_singleton.1 h1]; exact (dig_of (u % 10) (by omega)).1
theorem dec_val (u : Nat) : val (decDigits u) = u := by
  induction u using Nat.strongRecOn with
  | _ u ih =>
    by_cases h : u < 10
    · rw [dec_small h]; have := (dig_of u h).2; simp only [val, List.foldl_cons, List.foldl_nil]; omega
    · rw [dec_big h, val_snoc, ih (u / 10) (by omega), (dig_of (u % 10) (by omega)).2]; omega
theorem dec_pos (u : Nat) : 0 < (decDigits u).length := by rw [decDigits_length]; exact nDigits_pos u
theorem dec_head (u : Nat) (h1 : 1 ≤ u) : (decDigits u).getD 0 0 ≠ 48 := by
  induction u using Nat.strongRecOn with
  | _ u ih =>
    by_cases h : u < 10
    · rw [dec_small h]
      intro e
      have e2 := congrArg UInt8.toNat e
      rw [List.getD_cons_zero, ofNat_to u h] at e2
      have : (48 : UInt8).toNat = 48 := rfl
      omega
    · rw [dec_big h]
      have hp := dec_pos (u / 10)
      rw [List.getD_eq_getElem?_getD, List.getElem?_append_left hp, ← List.getD_eq_getElem?_getD]
      exact ih (u / 10) (by omega) (by omega)
theorem dec_zero (u : Nat) : zeroB (decDigits u) = false := by
  unfold zeroB
  by_cases h : u < 10
  · rw [dec_small h]; simp
  · have := dec_head u (by omega)
    simp only [Bool.and_eq_false_iff]
    right
    simpa using this
theorem dec_good (u : Nat) : badL (decDigits u) = false := (badL_iff _).2 ⟨fun e => by have := dec_pos u; rw [e] at this; simp at this, dec_zero u, dec_dig u⟩
theorem parse_dec {u : Nat} (h : u ≤ 4611686018427387903) : parseL (decDigits u) = ((u : Int), 0) := by
  unfold parseL
  rw [dec_good, dec_val]
  simp
  omega
theorem dec_of_val : ∀ (n : Nat) (l : List UInt8), l.length = n → badL l = false → decDigits (val l) = l := by
  intro n
  induction n with
  | zero => intro l hl h; exact absurd (List.eq_nil_of_length_eq_zero hl) ((badL_iff l).1 h).1
  | succ n ih =>
    intro l hl h
    obtain ⟨hne, hz, hd⟩ := (badL_iff l).1 h
    obtain ⟨m, c, rfl⟩ : ∃ m c, l = m ++ [c] := ⟨l.dropLast, l.getLast hne, (List.dropLast_concat_getLast hne).symm⟩
    have hc := hd c (by simp)
    have hc9 := dv_le hc
    have hcc : UInt8.ofNat (48 + dv c) = c := by
      have := (digB_iff c).1 hc
      unfold dv
      rw [show 48 + (c.toNat - 48) = c.toNat by omega]
      simp
    by_cases hm : m = []
    · subst hm
      have e : val ([] ++ [c]) = dv c := by rw [val_snoc]; simp [val]
      rw [e, dec_small (by omega), hcc]
      rfl
    · have hml : 0 < m.length := List.length_pos_iff.2 hm
      have hh : (m ++ [c]).getD 0 0 = m.getD 0 0 := by rw [List.getD_eq_getElem?_getD, List.getElem?_append_left hml, ← List.getD_eq_getElem?_getD]
      have h48 : m.getD 0 0 ≠ 48 := by
        intro e
        unfold zeroB at hz
        rw [hh, e] at hz
        simp at hz
        exact hm hz
      have hgm : badL m = false := (badL_iff m).2 ⟨hm, by
        unfold zeroB
        simp only [Bool.and_eq_false_iff]
        right
        simpa using h48, fun d hdm => hd d (by simp [hdm])⟩
      have hi := ih m (by simp at hl; omega) hgm
      have h1 : 1 ≤ val m := by
        rcases Nat.eq_zero_or_pos (val m) with e | e
        · rw [e, dec_small (by omega)] at hi
          exact absurd (by rw [← hi]; rfl) h48
        · exact e
      rw [val_snoc, dec_big (by omega), show (10 * val m + dv c) / 10 = val m by omega, show (10 * val m + dv c) % 10 = dv c by omega, hi, hcc]
theorem dec_back {l : List UInt8} (h : badL l = false) : decDigits (val l) = l := dec_of_val _ l rfl h
theorem nd_le (u : Nat) (h : 1 ≤ u) : 10 ^ nDigits u ≤ 10 * u := by
  induction u using Nat.strongRecOn with
  | _ u ih =>
    by_cases h10 : u < 10
    · rw [nDigits_small h10]; omega
    · rw [nDigits_big h10, Nat.pow_succ]
      have := ih (u / 10) (by omega) (by omega)
      omega
theorem nd_max {u : Nat} (h : u ≤ 4611686018427387903) : nDigits u ≤ 19 := by
  rcases Nat.eq_zero_or_pos u with rfl | hp
  · rw [nDigits_small (by omega)]; omega
  · have := nd_le u hp
    rcases Nat.lt_or_ge 19 (nDigits u) with h1 | h1
    · have h2 := Nat.pow_le_pow_right (n := 10) (by decide) h1
      have h3 : (10 : Nat) ^ (19 + 1) = 100000000000000000000 := by decide
      have h4 : (10 : Nat) ^ Nat.succ 19 = 100000000000000000000 := by decide
      omega
    · exact h1
theorem nd_min {u : Nat} (h : 4611686018427387903 < u) : 19 ≤ nDigits u := by
  have := lt_pow_nDigits u
  rcases Nat.lt_or_ge (nDigits u) 19 with h1 | h1
  · have h2 := Nat.pow_le_pow_right (n := 10) (by decide) (show nDigits u ≤ 18 by omega)
    have h3 : (10 : Nat) ^ 18 = 1000000000000000000 := by decide
    omega
  · exact h1
theorem long_big {l : List UInt8} (h : badL l = false) (hl : 19 < l.length) : 4611686018427387903 < val l := by
  rcases Nat.lt_or_ge 4611686018427387903 (val l) with h1 | h1
  · exact h1
  · have := nd_max h1
    rw [← decDigits_length, dec_back h] at this
    omega
theorem big_long {l : List UInt8} (h : badL l = false) (hv : 4611686018427387903 < val l) : 19 ≤ l.length := by
  have := nd_min hv
  rwa [← decDigits_length, dec_back h] at this
theorem val_mono {l : List UInt8} (k : Nat) : val (l.take k) ≤ val l := by
  have h : ∀ (m : List UInt8) (a : Nat), a ≤ m.foldl (fun n c => 10 * n + dv c) a := by
    intro m
    induction m with
    | nil => intro a; exact Nat.le_refl _
    | cons c m ih => intro a; exact Nat.le_trans (by omega) (ih (10 * a + dv c))
  have e : l = l.take k ++ l.drop k := (List.take_append_drop k l).symm
  conv => rhs; rw [e]
  unfold val
  rw [List.foldl_append]
  exact h _ _

/-! ### the order of texts -/
theorem less_val : ∀ (l m : List UInt8), l.length = m.length → (∀ c ∈ l, digB c = true) → (∀ c ∈ m, digB c = true) → Op.bytesLess l m = decide (val l < val m)
  | [], [], _, _, _ => by simp [Op.bytesLess]
  | [], _ :: _, h, _, _ => by simp at h
  | _ :: _, [], h, _, _ => by simp at h
  | a :: l, b :: m, h, hl, hm => by
    have hlen : l.length = m.length := by simpa using h
    have ih := less_val l m hlen (fun c hc => hl c (List.mem_cons_of_mem _ hc)) (fun c hc => hm c (List.mem_cons_of_mem _ hc))
    have v1 := val_lt (l := l) (fun c hc => hl c (List.mem_cons_of_mem _ hc))
    have v2 := val_lt (l := m) (fun c hc => hm c (List.mem_cons_of_mem _ hc))
    have d1 := (digB_iff a).1 (hl a List.mem_cons_self)
    have d2 := (digB_iff b).1 (hm b List.mem_cons_self)
    have ea : dv a = a.toNat - 48 := rfl
    have eb : dv b = b.toNat - 48 := rfl
    rw [Op.bytesLess, ih, val_cons, val_cons, hlen]
    rw [hlen] at v1
    generalize val l = x at *
    generalize val m = y at *
    generalize 10 ^ m.length = p at *
    rw [Bool.eq_iff_iff]
    simp only [Bool.or_eq_true, Bool.and_eq_true, decide_eq_true_eq, beq_iff_eq, UInt8.lt_iff_toNat_lt, ← UInt8.toNat_inj]
    rcases Nat.lt_trichotomy a.toNat b.toNat with h1 | h1 | h1
    · have h2 : dv a * p + p ≤ dv b * p := by
        have : (dv a + 1) * p ≤ dv b * p := Nat.mul_le_mul_right p (by omega)
        rwa [Nat.add_mul, Nat.one_mul] at this
      omega
    · rw [ea, eb, h1]; omega
    · have h2 : dv b * p + p ≤ dv a * p := by
        have : (dv b + 1) * p ≤ dv a * p := Nat.mul_le_mul_right p (by omega)
        rwa [Nat.add_mul, Nat.one_mul] at this
      omega
theorem dec_order (x y : Nat) : decide (x < y) = (decide ((decDigits x).length < (decDigits y).length) || (decide ((decDigits x).length = (decDigits y).length) && Op.bytesLess (decDigits x) (decDigits y))) := by
  have key : ∀ x y : Nat, (decDigits x).length < (decDigits y).length → x < y := by
    intro x y h
    rw [decDigits_length, decDigits_length] at h
    have h1 := lt_pow_nDigits x
    have h0 := nDigits_pos x
    have h2 := nd_le y (by
      rcases Nat.eq_zero_or_pos y with rfl | hp
      · rw [nDigits_small (u := 0) (by decide)] at h; have := nDigits_pos x; omega
      · exact hp)
    have h3 := Nat.pow_le_pow_right (n := 10) (by decide) h
    rw [Nat.pow_succ] at h3
    omega
  rcases Nat.lt_trichotomy (decDigits x).length (decDigits y).length with h | h | h
  · have := key x y h
    simp [this, h]
  · rw [less_val _ _ h (dec_dig x) (dec_dig y), dec_val, dec_val]
    simp [h]
  · have := key y x h
    have h1 : ¬ x < y := by omega
    have h2 : ¬ (decDigits x).length < (decDigits y).length := by omega
    have h3 : ¬ (decDigits x).length = (decDigits y).length := by omega
    simp [h1, h2, h3]
theorem dec_inj {x y : Nat} (h : decDigits x = decDigits y) : x = y := by rw [← dec_val x, h, dec_val]

def txtL (n : Int) : List UInt8 := if 0 ≤ n ∧ n ≤ 4611686018427387903 then decDigits n.toNat else []
theorem txtL_nat {u : Nat} (h : u ≤ 4611686018427387903) : txtL (u : Int) = decDigits u := by unfold txtL; rw [if_pos (by omega)]; simp
theorem txtL_len (n : Int) : (txtL n).length ≤ 19 := by
  unfold txtL
  split
  · rw [decDigits_length]; exact nd_max (by omega)
  · simp

/-! ### exponents -/
def bitsTo (n k : Nat) : List Int := ((List.range k).filter fun i => n.testBit i).map fun i : Nat => (i : Int)
theorem bitsTo_succ (n k : Nat) : bitsTo n (k + 1) = bitsTo n k ++ if n.testBit k = true then [(k : Int)] else [] := by
  unfold bitsTo
  rw [List.range_succ, List.filter_append, List.map_append]
  congr 1
  by_cases h : n.testBit k = true <;> simp [h]
theorem bitsTo_len (n k : Nat) : (bitsTo n k).length ≤ k := by
  unfold bitsTo
  rw [List.length_map]
  exact Nat.le_trans (List.length_filter_le _ _) (by simp)
theorem bitsTo_bd (n k : Nat) : ∀ e ∈ bitsTo n k, 0 ≤ e ∧ e < k := by
  intro e he
  unfold bitsTo at he
  obtain ⟨i, hi, rfl⟩ := List.mem_map.1 he
  have := List.mem_range.1 (List.mem_filter.1 hi).1
  omega
theorem bitsTo_rises (n k : Nat) : (bitsTo n k).Pairwise (· < ·) := by
  unfold bitsTo
  rw [List.pairwise_map]
  refine List.Pairwise.imp ?_ (List.Pairwise.filter _ (List.pairwise_lt_range (n := k)))
  intro a b h
  omega
def bitsL (n : Int) : List Int := if 0 ≤ n ∧ n ≤ 4611686018427387903 then bitsTo n.toNat 62 else []
theorem bitsL_nat {u : Nat} (h : u ≤ 4611686018427387903) : bitsL (u : Int) = bitsTo u 62 := by unfold bitsL; rw [if_pos (by omega)]; simp
theorem bitsL_len (n : Int) : (bitsL n).length ≤ 62 := by
  unfold bitsL
  split
  · exact bitsTo_len _ _
  · simp
theorem bitsL_bd (n : Int) : ∀ e ∈ bitsL n, 0 ≤ e ∧ e ≤ 61 := by
  intro e he
  unfold bitsL at he
  split at he
  · have := bitsTo_bd _ _ e he; omega
  · simp at he
theorem bitsL_rises (n : Int) : (bitsL n).Pairwise (· < ·) := by
  unfold bitsL
  split
  · exact bitsTo_rises _ _
  · exact List.Pairwise.nil

def total (l : List Int) : Nat := (l.map fun e => 2 ^ e.toNat).sum
theorem total_nil : total [] = 0 := rfl
theorem total_append (l m : List Int) : total (l ++ m) = total l + total m := by unfold total; rw [List.map_append, List.sum_append]
theorem total_one (e : Int) : total [e] = 2 ^ e.toNat := by simp [total]
theorem total_take_succ {l : List Int} {k : Nat} (h : k < l.length) : total (l.take (k + 1)) = total (l.take k) + 2 ^ (l.getD k 0).toNat := by
  rw [List.take_succ_eq_append_getElem h, total_append, total_one, List.getD_eq_getElem?_getD, List.getElem?_eq_getElem h, Option.getD_some]
theorem total_take_le (l : List Int) (k : Nat) : total (l.take k) ≤ total l := by
  conv => rhs; rw [← List.take_append_drop k l]
  rw [total_append]
  omega
theorem total_up {l : List Int} (h : ∀ e ∈ l, 0 ≤ e) : total (l.map (· + 1)) = 2 * total l := by
  induction l with
  | nil => rfl
  | cons e l ih =>
    have h0 := h e List.mem_cons_self
    have hi := ih fun d hd => h d (List.mem_cons_of_mem _ hd)
    unfold total at *
    simp only [List.map_cons, List.sum_cons]
    rw [hi, show (e + 1).toNat = e.toNat + 1 by omega, Nat.pow_succ]
    omega
theorem total_bits (n k : Nat) : total (bitsTo n k) = n % 2 ^ k := by
  induction k with
  | zero => simp [bitsTo, total, Nat.mod_one]
  | succ k ih =>
    rw [bitsTo_succ, total_append, ih, Nat.pow_succ, Nat.mod_mul]
    congr 1
    rw [Nat.testBit_eq_decide_div_mod_eq]
    by_cases h : n / 2 ^ k % 2 = 1
    · simp [h, total]
    · have : n / 2 ^ k % 2 = 0 := by omega
      simp [this, total]
theorem total_bitsL {u : Nat} (h : u ≤ 4611686018427387903) : total (bitsL (u : Int)) = u := by
  rw [bitsL_nat h, total_bits]
  exact Nat.mod_eq_of_lt (by have : (2 : Nat) ^ 62 = 4611686018427387904 := by decide
                             omega)
def awayB (l : List Int) : Bool := l.any fun e => decide (e < 0) || decide (61 < e)
theorem awayB_no {l : List Int} (h : ∀ e ∈ l, 0 ≤ e ∧ e ≤ 61) : awayB l = false := by
  unfold awayB
  rw [List.any_eq_false]
  intro e he
  have := h e he
  simp
  omega
def sumL (l : List Int) : Int × Int := if awayB l = true then (0, 1) else if 4611686018427387903 < total l then (0, 21) else (total l, 0)
theorem sumL_ok {l : List Int} (h : ∀ e ∈ l, 0 ≤ e ∧ e ≤ 61) (ht : total l ≤ 4611686018427387903) : sumL l = ((total l : Int), 0) := by
  unfold sumL
  rw [awayB_no h, if_neg (by decide), if_neg (by omega)]
theorem sumL_bits {u : Nat} (h : u ≤ 4611686018427387903) : sumL (bitsL (u : Int)) = ((u : Int), 0) := by
  have := sumL_ok (bitsL_bd (u : Int)) (by rw [total_bitsL h]; exact h)
  rwa [total_bitsL h] at this

theorem bits_twice {x : Nat} (h : x < 1152921504606846976) : bitsTo (2 * x) 62 = (bitsTo x 62).map (· + 1) := by
  have h61 : x.testBit 61 = false := Nat.testBit_lt_two_pow (by have : (2 : Nat) ^ 61 = 2305843009213693952 := by decide
                                                                omega)
  have e1 : bitsTo x 62 = bitsTo x 61 := by rw [bitsTo_succ]; simp [h61]
  rw [e1]
  unfold bitsTo
  rw [List.range_succ_eq_map, List.filter_cons]
  have h0 : (2 * x).testBit 0 = false := by simp
  rw [if_neg (by rw [h0]; decide), List.filter_map, List.map_map, List.map_map]
  have e2 : ((fun i => (2 * x).testBit i) ∘ Nat.succ) = fun i => x.testBit i := by
    funext i
    simp only [Function.comp_apply]
    rw [Nat.testBit_succ, show 2 * x / 2 = x by omega]
  rw [e2]
  refine List.map_congr_left fun i _ => ?_
  simp
theorem bits_twice1 {x : Nat} (h : x < 1152921504606846976) : bitsTo (2 * x + 1) 62 = 0 :: (bitsTo x 62).map (· + 1) := by
  have h61 : x.testBit 61 = false := Nat.testBit_lt_two_pow (by have : (2 : Nat) ^ 61 = 2305843009213693952 := by decide
                                                                omega)
  have e1 : bitsTo x 62 = bitsTo x 61 := by rw [bitsTo_succ]; simp [h61]
  rw [e1]
  unfold bitsTo
  rw [List.range_succ_eq_map, List.filter_cons]
  have h0 : (2 * x + 1).testBit 0 = true := by simp
  rw [if_pos h0, List.filter_map, List.map_cons, List.map_map, List.map_map]
  have e2 : ((fun i => (2 * x + 1).testBit i) ∘ Nat.succ) = fun i => x.testBit i := by
    funext i
    simp only [Function.comp_apply]
    rw [Nat.testBit_succ, show (2 * x + 1) / 2 = x by omega]
  rw [e2]
  rfl

end Go.Proofs.Ytkneecdpkdnjfaa
namespace Go.Proofs.Ytkneecdpkdnjfaa.Qt
set_option linter.unusedVariables false
set_option linter.unusedSimpArgs false
open Go Go.Sort Go.RowKit

section
variable {P : Program} {ops : Array Oper} {md : Region.Mode} {C : World → Prop}

/-- f rounds of the head, whatever order, then L. -/
def headAny (P : Program) (md : Region.Mode) (ops : Array Oper) (C : World → Prop) (n : Nat) (L : Array Bool → Act → Prop) : Nat → Array Bool → Act → Prop
  | 0, listed, a => L listed a
  | f + 1, listed, a => Region.ready md ops listed ≠ [] ∧ ∀ i ∈ Region.ready md ops listed, i < n ∧ qOp P ops C i (headAny P md ops C n L f (listed.setIfInBounds i true)) a

theorem any_of_head {n g : Nat} {L : Array Bool → Act → Prop} {Q : Exit → Act → World → Prop} (hL : ∀ listed a w, C w → L listed a → wpAny P md ops Q g listed a w) (f : Nat) :
    ∀ listed a w, C w → headAny P md ops C n L f listed a → wpAny P md ops Q (f + g) listed a w := by
  induction f with
  | zero => intro listed a w hw h; rw [Nat.zero_add]; exact hL _ _ _ hw h
  | succ f ih =>
    intro listed a w hw h
    rw [Nat.succ_add]
    exact ⟨fun h0 => absurd h0 h.1, fun i hi => wpOp_of_qOp hw (fun a' w' hw' h' => ih _ a' w' hw' h') (h.2 i hi).2⟩

/-- What may be taken first is taken first. -/
theorem head_first {n i : Nat} {oi : Oper} {v : Value} {L : Array Bool → Act → Prop} (hi : ops[i]? = some oi) (hsel : ∀ (j : Nat) (o : Oper) cs b, ops[j]? = some o → o.op ≠ .select cs b)
    (hs : Region.sinkB md ops n = true) (hc : Region.chainB md ops n = true) (hn : n < ops.size) (hin : i < n) (hdone : ∀ listed a, L listed a → ∀ j ∈ Region.ready md ops listed, n ≤ j) (f : Nat) :
    ∀ (listed : Array Bool) (a : Act), HeadInv md ops n listed →
      (∀ j oj, ops[j]? = some oj → j ≠ i → listed.getD j true = false → (∀ e ∈ oj.after, Region.binds md e = true → e.on ≠ i) → oi.apart ops oj = true) →
      i ∈ Region.ready md ops listed → YieldsIn P ops C oi v a →
      headAny P md ops C n L f (listed.setIfInBounds i true) (a.put oi.dst v) → headAny P md ops C n L (f + 1) listed a := by
  induction f with
  | zero =>
    intro listed a inv _ hr hy H
    refine ⟨fun h => (by rw [h] at hr; cases hr), fun j hj => ?_⟩
    have hjn : j < n := Nat.lt_of_not_le fun h => tail_waits hs hc hn inv _ i rfl hin (mem_ready.1 hr).1 j h hj
    refine ⟨hjn, ?_⟩
    by_cases hji : j = i
    · subst hji; exact hy.qOp hi H
    · exact absurd (hdone _ _ H j (ready_mono hj hji)) (by omega)
  | succ f ih =>
    intro listed a inv hfree hr hy H
    have hun := (mem_ready.1 hr).1
    refine ⟨fun h => (by rw [h] at hr; cases hr), fun j hj => ?_⟩
    have hjn : j < n := Nat.lt_of_not_le fun h => tail_waits hs hc hn inv _ i rfl hin hun j h hj
    refine ⟨hjn, ?_⟩
    by_cases hji : j = i
    · subst hji; exact hy.qOp hi H
    · obtain ⟨hjun, oj, hoj, hall⟩ := mem_ready.1 hj
      have hnot : ∀ e ∈ oj.after, Region.binds md e = true → e.on ≠ i := fun e he hb heq => by
        have h1 := hall e he hb
        rw [heq, getD_both hun] at h1
        cases h1
      have hq := qOp_put hoj (hfree j oj hoj hji hjun hnot) (fun cs b => hsel i oi cs b hi) (fun cs b => hsel j oj cs b hoj) hy (H.2 j (ready_mono hj hji)).2
      refine qOp_mono (fun a' h3 => ih (listed.setIfInBounds j true) a' (inv.set hj hjn) (fun k ok hk hki hku hno => hfree k ok hk hki ?_ hno) (ready_mono hr (Ne.symm hji)) h3.1 ?_) hq
      · by_cases hjk : j = k
        · subst hjk; exact hjun
        · rwa [getD_set_ne true hjk] at hku
      · rw [Array.setIfInBounds_comm _ _ hji]; exact h3.2

theorem head_lex {n g : Nat} {Lq : Act → Prop} (hsel : Region.noSelect ops = true) (hs : Region.sinkB md ops n = true) (hc : Region.chainB md ops n = true) (hn : n < ops.size) (l : List Oper) :
    ∀ (k : Nat) (listed : Array Bool) (a : Act), (∀ j, j < l.length → l[j]? = ops[k + j]?) → k + l.length = n → HeadInv md ops n listed →
    Region.lexHead md ops g l.length k listed = true → wpQuiet P ops C Lq l a →
    headAny P md ops C n (fun listed' a' => Region.seqB md ops g n listed' = true ∧ Lq a') l.length listed a := by
  induction l with
  | nil =>
    intro k listed a _ hk _ hB h
    obtain rfl : k = n := by simpa using hk
    exact ⟨by simpa [Region.lexHead] using hB, h⟩
  | cons o l ih =>
    intro k listed a hl hk inv hB h
    have h0 : ops[k]? = some o := by simpa using (hl 0 (by simp)).symm
    simp only [List.length_cons, Region.lexHead, Bool.and_eq_true] at hB
    have hkn : k < n := by simp only [List.length_cons] at hk; omega
    have hr' : k ∈ Region.ready md ops listed := by simpa using hB.1.1
    have hst : qOp P ops C k (wpQuiet P ops C Lq l) a := by unfold qOp; simp only [h0]; exact h
    obtain ⟨v, hy, hK⟩ := yieldsIn_of_qOp h0 hst
    exact head_first h0 (Region.noSelect_spec hsel) hs hc hn hkn (fun listed' a' hL => seqB_ready hL.1) l.length listed a inv (Region.free_spec h0 hB.1.2) hr' hy
      (ih (k + 1) _ _ (fun j hj => by have := hl (j + 1) (by simp; omega); simpa [Nat.add_assoc, Nat.add_comm 1 j] using this) (by simp only [List.length_cons] at hk; omega) (inv.set hr' hkn) hB.2 hK)

theorem quiet_mono {Q Q' : Act → Prop} (hq : ∀ a, Q a → Q' a) (l : List Oper) : ∀ a, wpQuiet P ops C Q l a → wpQuiet P ops C Q' l a := by
  induction l with
  | nil => exact hq
  | cons o l ih =>
    intro a h
    unfold wpQuiet at h ⊢
    split
    · rename_i hw; rw [if_pos hw] at h; exact Oper.quiet_mono ih h
    · rename_i hw; rw [if_neg hw] at h; exact ih _ h

theorem region_tail {id : Nat} {Q : Exit → Act → World → Prop} {a : Act} {w : World} {l : List Oper} (n : Nat) (hm : P.follows .mixedOrders = true) (hB : Region.lexTailB .any l.toArray n = true) (hC : C w.drew)
    (h : wpQuiet P l.toArray C (fun a' => ∀ w', C w' → wpList P l.toArray Q (l.drop n) a' w') (l.take n) a) : (Code.region id l.toArray true).wp P Q a w := by
  simp only [Region.lexTailB, Bool.and_eq_true, decide_eq_true_eq] at hB
  obtain ⟨⟨⟨⟨hsel, hn⟩, hs⟩, hc⟩, hlex⟩ := hB
  have hn' : n < l.length := by simpa using hn
  have htl : (l.take n).length = n := by simp; omega
  have hdl : (l.drop n).length = l.toArray.size - n := by simp
  have inv0 : HeadInv .any l.toArray n (Array.replicate l.toArray.size false) :=
    ⟨by simp, fun j oj _ hl => (by rw [getD_replicate_false] at hl; cases hl), fun t _ ht => getD_in (by simpa using ht) (getD_replicate_false _ _)⟩
  have H := head_lex (P := P) (C := C) (md := .any) (g := l.toArray.size - n) hsel hs hc hn (l.take n) 0 _ a (fun j hj => by rw [htl] at hj; simp [hj]) (by simpa using htl) inv0 (by rw [htl]; exact hlex) h
  refine wp_region_any hm ?_
  have e := any_of_head (Q := Q) (g := l.toArray.size - n) (fun listed a' w' hw' hL => by
    have := wpAny_of_seq (md := .any) (Q' := Q) (l.drop n) n listed a' w' (fun j => by simp [List.getElem?_drop]) (by rw [hdl]; exact hL.1) (hL.2 w' hw')
    rwa [hdl] at this) _ _ _ w.drew hC H
  rw [htl, show n + (l.toArray.size - n) = l.toArray.size by omega] at e
  exact e

/-- .. at the class 'of what was there nothing has turned'; the tail in whatever such world. -/
theorem below_tail {id : Nat} {Q : Exit → Act → World → Prop} {a : Act} {w : World} {l : List Oper} (n : Nat) (hm : P.follows .mixedOrders = true) (hB : Region.lexTailB .any l.toArray n = true)
    (h : wpQuiet P l.toArray (fun w' => ∃ p : Regrown, w' = grow (redrawn w p.d) p.os) (fun a' => ∀ w', Below w.heap.size w w' → wpList P l.toArray Q (l.drop n) a' w') (l.take n) a) : (Code.region id l.toArray true).wp P Q a w :=
  region_tail n hm hB ⟨⟨w.drawn + 1, #[]⟩, by rw [grow_empty]; rfl⟩ (quiet_mono (fun a' h w' ⟨p, hp⟩ => h w' (hp ▸ below_regrown w p.d p.os)) _ _ h)

/-- The whole region quiet. -/
theorem below_all {id : Nat} {Q : Exit → Act → World → Prop} {a : Act} {w : World} {l : List Oper} (hm : P.follows .mixedOrders = true) (hB : Region.lexB .any l.toArray = true)
    (h : wpQuiet P l.toArray (fun w' => ∃ p : Regrown, w' = grow (redrawn w p.d) p.os) (fun a' => ∀ w', Below w.heap.size w w' → Q .normal a' w') l a) : (Code.region id l.toArray true).wp P Q a w :=
  wp_region_quiet_below hm hB (quiet_mono (fun a' h w' ⟨p, hp⟩ => h w' (hp ▸ below_regrown w p.d p.os)) _ _ h)

/-- A contract that ends in 'Below', at a call within such a region. -/
theorem at_call {f : FuncId} {args : Array Value} {w : World} {d : Nat} {os : Array Obj} {v : Value} (h : ∀ W, Calls P f args W fun e w' => e = .returned v ∧ Below W.heap.size W w') :
    Calls P f args (grow (redrawn w d) os) fun e w'' => e = .returned v ∧ ∃ p : Regrown, w'' = grow (redrawn w p.d) p.os := Calls.regrown_of (h _)

/-- .. one that asks for the world ahead. -/
theorem at_call' {f : FuncId} {args : Array Value} {w : World} {d : Nat} {os : Array Obj} {v : Value} (h : ∀ W, Below w.heap.size w W → Calls P f args W fun e w' => e = .returned v ∧ Below W.heap.size W w') :
    Calls P f args (grow (redrawn w d) os) fun e w'' => e = .returned v ∧ ∃ p : Regrown, w'' = grow (redrawn w p.d) p.os := Calls.regrown_of (h _ (below_regrown w d os))

/-- .. one that leaves the world alone. -/
theorem at_same {f : FuncId} {args : Array Value} {w : World} {d : Nat} {os : Array Obj} {v : Value} (h : ∀ W, Below w.heap.size w W → Calls P f args W fun e w' => e = .returned v ∧ W = w') :
    Calls P f args (grow (redrawn w d) os) fun e w'' => e = .returned v ∧ ∃ p : Regrown, w'' = grow (redrawn w p.d) p.os :=
  Calls.regrown_of ((h _ (below_regrown w d os)).mono fun _ _ ⟨he, hw⟩ => ⟨he, hw ▸ Below.refl _ _⟩)

/-- A cell that is there, in every world of the class. -/
theorem cell_in {w : World} {a : Addr} {v : Value} (h : w.cell? a = some v) : ∀ d os, (grow (redrawn w d) os).cell? a = some v := cell_regrown h
/-- a cell that is there stays, and Below adds up -/
theorem keep {w w' : World} {a : Addr} {v : Value} (hb : Below w.heap.size w w') (h : w.cell? a = some v) : w'.cell? a = some v := (hb.cell (block_lt_of_cell h)).trans h
theorem more {B : Nat} {w0 w w' : World} (h : Below B w0 w) (hB : B ≤ w.heap.size) (hb : Below w.heap.size w w') : Below B w0 w' := h.trans (hb.mono hB)

theorem ret_bool {x y : Bool} (h : (x = true) ↔ (y = true)) : Ending.returned (.bool x) = .returned (.bool y) := by rw [Bool.eq_iff_iff.2 h]
theorem ret_int {k : IntKind} {x y : Int} (h : x = y) : Ending.returned (.int k x) = .returned (.int k y) := by rw [h]
end
end Go.Proofs.Ytkneecdpkdnjfaa.Qt
namespace Go.Proofs.Ytkneecdpkdnjfaa
open Go.RowKit Go.Sort

def I64 (n : Int) : Prop := -9223372036854775808 ≤ n ∧ n ≤ 9223372036854775807

/-- The table of powers of ten, that the library's Itoa looks into. -/
def tabName : String := Rows.hashTellsRow.named.getD 0 default
def Tab (w : World) : Prop := Lib.TabIs Try.prog w tabName .u64 Lib.pow10Tab
theorem Tab.below {w w' : World} (h : Tab w) (hb : Below w.heap.size w w') : Tab w' := Lib.tabBelow_of_tabIs h w' hb

def pickI (c n : Int) : Int := if c < 0 then (-(c + 1)) % n else c % n
theorem pickI_bd (c n : Int) (hn : 1 ≤ n) : 0 ≤ pickI c n ∧ pickI c n < n := by
  unfold pickI
  split
  · exact ⟨Int.emod_nonneg _ (by omega), Int.emod_lt_of_pos _ (by omega)⟩
  · exact ⟨Int.emod_nonneg _ (by omega), Int.emod_lt_of_pos _ (by omega)⟩

theorem pick_any (c n : Int) (w : World) (h1 : -9223372036854775808 ≤ c) (h2 : c ≤ 9223372036854775807) (hn : 1 ≤ n) (hn2 : n ≤ 9223372036854775807) :
    Calls Try.prog 9 #[.int .i64 c, .int .i64 n] w fun e w' => e = .returned (.int .i64 (pickI c n)) ∧ w = w' := by
  generalize hr : pickI c n = r
  have HR := Lib.hid hr
  clear hr
  go_enter Try.func9, Try.ntmps9
  go_wp2
  all_goals go_ret
  all_goals refine ⟨?_, rfl⟩
  all_goals (refine Qt.ret_int ?_; rw [← HR.out]; unfold pickI)
  · rw [if_pos (by assumption), ← Int.neg_tmod, Int.tmod_eq_emod_of_nonneg (by omega)]
  · rw [if_neg (by omega)]
/-- .. whatever number comes in: a number from 0 on, below n. -/
theorem pick_nat (c n : Int) (w : World) (hc : I64 c) (hn : 1 ≤ n) (hn2 : n ≤ 9223372036854775807) :
    Calls Try.prog 9 #[.int .i64 c, .int .i64 n] w fun e w' => e = .returned (.int .i64 ((pickI c n).toNat : Int)) ∧ w = w' := by
  have h := pickI_bd c n hn
  have := pick_any c n w hc.1 hc.2 hn hn2
  rwa [show (((pickI c n).toNat : Nat) : Int) = pickI c n by omega]

def txt (n : Int) : ByteArray := ⟨(txtL n).toArray⟩

/-! ### slices of numbers -/

/-- The slice at A of l.length numbers reads as l, below block B. -/
def Rd (w : World) (B : Nat) (A : Option Addr) (l : List Int) : Prop :=
  ∀ j, j < l.length → ∃ b off, A = some ⟨b, off, none⟩ ∧ b < B ∧ w.cell? ⟨b, off + j, none⟩ = some (.int .i64 (l.getD j 0))

theorem Rd.below {w w' : World} {B B' : Nat} {A : Option Addr} {l : List Int} (h : Rd w B A l) (hb : Below B' w w') (hB : B ≤ B') : Rd w' B A l := fun j hj => by
  obtain ⟨b, off, e, hlt, h0⟩ := h j hj
  exact ⟨b, off, e, hlt, (hb.cell (p := ⟨b, off + j, none⟩) (Nat.lt_of_lt_of_le hlt hB)).trans h0⟩
theorem Rd.more {w : World} {B B' : Nat} {A : Option Addr} {l : List Int} (h : Rd w B A l) (hB : B ≤ B') : Rd w B' A l := fun j hj => by
  obtain ⟨b, off, e, hlt, h0⟩ := h j hj
  exact ⟨b, off, e, by omega, h0⟩
theorem Rd.nil (w : World) (B : Nat) (A : Option Addr) : Rd w B A [] := fun j hj => absurd hj (Nat.not_lt_zero j)
theorem Rd.at_ {w : World} {B : Nat} {A : Option Addr} {l : List Int} (h : Rd w B A l) (hn : 0 < l.length) :
    ∃ b off, A = some ⟨b, off, none⟩ ∧ b < B ∧ ∀ j, j < l.length → w.cell? ⟨b, off + j, none⟩ = some (.int .i64 (l.getD j 0)) := by
  obtain ⟨b, off, e, hlt, _⟩ := h 0 hn
  refine ⟨b, off, e, hlt, fun j hj => ?_⟩
  obtain ⟨b', off', e', _, h0⟩ := h j hj
  rw [e] at e'
  injection e' with e'
  injection e' with e1 e2
  subst e1 e2
  exact h0
/-- A slice whose cells read as a list, now. -/
def Now (w : World) (A : Option Addr) (l : List Int) : Prop := Rd w w.heap.size A l
theorem Now.below {w w' : World} {A : Option Addr} {l : List Int} (h : Now w A l) (hb : Below w.heap.size w w') : Now w' A l := (Rd.below h hb (Nat.le_refl _)).more hb.size
theorem now_nil (w : World) (A : Option Addr) : Now w A [] := Rd.nil _ _ _

/-- A slice that the call itself has made. -/
abbrev Own (w : World) (B : Nat) (v : Value) (l : List Int) : Prop := w.ownsRow B 3 1 v l.length (l.map (Value.int .i64))
/-- It reads as its list. -/
def Reads (w : World) (v : Value) (l : List Int) : Prop := ∃ A c, v = .slice A l.length c ∧ l.length ≤ c ∧ Now w A l
theorem Own.reads {w : World} {B : Nat} {v : Value} {l : List Int} (h : Own w B v l) : Reads w v l := by
  rcases h.2 with ⟨rfl, h0⟩ | ⟨g, cap, cur, rfl, hb, hh, hn, hcap, hsz, htake⟩
  · have : l = [] := by simpa using h0
    subst this
    exact ⟨none, 0, rfl, Nat.le_refl _, now_nil _ _⟩
  · refine ⟨some ⟨g, 0, none⟩, cap, rfl, hn, fun j hj => ⟨g, 0, rfl, (World.ownsRow.lt h g rfl).2, ?_⟩⟩
    have := World.ownsRow.cellAt h j (by simpa using hj)
    rw [Nat.zero_add]
    rw [this]
    simp [List.getD_eq_getElem?_getD, List.getElem?_eq_getElem hj]
theorem Reads.below {w w' : World} {v : Value} {l : List Int} (h : Reads w v l) (hb : Below w.heap.size w w') : Reads w' v l := by
  obtain ⟨A, c, e, hc, hR⟩ := h
  exact ⟨A, c, e, hc, hR.below hb⟩

end Go.Proofs.Ytkneecdpkdnjfaa
namespace Go.Proofs.Ytkneecdpkdnjfaa
set_option maxRecDepth 100000
open Go.RowKit Go.Sort

def fl (l : List Int) : List Value := l.map (Value.int .i64)
theorem length_fl (l : List Int) : (fl l).length = l.length * 1 := by simp [fl]
theorem fl_append (l m : List Int) : fl (l ++ m) = fl l ++ fl m := List.map_append
theorem fl_at {w : World} {m : List Int} {b off : Nat} (h : ∀ j, j < m.length → w.cell? ⟨b, off + j, none⟩ = some (.int .i64 (m.getD j 0))) : ∀ j u, (fl m)[j]? = some u → w.cell? ((⟨b, off, none⟩ : Addr).add j) = some u := by
  intro j u hj
  have hlt : j < m.length := by
    have := (List.getElem?_eq_some_iff.1 hj).1
    simpa [fl] using this
  have e : u = .int .i64 (m.getD j 0) := by
    simp only [fl, List.getElem?_map, List.getElem?_eq_getElem hlt, Option.map_some, Option.some.injEq] at hj
    rw [← hj, List.getD_eq_getElem?_getD, List.getElem?_eq_getElem hlt, Option.getD_some]
  rw [e]
  rw [Addr.add_lit]
  exact h j hlt
theorem fl_cell1 (m : List Int) : ∀ u ∈ fl m, u.oneCell' = true := by
  intro u hu
  obtain ⟨x, _, rfl⟩ := List.mem_map.1 hu
  rfl

theorem info_int : (Try.prog.info? 3).map (fun i => (i.zero, i.size, i.bytes)) = some (some (.int .i64 0), 1, 8) := by kernel_rfl

theorem append_none {w : World} {B : Nat} {v : Value} {out : List Int} (c : Nat) (ho : Own w B v out) :
    (Builtin.append_ #[25, 25] 25 #[v, .slice none 0 c]).run Try.prog w = .ok v w := by
  obtain ⟨i0, hi, hz0, hz1, hz2⟩ := info_parts info_int
  rcases ho.2 with ⟨rfl, _⟩ | ⟨g, cap, cur, rfl, _, _, hnc, _⟩
  · simp [Builtin.append_, run_underlying Try.underlying25, sizeOf, typeInfo, hi, Builtin.lenOf, Builtin.firstCells]
  · simp [Builtin.append_, run_underlying Try.underlying25, sizeOf, typeInfo, hi, Builtin.lenOf, Builtin.firstCells, storeCells, hnc]

theorem app_any {w : World} {B : Nat} {v : Value} {out m : List Int} {A : Option Addr} (c : Nat) (hB : B ≤ w.heap.size) (ho : Own w B v out) (hm : Now w A m) (hl : out.length + m.length ≤ 1000000) :
    ∃ v' w', (Builtin.append_ #[25, 25] 25 #[v, .slice A m.length c]).run Try.prog w = .ok v' w' ∧ Own w' B v' (out ++ m) ∧ w.grownBy w' v.ownBlock := by
  obtain ⟨i0, hi, hz0, hz1, hz2⟩ := info_parts info_int
  by_cases h0 : m.length = 0
  · have : m = [] := List.eq_nil_of_length_eq_zero h0
    subst this
    cases A with
    | none => exact ⟨v, w, append_none c ho, by rw [List.append_nil]; exact ho, ⟨rfl, rfl, rfl, Nat.le_refl _, fun _ _ _ => rfl⟩⟩
    | some a =>
      obtain ⟨v', w', hr, h2, h3, _⟩ := run_append_own (P := Try.prog) (w := w) B 25 25 3 i0 (.int .i64 0) 1 8 Try.underlying25 hi hz0 hz1 hz2 rfl (by decide) v out.length (fl out) ho a 0 c [] rfl (fun j u h => by simp at h) (fun u h => by cases h) (by unfold maxLen; omega) (by omega) hB
      exact ⟨v', w', hr, by rw [List.append_nil] at h2 ⊢; exact h2, h3⟩
  · obtain ⟨b, off, rfl, _, hcell⟩ := hm.at_ (by omega)
    obtain ⟨v', w', hr, h2, h3, _⟩ := run_append_own (P := Try.prog) (w := w) B 25 25 3 i0 (.int .i64 0) 1 8 Try.underlying25 hi hz0 hz1 hz2 rfl (by decide) v out.length (fl out) ho ⟨b, off, none⟩ m.length c (fl m) (length_fl m) (fl_at hcell) (fl_cell1 m) (by unfold maxLen; omega) (by omega) hB
    refine ⟨v', w', hr, ?_, h3⟩
    show World.ownsRow _ _ _ _ _ _ (fl (out ++ m))
    rw [fl_append, List.length_append]
    exact h2

/-- one number more, that lies in a new block -/
theorem push_any {w : World} {B : Nat} {v : Value} {out : List Int} (x : Int) (hB : B ≤ w.heap.size) (ho : Own w B v out) (hl : out.length ≤ 999999) :
    ∃ v' w', (Builtin.append_ #[25, 25] 25 #[v, .slice (some ⟨w.heap.size, 0, none⟩) 1 1]).run Try.prog (w.alloc (.cells #[.int .i64 x] 3)) = .ok v' w' ∧ Own w' B v' (out ++ [x]) ∧ Below B w w' := by
  have hm : Now (w.alloc (.cells #[.int .i64 x] 3)) (some ⟨w.heap.size, 0, none⟩) [x] := fun j hj => by
    have hj1 : j = 0 := by simp at hj; omega
    subst hj1
    exact ⟨w.heap.size, 0, rfl, by simp, by simp⟩
  have ho' : Own (w.alloc (.cells #[.int .i64 x] 3)) B v out := World.ownsRow.alloc ho _
  obtain ⟨v', w', hr, h1, h2⟩ := app_any (m := [x]) 1 (by simp; omega) ho' hm (by simp; omega)
  exact ⟨v', w', hr, h1, Below.grown ((Below.refl _ _).alloc hB _) h2 (by simp; omega) (fun k e => (World.ownsRow.lt ho' k e).1)⟩

def OutR (l : List Int) (w : World) (e : Ending) (w' : World) : Prop := ∃ v, e = .returned v ∧ Reads w' v l ∧ Below w.heap.size w w'

/-! ### bit k of a number, as the two texts ask for it -/
theorem and_one (m : Nat) : bits .and .i64 (m : Int) 1 = ((m % 2 : Nat) : Int) := by
  have h1 : (BitVec.ofInt IntKind.i64.bits (m : Int) &&& BitVec.ofInt IntKind.i64.bits 1).toNat = m % 2 := by
    rw [BitVec.toNat_and]
    have e1 : (BitVec.ofInt IntKind.i64.bits (m : Int)).toNat = m % 2 ^ 64 := by
      rw [BitVec.toNat_ofInt]
      show ((m : Int) % ((2 ^ 64 : Nat) : Int)).toNat = m % 2 ^ 64
      omega
    have e2 : (BitVec.ofInt IntKind.i64.bits 1).toNat = 1 := by decide
    rw [e1, e2, Nat.and_one_is_mod]
    omega
  show IntKind.i64.wrap _ = _
  rw [h1, IntKind.wrap_i64]
  omega
theorem bit_of (u k : Nat) : ((u : Int) / 2 ^ k) = ((u / 2 ^ k : Nat) : Int) := by simp
theorem bit_yes {u k : Nat} (h : u.testBit k = true) : (bits BinOp.and IntKind.i64 ((u : Int) / 2 ^ k) 1 == 1) = true := by
  rw [Nat.testBit_eq_decide_div_mod_eq] at h
  rw [bit_of, and_one, of_decide_eq_true h]
  rfl
theorem bit_no {u k : Nat} (h : u.testBit k = false) : (bits BinOp.and IntKind.i64 ((u : Int) / 2 ^ k) 1 == 1) = false := by
  rw [Nat.testBit_eq_decide_div_mod_eq] at h
  have := of_decide_eq_false h
  rw [bit_of, and_one, beq_eq_false_iff_ne]
  omega

end Go.Proofs.Ytkneecdpkdnjfaa
namespace Go.Proofs.Ytkneecdpkdnjfaa
set_option linter.unusedVariables false
set_option linter.unusedSimpArgs false

/-- four kids; a node: its level, its kids, its cells -/
abbrev Kd := Int × Int × Int × Int
abbrev Nd := Int × Kd × Int
def kd (k : Kd) : Nat → Int
  | 0 => k.1
  | 1 => k.2.1
  | 2 => k.2.2.1
  | _ => k.2.2.2
theorem kd_ext {k m : Kd} (h : ∀ i, i < 4 → kd k i = kd m i) : k = m := by
  obtain ⟨a, b, c, d⟩ := k
  obtain ⟨a', b', c', d'⟩ := m
  have h0 : a = a' := h 0 (by decide)
  have h1 : b = b' := h 1 (by decide)
  have h2 : c = c' := h 2 (by decide)
  have h3 : d = d' := h 3 (by decide)
  rw [h0, h1, h2, h3]
def deadN : Nd := (0, (0, 0, 0, 0), 0)
def liveN : Nd := (0, (0, 0, 0, 0), 1)
def ndAt (l : List Nd) (i : Int) : Nd := l.getD i.toNat deadN
/-- the cells of the first kids together -/
def popTo (l : List Nd) (k : Kd) : Nat → Int
  | 0 => 0
  | i + 1 => min (popTo l k i + (ndAt l (kd k i)).2.2) 4611686018427387903
def kidB (l : List Nd) (n lev k : Int) : Bool := decide (0 ≤ k) && decide (k < n) && decide ((ndAt l k).1 = lev)
/-- the place of the node with these kids, from place i on, so many places -/
def atFrom (l : List Nd) (k : Kd) : Nat → Nat → Option Nat
  | _, 0 => none
  | i, f + 1 => if (l.getD i deadN).2.1 = k then some i else atFrom l k (i + 1) f
def at6 (l : List Nd) (k : Kd) : Option Nat := atFrom l k 2 (l.length - 2)
def kidsB (l : List Nd) (n lev : Int) (k : Kd) : Bool := kidB l n lev k.1 && kidB l n lev k.2.1 && kidB l n lev k.2.2.1 && kidB l n lev k.2.2.2
def fits6 (l : List Nd) (n : Nat) : Bool :=
  kidsB l n ((l.getD n deadN).1 - 1) (l.getD n deadN).2.1 && decide (1 ≤ (l.getD n deadN).1) && decide ((l.getD n deadN).1 ≤ 42) && decide ((l.getD n deadN).2.2 = popTo l (l.getD n deadN).2.1 4) && decide (at6 l (l.getD n deadN).2.1 = some n)
def headB6 (l : List Nd) (room : Int) : Bool :=
  decide (2 ≤ room) && decide (room ≤ 100000) && decide (2 ≤ l.length) && decide ((l.length : Int) ≤ room) && decide (l.getD 0 deadN = deadN) && decide (l.getD 1 deadN = liveN)
def right6 (l : List Nd) (room : Int) : Bool := headB6 l room && (List.range l.length).all fun i => decide (i < 2) || fits6 l i

theorem atFrom_some {l : List Nd} {k : Kd} : ∀ {f i n : Nat}, atFrom l k i f = some n → i ≤ n ∧ n < i + f ∧ (l.getD n deadN).2.1 = k ∧ ∀ j, i ≤ j → j < n → (l.getD j deadN).2.1 ≠ k := by
  intro f
  induction f with
  | zero => intro i n h; cases h
  | succ f ih =>
    intro i n h
    unfold atFrom at h
    by_cases he : (l.getD i deadN).2.1 = k
    · rw [if_pos he] at h
      injection h with h
      subst h
      exact ⟨Nat.le_refl _, by omega, he, fun j h1 h2 => by omega⟩
    · rw [if_neg he] at h
      obtain ⟨h1, h2, h3, h4⟩ := ih h
      refine ⟨by omega, by omega, h3, fun j hj1 hj2 => ?_⟩
      rcases Nat.eq_or_lt_of_le hj1 with rfl | h5
      · exact he
      · exact h4 j h5 hj2
theorem atFrom_none {l : List Nd} {k : Kd} : ∀ {f i : Nat}, atFrom l k i f = none ↔ ∀ j, i ≤ j → j < i + f → (l.getD j deadN).2.1 ≠ k := by
  intro f
  induction f with
  | zero => intro i; exact ⟨fun _ j h1 h2 => by omega, fun _ => rfl⟩
  | succ f ih =>
    intro i
    unfold atFrom
    by_cases he : (l.getD i deadN).2.1 = k
    · rw [if_pos he]
      exact ⟨fun h => (by cases h), fun h => absurd he (h i (Nat.le_refl _) (by omega))⟩
    · rw [if_neg he, ih]
      constructor
      · intro h j h1 h2
        rcases Nat.eq_or_lt_of_le h1 with rfl | h5
        · exact he
        · exact h j h5 (by omega)
      · intro h j h1 h2
        exact h j (by omega) (by omega)
theorem at_some {l : List Nd} {k : Kd} {n : Nat} (h : at6 l k = some n) : 2 ≤ n ∧ n < l.length ∧ (l.getD n deadN).2.1 = k ∧ ∀ j, 2 ≤ j → j < n → (l.getD j deadN).2.1 ≠ k := by
  obtain ⟨h1, h2, h3, h4⟩ := atFrom_some h
  exact ⟨h1, by omega, h3, h4⟩
theorem at_none {l : List Nd} {k : Kd} : at6 l k = none ↔ ∀ j, 2 ≤ j → j < l.length → (l.getD j deadN).2.1 ≠ k := by
  unfold at6
  rw [atFrom_none]
  exact ⟨fun h j h1 h2 => h j h1 (by omega), fun h j h1 h2 => h j h1 (by omega)⟩
theorem at_is {l : List Nd} {k : Kd} {n : Nat} (h2 : 2 ≤ n) (hn : n < l.length) (hk : (l.getD n deadN).2.1 = k) (hf : ∀ j, 2 ≤ j → j < n → (l.getD j deadN).2.1 ≠ k) : at6 l k = some n := by
  cases h : at6 l k with
  | none => exact absurd hk (at_none.1 h n h2 hn)
  | some m =>
    obtain ⟨m1, m2, m3, m4⟩ := at_some h
    rcases Nat.lt_trichotomy m n with h5 | h5 | h5
    · exact absurd m3 (hf m m1 h5)
    · rw [h5]
    · exact absurd hk (m4 n h2 h5)

/-- what a store that is right is -/
structure Right6 (l : List Nd) (room : Int) : Prop where
  room2 : 2 ≤ room
  room100 : room ≤ 100000
  two : 2 ≤ l.length
  len : (l.length : Int) ≤ room
  dead : l.getD 0 deadN = deadN
  live : l.getD 1 deadN = liveN
  fits : ∀ n, 2 ≤ n → n < l.length → fits6 l n = true
theorem right_iff {l : List Nd} {room : Int} : right6 l room = true ↔ Right6 l room := by
  unfold right6 headB6
  simp only [Bool.and_eq_true, decide_eq_true_eq, List.all_eq_true, List.mem_range, Bool.or_eq_true]
  constructor
  · rintro ⟨⟨⟨⟨⟨⟨h1, h2⟩, h3⟩, h4⟩, h5⟩, h6⟩, h7⟩
    exact ⟨h1, h2, h3, h4, h5, h6, fun n hn hl => (h7 n hl).resolve_left (by omega)⟩
  · intro h
    refine ⟨⟨⟨⟨⟨⟨h.room2, h.room100⟩, h.two⟩, h.len⟩, h.dead⟩, h.live⟩, fun i hi => ?_⟩
    by_cases h2 : i < 2
    · exact .inl h2
    · exact .inr (h.fits i (by omega) hi)
theorem kidB_iff {l : List Nd} {n lev k : Int} : kidB l n lev k = true ↔ 0 ≤ k ∧ k < n ∧ (ndAt l k).1 = lev := by unfold kidB; simp [and_assoc]
theorem kidsB_iff {l : List Nd} {n lev : Int} {k : Kd} : kidsB l n lev k = true ↔ ∀ i, i < 4 → kidB l n lev (kd k i) = true := by
  unfold kidsB
  simp only [Bool.and_eq_true]
  constructor
  · rintro ⟨⟨⟨h0, h1⟩, h2⟩, h3⟩ i hi
    match i, hi with
    | 0, _ => exact h0
    | 1, _ => exact h1
    | 2, _ => exact h2
    | 3, _ => exact h3
  · intro h
    exact ⟨⟨⟨h 0 (by decide), h 1 (by decide)⟩, h 2 (by decide)⟩, h 3 (by decide)⟩
/-- what a node that fits is -/
structure Fits6 (l : List Nd) (n : Nat) : Prop where
  kid : ∀ i, i < 4 → 0 ≤ kd (l.getD n deadN).2.1 i ∧ kd (l.getD n deadN).2.1 i < n ∧ (ndAt l (kd (l.getD n deadN).2.1 i)).1 = (l.getD n deadN).1 - 1
  lo : 1 ≤ (l.getD n deadN).1
  hi : (l.getD n deadN).1 ≤ 42
  pop : (l.getD n deadN).2.2 = popTo l (l.getD n deadN).2.1 4
  first : at6 l (l.getD n deadN).2.1 = some n
theorem fits_iff {l : List Nd} {n : Nat} : fits6 l n = true ↔ Fits6 l n := by
  unfold fits6
  simp only [Bool.and_eq_true, decide_eq_true_eq, kidsB_iff, kidB_iff]
  exact ⟨fun ⟨⟨⟨⟨h1, h2⟩, h3⟩, h4⟩, h5⟩ => ⟨h1, h2, h3, h4, h5⟩, fun h => ⟨⟨⟨⟨h.kid, h.lo⟩, h.hi⟩, h.pop⟩, h.first⟩⟩

/-! ### levels and cells are within bounds -/
theorem popTo_bd {l : List Nd} {k : Kd} (h : ∀ i, i < 4 → 0 ≤ (ndAt l (kd k i)).2.2) : ∀ i, i ≤ 4 → 0 ≤ popTo l k i ∧ popTo l k i ≤ 4611686018427387903 := by
  intro i
  induction i with
  | zero => intro _; unfold popTo; omega
  | succ i ih =>
    intro hi
    have h1 := ih (by omega)
    have h2 := h i (by omega)
    unfold popTo
    omega
theorem ndAt_nat (l : List Nd) (n : Nat) : ndAt l (n : Int) = l.getD n deadN := by unfold ndAt; rw [Int.toNat_natCast]
theorem right_bd {l : List Nd} {room : Int} (h : Right6 l room) : ∀ n, n < l.length → 0 ≤ (l.getD n deadN).1 ∧ (l.getD n deadN).1 ≤ 42 ∧ 0 ≤ (l.getD n deadN).2.2 ∧ (l.getD n deadN).2.2 ≤ 4611686018427387903 := by
  intro n
  induction n using Nat.strongRecOn with
  | ind n ih =>
    intro hn
    by_cases h2 : n < 2
    · rcases (by omega : n = 0 ∨ n = 1) with rfl | rfl
      · rw [h.dead]; decide
      · rw [h.live]; decide
    · have hf := fits_iff.1 (h.fits n (by omega) hn)
      have := popTo_bd (l := l) (k := (l.getD n deadN).2.1) (fun i hi => by
        obtain ⟨k1, k2, _⟩ := hf.kid i hi
        have := ih (kd (l.getD n deadN).2.1 i).toNat (by omega) (by omega)
        exact this.2.2.1) 4 (Nat.le_refl _)
      rw [← hf.pop] at this
      exact ⟨by have := hf.lo; omega, hf.hi, this.1, this.2⟩
/-- of level 0 there are just the two -/
theorem level_zero {l : List Nd} {room : Int} (h : Right6 l room) {n : Nat} (hn : n < l.length) : (l.getD n deadN).1 = 0 ↔ n < 2 := by
  constructor
  · intro h0
    rcases Nat.lt_or_ge n 2 with h2 | h2
    · exact h2
    · have := (fits_iff.1 (h.fits n h2 hn)).lo
      omega
  · intro h2
    rcases (by omega : n = 0 ∨ n = 1) with rfl | rfl
    · rw [h.dead]; rfl
    · rw [h.live]; rfl

/-! ### a node more -/
theorem getD_app {l : List Nd} {x : Nd} {i : Nat} (h : i < l.length) : (l ++ [x]).getD i deadN = l.getD i deadN := by
  rw [List.getD_eq_getElem?_getD, List.getD_eq_getElem?_getD, List.getElem?_append_left h]
theorem getD_last {l : List Nd} {x : Nd} : (l ++ [x]).getD l.length deadN = x := by
  rw [List.getD_eq_getElem?_getD, List.getElem?_append_right (Nat.le_refl _), Nat.sub_self]; rfl
theorem ndAt_app {l : List Nd} {x : Nd} {i : Int} (h0 : 0 ≤ i) (h : i < l.length) : ndAt (l ++ [x]) i = ndAt l i := getD_app (by omega)
theorem popTo_app {l : List Nd} {x : Nd} {k : Kd} (h : ∀ i, i < 4 → 0 ≤ kd k i ∧ kd k i < l.length) : ∀ i, i ≤ 4 → popTo (l ++ [x]) k i = popTo l k i := by
  intro i
  induction i with
  | zero => intro _; rfl
  | succ i ih =>
    intro hi
    have := h i (by omega)
    unfold popTo
    rw [ih (by omega), ndAt_app this.1 this.2]
/-- What Put answers, of a store that is right. -/
def put6 (l : List Nd) (room : Int) (k : Kd) : List Nd × Int × Int :=
  if kidsB l l.length (ndAt l k.1).1 k = false then (l, 0, 1)
  else if 42 < (ndAt l k.1).1 + 1 then (l, 0, 1)
  else match at6 l k with
    | some n => (l, n, 0)
    | none => if room ≤ l.length then (l, 0, 40) else (l ++ [((ndAt l k.1).1 + 1, k, popTo l k 4)], l.length, 0)
def intern6 (l : List Nd) (room : Int) (k : Kd) : List Nd × Int × Int := if right6 l room = true then put6 l room k else (l, 0, 1)
theorem right_app {l : List Nd} {room : Int} (h : Right6 l room) {k : Kd} (hk : kidsB l l.length (ndAt l k.1).1 k = true) (hl : (ndAt l k.1).1 + 1 ≤ 42) (ha : at6 l k = none) (hr : (l.length : Int) < room) : Right6 (l ++ [((ndAt l k.1).1 + 1, k, popTo l k 4)]) room := by
  have hkid := fun i hi => kidB_iff.1 (kidsB_iff.1 hk i hi)
  have h2 := h.two
  refine ⟨h.room2, h.room100, by rw [List.length_append]; omega, by rw [List.length_append, List.length_singleton]; omega, ?_, ?_, fun n hn hl2 => ?_⟩
  · rw [getD_app (by omega)]; exact h.dead
  · rw [getD_app (by omega)]; exact h.live
  rw [List.length_append, List.length_singleton] at hl2
  rw [fits_iff]
  have hlo := (right_bd h k.1.toNat (by have := hkid 0 (by decide); simp only [kd] at this; omega)).1
  by_cases hlast : n = l.length
  · subst hlast
    have e : (l ++ [((ndAt l k.1).1 + 1, k, popTo l k 4)]).getD l.length deadN = ((ndAt l k.1).1 + 1, k, popTo l k 4) := getD_last
    refine ⟨?_, ?_, ?_, ?_, ?_⟩
    · intro i hi
      rw [e]
      obtain ⟨k1, k2, k3⟩ := hkid i hi
      refine ⟨k1, k2, ?_⟩
      rw [ndAt_app k1 k2, k3]
      simp only
      omega
    · rw [e]; show 1 ≤ (l.getD k.1.toNat deadN).1 + 1; omega
    · rw [e]; exact hl
    · rw [e]; exact (popTo_app (fun i hi => ⟨(hkid i hi).1, (hkid i hi).2.1⟩) 4 (Nat.le_refl _)).symm
    · rw [e]
      refine at_is hn (by rw [List.length_append, List.length_singleton]; omega) (by rw [e]) (fun j hj1 hj2 => ?_)
      rw [getD_app hj2]
      exact at_none.1 ha j hj1 hj2
  · have hnl : n < l.length := by omega
    have hf := fits_iff.1 (h.fits n hn hnl)
    refine ⟨?_, by rw [getD_app hnl]; exact hf.lo, by rw [getD_app hnl]; exact hf.hi, ?_, ?_⟩
    · intro i hi
      rw [getD_app hnl]
      obtain ⟨k1, k2, k3⟩ := hf.kid i hi
      exact ⟨k1, k2, by rw [ndAt_app k1 (by omega)]; exact k3⟩
    · rw [getD_app hnl, popTo_app (fun i hi => ⟨(hf.kid i hi).1, by have := (hf.kid i hi).2.1; omega⟩) 4 (Nat.le_refl _)]
      exact hf.pop
    · rw [getD_app hnl]
      obtain ⟨a1, a2, a3, a4⟩ := at_some hf.first
      exact at_is hn (by rw [List.length_append, List.length_singleton]; omega) (by rw [getD_app hnl]) (fun j hj1 hj2 => by rw [getD_app (by omega)]; exact a4 j hj1 hj2)
theorem put_right {l : List Nd} {room : Int} (h : Right6 l room) (k : Kd) : Right6 (put6 l room k).1 room := by
  unfold put6
  by_cases h1 : kidsB l l.length (ndAt l k.1).1 k = false
  · rw [if_pos h1]; exact h
  · rw [if_neg h1]
    by_cases h2 : 42 < (ndAt l k.1).1 + 1
    · rw [if_pos h2]; exact h
    · rw [if_neg h2]
      cases h3 : at6 l k with
      | some n => exact h
      | none =>
        simp only
        by_cases h4 : room ≤ l.length
        · rw [if_pos h4]; exact h
        · rw [if_neg h4]
          exact right_app h (by simpa using h1) (by omega) h3 (by omega)
end Go.Proofs.Ytkneecdpkdnjfaa
namespace Go.Proofs.Ytkneecdpkdnjfaa
set_option linter.unusedVariables false
set_option linter.unusedSimpArgs false

/-! ### rows -/
def row (s : Nat) (a : List UInt8) (y : Nat) : List UInt8 := (a.drop (y * s)).take s
def half (s : Nat) (a b : List UInt8) (n : Nat) : List UInt8 := (List.range n).flatMap fun y => row s a y ++ row s b y
/-- four squares of side s, joined -/
def joinB (s : Nat) (q0 q1 q2 q3 : List UInt8) : List UInt8 := half s q0 q1 s ++ half s q2 q3 s
theorem row_len {s y : Nat} {a : List UInt8} {n : Nat} (h : a.length = n * s) (hy : y < n) : (row s a y).length = s := by
  unfold row
  rw [List.length_take, List.length_drop, h]
  have h1 : y * s + s ≤ n * s := by
    have := Nat.mul_le_mul_right s (show y + 1 ≤ n from hy)
    rwa [Nat.add_mul, Nat.one_mul] at this
  omega
theorem half_succ (s : Nat) (a b : List UInt8) (n : Nat) : half s a b (n + 1) = half s a b n ++ (row s a n ++ row s b n) := by
  unfold half
  rw [List.range_succ, List.flatMap_append]
  simp
theorem half_len {s : Nat} {a b : List UInt8} {N : Nat} (ha : a.length = N * s) (hb : b.length = N * s) : ∀ n, n ≤ N → (half s a b n).length = n * (2 * s) := by
  intro n
  induction n with
  | zero => intro _; simp [half]
  | succ n ih =>
    intro hn
    rw [half_succ, List.length_append, List.length_append, ih (by omega), row_len ha (by omega), row_len hb (by omega), Nat.add_mul]
    omega
theorem joinB_len {s : Nat} {q0 q1 q2 q3 : List UInt8} (h0 : q0.length = s * s) (h1 : q1.length = s * s) (h2 : q2.length = s * s) (h3 : q3.length = s * s) : (joinB s q0 q1 q2 q3).length = (2 * s) * (2 * s) := by
  unfold joinB
  rw [List.length_append, half_len h0 h1 s (Nat.le_refl _), half_len h2 h3 s (Nat.le_refl _), ← Nat.add_mul]
  congr 1
  omega
theorem half_inj {s : Nat} {a b a' b' : List UInt8} {N : Nat} (ha : a.length = N * s) (hb : b.length = N * s) (ha' : a'.length = N * s) (hb' : b'.length = N * s) : ∀ n, n ≤ N → half s a b n = half s a' b' n → ∀ y, y < n → row s a y = row s a' y ∧ row s b y = row s b' y := by
  intro n
  induction n with
  | zero => intro _ _ y hy; omega
  | succ n ih =>
    intro hn h y hy
    rw [half_succ, half_succ] at h
    obtain ⟨h1, h2⟩ := List.append_inj h (by rw [half_len ha hb n (by omega), half_len ha' hb' n (by omega)])
    obtain ⟨h3, h4⟩ := List.append_inj h2 (by rw [row_len ha (by omega), row_len ha' (by omega)])
    rcases Nat.lt_or_ge y n with h5 | h5
    · exact ih (by omega) h1 y h5
    · obtain rfl : y = n := by omega
      exact ⟨h3, h4⟩
theorem rows_inj {s : Nat} (hs : 0 < s) {a b : List UInt8} {N : Nat} (ha : a.length = N * s) (hb : b.length = N * s) (h : ∀ y, y < N → row s a y = row s b y) : a = b := by
  refine List.ext_getElem (by rw [ha, hb]) fun i h1 h2 => ?_
  have hy : i / s < N := by rw [Nat.div_lt_iff_lt_mul hs]; omega
  have hx : i % s < s := Nat.mod_lt _ hs
  have e := h (i / s) hy
  have hi : i = i / s * s + i % s := by rw [Nat.mul_comm]; exact (Nat.div_add_mod i s).symm
  have g : ∀ c : List UInt8, c.length = N * s → (row s c (i / s))[i % s]? = c[i]? := by
    intro c hc
    unfold row
    rw [List.getElem?_take, if_pos hx, List.getElem?_drop, ← hi]
  have g1 := g a ha
  have g2 := g b hb
  rw [e, g2, List.getElem?_eq_getElem h1, List.getElem?_eq_getElem h2] at g1
  exact (Option.some.inj g1).symm
theorem joinB_inj {s : Nat} (hs : 0 < s) {q0 q1 q2 q3 p0 p1 p2 p3 : List UInt8} (h0 : q0.length = s * s) (h1 : q1.length = s * s) (h2 : q2.length = s * s) (h3 : q3.length = s * s) (g0 : p0.length = s * s) (g1 : p1.length = s * s) (g2 : p2.length = s * s) (g3 : p3.length = s * s)
    (h : joinB s q0 q1 q2 q3 = joinB s p0 p1 p2 p3) : q0 = p0 ∧ q1 = p1 ∧ q2 = p2 ∧ q3 = p3 := by
  unfold joinB at h
  obtain ⟨a, b⟩ := List.append_inj h (by rw [half_len h0 h1 s (Nat.le_refl _), half_len g0 g1 s (Nat.le_refl _)])
  have ra := half_inj h0 h1 g0 g1 s (Nat.le_refl _) a
  have rb := half_inj h2 h3 g2 g3 s (Nat.le_refl _) b
  exact ⟨rows_inj hs h0 g0 fun y hy => (ra y hy).1, rows_inj hs h1 g1 fun y hy => (ra y hy).2, rows_inj hs h2 g2 fun y hy => (rb y hy).1, rows_inj hs h3 g3 fun y hy => (rb y hy).2⟩

/-! ### how many are alive -/
def sumB (a : List UInt8) : Nat := (a.map fun c => c.toNat - 48).sum
theorem sumB_append (a b : List UInt8) : sumB (a ++ b) = sumB a + sumB b := by unfold sumB; simp
theorem half_sum {s : Nat} {a b : List UInt8} : ∀ n, sumB (half s a b n) = sumB (a.take (n * s)) + sumB (b.take (n * s)) := by
  intro n
  have key : ∀ (c : List UInt8) (n : Nat), c.take ((n + 1) * s) = c.take (n * s) ++ row s c n := by
    intro c n
    unfold row
    rw [Nat.add_mul, Nat.one_mul, List.take_add]
  induction n with
  | zero => simp [half, sumB]
  | succ n ih =>
    rw [half_succ, sumB_append, sumB_append, ih, key a, key b, sumB_append, sumB_append]
    omega
theorem joinB_sum {s : Nat} {q0 q1 q2 q3 : List UInt8} (h0 : q0.length = s * s) (h1 : q1.length = s * s) (h2 : q2.length = s * s) (h3 : q3.length = s * s) : sumB (joinB s q0 q1 q2 q3) = sumB q0 + sumB q1 + sumB q2 + sumB q3 := by
  unfold joinB
  rw [sumB_append, half_sum, half_sum, List.take_of_length_le (by omega), List.take_of_length_le (by omega), List.take_of_length_le (by omega), List.take_of_length_le (by omega)]
  omega

/-! ### what a node stands for -/
def bitsN (l : List Nd) : Nat → Nat → List UInt8
  | 0, n => [UInt8.ofNat (48 + (l.getD n deadN).2.2.toNat)]
  | j + 1, n => joinB (2 ^ j) (bitsN l j (l.getD n deadN).2.1.1.toNat) (bitsN l j (l.getD n deadN).2.1.2.1.toNat) (bitsN l j (l.getD n deadN).2.1.2.2.1.toNat) (bitsN l j (l.getD n deadN).2.1.2.2.2.toNat)
theorem bitsN_len (l : List Nd) : ∀ j n, (bitsN l j n).length = 2 ^ j * 2 ^ j := by
  intro j
  induction j with
  | zero => intro n; rfl
  | succ j ih =>
    intro n
    show (joinB _ _ _ _ _).length = _
    rw [joinB_len (ih _) (ih _) (ih _) (ih _), Nat.pow_succ, Nat.mul_comm 2]
theorem bitsN_inj {l : List Nd} {room : Int} (h : Right6 l room) : ∀ (j n m : Nat), n < l.length → m < l.length → (l.getD n deadN).1 = j → (l.getD m deadN).1 = j → bitsN l j n = bitsN l j m → n = m := by
  intro j
  induction j with
  | zero =>
    intro n m hn hm ln lm hb
    have n2 := (level_zero h hn).1 ln
    have m2 := (level_zero h hm).1 lm
    rcases (by omega : n = 0 ∨ n = 1) with rfl | rfl <;> rcases (by omega : m = 0 ∨ m = 1) with rfl | rfl
    · rfl
    · unfold bitsN at hb; rw [h.dead, h.live] at hb; exact absurd hb (by decide)
    · unfold bitsN at hb; rw [h.dead, h.live] at hb; exact absurd hb (by decide)
    · rfl
  | succ j ih =>
    intro n m hn hm ln lm hb
    have n2 : 2 ≤ n := by
      rcases Nat.lt_or_ge n 2 with h2 | h2
      · have := (level_zero h hn).2 h2; omega
      · exact h2
    have m2 : 2 ≤ m := by
      rcases Nat.lt_or_ge m 2 with h2 | h2
      · have := (level_zero h hm).2 h2; omega
      · exact h2
    have fn := fits_iff.1 (h.fits n n2 hn)
    have fm := fits_iff.1 (h.fits m m2 hm)
    obtain ⟨b0, b1, b2, b3⟩ := joinB_inj (Nat.two_pow_pos j) (bitsN_len l j _) (bitsN_len l j _) (bitsN_len l j _) (bitsN_len l j _) (bitsN_len l j _) (bitsN_len l j _) (bitsN_len l j _) (bitsN_len l j _) hb
    have key : ∀ i, i < 4 → bitsN l j (kd (l.getD n deadN).2.1 i).toNat = bitsN l j (kd (l.getD m deadN).2.1 i).toNat → kd (l.getD n deadN).2.1 i = kd (l.getD m deadN).2.1 i := by
      intro i hi hbi
      obtain ⟨a1, a2, a3⟩ := fn.kid i hi
      obtain ⟨c1, c2, c3⟩ := fm.kid i hi
      have := ih _ _ (by omega) (by omega) (by show (ndAt l _).1 = _; rw [a3, ln]; omega) (by show (ndAt l _).1 = _; rw [c3, lm]; omega) hbi
      omega
    have hk : (l.getD n deadN).2.1 = (l.getD m deadN).2.1 := kd_ext fun i hi => by
      match i, hi with
      | 0, _ => exact key 0 (by decide) b0
      | 1, _ => exact key 1 (by decide) b1
      | 2, _ => exact key 2 (by decide) b2
      | 3, _ => exact key 3 (by decide) b3
    have h1 := fn.first
    rw [hk, fm.first] at h1
    exact (Option.some.inj h1).symm
/-- a node's cells are as many as it says, of levels where none is cut off -/
theorem bitsN_sum {l : List Nd} {room : Int} (h : Right6 l room) : ∀ (j n : Nat), j ≤ 20 → n < l.length → (l.getD n deadN).1 = j → ((sumB (bitsN l j n) : Nat) : Int) = (l.getD n deadN).2.2 ∧ sumB (bitsN l j n) ≤ 4 ^ j ∧ ∀ c ∈ bitsN l j n, c = 48 ∨ c = 49 := by
  intro j
  induction j with
  | zero =>
    intro n _ hn ln
    have n2 := (level_zero h hn).1 ln
    rcases (by omega : n = 0 ∨ n = 1) with rfl | rfl
    · unfold bitsN; rw [h.dead]; exact ⟨by decide, by decide, by decide⟩
    · unfold bitsN; rw [h.live]; exact ⟨by decide, by decide, by decide⟩
  | succ j ih =>
    intro n hj hn ln
    have n2 : 2 ≤ n := by
      rcases Nat.lt_or_ge n 2 with h2 | h2
      · have := (level_zero h hn).2 h2; omega
      · exact h2
    have fn := fits_iff.1 (h.fits n n2 hn)
    have key : ∀ i, i < 4 → _ := fun i hi => ih (kd (l.getD n deadN).2.1 i).toNat (by omega) (by have := fn.kid i hi; omega) (by show (ndAt l _).1 = _; rw [(fn.kid i hi).2.2, ln]; omega)
    have k0 := key 0 (by decide)
    have k1 := key 1 (by decide)
    have k2 := key 2 (by decide)
    have k3 := key 3 (by decide)
    simp only [kd] at k0 k1 k2 k3
    have hs : sumB (bitsN l (j + 1) n) = _ := joinB_sum (bitsN_len l j _) (bitsN_len l j _) (bitsN_len l j _) (bitsN_len l j _)
    have h4 : 4 ^ (j + 1) = 4 * 4 ^ j := by rw [Nat.pow_succ]; omega
    have hbig : 4 ^ (j + 1) ≤ 4 ^ 20 := Nat.pow_le_pow_right (by decide) hj
    have hbig2 : (4 : Nat) ^ 20 = 1099511627776 := by decide
    refine ⟨?_, by rw [hs]; omega, ?_⟩
    · rw [fn.pop, hs]
      unfold popTo popTo popTo popTo popTo
      simp only [kd, ndAt]
      omega
    · intro c hc
      have hrow : ∀ (s : Nat) (a : List UInt8) y, c ∈ row s a y → c ∈ a := fun s a y hc => List.mem_of_mem_drop (List.mem_of_mem_take hc)
      have hhalf : ∀ (s : Nat) (a b : List UInt8) N, c ∈ half s a b N → c ∈ a ∨ c ∈ b := by
        intro s a b N hc
        unfold half at hc
        obtain ⟨y, _, hy⟩ := List.mem_flatMap.1 hc
        rcases List.mem_append.1 hy with hy | hy
        · exact .inl (hrow _ _ _ hy)
        · exact .inr (hrow _ _ _ hy)
      rcases List.mem_append.1 (show c ∈ half _ _ _ _ ++ half _ _ _ _ from hc) with hc | hc
      · rcases hhalf _ _ _ _ hc with hc | hc
        · exact k0.2.2 c hc
        · exact k1.2.2 c hc
      · rcases hhalf _ _ _ _ hc with hc | hc
        · exact k2.2.2 c hc
        · exact k3.2.2 c hc
end Go.Proofs.Ytkneecdpkdnjfaa
namespace Go.Proofs.Ytkneecdpkdnjfaa
set_option linter.unusedVariables false
set_option linter.unusedSimpArgs false

/-- kids that may be put -/
structure Fit4 (l : List Nd) (k : Kd) : Prop where
  kid : ∀ i, i < 4 → 0 ≤ kd k i ∧ kd k i < l.length ∧ (ndAt l (kd k i)).1 = (ndAt l k.1).1
  low : (ndAt l k.1).1 + 1 ≤ 42
theorem Fit4.b {l : List Nd} {k : Kd} (h : Fit4 l k) : kidsB l l.length (ndAt l k.1).1 k = true := kidsB_iff.2 fun i hi => kidB_iff.2 (h.kid i hi)
/-- What comes of it. -/
inductive PutCase (l : List Nd) (room : Int) (k : Kd) : Prop
  | had (n : Nat) (h : at6 l k = some n) (e : put6 l room k = (l, (n : Int), 0))
  | full (h : at6 l k = none) (hr : room ≤ l.length) (e : put6 l room k = (l, 0, 40))
  | new (h : at6 l k = none) (hr : (l.length : Int) < room) (e : put6 l room k = (l ++ [((ndAt l k.1).1 + 1, k, popTo l k 4)], (l.length : Int), 0))
theorem put_case {l : List Nd} {k : Kd} (h : Fit4 l k) (room : Int) : PutCase l room k := by
  have h1 := h.b
  have h2 := h.low
  have e : put6 l room k = match at6 l k with
    | some n => (l, (n : Int), 0)
    | none => if room ≤ l.length then (l, 0, 40) else (l ++ [((ndAt l k.1).1 + 1, k, popTo l k 4)], (l.length : Int), 0) := by
    unfold put6
    rw [if_neg (by rw [h1]; decide), if_neg (by omega)]
    all_goals rfl
  cases ha : at6 l k with
  | some n => rw [ha] at e; exact .had n ha e
  | none =>
    rw [ha] at e
    simp only at e
    by_cases hr : room ≤ l.length
    · rw [if_pos hr] at e; exact .full ha hr e
    · rw [if_neg hr] at e; exact .new ha (by omega) e
/-- a store that has another one's nodes, and maybe more -/
structure Grows (l m : List Nd) : Prop where
  len : l.length ≤ m.length
  same : ∀ i, i < l.length → m.getD i deadN = l.getD i deadN
theorem Grows.refl (l : List Nd) : Grows l l := ⟨Nat.le_refl _, fun _ _ => rfl⟩
theorem Grows.trans {a b c : List Nd} (h : Grows a b) (k : Grows b c) : Grows a c := ⟨Nat.le_trans h.len k.len, fun i hi => (k.same i (Nat.lt_of_lt_of_le hi h.len)).trans (h.same i hi)⟩
theorem Grows.app (l : List Nd) (x : Nd) : Grows l (l ++ [x]) := ⟨by simp, fun i hi => getD_app hi⟩
theorem Grows.nd {l m : List Nd} (h : Grows l m) {i : Int} (h0 : 0 ≤ i) (h1 : i < l.length) : ndAt m i = ndAt l i := h.same _ (by omega)
theorem Grows.fit4 {l m : List Nd} (h : Grows l m) {k : Kd} (hk : Fit4 l k) : Fit4 m k := by
  have h0 := hk.kid 0 (by decide)
  have e0 : ndAt m k.1 = ndAt l k.1 := h.nd h0.1 h0.2.1
  have hl := h.len
  refine ⟨fun i hi => ?_, by rw [e0]; exact hk.low⟩
  obtain ⟨k1, k2, k3⟩ := hk.kid i hi
  exact ⟨k1, by omega, by rw [h.nd k1 k2, e0]; exact k3⟩
/-- a store where a node stands has it at its place -/
theorem Grows.at_ {l m : List Nd} (h : Grows l m) {k : Kd} {n : Nat} (ha : at6 l k = some n) : at6 m k = some n := by
  obtain ⟨a1, a2, a3, a4⟩ := at_some ha
  exact at_is a1 (Nat.lt_of_lt_of_le a2 h.len) (by rw [h.same n a2]; exact a3) (fun j hj1 hj2 => by rw [h.same j (by omega)]; exact a4 j hj1 hj2)
theorem at_new {l : List Nd} {k : Kd} (h2 : 2 ≤ l.length) (ha : at6 l k = none) (lev pop : Int) : at6 (l ++ [(lev, k, pop)]) k = some l.length :=
  at_is h2 (by simp) (by rw [getD_last]) (fun j hj1 hj2 => by rw [getD_app hj2]; exact at_none.1 ha j hj1 hj2)
/-- what was put -/
structure Put6 (l m : List Nd) (room : Int) (k : Kd) (n : Nat) : Prop where
  grows : Grows l m
  right : Right6 m room
  at_ : at6 m k = some n
  more : m.length ≤ l.length + 1
theorem put_ok {l : List Nd} {room : Int} (hr : Right6 l room) {k : Kd} (h : Fit4 l k) : (∃ (m : List Nd) (n : Nat), put6 l room k = (m, (n : Int), 0) ∧ Put6 l m room k n) ∨ (put6 l room k = (l, 0, 40) ∧ room ≤ l.length ∧ at6 l k = none) := by
  have hp := put_right hr k
  rcases put_case h room with ⟨n, ha, e⟩ | ⟨ha, hf, e⟩ | ⟨ha, hf, e⟩
  · exact .inl ⟨l, n, e, Grows.refl l, hr, ha, Nat.le_succ _⟩
  · exact .inr ⟨e, hf, ha⟩
  · rw [e] at hp
    exact .inl ⟨_, l.length, e, Grows.app l _, hp, at_new hr.two ha _ _, by simp⟩
/-- put again -/
theorem put_again {m : List Nd} {room : Int} {k : Kd} {n : Nat} (h : Fit4 m k) (ha : at6 m k = some n) : put6 m room k = (m, (n : Int), 0) := by
  rcases put_case h room with ⟨n', ha', e⟩ | ⟨ha', _, _⟩ | ⟨ha', _, _⟩
  · rw [ha] at ha'; injection ha' with ha'; subst ha'; exact e
  · rw [ha] at ha'; cases ha'
  · rw [ha] at ha'; cases ha'
theorem intern_right {l : List Nd} {room : Int} (h : Right6 l room) (k : Kd) : intern6 l room k = put6 l room k := by unfold intern6; rw [if_pos (right_iff.2 h)]

/-! ### a node's level is below its place -/
theorem level_low {l : List Nd} {room : Int} (h : Right6 l room) : ∀ n, n < l.length → 2 ≤ n → (l.getD n deadN).1 ≤ (n : Int) - 1 := by
  intro n
  induction n using Nat.strongRecOn with
  | ind n ih =>
    intro hn h2
    have hf := fits_iff.1 (h.fits n h2 hn)
    obtain ⟨k1, k2, k3⟩ := hf.kid 0 (by decide)
    by_cases hk : (kd (l.getD n deadN).2.1 0).toNat < 2
    · have h0 := (level_zero h (n := (kd (l.getD n deadN).2.1 0).toNat) (by omega)).2 hk
      have e : (ndAt l (kd (l.getD n deadN).2.1 0)).1 = 0 := h0
      rw [e] at k3
      omega
    · have := ih (kd (l.getD n deadN).2.1 0).toNat (by omega) (by omega) (by omega)
      have e : (ndAt l (kd (l.getD n deadN).2.1 0)).1 ≤ _ := this
      rw [k3] at e
      omega
theorem level_lt {l : List Nd} {room : Int} (h : Right6 l room) {n : Nat} (hn : n < l.length) : (l.getD n deadN).1 ≤ (l.length : Int) - 2 := by
  have h2 := h.two
  by_cases hn2 : n < 2
  · have := (level_zero h hn).2 hn2
    omega
  · have := level_low h n hn (by omega)
    omega

/-! ### the laws' raw stores -/
def pick6 (c n : Int) : Int := if c < 0 then (-(c + 1)) % n else c % n
theorem pick6_bd (c n : Int) (hn : 1 ≤ n) : 0 ≤ pick6 c n ∧ pick6 c n < n := by
  unfold pick6
  split
  · exact ⟨Int.emod_nonneg _ (by omega), Int.emod_lt_of_pos _ (by omega)⟩
  · exact ⟨Int.emod_nonneg _ (by omega), Int.emod_lt_of_pos _ (by omega)⟩
def new6 : List Nd := [deadN, liveN]
theorem right_new {room : Int} (h2 : 2 ≤ room) (h : room ≤ 100000) : Right6 new6 room := ⟨h2, h, by decide, h2, rfl, rfl, fun n hn hl => absurd hl (by have : new6.length = 2 := rfl; omega)⟩
/-- the places of a level, so many of the places seen -/
def sameTo (l : List Nd) (lev : Int) (n : Nat) : List Int := ((List.range n).filter fun i => decide ((l.getD i deadN).1 = lev)).map fun i : Nat => (i : Int)
theorem sameTo_succ (l : List Nd) (lev : Int) (n : Nat) : sameTo l lev (n + 1) = if (l.getD n deadN).1 = lev then sameTo l lev n ++ [(n : Int)] else sameTo l lev n := by
  unfold sameTo
  rw [List.range_succ, List.filter_append, List.map_append]
  by_cases h : (l.getD n deadN).1 = lev
  · rw [if_pos h, List.filter_cons, if_pos (by simpa using h)]; rfl
  · rw [if_neg h, List.filter_cons, if_neg (by simpa using h)]; simp
theorem mem_sameTo {l : List Nd} {lev : Int} {n : Nat} {x : Int} (h : x ∈ sameTo l lev n) : 0 ≤ x ∧ x < n ∧ (ndAt l x).1 = lev := by
  unfold sameTo at h
  obtain ⟨i, hi, rfl⟩ := List.mem_map.1 h
  obtain ⟨h1, h2⟩ := List.mem_filter.1 hi
  rw [List.mem_range] at h1
  refine ⟨by omega, by omega, ?_⟩
  rw [ndAt_nat]
  simpa using h2
theorem sameTo_mem {l : List Nd} {lev : Int} {n i : Nat} (h : i < n) (hl : (l.getD i deadN).1 = lev) : (i : Int) ∈ sameTo l lev n := by
  unfold sameTo
  exact List.mem_map.2 ⟨i, List.mem_filter.2 ⟨List.mem_range.2 h, by simpa using hl⟩, rfl⟩
theorem sameTo_len (l : List Nd) (lev : Int) (n : Nat) : (sameTo l lev n).length ≤ n := by
  unfold sameTo
  rw [List.length_map]
  refine Nat.le_trans (List.length_filter_le _ _) ?_
  simp
abbrev Raw5 := Int × Int × Int × Int × Int
def levOf (l : List Nd) (r : Raw5) : Int := if 0 < l.length then (ndAt l (pick6 r.2.2.2.2 l.length)).1 else 0
def pickOf (s : List Int) (c : Int) : Int := if 0 < s.length then s.getD (pick6 c s.length).toNat 0 else 0
/-- what the laws' Kids answers -/
def kids6 (l : List Nd) (r : Raw5) : Kd :=
  (pickOf (sameTo l (levOf l r) l.length) r.1, pickOf (sameTo l (levOf l r) l.length) r.2.1, pickOf (sameTo l (levOf l r) l.length) r.2.2.1, pickOf (sameTo l (levOf l r) l.length) r.2.2.2.1)
theorem pickOf_mem {s : List Int} (h : 0 < s.length) (c : Int) : pickOf s c ∈ s := by
  unfold pickOf
  rw [if_pos h]
  have hb := pick6_bd c s.length (by omega)
  rw [List.getD_eq_getElem?_getD, List.getElem?_eq_getElem (by omega)]
  exact List.getElem_mem _
theorem kids_fit {l : List Nd} {room : Int} (h : Right6 l room) (hl : l.length ≤ 43) (r : Raw5) : Fit4 l (kids6 l r) := by
  have h2 := h.two
  have hp := pick6_bd r.2.2.2.2 l.length (by omega)
  have hlev : levOf l r = (l.getD (pick6 r.2.2.2.2 l.length).toNat deadN).1 := by unfold levOf; rw [if_pos (by omega)]; rfl
  have hmem : (((pick6 r.2.2.2.2 l.length).toNat : Nat) : Int) ∈ sameTo l (levOf l r) l.length := sameTo_mem (by omega) hlev.symm
  have hs : 0 < (sameTo l (levOf l r) l.length).length := List.length_pos_of_mem hmem
  have key : ∀ i, i < 4 → kd (kids6 l r) i ∈ sameTo l (levOf l r) l.length := by
    intro i hi
    match i, hi with
    | 0, _ => exact pickOf_mem hs _
    | 1, _ => exact pickOf_mem hs _
    | 2, _ => exact pickOf_mem hs _
    | 3, _ => exact pickOf_mem hs _
  have e0 : (ndAt l (kids6 l r).1).1 = levOf l r := (mem_sameTo (key 0 (by decide))).2.2
  have hlow := level_lt h (n := (pick6 r.2.2.2.2 l.length).toNat) (by omega)
  refine ⟨fun i hi => ?_, by rw [e0, hlev]; omega⟩
  obtain ⟨k1, k2, k3⟩ := mem_sameTo (key i hi)
  exact ⟨k1, k2, by rw [e0]; exact k3⟩
/-- a store of raw numbers -/
def storeTo (room : Int) (raw : List Raw5) : Nat → List Nd
  | 0 => new6
  | n + 1 => (intern6 (storeTo room raw n) room (kids6 (storeTo room raw n) (raw.getD n (0, 0, 0, 0, 0)))).1
def store6 (room : Int) (raw : List Raw5) : List Nd := storeTo (2 + pick6 room 60) raw (min raw.length 40)
theorem storeTo_right {room : Int} (h2 : 2 ≤ room) (h : room ≤ 100000) (raw : List Raw5) : ∀ n, n ≤ 40 → Right6 (storeTo room raw n) room ∧ (storeTo room raw n).length ≤ n + 2 := by
  intro n
  induction n with
  | zero => intro _; exact ⟨right_new h2 h, Nat.le_refl 2⟩
  | succ n ih =>
    intro hn
    obtain ⟨h1, h3⟩ := ih (by omega)
    have hf := kids_fit h1 (by omega) (raw.getD n (0, 0, 0, 0, 0))
    show Right6 (intern6 _ room _).1 room ∧ _
    rw [intern_right h1]
    refine ⟨put_right h1 _, ?_⟩
    show (intern6 _ room _).1.length ≤ _
    rw [intern_right h1]
    rcases put_ok h1 hf with ⟨m, k, e, hp⟩ | ⟨e, _, _⟩
    · rw [e]; have := hp.more; simp only; omega
    · rw [e]; simp only; omega
theorem store_right (room : Int) (raw : List Raw5) : Right6 (store6 room raw) (2 + pick6 room 60) ∧ (store6 room raw).length ≤ 42 := by
  have hp := pick6_bd room 60 (by decide)
  have := storeTo_right (room := 2 + pick6 room 60) (by omega) (by omega) raw (min raw.length 40) (by omega)
  exact ⟨this.1, by unfold store6; omega⟩
end Go.Proofs.Ytkneecdpkdnjfaa
namespace Go.Proofs.Ytkneecdpkdnjfaa
set_option linter.unusedVariables false
set_option linter.unusedSimpArgs false

/-- Two nodes stand for the same just if they are the same. -/
theorem bits_iff {l : List Nd} {room : Int} (h : Right6 l room) {n m : Nat} (hn : n < l.length) (hm : m < l.length) : bitsN l (l.getD n deadN).1.toNat n = bitsN l (l.getD m deadN).1.toNat m ↔ n = m := by
  have bn := right_bd h n hn
  have bm := right_bd h m hm
  constructor
  · intro hb
    have hl := congrArg List.length hb
    rw [bitsN_len, bitsN_len, ← Nat.pow_add, ← Nat.pow_add] at hl
    have he : (l.getD n deadN).1.toNat + (l.getD n deadN).1.toNat = (l.getD m deadN).1.toNat + (l.getD m deadN).1.toNat := by
      rcases Nat.lt_trichotomy ((l.getD n deadN).1.toNat + (l.getD n deadN).1.toNat) ((l.getD m deadN).1.toNat + (l.getD m deadN).1.toNat) with h1 | h1 | h1
      · have := Nat.pow_lt_pow_right (a := 2) (by decide) h1; omega
      · exact h1
      · have := Nat.pow_lt_pow_right (a := 2) (by decide) h1; omega
    have hlev : (l.getD n deadN).1.toNat = (l.getD m deadN).1.toNat := by omega
    rw [← hlev] at hb
    exact bitsN_inj h _ n m hn hm (by omega) (by omega) hb
  · rintro rfl
    rfl
/-- the cells of four kids, with none cut off ahead of the end -/
theorem popTo_sum {l : List Nd} {k : Kd} (h : ∀ i, i < 4 → 0 ≤ (ndAt l (kd k i)).2.2) : popTo l k 4 = min ((ndAt l k.1).2.2 + (ndAt l k.2.1).2.2 + (ndAt l k.2.2.1).2.2 + (ndAt l k.2.2.2).2.2) 4611686018427387903 := by
  have h0 := h 0 (by decide)
  have h1 := h 1 (by decide)
  have h2 := h 2 (by decide)
  have h3 := h 3 (by decide)
  simp only [kd] at h0 h1 h2 h3
  unfold popTo popTo popTo popTo popTo
  simp only [kd]
  omega
/-- kids turned -/
def turnK (k : Kd) : Nat → Kd
  | 0 => k
  | n + 1 => let q := turnK k n; (q.2.1, q.2.2.1, q.2.2.2, q.1)
theorem turnK_sum (l : List Nd) (k : Kd) : ∀ n, (ndAt l (turnK k n).1).2.2 + (ndAt l (turnK k n).2.1).2.2 + (ndAt l (turnK k n).2.2.1).2.2 + (ndAt l (turnK k n).2.2.2).2.2 = (ndAt l k.1).2.2 + (ndAt l k.2.1).2.2 + (ndAt l k.2.2.1).2.2 + (ndAt l k.2.2.2).2.2 := by
  intro n
  induction n with
  | zero => rfl
  | succ n ih => rw [← ih]; simp only [turnK]; omega
theorem turnK_kd (k : Kd) : ∀ n i, i < 4 → ∃ j, j < 4 ∧ kd (turnK k n) i = kd k j := by
  intro n
  induction n with
  | zero => intro i hi; exact ⟨i, hi, rfl⟩
  | succ n ih =>
    intro i hi
    match i, hi with
    | 0, _ => exact ih 1 (by decide)
    | 1, _ => exact ih 2 (by decide)
    | 2, _ => exact ih 3 (by decide)
    | 3, _ => exact ih 0 (by decide)
theorem fit_turn {l : List Nd} {k : Kd} (h : Fit4 l k) (n : Nat) : Fit4 l (turnK k n) := by
  obtain ⟨j0, hj0, e0⟩ := turnK_kd k n 0 (by decide)
  have e : (ndAt l (turnK k n).1).1 = (ndAt l k.1).1 := by
    have : (turnK k n).1 = kd k j0 := e0
    rw [this]
    exact (h.kid j0 hj0).2.2
  refine ⟨fun i hi => ?_, by rw [e]; exact h.low⟩
  obtain ⟨j, hj, ej⟩ := turnK_kd k n i hi
  rw [ej, e]
  exact h.kid j hj
/-- the node that was put -/
theorem Put6.node {l m : List Nd} {room : Int} {k : Kd} {n : Nat} (h : Put6 l m room k n) (hf : Fit4 l k) : 2 ≤ n ∧ n < m.length ∧ (m.getD n deadN).2.1 = k ∧ (m.getD n deadN).1 = (ndAt l k.1).1 + 1 ∧ (m.getD n deadN).2.2 = popTo l k 4 := by
  obtain ⟨a1, a2, a3, _⟩ := at_some h.at_
  have hfn := fits_iff.1 (h.right.fits n a1 a2)
  have hk0 := hfn.kid 0 (by decide)
  rw [a3] at hk0
  have e0 : ndAt m k.1 = ndAt l k.1 := h.grows.nd (hf.kid 0 (by decide)).1 (hf.kid 0 (by decide)).2.1
  have ep : ∀ i, i ≤ 4 → popTo m k i = popTo l k i := by
    intro i
    induction i with
    | zero => intro _; rfl
    | succ i ih =>
      intro hi
      unfold popTo
      rw [ih (by omega), h.grows.nd (hf.kid i (by omega)).1 (hf.kid i (by omega)).2.1]
  refine ⟨a1, a2, a3, ?_, ?_⟩
  · have : (ndAt m k.1).1 = (m.getD n deadN).1 - 1 := hk0.2.2
    rw [e0] at this
    omega
  · rw [hfn.pop, a3, ep 4 (Nat.le_refl _)]

/-! ### nodes in which all is dead -/
/-- what Empty does, so many levels up -/
def emptyTo (l : List Nd) (room : Int) : Nat → List Nd × Int × Int
  | 0 => (l, 0, 0)
  | j + 1 => if (emptyTo l room j).2.2 = 0 then put6 (emptyTo l room j).1 room ((emptyTo l room j).2.1, (emptyTo l room j).2.1, (emptyTo l room j).2.1, (emptyTo l room j).2.1) else emptyTo l room j
def empty6 (l : List Nd) (room lev : Int) : List Nd × Int × Int :=
  if (right6 l room && decide (0 ≤ lev) && decide (lev ≤ 42)) = true then
    (if (emptyTo l room lev.toNat).2.2 = 0 then emptyTo l room lev.toNat else (l, 0, (emptyTo l room lev.toNat).2.2))
  else (l, 0, 1)
/-- a node is the dead one of its level -/
def Emp (l : List Nd) : Nat → Nat → Prop
  | 0, n => n = 0
  | j + 1, n => ∃ e : Nat, Emp l j e ∧ at6 l ((e : Int), (e : Int), (e : Int), (e : Int)) = some n
theorem emp_grows {l m : List Nd} (h : Grows l m) : ∀ j n, Emp l j n → Emp m j n := by
  intro j
  induction j with
  | zero => intro n hn; exact hn
  | succ j ih =>
    intro n hn
    obtain ⟨e, he, ha⟩ := hn
    exact ⟨e, ih e he, h.at_ ha⟩
theorem emp_one {l : List Nd} : ∀ j n m, Emp l j n → Emp l j m → n = m := by
  intro j
  induction j with
  | zero => intro n m hn hm; exact hn.trans hm.symm
  | succ j ih =>
    intro n m ⟨e, he, ha⟩ ⟨e', he', ha'⟩
    obtain rfl := ih e e' he he'
    rw [ha] at ha'
    exact Option.some.inj ha'
theorem emp_node {l : List Nd} {room : Int} (h : Right6 l room) : ∀ j n, Emp l j n → n < l.length ∧ (l.getD n deadN).1 = j ∧ (l.getD n deadN).2.2 = 0 := by
  intro j
  induction j with
  | zero =>
    intro n hn
    have h2 := h.two
    obtain rfl : n = 0 := hn
    rw [h.dead]
    exact ⟨by omega, rfl, rfl⟩
  | succ j ih =>
    intro n ⟨e, he, ha⟩
    obtain ⟨e1, e2, e3⟩ := ih e he
    obtain ⟨a1, a2, a3, _⟩ := at_some ha
    have hf := fits_iff.1 (h.fits n a1 a2)
    have hk := (hf.kid 0 (by decide)).2.2
    have hp := hf.pop
    rw [a3] at hk hp
    have ee : ndAt l (e : Int) = l.getD e deadN := ndAt_nat l e
    simp only [kd] at hk
    rw [ee, e2] at hk
    refine ⟨a2, by omega, ?_⟩
    rw [hp]
    unfold popTo popTo popTo popTo popTo
    simp only [kd]
    rw [ee, e3]
    decide
/-- so many levels up, where there is room -/
theorem empty_ok {l : List Nd} {room : Int} (h : Right6 l room) : ∀ j : Nat, j ≤ 42 → (l.length : Int) + j ≤ room → ∃ (m : List Nd) (n : Nat), emptyTo l room j = (m, (n : Int), 0) ∧ Grows l m ∧ Right6 m room ∧ Emp m j n ∧ m.length ≤ l.length + j := by
  intro j
  induction j with
  | zero => intro _ _; exact ⟨l, 0, rfl, Grows.refl l, h, rfl, Nat.le_refl _⟩
  | succ j ih =>
    intro hj hr
    obtain ⟨m, n, e, g, hm, he, hl⟩ := ih (by omega) (by omega)
    obtain ⟨n1, n2, n3⟩ := emp_node hm j n he
    have e4 : emptyTo l room (j + 1) = put6 m room ((n : Int), (n : Int), (n : Int), (n : Int)) := by
      show (if (emptyTo l room j).2.2 = 0 then _ else _) = _
      rw [e, if_pos rfl]
    have hfit : Fit4 m ((n : Int), (n : Int), (n : Int), (n : Int)) := by
      refine ⟨fun i hi => ?_, ?_⟩
      · have : kd ((n : Int), (n : Int), (n : Int), (n : Int)) i = (n : Int) := by
          match i, hi with
          | 0, _ => rfl
          | 1, _ => rfl
          | 2, _ => rfl
          | 3, _ => rfl
        rw [this]
        exact ⟨by omega, by omega, rfl⟩
      · show (ndAt m (n : Int)).1 + 1 ≤ 42
        rw [ndAt_nat, n2]
        omega
    rcases put_ok hm hfit with ⟨m', n', e', hp⟩ | ⟨_, hf, _⟩
    · refine ⟨m', n', by rw [e4, e'], g.trans hp.grows, hp.right, ⟨n, emp_grows hp.grows j n he, hp.at_⟩, ?_⟩
      have := hp.more
      omega
    · omega
/-- where they stand already nothing is put -/
theorem empty_had {l : List Nd} {room : Int} (h : Right6 l room) : ∀ j n, j ≤ 42 → Emp l j n → emptyTo l room j = (l, (n : Int), 0) := by
  intro j
  induction j with
  | zero => intro n _ hn; obtain rfl : n = 0 := hn; rfl
  | succ j ih =>
    intro n hj ⟨e, he, ha⟩
    have h1 := ih e (by omega) he
    obtain ⟨n1, n2, n3⟩ := emp_node h j e he
    have e4 : emptyTo l room (j + 1) = put6 l room ((e : Int), (e : Int), (e : Int), (e : Int)) := by
      show (if (emptyTo l room j).2.2 = 0 then _ else _) = _
      rw [h1, if_pos rfl]
    rw [e4]
    refine put_again ⟨fun i hi => ?_, ?_⟩ ha
    · have : kd ((e : Int), (e : Int), (e : Int), (e : Int)) i = (e : Int) := by
        match i, hi with
        | 0, _ => rfl
        | 1, _ => rfl
        | 2, _ => rfl
        | 3, _ => rfl
      rw [this]
      exact ⟨by omega, by omega, rfl⟩
    · show (ndAt l (e : Int)).1 + 1 ≤ 42
      rw [ndAt_nat, n2]
      omega
theorem emp_below {l : List Nd} : ∀ j n, Emp l j n → ∀ i, i ≤ j → ∃ e, Emp l i e := by
  intro j
  induction j with
  | zero =>
    intro n hn i hi
    obtain rfl : i = 0 := by omega
    exact ⟨n, hn⟩
  | succ j ih =>
    intro n hn i hi
    obtain ⟨e, he, ha⟩ := hn
    rcases Nat.lt_or_ge i (j + 1) with h | h
    · exact ih e he i (by omega)
    · obtain rfl : i = j + 1 := by omega
      exact ⟨n, e, he, ha⟩
end Go.Proofs.Ytkneecdpkdnjfaa
