/-
  Texts that the claims of this seat share, part 0.
-/
import Derived.Lib.ItoaMem
import GoSem.Op.String
import Derived.KernelRfl
set_option linter.unusedVariables false
set_option linter.unusedSimpArgs false
namespace Go.Proofs.YtacpncmdgkljdaaGreatDoor
open Go.Lib

/-! ### texts -/
def dv (c : UInt8) : Nat := c.toNat - 48
def digB (c : UInt8) : Bool := decide (48 ≤ c.toNat) && decide (c.toNat ≤ 57)
theorem digB_iff (c : UInt8) : digB c = true ↔ 48 ≤ c.toNat ∧ c.toNat ≤ 57 := by unfold digB; simp
theorem dv_le {c : UInt8} (h : digB c = true) : dv c ≤ 9 := by have := (digB_iff c).1 h; unfold dv; omega
def val (l : List UInt8) : Nat := l.foldl (fun n c => 10 * n + dv c) 0
theorem val_snoc (l : List UInt8) (c : UInt8) : val (l ++ [c]) = 10 * val l + dv c := by unfold val; rw [List.foldl_append]; rfl
theorem foldl_val (l : List UInt8) (a : Nat) : l.foldl (fun n c => 10 * n + dv c) a = a * 10 ^ l.length + val l := by
  induction l generalizing a with
  | nil => simp [val]
  | cons c l ih =>
    unfold val
    simp only [List.foldl_cons, List.length_cons]
    rw [ih, ih (10 * 0 + dv c), Nat.pow_succ]
    grind
theorem val_cons (c : UInt8) (l : List UInt8) : val (c :: l) = dv c * 10 ^ l.length + val l := by
  have := foldl_val l (10 * 0 + dv c)
  simpa [val] using this
theorem val_lt {l : List UInt8} (h : ∀ c ∈ l, digB c = true) : val l < 10 ^ l.length := by
  induction l with
  | nil => simp [val]
  | cons c l ih =>
    rw [val_cons, List.length_cons, Nat.pow_succ]
    have h1 := ih fun d hd => h d (List.mem_cons_of_mem _ hd)
    have h2 := dv_le (h c List.mem_cons_self)
    have h3 : dv c * 10 ^ l.length ≤ 9 * 10 ^ l.length := Nat.mul_le_mul_right _ h2
    omega

/-- a 0 that others follow -/
def zeroB (l : List UInt8) : Bool := decide (1 < l.length) && (l.getD 0 0 == 48)
def badL (l : List UInt8) : Bool := l.isEmpty || zeroB l || !l.all digB
def parseL (l : List UInt8) : Int × Int := if badL l = true then (0, 20) else if 4611686018427387903 < val l then (0, 21) else (val l, 0)
theorem badL_iff (l : List UInt8) : badL l = false ↔ l ≠ [] ∧ zeroB l = false ∧ ∀ c ∈ l, digB c = true := by
  unfold badL
  simp [List.all_eq_true, and_assoc]

theorem ofNat_to (u : Nat) (h : u < 10) : (UInt8.ofNat (48 + u)).toNat = 48 + u := by simp; omega
theorem dig_of (u : Nat) (h : u < 10) : digB (UInt8.ofNat (48 + u)) = true ∧ dv (UInt8.ofNat (48 + u)) = u := by
  rw [digB_iff]
  unfold dv
  rw [ofNat_to u h]
  omega
theorem dec_small {u : Nat} (h : u < 10) : decDigits u = [UInt8.ofNat (48 + u)] := decDigits_one h
theorem dec_big {u : Nat} (h : ¬ u < 10) : decDigits u = decDigits (u / 10) ++ [UInt8.ofNat (48 + u % 10)] := by rw [decDigits, dif_neg h]
theorem dec_dig (u : Nat) : ∀ c ∈ decDigits u, digB c = true := by
  induction u using Nat.strongRecOn with
  | _ u ih =>
    by_cases h : u < 10
    · rw [dec_small h]; intro c hc; simp at hc; subst hc; have := (dig_of u h).1; simpa using this
    · rw [dec_big h]
      intro c hc
      rcases List.mem_append.1 hc with h1 | h1
      · exact ih (u / 10) (by omega) c h1
      · rw [List.mem_singleton.1 h1]; exact (dig_of (u % 10) (by omega)).1
theorem dec_val (u : Nat) : val (decDigits u) = u := by
  induction u using Nat.strongRecOn with
  | _ u ih =>
    by_cases h : u < 10
    · rw [dec_small h]; have := (dig_of u h).2; simp only [val, List.foldl_cons, List.foldl_nil]; omega
    · rw [dec_big h, val_snoc, ih (u / 10) (by omega), (dig_of (u % 10) (by omega)).2]; omega
theorem dec_pos (u : Nat) : 0 < (decDigits u).length := by rw [decDigits_length]; exact nDigits_pos u
theorem dec_head (u : Nat) (h1 : 1 ≤ u) : (decDigits u).getD 0 0 ≠ 48 := by
  induction u using Nat.strongRecOn with
  | _ u ih =>
    by_cases h : u < 10
    · rw [dec_small h]
      intro e
      have e2 := congrArg UInt8.toNat e
      rw [List.getD_cons_zero, ofNat_to u h] at e2
      have : (48 : UInt8).toNat = 48 := rfl
      omega
    · rw [dec_big h]
      have hp := dec_pos (u / 10)
      rw [List.getD_eq_getElem?_getD, List.getElem?_append_left hp, ← List.getD_eq_getElem?_getD]
      exact ih (u / 10) (by omega) (by omega)
theorem dec_zero (u : Nat) : zeroB (decDigits u) = false := by
  unfold zeroB
  by_cases h : u < 10
  · rw [dec_small h]; simp
  · have := dec_head u (by omega)
    simp only [Bool.and_eq_false_iff]
    right
    simpa using this
theorem dec_good (u : Nat) : badL (decDigits u) = false := (badL_iff _).2 ⟨fun e => by have := dec_pos u; rw [e] at this; simp at this, dec_zero u, dec_dig u⟩
theorem parse_dec {u : Nat} (h : u ≤ 4611686018427387903) : parseL (decDigits u) = ((u : Int), 0) := by
  unfold parseL
  rw [dec_good, dec_val]
  simp
  omega
theorem dec_of_val : ∀ (n : Nat) (l : List UInt8), l.length = n → badL l = false → decDigits (val l) = l := by
  intro n
  induction n with
  | zero => intro l hl h; exact absurd (List.eq_nil_of_length_eq_zero hl) ((badL_iff l).1 h).1
  | succ n ih =>
    intro l hl h
    obtain ⟨hne, hz, hd⟩ := (badL_iff l).1 h
    obtain ⟨m, c, rfl⟩ : ∃ m c, l = m ++ [c] := ⟨l.dropLast, l.getLast hne, (List.dropLast_concat_getLast hne).symm⟩
    have hc := hd c (by simp)
    have hc9 := dv_le hc
    have hcc : UInt8.ofNat (48 + dv c) = c := by
      have := (digB_iff c).1 hc
      unfold dv
      rw [show 48 + (c.toNat - 48) = c.toNat by omega]
      simp
    by_cases hm : m = []
    · subst hm
      have e : val ([] ++ [c]) = dv c := by rw [val_snoc]; simp [val]
      rw [e, dec_small (by omega), hcc]
      rfl
    · have hml : 0 < m.length := List.length_pos_iff.2 hm
      have hh : (m ++ [c]).getD 0 0 = m.getD 0 0 := by rw [List.getD_eq_getElem?_getD, List.getElem?_append_left hml, ← List.getD_eq_getElem?_getD]
      have h48 : m.getD 0 0 ≠ 48 := by
        intro e
        unfold zeroB at hz
        rw [hh, e] at hz
        simp at hz
        exact hm hz
      have hgm : badL m = false := (badL_iff m).2 ⟨hm, by
        unfold zeroB
        simp only [Bool.and_eq_false_iff]
        right
        simpa using h48, fun d hdm => hd d (by simp [hdm])⟩
      have hi := ih m (by simp at hl; omega) hgm
      have h1 : 1 ≤ val m := by
        rcases Nat.eq_zero_or_pos (val m) with e | e
        · rw [e, dec_small (by omega)] at hi
          exact absurd (by rw [← hi]; rfl) h48
        · exact e
      rw [val_snoc, dec_big (by omega), show (10 * val m + dv c) / 10 = val m by omega, show (10 * val m + dv c) % 10 = dv c by omega, hi, hcc]
theorem dec_back {l : List UInt8} (h : badL l = false) : decDigits (val l) = l := dec_of_val _ l rfl h
theorem nd_le (u : Nat) (h : 1 ≤ u) : 10 ^ nDigits u ≤ 10 * u := by
  induction u using Nat.strongRecOn with
  | _ u ih =>
    by_cases h10 : u < 10
    · rw [nDigits_small h10]; omega
    · rw [nDigits_big h10, Nat.pow_succ]
      have := ih (u / 10) (by omega) (by omega)
      omega
theorem nd_max {u : Nat} (h : u ≤ 4611686018427387903) : nDigits u ≤ 19 := by
  rcases Nat.eq_zero_or_pos u with rfl | hp
  · rw [nDigits_small (by omega)]; omega
  · have := nd_le u hp
    rcases Nat.lt_or_ge 19 (nDigits u) with h1 | h1
    · have h2 := Nat.pow_le_pow_right (n := 10) (by decide) h1
      have h3 : (10 : Nat) ^ (19 + 1) = 100000000000000000000 := by decide
      have h4 : (10 : Nat) ^ Nat.succ 19 = 100000000000000000000 := by decide
      omega
    · exact h1
theorem nd_min {u : Nat} (h : 4611686018427387903 < u) : 19 ≤ nDigits u := by
  have := lt_pow_nDigits u
  rcases Nat.lt_or_ge (nDigits u) 19 with h1 | h1
  · have h2 := Nat.pow_le_pow_right (n := 10) (by decide) (show nDigits u ≤ 18 by omega)
    have h3 : (10 : Nat) ^ 18 = 1000000000000000000 := by decide
    omega
  · exact h1
theorem long_big {l : List UInt8} (h : badL l = false) (hl : 19 < l.length) : 4611686018427387903 < val l := by
  rcases Nat.lt_or_ge 4611686018427387903 (val l) with h1 | h1
  · exact h1
  · have := nd_max h1
    rw [← decDigits_length, dec_back h] at this
    omega
theorem big_long {l : List UInt8} (h : badL l = false) (hv : 4611686018427387903 < val l) : 19 ≤ l.length := by
  have := nd_min hv
  rwa [← decDigits_length, dec_back h] at this
theorem val_mono {l : List UInt8} (k : Nat) : val (l.take k) ≤ val l := by
  have h : ∀ (m : List UInt8) (a : Nat), a ≤ m.foldl (fun n c => 10 * n + dv c) a := by
    intro m
    induction m with
    | nil => intro a; exact Nat.le_refl _
    | cons c m ih => intro a; exact Nat.le_trans (by omega) (ih (10 * a + dv c))
  have e : l = l.take k ++ l.drop k := (List.take_append_drop k l).symm
  conv => rhs; rw [e]
  unfold val
  rw [List.foldl_append]
  exact h _ _

/-! ### the order of texts -/
theorem less_val : ∀ (l m : List UInt8), l.length = m.length → (∀ c ∈ l, digB c = true) → (∀ c ∈ m, digB c = true) → Op.bytesLess l m = decide (val l < val m)
  | [], [], _, _, _ => by simp [Op.bytesLess]
  | [], _ :: _, h, _, _ => by simp at h
  | _ :: _, [], h, _, _ => by simp at h
  | a :: l, b :: m, h, hl, hm => by
    have hlen : l.length = m.length := by simpa using h
    have ih := less_val l m hlen (fun c hc => hl c (List.mem_cons_of_mem _ hc)) (fun c hc => hm c (List.mem_cons_of_mem _ hc))
    have v1 := val_lt (l := l) (fun c hc => hl c (List.mem_cons_of_mem _ hc))
    have v2 := val_lt (l := m) (fun c hc => hm c (List.mem_cons_of_mem _ hc))
    have d1 := (digB_iff a).1 (hl a List.mem_cons_self)
    have d2 := (digB_iff b).1 (hm b List.mem_cons_self)
    have ea : dv a = a.toNat - 48 := rfl
    have eb : dv b = b.toNat - 48 := rfl
    rw [Op.bytesLess, ih, val_cons, val_cons, hlen]
    rw [hlen] at v1
    generalize val l = x at *
    generalize val m = y at *
    generalize 10 ^ m.length = p at *
    rw [Bool.eq_iff_iff]
    simp only [Bool.or_eq_true, Bool.and_eq_true, decide_eq_true_eq, beq_iff_eq, UInt8.lt_iff_toNat_lt, ← UInt8.toNat_inj]
    rcases Nat.lt_trichotomy a.toNat b.toNat with h1 | h1 | h1
    · have h2 : dv a * p + p ≤ dv b * p := by
        have : (dv a + 1) * p ≤ dv b * p := Nat.mul_le_mul_right p (by omega)
        rwa [Nat.add_mul, Nat.one_mul] at this
      omega
    · rw [ea, eb, h1]; omega
    · have h2 : dv b * p + p ≤ dv a * p := by
        have : (dv b + 1) * p ≤ dv a * p := Nat.mul_le_mul_right p (by omega)
        rwa [Nat.add_mul, Nat.one_mul] at this
      omega
theorem dec_order (x y : Nat) : decide (x < y) = (decide ((decDigits x).length < (decDigits y).length) || (decide ((decDigits x).length = (decDigits y).length) && Op.bytesLess (decDigits x) (decDigits y))) := by
  have key : ∀ x y : Nat, (decDigits x).length < (decDigits y).length → x < y := by
    intro x y h
    rw [decDigits_length, decDigits_length] at h
    have h1 := lt_pow_nDigits x
    have h0 := nDigits_pos x
    have h2 := nd_le y (by
      rcases Nat.eq_zero_or_pos y with rfl | hp
      · rw [nDigits_small (u := 0) (by decide)] at h; have := nDigits_pos x; omega
      · exact hp)
    have h3 := Nat.pow_le_pow_right (n := 10) (by decide) h
    rw [Nat.pow_succ] at h3
    omega
  rcases Nat.lt_trichotomy (decDigits x).length (decDigits y).length with h | h | h
  · have := key x y h
    simp [this, h]
  · rw [less_val _ _ h (dec_dig x) (dec_dig y), dec_val, dec_val]
    simp [h]
  · have := key y x h
    have h1 : ¬ x < y := by omega
    have h2 : ¬ (decDigits x).length < (decDigits y).length := by omega
    have h3 : ¬ (decDigits x).length = (decDigits y).length := by omega
    simp [h1, h2, h3]
theorem dec_inj {x y : Nat} (h : decDigits x = decDigits y) : x = y := by rw [← dec_val x, h, dec_val]

def txtL (n : Int) : List UInt8 := if 0 ≤ n ∧ n ≤ 4611686018427387903 then decDigits n.toNat else []
theorem txtL_nat {u : Nat} (h : u ≤ 4611686018427387903) : txtL (u : Int) = decDigits u := by unfold txtL; rw [if_pos (by omega)]; simp
theorem txtL_len (n : Int) : (txtL n).length ≤ 19 := by
  unfold txtL
  split
  · rw [decDigits_length]; exact nd_max (by omega)
  · simp

/-! ### exponents -/
def bitsTo (n k : Nat) : List Int := ((List.range k).filter fun i => n.testBit i).map fun i : Nat => (i : Int)
theorem bitsTo_succ (n k : Nat) : bitsTo n (k + 1) = bitsTo n k ++ if n.testBit k = true then [(k : Int)] else [] := by
  unfold bitsTo
  rw [List.range_succ, List.filter_append, List.map_append]
  congr 1
  by_cases h : n.testBit k = true <;> simp [h]
theorem bitsTo_len (n k : Nat) : (bitsTo n k).length ≤ k := by
  unfold bitsTo
  rw [List.length_map]
  exact Nat.le_trans (List.length_filter_le _ _) (by simp)
theorem bitsTo_bd (n k : Nat) : ∀ e ∈ bitsTo n k, 0 ≤ e ∧ e < k := by
  intro e he
  unfold bitsTo at he
  obtain ⟨i, hi, rfl⟩ := List.mem_map.1 he
  have := List.mem_range.1 (List.mem_filter.1 hi).1
  omega
theorem bitsTo_rises (n k : Nat) : (bitsTo n k).Pairwise (· < ·) := by
  unfold bitsTo
  rw [List.pairwise_map]
  refine List.Pairwise.imp ?_ (List.Pairwise.filter _ (List.pairwise_lt_range (n := k)))
  intro a b h
  omega
def bitsL (n : Int) : List Int := if 0 ≤ n ∧ n ≤ 4611686018427387903 then bitsTo n.toNat 62 else []
theorem bitsL_nat {u : Nat} (h : u ≤ 4611686018427387903) : bitsL (u : Int) = bitsTo u 62 := by unfold bitsL; rw [if_pos (by omega)]; simp
theorem bitsL_len (n : Int) : (bitsL n).length ≤ 62 := by
  unfold bitsL
  split
  · exact bitsTo_len _ _
  · simp
theorem bitsL_bd (n : Int) : ∀ e ∈ bitsL n, 0 ≤ e ∧ e ≤ 61 := by
  intro e he
  unfold bitsL at he
  split at he
  · have := bitsTo_bd _ _ e he; omega
  · simp at he
theorem bitsL_rises (n : Int) : (bitsL n).Pairwise (· < ·) := by
  unfold bitsL
  split
  · exact bitsTo_rises _ _
  · exact List.Pairwise.nil

def total (l : List Int) : Nat := (l.map fun e => 2 ^ e.toNat).sum
theorem total_nil : total [] = 0 := rfl
theorem total_append (l m : List Int) : total (l ++ m) = total l + total m := by unfold total; rw [List.map_append, List.sum_append]
theorem total_one (e : Int) : total [e] = 2 ^ e.toNat := by simp [total]
theorem total_take_succ {l : List Int} {k : Nat} (h : k < l.length) : total (l.take (k + 1)) = total (l.take k) + 2 ^ (l.getD k 0).toNat := by
  rw [List.take_succ_eq_append_getElem h, total_append, total_one, List.getD_eq_getElem?_getD, List.getElem?_eq_getElem h, Option.getD_some]
theorem total_take_le (l : List Int) (k : Nat) : total (l.take k) ≤ total l := by
  conv => rhs; rw [← List.take_append_drop k l]
  rw [total_append]
  omega
theorem total_up {l : List Int} (h : ∀ e ∈ l, 0 ≤ e) : total (l.map (· + 1)) = 2 * total l := by
  induction l with
  | nil => rfl
  | cons e l ih =>
    have h0 := h e List.mem_cons_self
    have hi := ih fun d hd => h d (List.mem_cons_of_mem _ hd)
    unfold total at *
    simp only [List.map_cons, List.sum_cons]
    rw [hi, show (e + 1).toNat = e.toNat + 1 by omega, Nat.pow_succ]
    omega
theorem total_bits (n k : Nat) : total (bitsTo n k) = n % 2 ^ k := by
  induction k with
  | zero => simp [bitsTo, total, Nat.mod_one]
  | succ k ih =>
    rw [bitsTo_succ, total_append, ih, Nat.pow_succ, Nat.mod_mul]
    congr 1
    rw [Nat.testBit_eq_decide_div_mod_eq]
    by_cases h : n / 2 ^ k % 2 = 1
    · simp [h, total]
    · have : n / 2 ^ k % 2 = 0 := by omega
      simp [this, total]
theorem total_bitsL {u : Nat} (h : u ≤ 4611686018427387903) : total (bitsL (u : Int)) = u := by
  rw [bitsL_nat h, total_bits]
  exact Nat.mod_eq_of_lt (by have : (2 : Nat) ^ 62 = 4611686018427387904 := by decide
                             omega)
def awayB (l : List Int) : Bool := l.any fun e => decide (e < 0) || decide (61 < e)
theorem awayB_no {l : List Int} (h : ∀ e ∈ l, 0 ≤ e ∧ e ≤ 61) : awayB l = false := by
  unfold awayB
  rw [List.any_eq_false]
  intro e he
  have := h e he
  simp
  omega
def sumL (l : List Int) : Int × Int := if awayB l = true then (0, 1) else if 4611686018427387903 < total l then (0, 21) else (total l, 0)
theorem sumL_ok {l : List Int} (h : ∀ e ∈ l, 0 ≤ e ∧ e ≤ 61) (ht : total l ≤ 4611686018427387903) : sumL l = ((total l : Int), 0) := by
  unfold sumL
  rw [awayB_no h, if_neg (by decide), if_neg (by omega)]
theorem sumL_bits {u : Nat} (h : u ≤ 4611686018427387903) : sumL (bitsL (u : Int)) = ((u : Int), 0) := by
  have := sumL_ok (bitsL_bd (u : Int)) (by rw [total_bitsL h]; exact h)
  rwa [total_bitsL h] at this

theorem bits_twice {x : Nat} (h : x < 1152921504606846976) : bitsTo (2 * x) 62 = (bitsTo x 62).map (· + 1) := by
  have h61 : x.testBit 61 = false := Nat.testBit_lt_two_pow (by have : (2 : Nat) ^ 61 = 2305843009213693952 := by decide
                                                                omega)
  have e1 : bitsTo x 62 = bitsTo x 61 := by rw [bitsTo_succ]; simp [h61]
  rw [e1]
  unfold bitsTo
  rw [List.range_succ_eq_map, List.filter_cons]
  have h0 : (2 * x).testBit 0 = false := by simp
  rw [if_neg (by rw [h0]; decide), List.filter_map, List.map_map, List.map_map]
  have e2 : ((fun i => (2 * x).testBit i) ∘ Nat.succ) = fun i => x.testBit i := by
    funext i
    simp only [Function.comp_apply]
    rw [Nat.testBit_succ, show 2 * x / 2 = x by omega]
  rw [e2]
  refine List.map_congr_left fun i _ => ?_
  simp
theorem bits_twice1 {x : Nat} (h : x < 1152921504606846976) : bitsTo (2 * x + 1) 62 = 0 :: (bitsTo x 62).map (· + 1) := by
  have h61 : x.testBit 61 = false := Nat.testBit_lt_two_pow (by have : (2 : Nat) ^ 61 = 2305843009213693952 := by decide
                                                                omega)
  have e1 : bitsTo x 62 = bitsTo x 61 := by rw [bitsTo_succ]; simp [h61]
  rw [e1]
  unfold bitsTo
  rw [List.range_succ_eq_map, List.filter_cons]
  have h0 : (2 * x + 1).testBit 0 = true := by simp
  rw [if_pos h0, List.filter_map, List.map_cons, List.map_map, List.map_map]
  have e2 : ((fun i => (2 * x + 1).testBit i) ∘ Nat.succ) = fun i => x.testBit i := by
    funext i
    simp only [Function.comp_apply]
    rw [Nat.testBit_succ, show (2 * x + 1) / 2 = x by omega]
  rw [e2]
  rfl

end Go.Proofs.YtacpncmdgkljdaaGreatDoor
namespace Go.Proofs.YtacpncmdgkljdaaGreatDoor
open Go.Lib

def tagB (c : UInt8) : Bool := c == 98 || c == 111 || c == 36
def blankB (c : UInt8) : Bool := c == 32 || c == 9 || c == 10 || c == 13
/-- an item: its tag, its number, its place -/
abbrev Itm := UInt8 × Nat × Nat
/-- how many digits a list begins with -/
def digs (l : List UInt8) : Nat := (l.takeWhile digB).length
theorem digs_le (l : List UInt8) : digs l ≤ l.length := (List.takeWhile_sublist _).length_le
theorem take_digs (l : List UInt8) : l.take (digs l) = l.takeWhile digB := by
  have h := List.takeWhile_append_dropWhile (p := digB) (l := l)
  unfold digs
  generalize l.takeWhile digB = a at *
  generalize l.dropWhile digB = b at *
  subst h
  simp
theorem drop_digs (l : List UInt8) : l.drop (digs l) = l.dropWhile digB := by
  have h := List.takeWhile_append_dropWhile (p := digB) (l := l)
  unfold digs
  generalize l.takeWhile digB = a at *
  generalize l.dropWhile digB = b at *
  subst h
  simp

/-- What a text comes to from place p on, behind the items acc: the items, the error, the place. -/
def lexN : Nat → List UInt8 → Nat → List Itm → List Itm × Int × Nat
  | 0, _, p, _ => ([], 31, p)
  | _ + 1, [], p, _ => ([], 31, p)
  | f + 1, c :: r, p, acc =>
    if blankB c = true then lexN f r (p + 1) acc
    else if c = 33 then (acc, 0, p)
    else match (c :: r).drop (digs (c :: r)) with
      | [] => ([], 30, p)
      | t :: q =>
        if tagB t = false ∨ c = 48 then ([], 30, p)
        else if digs (c :: r) = 0 then lexN f q (p + 1) (acc ++ [(t, 1, p)])
        else if 1099511627776 < val ((c :: r).take (digs (c :: r))) then ([], 2, p)
        else lexN f q (p + digs (c :: r) + 1) (acc ++ [(t, val ((c :: r).take (digs (c :: r))), p)])

theorem lexN_fuel : ∀ (f g : Nat) (l : List UInt8) (p : Nat) (acc : List Itm), l.length ≤ f → l.length ≤ g → lexN f l p acc = lexN g l p acc := by
  intro f
  induction f with
  | zero =>
    intro g l p acc hf hg
    have : l = [] := List.eq_nil_of_length_eq_zero (by omega)
    subst this
    cases g <;> rfl
  | succ f ih =>
    intro g l p acc hf hg
    cases l with
    | nil => cases g <;> rfl
    | cons c r =>
      cases g with
      | zero => simp at hg
      | succ g =>
        simp only [List.length_cons] at hf hg
        have hd := List.length_drop (i := digs (c :: r)) (l := c :: r)
        unfold lexN
        split
        · exact ih _ _ _ _ (by omega) (by omega)
        · split
          · rfl
          · split
            · rfl
            · rename_i t q hq
              rw [hq] at hd
              simp only [List.length_cons] at hd
              split
              · rfl
              · split
                · exact ih _ _ _ _ (by omega) (by omega)
                · split
                  · rfl
                  · exact ih _ _ _ _ (by omega) (by omega)
def lexL (l : List UInt8) (p : Nat) (acc : List Itm) : List Itm × Int × Nat := lexN l.length l p acc

theorem lex_nil (p : Nat) (acc : List Itm) : lexL [] p acc = ([], 31, p) := rfl
theorem lex_blank {c : UInt8} {r : List UInt8} (h : blankB c = true) (p : Nat) (acc : List Itm) : lexL (c :: r) p acc = lexL r (p + 1) acc := by
  unfold lexL
  rw [List.length_cons, lexN, if_pos h]
theorem lex_end {r : List UInt8} (p : Nat) (acc : List Itm) : lexL (33 :: r) p acc = (acc, 0, p) := by
  unfold lexL
  rw [List.length_cons, lexN, if_neg (by decide), if_pos rfl]
theorem lex_none {c : UInt8} {r : List UInt8} (h : blankB c = false) (he : c ≠ 33) (hd : (c :: r).drop (digs (c :: r)) = []) (p : Nat) (acc : List Itm) : lexL (c :: r) p acc = ([], 30, p) := by
  unfold lexL
  rw [List.length_cons, lexN, if_neg (by rw [h]; decide), if_neg he, hd]
theorem lex_off {c t : UInt8} {r q : List UInt8} (h : blankB c = false) (he : c ≠ 33) (hd : (c :: r).drop (digs (c :: r)) = t :: q) (ho : tagB t = false ∨ c = 48) (p : Nat) (acc : List Itm) : lexL (c :: r) p acc = ([], 30, p) := by
  unfold lexL
  rw [List.length_cons, lexN, if_neg (by rw [h]; decide), if_neg he, hd]
  simp only
  rw [if_pos ho]
theorem lex_big {c t : UInt8} {r q : List UInt8} (h : blankB c = false) (he : c ≠ 33) (hd : (c :: r).drop (digs (c :: r)) = t :: q) (ht : tagB t = true) (hc : c ≠ 48) (hk : digs (c :: r) ≠ 0) (hv : 1099511627776 < val ((c :: r).take (digs (c :: r)))) (p : Nat) (acc : List Itm) : lexL (c :: r) p acc = ([], 2, p) := by
  unfold lexL
  rw [List.length_cons, lexN, if_neg (by rw [h]; decide), if_neg he, hd]
  simp only
  rw [if_neg (by rw [ht]; simp [hc]), if_neg hk, if_pos hv]
theorem lex_tag {t : UInt8} {q : List UInt8} (ht : tagB t = true) (p : Nat) (acc : List Itm) : lexL (t :: q) p acc = lexL q (p + 1) (acc ++ [(t, 1, p)]) := by
  have h3 : t = 98 ∨ t = 111 ∨ t = 36 := by
    unfold tagB at ht
    simpa [or_assoc] using ht
  have hd : digs (t :: q) = 0 := by rcases h3 with rfl | rfl | rfl <;> rfl
  have hb : blankB t = false := by rcases h3 with rfl | rfl | rfl <;> rfl
  have he : t ≠ 33 := by rcases h3 with rfl | rfl | rfl <;> decide
  have hz : t ≠ 48 := by rcases h3 with rfl | rfl | rfl <;> decide
  unfold lexL
  rw [List.length_cons, lexN, if_neg (by rw [hb]; decide), if_neg he, hd]
  simp only [List.drop_zero]
  rw [if_neg (by rw [ht]; simp [hz]), if_pos trivial]
theorem lex_num {c t : UInt8} {r q : List UInt8} (h : blankB c = false) (he : c ≠ 33) (hd : (c :: r).drop (digs (c :: r)) = t :: q) (ht : tagB t = true) (hc : c ≠ 48) (hk : digs (c :: r) ≠ 0) (hv : val ((c :: r).take (digs (c :: r))) ≤ 1099511627776) (p : Nat) (acc : List Itm) :
    lexL (c :: r) p acc = lexL q (p + digs (c :: r) + 1) (acc ++ [(t, val ((c :: r).take (digs (c :: r))), p)]) := by
  have hl := List.length_drop (i := digs (c :: r)) (l := c :: r)
  rw [hd] at hl
  simp only [List.length_cons] at hl
  unfold lexL
  rw [List.length_cons, lexN, if_neg (by rw [h]; decide), if_neg he, hd]
  simp only
  rw [if_neg (by rw [ht]; simp [hc]), if_neg hk, if_neg (by omega)]
  exact lexN_fuel _ _ _ _ _ (by omega) (Nat.le_refl _)

/-! ### items told as texts -/
def goodI (x : Itm) : Bool := tagB x.1 && decide (1 ≤ x.2.1) && decide (x.2.1 ≤ 1099511627776)
def numL (n : Nat) : List UInt8 := if n = 1 then [] else decDigits n
def itemL (x : Itm) : List UInt8 := if goodI x = true then numL x.2.1 ++ [x.1] else []
def textL (l : List Itm) : List UInt8 := l.flatMap itemL
theorem textL_append (l m : List Itm) : textL (l ++ m) = textL l ++ textL m := by unfold textL; simp
theorem goodI_iff (x : Itm) : goodI x = true ↔ tagB x.1 = true ∧ 1 ≤ x.2.1 ∧ x.2.1 ≤ 1099511627776 := by unfold goodI; simp [and_assoc]

theorem tag_dig {t : UInt8} (h : tagB t = true) : digB t = false := by
  have h3 : t = 98 ∨ t = 111 ∨ t = 36 := by
    unfold tagB at h
    simpa [or_assoc] using h
  rcases h3 with rfl | rfl | rfl <;> rfl
theorem digs_num {d : List UInt8} {t : UInt8} {q : List UInt8} (hd : ∀ c ∈ d, digB c = true) (ht : digB t = false) : digs (d ++ t :: q) = d.length := by
  unfold digs
  rw [List.takeWhile_append_of_pos hd, List.takeWhile_cons, ht]
  simp
theorem dig_plain {c : UInt8} (h : digB c = true) : blankB c = false ∧ c ≠ 33 := by
  have h2 := (digB_iff c).1 h
  refine ⟨?_, fun e => by subst e; exact absurd h (by decide)⟩
  cases hb : blankB c with
  | false => rfl
  | true =>
    exfalso
    unfold blankB at hb
    simp only [Bool.or_eq_true, beq_iff_eq] at hb
    rcases hb with ((rfl | rfl) | rfl) | rfl <;> exact absurd h (by decide)

/-- One item's text is read as the item, at its place. -/
theorem lex_item {x : Itm} (h : goodI x = true) (q : List UInt8) (p : Nat) (acc : List Itm) : lexL (itemL x ++ q) p acc = lexL q (p + (itemL x).length) (acc ++ [(x.1, x.2.1, p)]) := by
  obtain ⟨t, n, a⟩ := x
  obtain ⟨ht, h1, h2⟩ := (goodI_iff _).1 h
  simp only at ht h1 h2
  unfold itemL
  rw [if_pos h]
  simp only
  unfold numL
  by_cases hn : n = 1
  · subst hn
    rw [if_pos rfl]
    exact lex_tag ht p acc
  · rw [if_neg hn, List.append_assoc]
    have hdg := dec_dig n
    have hhd := dec_head n (by omega)
    have hvl := dec_val n
    obtain ⟨c, r, hcr⟩ : ∃ c r, decDigits n = c :: r := by
      cases hc : decDigits n with
      | nil => have := dec_pos n; rw [hc] at this; simp at this
      | cons c r => exact ⟨c, r, rfl⟩
    rw [hcr] at hdg hhd hvl ⊢
    have hk : digs ((c :: r) ++ ([t] ++ q)) = (c :: r).length := digs_num hdg (tag_dig ht)
    have hc := dig_plain (hdg c List.mem_cons_self)
    have e : (c :: r) ++ ([t] ++ q) = c :: (r ++ ([t] ++ q)) := rfl
    rw [e] at hk ⊢
    have htake : (c :: (r ++ ([t] ++ q))).take (digs (c :: (r ++ ([t] ++ q)))) = c :: r := by
      rw [hk]; simp
    have hdrop : (c :: (r ++ ([t] ++ q))).drop (digs (c :: (r ++ ([t] ++ q)))) = t :: q := by
      rw [hk]; simp
    rw [lex_num hc.1 hc.2 hdrop ht (by intro e; exact hhd (by rw [e]; rfl)) (by rw [hk]; simp) (by rw [htake, hvl]; exact h2), htake, hvl, hk]
    simp [Nat.add_assoc]
theorem lex_text (l : List Itm) (h : ∀ x ∈ l, goodI x = true) (q : List UInt8) (p : Nat) (acc : List Itm) :
    ∃ m : List Itm, m.length = l.length ∧ (∀ j, j < l.length → (m.getD j default).1 = (l.getD j default).1 ∧ (m.getD j default).2.1 = (l.getD j default).2.1 ∧ (m.getD j default).2.2 = p + (textL (l.take j)).length) ∧ lexL (textL l ++ q) p acc = lexL q (p + (textL l).length) (acc ++ m) := by
  induction l generalizing p acc with
  | nil => exact ⟨[], rfl, fun j hj => by simp at hj, by simp [textL]⟩
  | cons x l ih =>
    obtain ⟨m, hm, hj, he⟩ := ih (fun y hy => h y (List.mem_cons_of_mem _ hy)) (p + (itemL x).length) (acc ++ [(x.1, x.2.1, p)])
    refine ⟨(x.1, x.2.1, p) :: m, by simp [hm], fun j hjl => ?_, ?_⟩
    · cases j with
      | zero => simp [textL]
      | succ j =>
        have := hj j (by simpa using hjl)
        simpa [textL, Nat.add_assoc] using this
    · have e : textL (x :: l) ++ q = itemL x ++ (textL l ++ q) := by simp [textL]
      rw [e, lex_item (h x List.mem_cons_self), he]
      simp [textL, Nat.add_assoc]

theorem val_pos {c : UInt8} {r : List UInt8} (hc : digB c = true) (h48 : c ≠ 48) : 1 ≤ val (c :: r) := by
  have h := (digB_iff c).1 hc
  have hne : c.toNat ≠ 48 := fun e => h48 (UInt8.toNat_inj.1 e)
  have h1 : 1 ≤ dv c := by unfold dv; omega
  have h2 : 0 < 10 ^ r.length := Nat.pow_pos (by decide)
  rw [val_cons]
  have := Nat.mul_le_mul h1 h2
  omega

/-- What is known of whatever comes out. -/
def Shaped (l : List UInt8) (p : Nat) (acc : List Itm) (r : List Itm × Int × Nat) : Prop :=
  (r.2.1 = 0 → ∃ m : List Itm, r.1 = acc ++ m ∧ (∀ x ∈ m, goodI x = true) ∧ m.Pairwise (fun a b => a.2.2 < b.2.2) ∧ (∀ x ∈ m, p ≤ x.2.2 ∧ x.2.2 < r.2.2) ∧ p + (textL m).length ≤ r.2.2 ∧ r.2.2 < p + l.length) ∧
  (r.2.1 ≠ 0 → r.1 = [] ∧ p ≤ r.2.2 ∧ r.2.2 ≤ p + l.length ∧ (r.2.1 = 31 → r.2.2 = p + l.length))
theorem Shaped.bad {l : List UInt8} {p : Nat} {acc : List Itm} {e : Int} (h0 : e ≠ 0) (h31 : e ≠ 31) : Shaped l p acc ([], e, p) :=
  ⟨fun h => absurd h h0, fun _ => ⟨rfl, Nat.le_refl _, Nat.le_add_right _ _, fun h => absurd h h31⟩⟩
theorem item_len (t : UInt8) (n p : Nat) : (itemL (t, n, p)).length ≤ (numL n).length + 1 := by
  unfold itemL
  split
  · simp
  · simp
theorem item_num {c t : UInt8} {r : List UInt8} {p : Nat} (hk : ¬ digs (c :: r) = 0) (h48 : c ≠ 48) : (itemL (t, val ((c :: r).take (digs (c :: r))), p)).length ≤ digs (c :: r) + 1 := by
  have hl : ((c :: r).take (digs (c :: r))).length = digs (c :: r) := by rw [List.length_take]; have := digs_le (c :: r); omega
  have hb : badL ((c :: r).take (digs (c :: r))) = false := by
    refine (badL_iff _).2 ⟨fun e => ?_, ?_, fun d hd => ?_⟩
    · rw [e] at hl; simp at hl; omega
    · obtain ⟨k, hkk⟩ : ∃ k, digs (c :: r) = k + 1 := ⟨digs (c :: r) - 1, by omega⟩
      rw [hkk, List.take_succ_cons]
      unfold zeroB
      simp [h48]
    · rw [take_digs] at hd
      exact List.all_eq_true.1 (List.all_takeWhile) d hd
  have := item_len t (val ((c :: r).take (digs (c :: r)))) p
  unfold numL at this
  split at this
  · simp at this; omega
  · rw [dec_back hb, hl] at this
    exact this
theorem Shaped.on {l q : List UInt8} {p p' : Nat} {acc : List Itm} {x : Itm} {r : List Itm × Int × Nat} (h : Shaped q p' (acc ++ [x]) r) (hx : goodI x = true) (hp : x.2.2 = p) (hp1 : p + (itemL x).length ≤ p') (hl : p' + q.length = p + l.length) : Shaped l p acc r := by
  refine ⟨fun h0 => ?_, fun h0 => ?_⟩
  · obtain ⟨m, h1, h2, h3, h4, h5, h6⟩ := h.1 h0
    have hi : 1 ≤ (itemL x).length := by unfold itemL; rw [if_pos hx]; simp
    have ht : (textL (x :: m)).length = (itemL x).length + (textL m).length := by simp [textL]
    refine ⟨x :: m, by rw [h1]; simp, fun y hy => ?_, List.pairwise_cons.2 ⟨fun y hy => ?_, h3⟩, fun y hy => ?_, by omega, by omega⟩
    · rcases List.mem_cons.1 hy with rfl | hy
      · exact hx
      · exact h2 y hy
    · have := h4 y hy; omega
    · rcases List.mem_cons.1 hy with rfl | hy
      · omega
      · have := h4 y hy; omega
  · obtain ⟨h1, h2, h3, h4⟩ := h.2 h0
    exact ⟨h1, by omega, by omega, fun e => by have := h4 e; omega⟩
theorem Shaped.stop (p : Nat) (acc : List Itm) : Shaped [] p acc ([], 31, p) :=
  ⟨fun h => absurd h (show ¬ (31 : Int) = 0 by decide), fun _ => ⟨rfl, Nat.le_refl _, Nat.le_refl _, fun _ => rfl⟩⟩
theorem lexN_shape : ∀ (f : Nat) (l : List UInt8) (p : Nat) (acc : List Itm), l.length ≤ f → Shaped l p acc (lexN f l p acc) := by
  intro f
  induction f with
  | zero =>
    intro l p acc hf
    have : l = [] := List.eq_nil_of_length_eq_zero (by omega)
    subst this
    exact Shaped.stop p acc
  | succ f ih =>
    intro l p acc hf
    cases l with
    | nil => exact Shaped.stop p acc
    | cons c r =>
      simp only [List.length_cons] at hf
      have hd := List.length_drop (i := digs (c :: r)) (l := c :: r)
      unfold lexN
      split
      · have h := ih r (p + 1) acc (by omega)
        refine ⟨fun h0 => ?_, fun h0 => ?_⟩
        · obtain ⟨m, h1, h2, h3, h4, h5, h6⟩ := h.1 h0
          exact ⟨m, h1, h2, h3, fun x hx => by have := h4 x hx; omega, by omega, by simp only [List.length_cons]; omega⟩
        · obtain ⟨h1, h2, h3, h4⟩ := h.2 h0
          exact ⟨h1, by omega, by simp only [List.length_cons]; omega, fun e => by have := h4 e; simp only [List.length_cons]; omega⟩
      · split
        · exact ⟨fun _ => ⟨[], by simp, (fun x hx => by cases hx), List.Pairwise.nil, (fun x hx => by cases hx), by simp [textL], by simp⟩, fun h => absurd rfl h⟩
        · split
          · exact Shaped.bad (by decide) (by decide)
          · rename_i t q hq
            rw [hq] at hd
            simp only [List.length_cons] at hd
            have hdl := digs_le (c :: r)
            simp only [List.length_cons] at hdl
            split
            · exact Shaped.bad (by decide) (by decide)
            · rename_i hgood
              have hgood2 : tagB t = true ∧ c ≠ 48 := by
                refine ⟨?_, fun e => hgood (.inr e)⟩
                cases ht : tagB t with
                | true => rfl
                | false => exact absurd (.inl ht) hgood
              split
              · rename_i hk
                refine Shaped.on (ih q (p + 1) (acc ++ [(t, 1, p)]) (by omega)) ((goodI_iff _).2 ⟨hgood2.1, by simp, by simp⟩) rfl (by have := item_len t 1 p; simp only [numL, if_pos] at this; simp at this; omega) ?_
                simp only [List.length_cons]
                omega
              · rename_i hk
                split
                · exact Shaped.bad (by decide) (by decide)
                · rename_i hv
                  refine Shaped.on (ih q (p + digs (c :: r) + 1) _ (by omega)) ((goodI_iff _).2 ⟨hgood2.1, ?_, by simp only; omega⟩) rfl (by have := item_num (t := t) (p := p) hk hgood2.2; omega) ?_
                  · simp only
                    obtain ⟨k, hkk⟩ : ∃ k, digs (c :: r) = k + 1 := ⟨digs (c :: r) - 1, by omega⟩
                    have hcd : digB c = true := by
                      cases hcd : digB c with
                      | true => rfl
                      | false =>
                        exfalso
                        apply hk
                        unfold digs
                        rw [List.takeWhile_cons, hcd]
                        rfl
                    rw [hkk, List.take_succ_cons]
                    exact val_pos hcd hgood2.2
                  · simp only [List.length_cons]
                    omega
theorem lexL_shape (l : List UInt8) (p : Nat) (acc : List Itm) : Shaped l p acc (lexL l p acc) := lexN_shape _ l p acc (Nat.le_refl _)

/-- What a whole text is read as. -/
def lexA (l : List UInt8) : List Itm × Int × Nat := if 20000 < l.length then ([], 3, 0) else lexL l 0 []

theorem lexA_short {l : List UInt8} (h : l.length ≤ 20000) : lexA l = lexL l 0 [] := by unfold lexA; rw [if_neg (by omega)]
/-- Items' text and an end is read as the items, but for their places. -/
theorem lexA_text {l : List Itm} (h : ∀ x ∈ l, goodI x = true) (q : List UInt8) (hl : (textL l ++ 33 :: q).length ≤ 20000) :
    ∃ m : List Itm, m.length = l.length ∧ (∀ j, j < l.length → (m.getD j default).1 = (l.getD j default).1 ∧ (m.getD j default).2.1 = (l.getD j default).2.1 ∧ (m.getD j default).2.2 = (textL (l.take j)).length) ∧ lexA (textL l ++ 33 :: q) = (m, 0, (textL l).length) := by
  obtain ⟨m, hm, hj, he⟩ := lex_text l h (33 :: q) 0 []
  refine ⟨m, hm, fun j hjl => ?_, ?_⟩
  · have := hj j hjl
    simpa using this
  · rw [lexA_short hl, he, lex_end]
    simp
theorem lexA_open {l : List Itm} (h : ∀ x ∈ l, goodI x = true) (hl : (textL l).length ≤ 20000) : lexA (textL l) = ([], 31, (textL l).length) := by
  obtain ⟨m, hm, hj, he⟩ := lex_text l h [] 0 []
  rw [List.append_nil] at he
  rw [lexA_short hl, he, lex_nil]
  simp
theorem lexA_shape (l : List UInt8) : (lexA l).2.1 = 0 → ∀ x ∈ (lexA l).1, goodI x = true := by
  unfold lexA
  split
  · intro h; exact absurd h (by decide)
  · intro h x hx
    obtain ⟨m, h1, h2, _⟩ := (lexL_shape l 0 []).1 h
    rw [h1] at hx
    exact h2 x (by simpa using hx)

end Go.Proofs.YtacpncmdgkljdaaGreatDoor
namespace Go.Proofs.YtacpncmdgkljdaaGreatDoor.Cel

def cmpI (a b : Int) : Int := if a < b then -1 else if b < a then 1 else 0
def orI (a b : Int) : Int := if a = 0 then b else a
/-- how two places stand: by Y first -/
def cmpP (p q : Int × Int) : Int := orI (cmpI p.2 q.2) (cmpI p.1 q.1)
def inB (p : Int × Int) : Bool := decide (-1099511627776 ≤ p.1 ∧ p.1 ≤ 1099511627776 ∧ -1099511627776 ≤ p.2 ∧ p.2 ≤ 1099511627776)
def lessB (p q : Int × Int) : Bool := decide (p.2 < q.2 ∨ p.2 = q.2 ∧ p.1 < q.1)
def pickI (c n : Int) : Int := if c < 0 then (-(c + 1)) % n else c % n

theorem pickI_bd (c n : Int) (hn : 1 ≤ n) : 0 ≤ pickI c n ∧ pickI c n < n := by
  unfold pickI
  split
  · exact ⟨Int.emod_nonneg _ (by omega), Int.emod_lt_of_pos _ (by omega)⟩
  · exact ⟨Int.emod_nonneg _ (by omega), Int.emod_lt_of_pos _ (by omega)⟩

theorem lessB_iff (p q : Int × Int) : lessB p q = true ↔ (p.2 < q.2 ∨ p.2 = q.2 ∧ p.1 < q.1) := by simp [lessB]
theorem cmpP_neg (p q : Int × Int) : cmpP p q < 0 ↔ lessB p q = true := by
  rw [lessB_iff]
  unfold cmpP orI cmpI
  by_cases h1 : p.2 < q.2
  · simp [h1]
  · by_cases h2 : q.2 < p.2
    · simp [h1, h2]; omega
    · have h3 : p.2 = q.2 := by omega
      by_cases h4 : p.1 < q.1
      · simp [h1, h2, h4, h3]
      · by_cases h5 : q.1 < p.1 <;> simp [h1, h2, h4, h5, h3]
theorem cmpP_zero (p q : Int × Int) : cmpP p q = 0 ↔ p = q := by
  obtain ⟨a, b⟩ := p
  obtain ⟨c, d⟩ := q
  unfold cmpP orI cmpI
  by_cases h1 : b < d
  · simp [h1]; omega
  · by_cases h2 : d < b
    · simp [h1, h2]; omega
    · by_cases h4 : a < c
      · simp [h1, h2, h4]; omega
      · by_cases h5 : c < a
        · simp [h1, h2, h4, h5]; omega
        · simp [h1, h2, h4, h5]; omega
theorem lessB_irrefl (p : Int × Int) : lessB p p = false := by simp [lessB]
theorem lessB_trans {p q r : Int × Int} (h1 : lessB p q = true) (h2 : lessB q r = true) : lessB p r = true := by
  rw [lessB_iff] at *; omega
theorem lessB_asymm {p q : Int × Int} (h1 : lessB p q = true) : lessB q p = false := by
  rw [Bool.eq_false_iff]; intro h2; rw [lessB_iff] at *; omega
theorem lessB_total {p q : Int × Int} (h : p ≠ q) (h1 : lessB p q = false) : lessB q p = true := by
  rw [Bool.eq_false_iff, ne_eq, lessB_iff] at h1
  rw [lessB_iff]
  obtain ⟨a, b⟩ := p
  obtain ⟨c, d⟩ := q
  simp only [ne_eq, Prod.mk.injEq, not_and] at h h1 ⊢
  by_cases e : a = c
  · have := h e; omega
  · omega
theorem lessB_ne {p q : Int × Int} (h : lessB p q = true) : p ≠ q := by
  intro e; subst e; rw [lessB_irrefl] at h; cases h

/-- A list that rises. -/
def Rises (l : List (Int × Int)) : Prop := l.Pairwise fun p q => lessB p q = true

/-- The document's answer puts a cell into a list so. -/
def putL (c : Int × Int) : List (Int × Int) → List (Int × Int)
  | [] => [c]
  | x :: r => if x = c ∨ lessB c x = true then c :: (x :: r).filter (fun y => decide (y ≠ c)) else x :: putL c r

theorem mem_putL (c y : Int × Int) (l : List (Int × Int)) : y ∈ putL c l ↔ y = c ∨ y ∈ l := by
  induction l with
  | nil => simp [putL]
  | cons x r ih =>
    unfold putL
    split
    · simp only [List.mem_cons, List.mem_filter, decide_eq_true_eq]
      constructor
      · rintro (h | ⟨h, _⟩)
        · exact .inl h
        · exact .inr h
      · rintro (h | h)
        · exact .inl h
        · by_cases e : y = c
          · exact .inl e
          · exact .inr ⟨h, e⟩
    · simp only [List.mem_cons, ih]
      constructor
      · rintro (h | h | h)
        · exact .inr (.inl h)
        · exact .inl h
        · exact .inr (.inr h)
      · rintro (h | h | h)
        · exact .inr (.inl h)
        · exact .inl h
        · exact .inr (.inr h)

theorem rises_putL (c : Int × Int) {l : List (Int × Int)} (h : Rises l) : Rises (putL c l) := by
  induction l with
  | nil => exact List.pairwise_singleton _ _
  | cons x r ih =>
    have hx := List.pairwise_cons.1 h
    unfold putL
    split
    · rename_i hc
      refine List.pairwise_cons.2 ⟨fun y hy => ?_, h.filter _⟩
      simp only [List.mem_filter, decide_eq_true_eq] at hy
      rcases List.mem_cons.1 hy.1 with e | hyr
      · subst e
        rcases hc with e | hc
        · exact absurd e hy.2
        · exact hc
      · have h1 := hx.1 y hyr
        rcases hc with e | hc
        · subst e; exact h1
        · exact lessB_trans hc h1
    · rename_i hc
      refine List.pairwise_cons.2 ⟨fun y hy => ?_, ih hx.2⟩
      rw [mem_putL] at hy
      rcases hy with e | hy
      · subst e
        have h1 : x ≠ y := fun e => hc (.inl e)
        refine lessB_total (fun e => h1 e.symm) ?_
        rw [Bool.eq_false_iff]
        exact fun e => hc (.inr e)
      · exact hx.1 y hy

theorem length_putL_le (c : Int × Int) (l : List (Int × Int)) : (putL c l).length ≤ l.length + 1 := by
  induction l with
  | nil => simp [putL]
  | cons x r ih =>
    unfold putL
    split
    · simp only [List.length_cons]
      have := List.length_filter_le (fun y => decide (y ≠ c)) (x :: r)
      simp only [List.length_cons] at this
      omega
    · simp only [List.length_cons]; omega

/-- Two lists that rise and have the same cells are the same. -/
theorem rises_ext {l m : List (Int × Int)} (hl : Rises l) (hm : Rises m) (h : ∀ y, y ∈ l ↔ y ∈ m) : l = m := by
  induction l generalizing m with
  | nil =>
    cases m with
    | nil => rfl
    | cons b m => exact absurd ((h b).2 (List.mem_cons_self ..)) (by simp)
  | cons a l ih =>
    cases m with
    | nil => exact absurd ((h a).1 (List.mem_cons_self ..)) (by simp)
    | cons b m =>
      have ha := List.pairwise_cons.1 hl
      have hb := List.pairwise_cons.1 hm
      have e : a = b := by
        have h1 := (h a).1 (List.mem_cons_self ..)
        have h2 := (h b).2 (List.mem_cons_self ..)
        rcases List.mem_cons.1 h1 with e | h1
        · exact e
        · rcases List.mem_cons.1 h2 with e | h2
          · exact e.symm
          · have := lessB_asymm (hb.1 a h1)
            rw [ha.1 b h2] at this
            cases this
      subst e
      congr 1
      refine ih ha.2 hb.2 fun y => ?_
      have hy := h y
      simp only [List.mem_cons] at hy
      constructor
      · intro hyl
        rcases hy.1 (.inr hyl) with e | h'
        · exact absurd (ha.1 y hyl) (by rw [e, lessB_irrefl]; simp)
        · exact h'
      · intro hym
        rcases hy.2 (.inr hym) with e | h'
        · exact absurd (hb.1 y hym) (by rw [e, lessB_irrefl]; simp)
        · exact h'

/-- The set of a list's cells. -/
def setL (l : List (Int × Int)) : List (Int × Int) := l.foldl (fun s c => putL c s) []

theorem foldl_putL (l s : List (Int × Int)) (hs : Rises s) : Rises (l.foldl (fun s c => putL c s) s) ∧ ∀ y, y ∈ l.foldl (fun s c => putL c s) s ↔ y ∈ l ∨ y ∈ s := by
  induction l generalizing s with
  | nil => simp [hs]
  | cons c l ih =>
    obtain ⟨h1, h2⟩ := ih (putL c s) (rises_putL c hs)
    refine ⟨h1, fun y => ?_⟩
    rw [List.foldl_cons, h2 y, mem_putL, List.mem_cons]
    constructor
    · rintro (h | h | h)
      · exact .inl (.inr h)
      · exact .inl (.inl h)
      · exact .inr h
    · rintro ((h | h) | h)
      · exact .inr (.inl h)
      · exact .inl h
      · exact .inr (.inr h)
theorem rises_setL (l : List (Int × Int)) : Rises (setL l) := (foldl_putL l [] List.Pairwise.nil).1
theorem mem_setL (l : List (Int × Int)) (y : Int × Int) : y ∈ setL l ↔ y ∈ l := by rw [setL, (foldl_putL l [] List.Pairwise.nil).2 y]; simp
theorem length_foldl_putL (l s : List (Int × Int)) : (l.foldl (fun s c => putL c s) s).length ≤ l.length + s.length := by
  induction l generalizing s with
  | nil => simp
  | cons c l ih =>
    have h1 := ih (putL c s)
    have h2 := length_putL_le c s
    simp only [List.foldl_cons, List.length_cons]
    omega
theorem length_setL (l : List (Int × Int)) : (setL l).length ≤ l.length := by
  have := length_foldl_putL l []; simpa [setL] using this
theorem setL_snoc (l : List (Int × Int)) (c : Int × Int) : setL (l ++ [c]) = putL c (setL l) := by simp [setL, List.foldl_append]
theorem setL_of_rises {l : List (Int × Int)} (h : Rises l) : setL l = l := rises_ext (rises_setL l) h fun y => mem_setL l y

/-- A list without a cell. -/
def outL (c : Int × Int) (l : List (Int × Int)) : List (Int × Int) := l.filter fun y => decide (y ≠ c)

/-- one element at a place -/
theorem getD_mem {l : List (Int × Int)} {k : Nat} (h : k < l.length) : l.getD k (0, 0) ∈ l := by
  rw [List.getD_eq_getElem?_getD, List.getElem?_eq_getElem h]; exact List.getElem_mem h
theorem take_snoc {l : List (Int × Int)} {k : Nat} (h : k < l.length) : l.take (k + 1) = l.take k ++ [l.getD k (0, 0)] := by
  rw [List.take_succ_eq_append_getElem h, List.getD_eq_getElem?_getD, List.getElem?_eq_getElem h]; rfl
theorem drop_cons {l : List (Int × Int)} {k : Nat} (h : k < l.length) : l.drop k = l.getD k (0, 0) :: l.drop (k + 1) := by
  rw [List.drop_eq_getElem_cons h, List.getD_eq_getElem?_getD, List.getElem?_eq_getElem h]; rfl

def okAt (l : List (Int × Int)) (k : Nat) : Bool := inB (l.getD k (0, 0)) && (decide (k = 0) || decide (cmpP (l.getD (k - 1) (0, 0)) (l.getD k (0, 0)) < 0))
def rightB (l : List (Int × Int)) : Bool := decide (l.length ≤ 2000) && (List.range l.length).all (okAt l)

theorem rightB_long {l : List (Int × Int)} (h : 2000 < l.length) : rightB l = false := by simp [rightB]; omega
theorem rightB_no {l : List (Int × Int)} {k : Nat} (hk : k < l.length) (h : okAt l k = false) : rightB l = false := by
  rw [Bool.eq_false_iff]
  intro hr
  simp only [rightB, Bool.and_eq_true, List.all_eq_true, List.mem_range] at hr
  rw [hr.2 k hk] at h
  cases h
theorem rightB_yes {l : List (Int × Int)} (h0 : l.length ≤ 2000) (h : ∀ k, k < l.length → okAt l k = true) : rightB l = true := by
  simp only [rightB, Bool.and_eq_true, List.all_eq_true, List.mem_range]
  exact ⟨by simpa using h0, h⟩

theorem rises_of_steps {l : List (Int × Int)} (h : ∀ k, k + 1 < l.length → lessB (l.getD k (0, 0)) (l.getD (k + 1) (0, 0)) = true) : Rises l := by
  induction l with
  | nil => exact List.Pairwise.nil
  | cons a l ih =>
    have hl : Rises l := ih fun k hk => by have := h (k + 1) (by simp only [List.length_cons]; omega); simpa using this
    refine List.pairwise_cons.2 ⟨fun y hy => ?_, hl⟩
    cases l with
    | nil => cases hy
    | cons b l =>
      have hab : lessB a b = true := by have := h 0 (by simp only [List.length_cons]; omega); simpa using this
      rcases List.mem_cons.1 hy with e | hy
      · subst e; exact hab
      · exact lessB_trans hab ((List.pairwise_cons.1 hl).1 y hy)
theorem steps_of_rises {l : List (Int × Int)} (h : Rises l) : ∀ k, k + 1 < l.length → lessB (l.getD k (0, 0)) (l.getD (k + 1) (0, 0)) = true := fun k hk => by
  have := List.pairwise_iff_getElem.1 h k (k + 1) (by omega) hk (by omega)
  rw [List.getD_eq_getElem?_getD, List.getD_eq_getElem?_getD, List.getElem?_eq_getElem (by omega), List.getElem?_eq_getElem hk]
  exact this

/-- A set, in plain words. -/
theorem rightB_iff (l : List (Int × Int)) : rightB l = true ↔ l.length ≤ 2000 ∧ (∀ c ∈ l, inB c = true) ∧ Rises l := by
  constructor
  · intro h
    simp only [rightB, Bool.and_eq_true, List.all_eq_true, List.mem_range, okAt, decide_eq_true_eq, Bool.or_eq_true] at h
    refine ⟨h.1, fun c hc => ?_, rises_of_steps fun k hk => ?_⟩
    · obtain ⟨k, hk, rfl⟩ := List.getElem_of_mem hc
      have := (h.2 k hk).1
      rwa [List.getD_eq_getElem?_getD, List.getElem?_eq_getElem hk] at this
    · rcases (h.2 (k + 1) hk).2 with e | e
      · omega
      · rw [← cmpP_neg]; simpa using e
  · rintro ⟨h0, h1, h2⟩
    refine rightB_yes h0 fun k hk => ?_
    simp only [okAt, Bool.and_eq_true, Bool.or_eq_true, decide_eq_true_eq]
    refine ⟨h1 _ (getD_mem hk), ?_⟩
    rcases Nat.eq_zero_or_pos k with e | e
    · exact .inl e
    · obtain ⟨j, rfl⟩ : ∃ j, k = j + 1 := ⟨k - 1, by omega⟩
      right
      rw [cmpP_neg]
      simpa using steps_of_rises h2 j hk

end Go.Proofs.YtacpncmdgkljdaaGreatDoor.Cel
namespace Go.Proofs.YtacpncmdgkljdaaGreatDoor
open Cel (lessB lessB_iff Rises)
set_option linter.unusedVariables false

/-! ### doing items -/
/-- where one is, how many cells there are, and which -/
structure St where
  x : Nat
  y : Nat
  many : Nat
  out : List (Int × Int)
/-- n cells from (x, y) on to the right -/
def runC (x y n : Nat) : List (Int × Int) := (List.range n).map fun k => (((x + k : Nat) : Int), (y : Int))
theorem runC_zero (x y : Nat) : runC x y 0 = [] := rfl
theorem runC_succ (x y n : Nat) : runC x y (n + 1) = runC x y n ++ [(((x + n : Nat) : Int), (y : Int))] := by
  unfold runC
  rw [List.range_succ, List.map_append]
  rfl
theorem runC_len (x y n : Nat) : (runC x y n).length = n := by unfold runC; simp
theorem runC_add (x y n m : Nat) : runC x y (n + m) = runC x y n ++ runC (x + n) y m := by
  induction m with
  | zero => simp [runC_zero]
  | succ m ih => rw [← Nat.add_assoc, runC_succ, ih, runC_succ, List.append_assoc, Nat.add_assoc]
/-- one item done -/
def stepS (s : St) (t : UInt8) (n : Nat) : St :=
  if t = 98 then ⟨s.x + n, s.y, s.many, s.out⟩
  else if t = 36 then ⟨0, s.y + n, s.many, s.out⟩
  else ⟨s.x + n, s.y, s.many + n, s.out ++ runC s.x s.y n⟩
theorem step_b (s : St) (n : Nat) : stepS s 98 n = ⟨s.x + n, s.y, s.many, s.out⟩ := rfl
theorem step_d (s : St) (n : Nat) : stepS s 36 n = ⟨0, s.y + n, s.many, s.out⟩ := rfl
theorem step_o (s : St) (n : Nat) : stepS s 111 n = ⟨s.x + n, s.y, s.many + n, s.out ++ runC s.x s.y n⟩ := rfl
def farS (s : St) : Bool := decide (1099511627776 < s.x) || decide (1099511627776 < s.y)
def fullS (s : St) : Bool := decide (2000 < s.many)
/-- What items come to: the cells, the error, the place of its item. -/
def doL : List Itm → St → List (Int × Int) × Int × Nat
  | [], s => (s.out, 0, 0)
  | (t, n, p) :: r, s =>
    if farS (stepS s t n) = true then ([], 2, p)
    else if fullS (stepS s t n) = true then ([], 3, p)
    else doL r (stepS s t n)
def st0 : St := ⟨0, 0, 0, []⟩

/-! ### items without places, and their states -/
abbrev Tn := UInt8 × Nat
def goS (s : St) (l : List Tn) : St := l.foldl (fun s x => stepS s x.1 x.2) s
def okS (s : St) : Bool := !farS s && !fullS s
/-- all that one comes by is within bounds -/
def fineS : St → List Tn → Bool
  | _, [] => true
  | s, x :: r => okS (stepS s x.1 x.2) && fineS (stepS s x.1 x.2) r
theorem goS_append (s : St) (l m : List Tn) : goS s (l ++ m) = goS (goS s l) m := by unfold goS; rw [List.foldl_append]
theorem goS_one (s : St) (x : Tn) : goS s [x] = stepS s x.1 x.2 := rfl
theorem fineS_append (s : St) (l m : List Tn) : fineS s (l ++ m) = (fineS s l && fineS (goS s l) m) := by
  induction l generalizing s with
  | nil => simp [fineS, goS]
  | cons x r ih =>
    show (okS _ && fineS _ (r ++ m)) = ((okS _ && fineS _ r) && fineS _ m)
    rw [ih, Bool.and_assoc]
    rfl
theorem do_fine (l : List Itm) (s : St) (h : fineS s (l.map fun x => (x.1, x.2.1)) = true) : doL l s = ((goS s (l.map fun x => (x.1, x.2.1))).out, 0, 0) := by
  induction l generalizing s with
  | nil => rfl
  | cons x r ih =>
    obtain ⟨t, n, p⟩ := x
    simp only [List.map_cons, fineS, Bool.and_eq_true] at h
    obtain ⟨h1, h2⟩ := h
    have h1' : farS (stepS s t n) = false ∧ fullS (stepS s t n) = false := by simpa [okS] using h1
    unfold doL
    rw [if_neg (by rw [h1'.1]; decide), if_neg (by rw [h1'.2]; decide), ih _ h2]
    rfl

/-! ### sets told as items -/
/-- an item more; one of the same tag as the last grows -/
def putI (l : List Tn) (t : UInt8) (n : Nat) : List Tn :=
  if n = 0 then l
  else match l.getLast? with
    | some (u, m) => if u = t then l.dropLast ++ [(t, m + n)] else l ++ [(t, n)]
    | none => [(t, n)]
theorem putI_zero (l : List Tn) (t : UInt8) : putI l t 0 = l := rfl
theorem putI_grow (l : List Tn) (t : UInt8) (m n : Nat) (hn : n ≠ 0) : putI (l ++ [(t, m)]) t n = l ++ [(t, m + n)] := by
  unfold putI
  rw [if_neg hn]
  simp
theorem putI_new (l : List Tn) (t u : UInt8) (m n : Nat) (hn : n ≠ 0) (h : u ≠ t) : putI (l ++ [(u, m)]) t n = l ++ [(u, m)] ++ [(t, n)] := by
  unfold putI
  rw [if_neg hn]
  simp [h]
theorem putI_first (t : UInt8) (n : Nat) (hn : n ≠ 0) : putI [] t n = [(t, n)] := by
  unfold putI
  rw [if_neg hn]
  rfl
theorem list_cases {α : Type} (l : List α) : l = [] ∨ ∃ a x, l = a ++ [x] := by
  rcases List.eq_nil_or_concat l with h | ⟨a, x, h⟩
  · exact .inl h
  · exact .inr ⟨a, x, by simpa using h⟩
theorem step_step (s : St) (t : UInt8) (n m : Nat) : stepS (stepS s t n) t m = stepS s t (n + m) := by
  unfold stepS
  by_cases h1 : t = 98
  · simp [h1, Nat.add_assoc]
  · by_cases h2 : t = 36
    · simp [h2, Nat.add_assoc]
    · simp [h1, h2, Nat.add_assoc, runC_add, List.append_assoc]
/-- It comes to what one item more comes to. -/
theorem goS_put (s : St) (l : List Tn) (t : UInt8) (n : Nat) : n ≠ 0 → goS s (putI l t n) = stepS (goS s l) t n := by
  intro hn
  rcases list_cases l with rfl | ⟨a, ⟨u, m⟩, rfl⟩
  · rw [putI_first _ _ hn]; rfl
  · by_cases h : u = t
    · subst h
      rw [putI_grow _ _ _ _ hn, goS_append, goS_one, goS_append, goS_one, step_step]
    · rw [putI_new _ _ _ _ _ hn h, goS_append, goS_one]
theorem fineS_put (s : St) (l : List Tn) (t : UInt8) (n : Nat) (h : fineS s l = true) (h2 : okS (stepS (goS s l) t n) = true) : fineS s (putI l t n) = true := by
  by_cases hn : n = 0
  · subst hn; exact h
  · rcases list_cases l with rfl | ⟨a, ⟨u, m⟩, rfl⟩
    · rw [putI_first _ _ hn]
      simpa [fineS, goS] using h2
    · by_cases hu : u = t
      · subst hu
        rw [putI_grow _ _ _ _ hn, fineS_append]
        rw [fineS_append] at h
        simp only [Bool.and_eq_true] at h
        rw [goS_append, goS_one, step_step] at h2
        simp [fineS, h.1, h2]
      · rw [putI_new _ _ _ _ _ hn hu, fineS_append, h]
        simp [fineS, h2]
/-- All items that are put are good ones, as long as they don't grow above 2^40. -/
def goodT (x : Tn) : Bool := tagB x.1 && decide (1 ≤ x.2)
theorem good_put (l : List Tn) (t : UInt8) (n : Nat) (h : ∀ x ∈ l, goodT x = true) (ht : tagB t = true) : ∀ x ∈ putI l t n, goodT x = true := by
  by_cases hn : n = 0
  · subst hn; exact h
  · have hg : ∀ m, goodT (t, m + n) = true := fun m => by unfold goodT; simp [ht]; omega
    rcases list_cases l with rfl | ⟨a, ⟨u, m⟩, rfl⟩
    · rw [putI_first _ _ hn]
      intro x hx
      rw [List.mem_singleton.1 hx]
      have := hg 0
      rwa [Nat.zero_add] at this
    · by_cases hu : u = t
      · subst hu
        rw [putI_grow _ _ _ _ hn]
        intro x hx
        rcases List.mem_append.1 hx with hx | hx
        · exact h x (List.mem_append_left _ hx)
        · rw [List.mem_singleton.1 hx]; exact hg m
      · rw [putI_new _ _ _ _ _ hn hu]
        intro x hx
        rcases List.mem_append.1 hx with hx | hx
        · exact h x hx
        · rw [List.mem_singleton.1 hx]
          have := hg 0
          rwa [Nat.zero_add] at this

/-- One cell more, where (x, y) is where one stands (from the box's corner on): the items, and where one stands then. -/
def tellC (q : List Tn × Nat × Nat) (c : Nat × Nat) : List Tn × Nat × Nat :=
  let d := if q.2.2 < c.2 then (putI q.1 36 (c.2 - q.2.2), 0) else (q.1, q.2.1)
  (putI (putI d.1 98 (c.1 - d.2)) 111 1, c.1 + 1, c.2)
def tellL (l : List (Nat × Nat)) : List Tn × Nat × Nat := l.foldl tellC ([], 0, 0)
def upC (c : Nat × Nat) : Int × Int := ((c.1 : Int), (c.2 : Int))
def lessN (p q : Nat × Nat) : Prop := p.2 < q.2 ∨ p.2 = q.2 ∧ p.1 < q.1
/-- What is known behind k cells. -/
structure Told (q : List Tn × Nat × Nat) (l : List (Nat × Nat)) : Prop where
  state : goS st0 q.1 = ⟨q.2.1, q.2.2, l.length, l.map upC⟩
  fine : fineS st0 q.1 = true
  good : ∀ x ∈ q.1, goodT x = true
theorem told_nil : Told ([], 0, 0) [] := ⟨rfl, rfl, fun x hx => absurd hx (by simp)⟩
theorem ok_of {s : St} (h1 : s.x ≤ 1099511627776) (h2 : s.y ≤ 1099511627776) (h3 : s.many ≤ 2000) : okS s = true := by
  unfold okS farS fullS
  simp
  omega
theorem told_put {q : List Tn} {s : St} (hs : goS st0 q = s) (hf : fineS st0 q = true) (hg : ∀ x ∈ q, goodT x = true) (t : UInt8) (n : Nat) (ht : tagB t = true) (ho : okS (stepS s t n) = true) (h0 : n = 0 → stepS s t n = s) :
    goS st0 (putI q t n) = stepS s t n ∧ fineS st0 (putI q t n) = true ∧ ∀ x ∈ putI q t n, goodT x = true := by
  refine ⟨?_, fineS_put _ _ _ _ hf (by rw [hs]; exact ho), good_put _ _ _ hg ht⟩
  by_cases hn : n = 0
  · rw [h0 hn]; subst hn; exact hs
  · rw [goS_put _ _ _ _ hn, hs]
theorem told_cell {q : List Tn × Nat × Nat} {l : List (Nat × Nat)} (h : Told q l) (c : Nat × Nat) (hc : c.1 < 1099511627776 ∧ c.2 ≤ 1099511627776) (hq : q.2.2 < c.2 ∨ q.2.2 = c.2 ∧ q.2.1 ≤ c.1) (hl : l.length < 2000) : Told (tellC q c) (l ++ [c]) := by
  obtain ⟨q1, x, y⟩ := q
  obtain ⟨cx, cy⟩ := c
  have hs := h.state
  have hf := h.fine
  have hg := h.good
  simp only at hs hf hg hc hq
  have main : ∀ (q2 : List Tn) (x2 : Nat), goS st0 q2 = ⟨x2, cy, l.length, l.map upC⟩ → fineS st0 q2 = true → (∀ z ∈ q2, goodT z = true) → x2 ≤ cx → Told (putI (putI q2 98 (cx - x2)) 111 1, cx + 1, cy) (l ++ [(cx, cy)]) := by
    intro q2 x2 h1 h2 h3 hx
    obtain ⟨a1, a2, a3⟩ := told_put h1 h2 h3 98 (cx - x2) rfl (ok_of (by rw [step_b]; simp only; omega) (by rw [step_b]; exact hc.2) (by rw [step_b]; simp only; omega)) (fun e => by rw [step_b, e]; rfl)
    rw [step_b] at a1
    simp only [show x2 + (cx - x2) = cx by omega] at a1
    obtain ⟨b1, b2, b3⟩ := told_put a1 a2 a3 111 1 rfl (ok_of (by rw [step_o]; simp only; omega) (by rw [step_o]; exact hc.2) (by rw [step_o]; simp only; omega)) (fun e => absurd e (by decide))
    rw [step_o] at b1
    refine ⟨?_, b2, b3⟩
    rw [b1]
    simp [runC, upC]
  unfold tellC
  simp only
  by_cases hy : y < cy
  · rw [if_pos hy]
    obtain ⟨a1, a2, a3⟩ := told_put hs hf hg 36 (cy - y) rfl (ok_of (by rw [step_d]; exact Nat.zero_le _) (by rw [step_d]; simp only; omega) (by rw [step_d]; simp only; omega)) (fun e => by omega)
    rw [step_d] at a1
    simp only [show y + (cy - y) = cy by omega] at a1
    exact main _ 0 a1 a2 a3 (Nat.zero_le _)
  · rw [if_neg hy]
    obtain rfl : y = cy := by omega
    exact main _ x hs hf hg (by omega)
theorem tell_at (q : List Tn × Nat × Nat) (c : Nat × Nat) : (tellC q c).2 = (c.1 + 1, c.2) := by unfold tellC; rfl
theorem told_all (l : List (Nat × Nat)) (hr : l.Pairwise lessN) (hb : ∀ c ∈ l, c.1 < 1099511627776 ∧ c.2 ≤ 1099511627776) (hl : l.length ≤ 2000) : Told (tellL l) l := by
  have main : ∀ (b a : List (Nat × Nat)), a ++ b = l → Told (tellL a) a → Told (tellL (a ++ b)) (a ++ b) := by
    intro b
    induction b with
    | nil => intro a _ h; simpa using h
    | cons c r ih =>
      intro a e h
      have e2 : a ++ c :: r = (a ++ [c]) ++ r := by simp
      rw [e2]
      refine ih (a ++ [c]) (by rw [← e2]; exact e) ?_
      have h3 : tellL (a ++ [c]) = tellC (tellL a) c := by unfold tellL; rw [List.foldl_append]; rfl
      rw [h3]
      have hlen : a.length < 2000 := by
        have := congrArg List.length e
        simp at this
        omega
      refine told_cell h c (hb c (by rw [← e]; simp)) ?_ hlen
      rcases list_cases a with rfl | ⟨a', z, rfl⟩
      · show 0 < c.2 ∨ 0 = c.2 ∧ 0 ≤ c.1
        omega
      · have h4 : tellL (a' ++ [z]) = tellC (tellL a') z := by unfold tellL; rw [List.foldl_append]; rfl
        rw [h4, tell_at]
        have h5 : lessN z c := by
          rw [← e] at hr
          have := (List.pairwise_append.1 hr).2.2 z (by simp) c (by simp)
          exact this
        rcases h5 with h5 | ⟨h5, h6⟩
        · exact .inl h5
        · exact .inr ⟨h5, h6⟩
  have := main l [] (by simp) told_nil
  simpa using this
/-- The items that a set is told as, done again, are the set. -/
theorem do_told (l : List (Nat × Nat)) (hr : l.Pairwise lessN) (hb : ∀ c ∈ l, c.1 < 1099511627776 ∧ c.2 ≤ 1099511627776) (hl : l.length ≤ 2000) (I : List Itm) (hI : (I.map fun x => (x.1, x.2.1)) = (tellL l).1) : doL I st0 = (l.map upC, 0, 0) := by
  have h := told_all l hr hb hl
  rw [do_fine I st0 (by rw [hI]; exact h.fine), hI, h.state]
end Go.Proofs.YtacpncmdgkljdaaGreatDoor
namespace Go.Proofs.YtacpncmdgkljdaaGreatDoor
set_option linter.unusedVariables false

/-! ### numbers stay within bounds -/
theorem ok_iff (s : St) : okS s = true ↔ s.x ≤ 1099511627776 ∧ s.y ≤ 1099511627776 ∧ s.many ≤ 2000 := by
  unfold okS farS fullS
  simp
  omega
theorem fine_small : ∀ (q : List Tn) (s : St), fineS s q = true → ∀ x ∈ q, x.2 ≤ 1099511627776 := by
  intro q
  induction q with
  | nil => intro s _ x hx; cases hx
  | cons y r ih =>
    intro s h x hx
    simp only [fineS, Bool.and_eq_true] at h
    rcases List.mem_cons.1 hx with rfl | hx
    · have := (ok_iff _).1 h.1
      unfold stepS at this
      split at this
      · simp only at this; omega
      · split at this
        · simp only at this; omega
        · simp only at this; omega
    · exact ih _ h.2 x hx
def itemsT (q : List Tn) : List Itm := q.map fun x => (x.1, x.2, 0)
theorem itemsT_good {q : List Tn} (hg : ∀ x ∈ q, goodT x = true) (hs : ∀ x ∈ q, x.2 ≤ 1099511627776) : ∀ x ∈ itemsT q, goodI x = true := by
  intro x hx
  obtain ⟨y, hy, rfl⟩ := List.mem_map.1 hx
  have h1 := hg y hy
  have h2 := hs y hy
  unfold goodT at h1
  simp only [Bool.and_eq_true, decide_eq_true_eq] at h1
  exact (goodI_iff _).2 ⟨h1.1, h1.2, h2⟩
theorem told_good (l : List (Nat × Nat)) (hr : l.Pairwise lessN) (hb : ∀ c ∈ l, c.1 < 1099511627776 ∧ c.2 ≤ 1099511627776) (hl : l.length ≤ 2000) : ∀ x ∈ itemsT (tellL l).1, goodI x = true :=
  itemsT_good (told_all l hr hb hl).good (fine_small _ _ (told_all l hr hb hl).fine)
/-- Of n cells there are at most 3 n items. -/
theorem putI_len (q : List Tn) (t : UInt8) (n : Nat) : (putI q t n).length ≤ q.length + 1 := by
  by_cases hn : n = 0
  · subst hn; rw [putI_zero]; omega
  · rcases list_cases q with rfl | ⟨a, ⟨u, m⟩, rfl⟩
    · rw [putI_first _ _ hn]; simp
    · by_cases hu : u = t
      · subst hu; rw [putI_grow _ _ _ _ hn]; simp
      · rw [putI_new _ _ _ _ _ hn hu]; simp
theorem tellC_len (q : List Tn × Nat × Nat) (c : Nat × Nat) : (tellC q c).1.length ≤ q.1.length + 3 := by
  unfold tellC
  simp only
  split
  · have h1 := putI_len q.1 36 (c.2 - q.2.2)
    have h2 := putI_len (putI q.1 36 (c.2 - q.2.2)) 98 (c.1 - 0)
    have h3 := putI_len (putI (putI q.1 36 (c.2 - q.2.2)) 98 (c.1 - 0)) 111 1
    simp only at *
    omega
  · have h2 := putI_len q.1 98 (c.1 - q.2.1)
    have h3 := putI_len (putI q.1 98 (c.1 - q.2.1)) 111 1
    simp only at *
    omega
theorem tellL_len (l : List (Nat × Nat)) : (tellL l).1.length ≤ 3 * l.length := by
  have main : ∀ (b : List (Nat × Nat)) (q : List Tn × Nat × Nat), (b.foldl tellC q).1.length ≤ q.1.length + 3 * b.length := by
    intro b
    induction b with
    | nil => intro q; simp
    | cons c r ih =>
      intro q
      have h1 := ih (tellC q c)
      have h2 := tellC_len q c
      simp only [List.foldl_cons, List.length_cons]
      omega
  have := main l ([], 0, 0)
  simpa [tellL] using this

/-! ### a set's text read again -/
/-- The items' text, an end, and whatever follows: read, and done, it is the set. -/
theorem read_told (l : List (Nat × Nat)) (hr : l.Pairwise lessN) (hb : ∀ c ∈ l, c.1 < 1099511627776 ∧ c.2 ≤ 1099511627776) (hl : l.length ≤ 2000) (q : List UInt8) (hq : (textL (itemsT (tellL l).1) ++ 33 :: q).length ≤ 20000) :
    ∃ m p, lexA (textL (itemsT (tellL l).1) ++ 33 :: q) = (m, 0, p) ∧ doL m st0 = (l.map upC, 0, 0) := by
  obtain ⟨m, hm, hj, he⟩ := lexA_text (told_good l hr hb hl) q hq
  refine ⟨m, _, he, do_told l hr hb hl m ?_⟩
  have hml : m.length = (tellL l).1.length := by rw [hm]; simp [itemsT]
  apply List.ext_getElem
  · simp [hml]
  · intro j h1 h2
    have h3 : j < (itemsT (tellL l).1).length := by simpa [itemsT] using h2
    obtain ⟨a, b, _⟩ := hj j h3
    have h4 : j < m.length := by rw [hml]; exact h2
    rw [List.getD_eq_getElem?_getD, List.getElem?_eq_getElem h4, List.getD_eq_getElem?_getD, List.getElem?_eq_getElem h3] at a b
    simp only [Option.getD_some] at a b
    rw [List.getElem_map, a, b]
    simp [itemsT]

/-! ### what items make is a set -/
structure Grown (s : St) (L : List (Nat × Nat)) : Prop where
  out : s.out = L.map upC
  rises : L.Pairwise lessN
  many : L.length = s.many
  behind : ∀ c ∈ L, c.2 < s.y ∨ c.2 = s.y ∧ c.1 < s.x
  within : ∀ c ∈ L, c.1 < 1099511627776 ∧ c.2 ≤ 1099511627776
theorem grown_0 : Grown st0 [] := ⟨rfl, List.Pairwise.nil, rfl, fun c hc => absurd hc (by simp), fun c hc => absurd hc (by simp)⟩
def runN (x y n : Nat) : List (Nat × Nat) := (List.range n).map fun k => (x + k, y)
theorem runN_up (x y n : Nat) : (runN x y n).map upC = runC x y n := by
  unfold runN runC
  rw [List.map_map]
  rfl
theorem mem_runN {x y n : Nat} {c : Nat × Nat} (h : c ∈ runN x y n) : ∃ k, k < n ∧ c = (x + k, y) := by
  unfold runN at h
  obtain ⟨k, hk, rfl⟩ := List.mem_map.1 h
  exact ⟨k, List.mem_range.1 hk, rfl⟩
theorem runN_rises (x y n : Nat) : (runN x y n).Pairwise lessN := by
  unfold runN
  rw [List.pairwise_map]
  refine List.Pairwise.imp (fun {a b} h => ?_) List.pairwise_lt_range
  exact .inr ⟨rfl, by simp only; omega⟩
theorem grown_step {s : St} {L : List (Nat × Nat)} (h : Grown s L) (t : UInt8) (n : Nat) (ht : tagB t = true) (hn : 1 ≤ n) (ho : okS (stepS s t n) = true) : ∃ L', Grown (stepS s t n) L' := by
  have h3 : t = 98 ∨ t = 111 ∨ t = 36 := by
    unfold tagB at ht
    simpa [or_assoc] using ht
  have hok := (ok_iff _).1 ho
  rcases h3 with rfl | rfl | rfl
  · rw [step_b]
    exact ⟨L, h.out, h.rises, h.many, fun c hc => by have := h.behind c hc; simp only; omega, h.within⟩
  · rw [step_o] at hok ⊢
    simp only at hok
    refine ⟨L ++ runN s.x s.y n, ?_, ?_, ?_, ?_, ?_⟩
    · simp only [List.map_append, runN_up, h.out]
    · refine List.pairwise_append.2 ⟨h.rises, runN_rises _ _ _, fun a ha b hb => ?_⟩
      obtain ⟨k, hk, rfl⟩ := mem_runN hb
      rcases h.behind a ha with h1 | ⟨h1, h2⟩
      · exact .inl h1
      · exact .inr ⟨h1, by simp only; omega⟩
    · have : (runN s.x s.y n).length = n := by simp [runN]
      simp [this, h.many]
    · intro c hc
      rcases List.mem_append.1 hc with hc | hc
      · have := h.behind c hc; simp only; omega
      · obtain ⟨k, hk, rfl⟩ := mem_runN hc
        exact .inr ⟨rfl, by show s.x + k < s.x + n; omega⟩
    · intro c hc
      rcases List.mem_append.1 hc with hc | hc
      · exact h.within c hc
      · obtain ⟨k, hk, rfl⟩ := mem_runN hc
        exact ⟨by show s.x + k < _; omega, hok.2.1⟩
  · rw [step_d]
    exact ⟨L, h.out, h.rises, h.many, fun c hc => by have := h.behind c hc; simp only; omega, h.within⟩
/-- Whatever good items: a set; or the error, and the place of one of them. -/
theorem do_shape (I : List Itm) (hI : ∀ x ∈ I, goodI x = true) : ∀ (s : St) (L : List (Nat × Nat)), Grown s L → s.many ≤ 2000 →
    (∃ L' : List (Nat × Nat), doL I s = (L'.map upC, 0, 0) ∧ L'.Pairwise lessN ∧ L'.length ≤ 2000 ∧ ∀ c ∈ L', c.1 < 1099511627776 ∧ c.2 ≤ 1099511627776) ∨ (∃ e p, doL I s = ([], e, p) ∧ (e = 2 ∨ e = 3) ∧ ∃ x ∈ I, x.2.2 = p) := by
  induction I with
  | nil =>
    intro s L h hm
    exact .inl ⟨L, by show (s.out, (0 : Int), 0) = _; rw [h.out], h.rises, by rw [h.many]; exact hm, h.within⟩
  | cons x r ih =>
    intro s L h hm
    obtain ⟨t, n, p⟩ := x
    have hx := (goodI_iff _).1 (hI (t, n, p) (by simp))
    unfold doL
    by_cases h1 : farS (stepS s t n) = true
    · rw [if_pos h1]
      exact .inr ⟨2, p, rfl, .inl rfl, (t, n, p), by simp, rfl⟩
    · rw [if_neg h1]
      by_cases h2 : fullS (stepS s t n) = true
      · rw [if_pos h2]
        exact .inr ⟨3, p, rfl, .inr rfl, (t, n, p), by simp, rfl⟩
      · rw [if_neg h2]
        have ho : okS (stepS s t n) = true := by unfold okS; simp [h1, h2]
        obtain ⟨L', hL'⟩ := grown_step h t n hx.1 hx.2.1 ho
        rcases ih (fun x hx => hI x (List.mem_cons_of_mem _ hx)) _ L' hL' ((ok_iff _).1 ho).2.2 with h4 | ⟨e, p', h4, h5, y, hy, hy2⟩
        · exact .inl h4
        · exact .inr ⟨e, p', h4, h5, y, List.mem_cons_of_mem _ hy, hy2⟩
theorem do_set (I : List Itm) (hI : ∀ x ∈ I, goodI x = true) :
    (∃ L : List (Nat × Nat), doL I st0 = (L.map upC, 0, 0) ∧ L.Pairwise lessN ∧ L.length ≤ 2000 ∧ ∀ c ∈ L, c.1 < 1099511627776 ∧ c.2 ≤ 1099511627776) ∨ (∃ e p, doL I st0 = ([], e, p) ∧ (e = 2 ∨ e = 3) ∧ ∃ x ∈ I, x.2.2 = p) :=
  do_shape I hI st0 [] grown_0 (Nat.zero_le _)
/-- .. as cells: they rise. -/
theorem up_rises {L : List (Nat × Nat)} (h : L.Pairwise lessN) : Cel.Rises (L.map upC) := by
  unfold Cel.Rises
  rw [List.pairwise_map]
  refine List.Pairwise.imp (fun {a b} h => ?_) h
  rw [Cel.lessB_iff]
  unfold lessN at h
  unfold upC
  simp only
  omega

/-! ### items told one by one -/
theorem rep_go (s : St) (t : UInt8) (n : Nat) (hn : 1 ≤ n) : goS s (List.replicate n (t, 1)) = stepS s t n := by
  induction n with
  | zero => omega
  | succ n ih =>
    rcases Nat.eq_zero_or_pos n with rfl | h
    · rfl
    · rw [List.replicate_succ', goS_append, ih h, goS_one, step_step]
theorem step_ok_mono {s : St} {t : UInt8} {n m : Nat} (h : n ≤ m) (ho : okS (stepS s t m) = true) : okS (stepS s t n) = true := by
  have h1 := (ok_iff _).1 ho
  refine (ok_iff _).2 ?_
  unfold stepS at *
  split
  · rename_i e; rw [if_pos e] at h1; simp only at *; omega
  · rename_i e
    rw [if_neg e] at h1
    split
    · rename_i e2; rw [if_pos e2] at h1; simp only at *; omega
    · rename_i e2; rw [if_neg e2] at h1; simp only at *; omega
theorem rep_fine (s : St) (t : UInt8) (n : Nat) (ho : okS (stepS s t n) = true) : fineS s (List.replicate n (t, 1)) = true := by
  induction n with
  | zero => rfl
  | succ n ih =>
    rw [List.replicate_succ', fineS_append, ih (step_ok_mono (Nat.le_succ n) ho)]
    rcases Nat.eq_zero_or_pos n with rfl | h
    · simpa [fineS, goS] using ho
    · rw [rep_go s t n h]
      simp [fineS, step_step, ho]
/-- every item as so many ones -/
def oneT (q : List Tn) : List Tn := q.flatMap fun x => List.replicate x.2 (x.1, 1)
theorem one_same (q : List Tn) : ∀ (s : St), (∀ x ∈ q, 1 ≤ x.2) → fineS s q = true → fineS s (oneT q) = true ∧ goS s (oneT q) = goS s q := by
  induction q with
  | nil => intro s _ _; exact ⟨rfl, rfl⟩
  | cons x r ih =>
    intro s h1 hf
    simp only [fineS, Bool.and_eq_true] at hf
    have hx := h1 x (by simp)
    obtain ⟨a, b⟩ := ih (stepS s x.1 x.2) (fun y hy => h1 y (List.mem_cons_of_mem _ hy)) hf.2
    have e : oneT (x :: r) = List.replicate x.2 (x.1, 1) ++ oneT r := by simp [oneT]
    rw [e, fineS_append, goS_append, rep_go s x.1 x.2 hx]
    refine ⟨?_, by rw [b]; rfl⟩
    rw [rep_fine s x.1 x.2 hf.1, a]
    rfl
theorem do_one (q : List Tn) (hq : ∀ x ∈ q, 1 ≤ x.2) (hf : fineS st0 q = true) (I : List Itm) (hI : (I.map fun x => (x.1, x.2.1)) = oneT q) : doL I st0 = ((goS st0 q).out, 0, 0) := by
  obtain ⟨a, b⟩ := one_same q st0 hq hf
  rw [do_fine I st0 (by rw [hI]; exact a), hI, b]
end Go.Proofs.YtacpncmdgkljdaaGreatDoor
namespace Go.Proofs.YtacpncmdgkljdaaGreatDoor
open Go.Lib
set_option linter.unusedVariables false

/-! ### lines and parts -/
/-- the first line without its line feed, and what stands behind it -/
def lineL : List UInt8 → Option (List UInt8 × List UInt8)
  | [] => none
  | c :: r => if c = 10 then some ([], r) else (lineL r).map fun q => (c :: q.1, q.2)
/-- what stands ahead of a part's first place, and behind it -/
def cutL (part : List UInt8) : List UInt8 → Option (List UInt8 × List UInt8)
  | [] => if part = [] then some ([], []) else none
  | c :: r => if part.isPrefixOf (c :: r) = true then some ([], (c :: r).drop part.length) else (cutL part r).map fun q => (c :: q.1, q.2)
theorem line_of {a : List UInt8} (h : ∀ c ∈ a, c ≠ 10) (r : List UInt8) : lineL (a ++ 10 :: r) = some (a, r) := by
  induction a with
  | nil => simp [lineL]
  | cons c b ih =>
    show (if c = 10 then _ else (lineL (b ++ 10 :: r)).map _) = _
    rw [if_neg (h c (by simp)), ih fun x hx => h x (List.mem_cons_of_mem _ hx)]
    rfl
theorem line_none {a : List UInt8} (h : ∀ c ∈ a, c ≠ 10) : lineL a = none := by
  induction a with
  | nil => rfl
  | cons c b ih =>
    show (if c = 10 then _ else (lineL b).map _) = _
    rw [if_neg (h c (by simp)), ih fun x hx => h x (List.mem_cons_of_mem _ hx)]
    rfl
/-- A line has no line feed, and is followed by one. -/
theorem line_back : ∀ {l a r : List UInt8}, lineL l = some (a, r) → l = a ++ 10 :: r ∧ ∀ c ∈ a, c ≠ 10 := by
  intro l
  induction l with
  | nil => intro a r h; cases h
  | cons c b ih =>
    intro a r h
    unfold lineL at h
    by_cases hc : c = 10
    · rw [if_pos hc] at h
      injection h with h
      obtain ⟨rfl, rfl⟩ := Prod.mk.inj h
      exact ⟨by rw [hc]; rfl, fun x hx => by cases hx⟩
    · rw [if_neg hc] at h
      cases hb : lineL b with
      | none => rw [hb] at h; cases h
      | some q =>
        rw [hb] at h
        injection h with h
        obtain ⟨rfl, rfl⟩ := Prod.mk.inj h
        obtain ⟨h1, h2⟩ := ih hb
        refine ⟨by rw [h1]; rfl, fun x hx => ?_⟩
        rcases List.mem_cons.1 hx with rfl | hx
        · exact hc
        · exact h2 x hx
theorem cut_ahead {part : List UInt8} {t : UInt8} (hp : part = t :: part.tail) {a : List UInt8} (h : ∀ c ∈ a, c ≠ t) (r : List UInt8) : cutL part (a ++ part ++ r) = some (a, r) := by
  induction a with
  | nil =>
    rw [List.nil_append]
    have e : part ++ r = t :: (part.tail ++ r) := by rw [← List.cons_append, ← hp]
    have hpre : part.isPrefixOf (part ++ r) = true := by rw [List.isPrefixOf_iff_prefix]; exact List.prefix_append _ _
    rw [e] at hpre ⊢
    unfold cutL
    rw [if_pos hpre, ← e]
    simp
  | cons c b ih =>
    show cutL part (c :: (b ++ part ++ r)) = _
    unfold cutL
    have hc : c ≠ t := h c (by simp)
    have hn : ¬ part.isPrefixOf (c :: (b ++ part ++ r)) = true := by
      rw [hp]
      simp [List.isPrefixOf]
      intro e
      exact absurd e.symm hc
    rw [if_neg hn, ih fun x hx => h x (List.mem_cons_of_mem _ hx)]
    rfl
theorem cut_none {part : List UInt8} {t : UInt8} (hp : part = t :: part.tail) {a : List UInt8} (h : ∀ c ∈ a, c ≠ t) : cutL part a = none := by
  induction a with
  | nil => unfold cutL; rw [if_neg (by rw [hp]; simp)]
  | cons c b ih =>
    unfold cutL
    have hc : c ≠ t := h c (by simp)
    have hn : ¬ part.isPrefixOf (c :: b) = true := by
      rw [hp]
      simp [List.isPrefixOf]
      intro e
      exact absurd e.symm hc
    rw [if_neg hn, ih fun x hx => h x (List.mem_cons_of_mem _ hx)]
    rfl

/-! ### heads -/
def pX : List UInt8 := [120, 32, 61, 32]
def pY : List UInt8 := [44, 32, 121, 32, 61, 32]
def pR : List UInt8 := [44, 32, 114, 117, 108, 101, 32, 61, 32, 66, 51, 47, 83, 50, 51]
def numB (l : List UInt8) : Bool := decide ((parseL l).2 = 0)
def headB (l : List UInt8) : Bool :=
  pX.isPrefixOf l && match cutL pY (l.drop 4) with
    | none => false
    | some (w, h) => numB w && match cutL pR h with
      | some (a, b) => numB a && b.isEmpty
      | none => numB h
theorem num_dec {n : Nat} (h : n ≤ 4611686018427387903) : numB (decDigits n) = true := by
  unfold numB parseL
  rw [if_neg (by rw [dec_good]; decide), dec_val, if_neg (by omega)]
  rfl
theorem num_bad {l : List UInt8} (h : badL l = true) : numB l = false := by
  unfold numB parseL
  rw [if_pos h]
  rfl
theorem dig_no {d : List UInt8} (h : ∀ c ∈ d, digB c = true) (t : UInt8) (ht : digB t = false) : ∀ c ∈ d, c ≠ t := fun c hc e => by
  have := h c hc
  rw [e, ht] at this
  cases this
def headText (w h : Nat) (q : List UInt8) : List UInt8 := pX ++ (decDigits w ++ pY ++ (decDigits h ++ q))
theorem head_drop (w h : Nat) (q : List UInt8) : (headText w h q).drop 4 = decDigits w ++ pY ++ (decDigits h ++ q) := rfl
theorem head_pre (w h : Nat) (q : List UInt8) : pX.isPrefixOf (headText w h q) = true := by rw [List.isPrefixOf_iff_prefix]; exact List.prefix_append _ _
theorem head_is (w h : Nat) (q : List UInt8) (hw : w ≤ 4611686018427387903) : headB (headText w h q) = match cutL pR (decDigits h ++ q) with
      | some (a, b) => numB a && b.isEmpty
      | none => numB (decDigits h ++ q) := by
  unfold headB
  rw [head_pre, head_drop, cut_ahead (t := 44) rfl (dig_no (dec_dig w) 44 rfl)]
  simp only [Bool.true_and]
  rw [num_dec hw, Bool.true_and]
theorem head_bare (w h : Nat) (hw : w ≤ 4611686018427387903) (hh : h ≤ 4611686018427387903) : headB (headText w h []) = true := by
  rw [head_is _ _ _ hw, List.append_nil, cut_none (t := 44) rfl (dig_no (dec_dig h) 44 rfl)]
  exact num_dec hh
theorem head_ruled (w h : Nat) (hw : w ≤ 4611686018427387903) (hh : h ≤ 4611686018427387903) : headB (headText w h pR) = true := by
  rw [head_is _ _ _ hw]
  have := cut_ahead (part := pR) (t := 44) rfl (dig_no (dec_dig h) 44 rfl) []
  rw [List.append_nil] at this
  rw [this]
  simp only [num_dec hh]
  rfl
/-- With a z behind it is none. -/
theorem head_z_plain (w h : Nat) (hw : w ≤ 4611686018427387903) : headB (headText w h [122]) = false := by
  have hz : ∀ c ∈ decDigits h ++ [122], c ≠ 44 := by
    intro c hc
    rcases List.mem_append.1 hc with hc | hc
    · exact dig_no (dec_dig h) 44 rfl c hc
    · rw [List.mem_singleton.1 hc]; decide
  rw [head_is _ _ _ hw, cut_none (t := 44) rfl hz]
  simp only
  refine num_bad ?_
  cases hb : badL (decDigits h ++ [122]) with
  | true => rfl
  | false =>
    have := ((badL_iff _).1 hb).2.2 122 (by simp)
    exact absurd this (by decide)
theorem head_z_ruled (w h : Nat) (hw : w ≤ 4611686018427387903) : headB (headText w h (pR ++ [122])) = false := by
  rw [head_is _ _ _ hw, ← List.append_assoc, cut_ahead (part := pR) (t := 44) rfl (dig_no (dec_dig h) 44 rfl) [122]]
  simp
theorem head_line (w h : Nat) (q : List UInt8) (hq : ∀ c ∈ q, c ≠ 10) : ∀ c ∈ headText w h q, c ≠ 10 := by
  have h1 := dig_no (dec_dig w) 10 rfl
  have h2 := dig_no (dec_dig h) 10 rfl
  have h3 : ∀ c ∈ pX, c ≠ 10 := by decide
  have h4 : ∀ c ∈ pY, c ≠ 10 := by decide
  intro c hc
  unfold headText at hc
  simp only [List.mem_append] at hc
  rcases hc with hc | (hc | hc) | hc | hc
  · exact h3 c hc
  · exact h1 c hc
  · exact h4 c hc
  · exact h2 c hc
  · exact hq c hc

/-! ### a whole text -/
/-- lines with a # ahead are passed over -/
def hashN : Nat → List UInt8 → Nat → List UInt8 × Nat
  | 0, l, p => (l, p)
  | f + 1, l, p => if l.head? = some 35 then match lineL l with
      | none => (l, p)
      | some (a, r) => hashN f r (p + a.length + 1)
    else (l, p)
theorem hashN_succ (f : Nat) (l : List UInt8) (p : Nat) : hashN (f + 1) l p = if l.head? = some 35 then match lineL l with
      | none => (l, p)
      | some (a, r) => hashN f r (p + a.length + 1)
    else (l, p) := rfl
def hashL (l : List UInt8) (p : Nat) : List UInt8 × Nat := hashN l.length l p
theorem hashN_fuel : ∀ (f g : Nat) (l : List UInt8) (p : Nat), l.length ≤ f → l.length ≤ g → hashN f l p = hashN g l p := by
  intro f
  induction f with
  | zero =>
    intro g l p hf hg
    have : l = [] := List.eq_nil_of_length_eq_zero (by omega)
    subst this
    cases g with
    | zero => rfl
    | succ g => unfold hashN; rfl
  | succ f ih =>
    intro g l p hf hg
    cases g with
    | zero =>
      have : l = [] := List.eq_nil_of_length_eq_zero (by omega)
      subst this
      unfold hashN; rfl
    | succ g =>
      unfold hashN
      split
      · cases hl : lineL l with
        | none => rfl
        | some q =>
          obtain ⟨a, r⟩ := q
          have hb := (line_back hl).1
          have hlen := congrArg List.length hb
          simp at hlen
          exact ih _ _ _ (by omega) (by omega)
      · rfl
theorem hash_no {l : List UInt8} (h : l.head? ≠ some 35) (p : Nat) : hashL l p = (l, p) := by
  unfold hashL
  cases hn : l.length with
  | zero => rfl
  | succ n => unfold hashN; rw [if_neg h]
theorem hash_one {a : List UInt8} (h : ∀ c ∈ a, c ≠ 10) (r : List UInt8) (p : Nat) : hashL (35 :: a ++ 10 :: r) p = hashL r (p + a.length + 2) := by
  have hl : lineL (35 :: a ++ 10 :: r) = some (35 :: a, r) := line_of (a := 35 :: a) (fun c hc => by
    rcases List.mem_cons.1 hc with rfl | hc
    · decide
    · exact h c hc) r
  unfold hashL
  have hn : (35 :: a ++ 10 :: r).length = (a.length + r.length + 1) + 1 := by simp; omega
  rw [hn, hashN_succ, if_pos (show (35 :: a ++ 10 :: r).head? = some 35 from rfl), hl]
  simp only
  rw [hashN_fuel _ r.length r _ (by omega) (Nat.le_refl _)]
  simp [Nat.add_assoc]
/-- What a pattern's text is parsed as: the cells, the error, the place. -/
def parseP (l : List UInt8) : List (Int × Int) × Int × Nat :=
  if 20000 < l.length then ([], 3, 0)
  else match lineL (hashL l 0).1 with
    | none => ([], 32, (hashL l 0).2)
    | some (h, r) =>
      if headB h = false then ([], 32, (hashL l 0).2)
      else match lexA r with
        | (I, e, p) =>
          if e ≠ 0 then ([], e, (hashL l 0).2 + h.length + 1 + p)
          else match doL I st0 with
            | (out, e2, p2) => if e2 = 0 then (out, 0, 0) else ([], e2, (hashL l 0).2 + h.length + 1 + p2)
/-- What a set's cells, from the box's corner on, are printed as. -/
def printP (w h : Nat) (l : List (Nat × Nat)) : List UInt8 := headText w h pR ++ 10 :: (textL (itemsT (tellL l).1) ++ [33, 10])
theorem headText_len (w h : Nat) (hw : w ≤ 4611686018427387903) (hh : h ≤ 4611686018427387903) (q : List UInt8) : (headText w h q).length ≤ 48 + q.length := by
  have hd : ∀ n : Nat, n ≤ 4611686018427387903 → (decDigits n).length ≤ 19 := by
    intro n hn
    rcases Nat.lt_or_ge 19 (decDigits n).length with h | h
    · have := long_big (dec_good n) h
      rw [dec_val] at this
      omega
    · exact h
  have h1 := hd w hw
  have h2 := hd h hh
  unfold headText
  simp [pX, pY]
  omega
theorem headText_first (w h : Nat) (q r : List UInt8) : (headText w h q ++ r).head? ≠ some 35 := by
  unfold headText pX
  simp
/-- THE STAGE'S THEOREM, as maths: what a set is printed as is parsed as the set, from the box's corner on. -/
theorem parse_print (w h : Nat) (hw : w ≤ 4611686018427387903) (hh : h ≤ 4611686018427387903) (l : List (Nat × Nat)) (hr : l.Pairwise lessN) (hb : ∀ c ∈ l, c.1 < 1099511627776 ∧ c.2 ≤ 1099511627776) (hl : l.length ≤ 2000) (ht : (printP w h l).length ≤ 20000) :
    parseP (printP w h l) = (l.map upC, 0, 0) := by
  have hlen : (textL (itemsT (tellL l).1) ++ 33 :: [10]).length ≤ 20000 := by
    unfold printP at ht
    simp at ht ⊢
    omega
  obtain ⟨m, p, he, hd⟩ := read_told l hr hb hl [10] hlen
  have h1 : hashL (printP w h l) 0 = (printP w h l, 0) := hash_no (headText_first w h pR _) 0
  have h2 : lineL (printP w h l) = some (headText w h pR, textL (itemsT (tellL l).1) ++ [33, 10]) := line_of (head_line w h pR (by decide)) _
  unfold parseP
  rw [if_neg (by omega), h1]
  simp only [h2]
  rw [if_neg (by rw [head_ruled w h hw hh]; decide)]
  have he' : lexA (textL (itemsT (tellL l).1) ++ [33, 10]) = (m, 0, p) := he
  rw [he']
  simp only [ne_eq, not_true_eq_false, if_false, hd, if_true]
end Go.Proofs.YtacpncmdgkljdaaGreatDoor
