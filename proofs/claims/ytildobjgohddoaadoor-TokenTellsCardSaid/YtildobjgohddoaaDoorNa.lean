/-
  Plain maths of layer 3: decimal texts and their values, exponents and their sums.
-/
import Derived.Lib.ItoaMem
import GoSem.Op.String
namespace Go.Proofs.YtildobjgohddoaaDoor
open Go.Lib

/-! ### texts -/
def dv (c : UInt8) : Nat := c.toNat - 48
def digB (c : UInt8) : Bool := decide (48 ≤ c.toNat) && decide (c.toNat ≤ 57)
theorem digB_iff (c : UInt8) : digB c = true ↔ 48 ≤ c.toNat ∧ c.toNat ≤ 57 := by unfold digB; simp
theorem dv_le {c : UInt8} (h : digB c = true) : dv c ≤ 9 := by have := (digB_iff c).1 h; unfold dv; omega
def val (l : List UInt8) : Nat := l.foldl (fun n c => 10 * n + dv c) 0
theorem val_snoc (l : List UInt8) (c : UInt8) : val (l ++ [c]) = 10 * val l + dv c := by unfold val; rw [List.foldl_append]; rfl
theorem foldl_val (l : List UInt8) (a : Nat) : l.foldl (fun n c => 10 * n + dv c) a = a * 10 ^ l.length + val l := by
  induction l generalizing a with
  | nil => simp [val]
  | cons c l ih =>
    unfold val
    simp only [List.foldl_cons, List.length_cons]
    rw [ih, ih (10 * 0 + dv c), Nat.pow_succ]
    grind
theorem val_cons (c : UInt8) (l : List UInt8) : val (c :: l) = dv c * 10 ^ l.length + val l := by
  have := foldl_val l (10 * 0 + dv c)
  simpa [val] using this
theorem val_lt {l : List UInt8} (h : ∀ c ∈ l, digB c = true) : val l < 10 ^ l.length := by
  induction l with
  | nil => simp [val]
  | cons c l ih =>
    rw [val_cons, List.length_cons, Nat.pow_succ]
    have h1 := ih fun d hd => h d (List.mem_cons_of_mem _ hd)
    have h2 := dv_le (h c List.mem_cons_self)
    have h3 : dv c * 10 ^ l.length ≤ 9 * 10 ^ l.length := Nat.mul_le_mul_right _ h2
    omega

/-- a 0 that others follow -/
def zeroB (l : List UInt8) : Bool := decide (1 < l.length) && (l.getD 0 0 == 48)
def badL (l : List UInt8) : Bool := l.isEmpty || zeroB l || !l.all digB
def parseL (l : List UInt8) : Int × Int := if badL l = true then (0, 20) else if 4611686018427387903 < val l then (0, 21) else (val l, 0)
theorem badL_iff (l : List UInt8) : badL l = false ↔ l ≠ [] ∧ zeroB l = false ∧ ∀ c ∈ l, digB c = true := by
  unfold badL
  simp [List.all_eq_true, and_assoc]

theorem ofNat_to (u : Nat) (h : u < 10) : (UInt8.ofNat (48 + u)).toNat = 48 + u := by simp; omega
theorem dig_of (u : Nat) (h : u < 10) : digB (UInt8.ofNat (48 + u)) = true ∧ dv (UInt8.ofNat (48 + u)) = u := by
  rw [digB_iff]
  unfold dv
  rw [ofNat_to u h]
  omega
theorem dec_small {u : Nat} (h : u < 10) : decDigits u = [UInt8.ofNat (48 + u)] := decDigits_one h
theorem dec_big {u : Nat} (h : ¬ u < 10) : decDigits u = decDigits (u / 10) ++ [UInt8.ofNat (48 + u % 10)] := by rw [decDigits, dif_neg h]
theorem dec_dig (u : Nat) : ∀ c ∈ decDigits u, digB c = true := by
  induction u using Nat.strongRecOn with
  | _ u ih =>
    by_cases h : u < 10
    · rw [dec_small h]; intro c hc; simp at hc; subst hc; have := (dig_of u h).1; simpa using this
    · rw [dec_big h]
      intro c hc
      rcases List.mem_append.1 hc with h1 | h1
      · exact ih (u / 10) (by omega) c h1
      · rw [List.mem_singleton.1 h1]; exact (dig_of (u % 10) (by omega)).1
theorem dec_val (u : Nat) : val (decDigits u) = u := by
  induction u using Nat.strongRecOn with
  | _ u ih =>
    by_cases h : u < 10
    · rw [dec_small h]; have := (dig_of u h).2; simp only [val, List.foldl_cons, List.foldl_nil]; omega
    · rw [dec_big h, val_snoc, ih (u / 10) (by omega), (dig_of (u % 10) (by omega)).2]; omega
theorem dec_pos (u : Nat) : 0 < (decDigits u).length := by rw [decDigits_length]; exact nDigits_pos u
theorem dec_head (u : Nat) (h1 : 1 ≤ u) : (decDigits u).getD 0 0 ≠ 48 := by
  induction u using Nat.strongRecOn with
  | _ u ih =>
    by_cases h : u < 10
    · rw [dec_small h]
      intro e
      have e2 := congrArg UInt8.toNat e
      rw [List.getD_cons_zero, ofNat_to u h] at e2
      have : (48 : UInt8).toNat = 48 := rfl
      omega
    · rw [dec_big h]
      have hp := dec_pos (u / 10)
      rw [List.getD_eq_getElem?_getD, List.getElem?_append_left hp, ← List.getD_eq_getElem?_getD]
      exact ih (u / 10) (by omega) (by omega)
theorem dec_zero (u : Nat) : zeroB (decDigits u) = false := by
  unfold zeroB
  by_cases h : u < 10
  · rw [dec_small h]; simp
  · have := dec_head u (by omega)
    simp only [Bool.and_eq_false_iff]
    right
    simpa using this
theorem dec_good (u : Nat) : badL (decDigits u) = false := (badL_iff _).2 ⟨fun e => by have := dec_pos u; rw [e] at this; simp at this, dec_zero u, dec_dig u⟩
theorem parse_dec {u : Nat} (h : u ≤ 4611686018427387903) : parseL (decDigits u) = ((u : Int), 0) := by
  unfold parseL
  rw [dec_good, dec_val]
  simp
  omega
theorem dec_of_val : ∀ (n : Nat) (l : List UInt8), l.length = n → badL l = false → decDigits (val l) = l := by
  intro n
  induction n with
  | zero => intro l hl h; exact absurd (List.eq_nil_of_length_eq_zero hl) ((badL_iff l).1 h).1
  | succ n ih =>
    intro l hl h
    obtain ⟨hne, hz, hd⟩ := (badL_iff l).1 h
    obtain ⟨m, c, rfl⟩ : ∃ m c, l = m ++ [c] := ⟨l.dropLast, l.getLast hne, (List.dropLast_concat_getLast hne).symm⟩
    have hc := hd c (by simp)
    have hc9 := dv_le hc
    have hcc : UInt8.ofNat (48 + dv c) = c := by
      have := (digB_iff c).1 hc
      unfold dv
      rw [show 48 + (c.toNat - 48) = c.toNat by omega]
      simp
    by_cases hm : m = []
    · subst hm
      have e : val ([] ++ [c]) = dv c := by rw [val_snoc]; simp [val]
      rw [e, dec_small (by omega), hcc]
      rfl
    · have hml : 0 < m.length := List.length_pos_iff.2 hm
      have hh : (m ++ [c]).getD 0 0 = m.getD 0 0 := by rw [List.getD_eq_getElem?_getD, List.getElem?_append_left hml, ← List.getD_eq_getElem?_getD]
      have h48 : m.getD 0 0 ≠ 48 := by
        intro e
        unfold zeroB at hz
        rw [hh, e] at hz
        simp at hz
        exact hm hz
      have hgm : badL m = false := (badL_iff m).2 ⟨hm, by
        unfold zeroB
        simp only [Bool.and_eq_false_iff]
        right
        simpa using h48, fun d hdm => hd d (by simp [hdm])⟩
      have hi := ih m (by simp at hl; omega) hgm
      have h1 : 1 ≤ val m := by
        rcases Nat.eq_zero_or_pos (val m) with e | e
        · rw [e, dec_small (by omega)] at hi
          exact absurd (by rw [← hi]; rfl) h48
        · exact e
      rw [val_snoc, dec_big (by omega), show (10 * val m + dv c) / 10 = val m by omega, show (10 * val m + dv c) % 10 = dv c by omega, hi, hcc]
theorem dec_back {l : List UInt8} (h : badL l = false) : decDigits (val l) = l := dec_of_val _ l rfl h
theorem nd_le (u : Nat) (h : 1 ≤ u) : 10 ^ nDigits u ≤ 10 * u := by
  induction u using Nat.strongRecOn with
  | _ u ih =>
    by_cases h10 : u < 10
    · rw [nDigits_small h10]; omega
    · rw [nDigits_big h10, Nat.pow_succ]
      have := ih (u / 10) (by omega) (by omega)
      omega
theorem nd_max {u : Nat} (h : u ≤ 4611686018427387903) : nDigits u ≤ 19 := by
  rcases Nat.eq_zero_or_pos u with rfl | hp
  · rw [nDigits_small (by omega)]; omega
  · have := nd_le u hp
    rcases Nat.lt_or_ge 19 (nDigits u) with h1 | h1
    · have h2 := Nat.pow_le_pow_right (n := 10) (by decide) h1
      have h3 : (10 : Nat) ^ (19 + 1) = 100000000000000000000 := by decide
      have h4 : (10 : Nat) ^ Nat.succ 19 = 100000000000000000000 := by decide
      omega
    · exact h1
theorem nd_min {u : Nat} (h : 4611686018427387903 < u) : 19 ≤ nDigits u := by
  have := lt_pow_nDigits u
  rcases Nat.lt_or_ge (nDigits u) 19 with h1 | h1
  · have h2 := Nat.pow_le_pow_right (n := 10) (by decide) (show nDigits u ≤ 18 by omega)
    have h3 : (10 : Nat) ^ 18 = 1000000000000000000 := by decide
    omega
  · exact h1
theorem long_big {l : List UInt8} (h : badL l = false) (hl : 19 < l.length) : 4611686018427387903 < val l := by
  rcases Nat.lt_or_ge 4611686018427387903 (val l) with h1 | h1
  · exact h1
  · have := nd_max h1
    rw [← decDigits_length, dec_back h] at this
    omega
theorem big_long {l : List UInt8} (h : badL l = false) (hv : 4611686018427387903 < val l) : 19 ≤ l.length := by
  have := nd_min hv
  rwa [← decDigits_length, dec_back h] at this
theorem val_mono {l : List UInt8} (k : Nat) : val (l.take k) ≤ val l := by
  have h : ∀ (m : List UInt8) (a : Nat), a ≤ m.foldl (fun n c => 10 * n + dv c) a := by
    intro m
    induction m with
    | nil => intro a; exact Nat.le_refl _
    | cons c m ih => intro a; exact Nat.le_trans (by omega) (ih (10 * a + dv c))
  have e : l = l.take k ++ l.drop k := (List.take_append_drop k l).symm
  conv => rhs; rw [e]
  unfold val
  rw [List.foldl_append]
  exact h _ _

/-! ### the order of texts -/
theorem less_val : ∀ (l m : List UInt8), l.length = m.length → (∀ c ∈ l, digB c = true) → (∀ c ∈ m, digB c = true) → Op.bytesLess l m = decide (val l < val m)
  | [], [], _, _, _ => by simp [Op.bytesLess]
  | [], _ :: _, h, _, _ => by simp at h
  | _ :: _, [], h, _, _ => by simp at h
  | a :: l, b :: m, h, hl, hm => by
    have hlen : l.length = m.length := by simpa using h
    have ih := less_val l m hlen (fun c hc => hl c (List.mem_cons_of_mem _ hc)) (fun c hc => hm c (List.mem_cons_of_mem _ hc))
    have v1 := val_lt (l := l) (fun c hc => hl c (List.mem_cons_of_mem _ hc))
    have v2 := val_lt (l := m) (fun c hc => hm c (List.mem_cons_of_mem _ hc))
    have d1 := (digB_iff a).1 (hl a List.mem_cons_self)
    have d2 := (digB_iff b).1 (hm b List.mem_cons_self)
    have ea : dv a = a.toNat - 48 := rfl
    have eb : dv b = b.toNat - 48 := rfl
    rw [Op.bytesLess, ih, val_cons, val_cons, hlen]
    rw [hlen] at v1
    generalize val l = x at *
    generalize val m = y at *
    generalize 10 ^ m.length = p at *
    rw [Bool.eq_iff_iff]
    simp only [Bool.or_eq_true, Bool.and_eq_true, decide_eq_true_eq, beq_iff_eq, UInt8.lt_iff_toNat_lt, ← UInt8.toNat_inj]
    rcases Nat.lt_trichotomy a.toNat b.toNat with h1 | h1 | h1
    · have h2 : dv a * p + p ≤ dv b * p := by
        have : (dv a + 1) * p ≤ dv b * p := Nat.mul_le_mul_right p (by omega)
        rwa [Nat.add_mul, Nat.one_mul] at this
      omega
    · rw [ea, eb, h1]; omega
    · have h2 : dv b * p + p ≤ dv a * p := by
        have : (dv b + 1) * p ≤ dv a * p := Nat.mul_le_mul_right p (by omega)
        rwa [Nat.add_mul, Nat.one_mul] at this
      omega
theorem dec_order (x y : Nat) : decide (x < y) = (decide ((decDigits x).length < (decDigits y).length) || (decide ((decDigits x).length = (decDigits y).length) && Op.bytesLess (decDigits x) (decDigits y))) := by
  have key : ∀ x y : Nat, (decDigits x).length < (decDigits y).length → x < y := by
    intro x y h
    rw [decDigits_length, decDigits_length] at h
    have h1 := lt_pow_nDigits x
    have h0 := nDigits_pos x
    have h2 := nd_le y (by
      rcases Nat.eq_zero_or_pos y with rfl | hp
      · rw [nDigits_small (u := 0) (by decide)] at h; have := nDigits_pos x; omega
      · exact hp)
    have h3 := Nat.pow_le_pow_right (n := 10) (by decide) h
    rw [Nat.pow_succ] at h3
    omega
  rcases Nat.lt_trichotomy (decDigits x).length (decDigits y).length with h | h | h
  · have := key x y h
    simp [this, h]
  · rw [less_val _ _ h (dec_dig x) (dec_dig y), dec_val, dec_val]
    simp [h]
  · have := key y x h
    have h1 : ¬ x < y := by omega
    have h2 : ¬ (decDigits x).length < (decDigits y).length := by omega
    have h3 : ¬ (decDigits x).length = (decDigits y).length := by omega
    simp [h1, h2, h3]
theorem dec_inj {x y : Nat} (h : decDigits x = decDigits y) : x = y := by rw [← dec_val x, h, dec_val]

def txtL (n : Int) : List UInt8 := if 0 ≤ n ∧ n ≤ 4611686018427387903 then decDigits n.toNat else []
theorem txtL_nat {u : Nat} (h : u ≤ 4611686018427387903) : txtL (u : Int) = decDigits u := by unfold txtL; rw [if_pos (by omega)]; simp
theorem txtL_len (n : Int) : (txtL n).length ≤ 19 := by
  unfold txtL
  split
  · rw [decDigits_length]; exact nd_max (by omega)
  · simp

/-! ### exponents -/
def bitsTo (n k : Nat) : List Int := ((List.range k).filter fun i => n.testBit i).map fun i : Nat => (i : Int)
theorem bitsTo_succ (n k : Nat) : bitsTo n (k + 1) = bitsTo n k ++ if n.testBit k = true then [(k : Int)] else [] := by
  unfold bitsTo
  rw [List.range_succ, List.filter_append, List.map_append]
  congr 1
  by_cases h : n.testBit k = true <;> simp [h]
theorem bitsTo_len (n k : Nat) : (bitsTo n k).length ≤ k := by
  unfold bitsTo
  rw [List.length_map]
  exact Nat.le_trans (List.length_filter_le _ _) (by simp)
theorem bitsTo_bd (n k : Nat) : ∀ e ∈ bitsTo n k, 0 ≤ e ∧ e < k := by
  intro e he
  unfold bitsTo at he
  obtain ⟨i, hi, rfl⟩ := List.mem_map.1 he
  have := List.mem_range.1 (List.mem_filter.1 hi).1
  omega
theorem bitsTo_rises (n k : Nat) : (bitsTo n k).Pairwise (· < ·) := by
  unfold bitsTo
  rw [List.pairwise_map]
  refine List.Pairwise.imp ?_ (List.Pairwise.filter _ (List.pairwise_lt_range (n := k)))
  intro a b h
  omega
def bitsL (n : Int) : List Int := if 0 ≤ n ∧ n ≤ 4611686018427387903 then bitsTo n.toNat 62 else []
theorem bitsL_nat {u : Nat} (h : u ≤ 4611686018427387903) : bitsL (u : Int) = bitsTo u 62 := by unfold bitsL; rw [if_pos (by omega)]; simp
theorem bitsL_len (n : Int) : (bitsL n).length ≤ 62 := by
  unfold bitsL
  split
  · exact bitsTo_len _ _
  · simp
theorem bitsL_bd (n : Int) : ∀ e ∈ bitsL n, 0 ≤ e ∧ e ≤ 61 := by
  intro e he
  unfold bitsL at he
  split at he
  · have := bitsTo_bd _ _ e he; omega
  · simp at he
theorem bitsL_rises (n : Int) : (bitsL n).Pairwise (· < ·) := by
  unfold bitsL
  split
  · exact bitsTo_rises _ _
  · exact List.Pairwise.nil

def total (l : List Int) : Nat := (l.map fun e => 2 ^ e.toNat).sum
theorem total_nil : total [] = 0 := rfl
theorem total_append (l m : List Int) : total (l ++ m) = total l + total m := by unfold total; rw [List.map_append, List.sum_append]
theorem total_one (e : Int) : total [e] = 2 ^ e.toNat := by simp [total]
theorem total_take_succ {l : List Int} {k : Nat} (h : k < l.length) : total (l.take (k + 1)) = total (l.take k) + 2 ^ (l.getD k 0).toNat := by
  rw [List.take_succ_eq_append_getElem h, total_append, total_one, List.getD_eq_getElem?_getD, List.getElem?_eq_getElem h, Option.getD_some]
theorem total_take_le (l : List Int) (k : Nat) : total (l.take k) ≤ total l := by
  conv => rhs; rw [← List.take_append_drop k l]
  rw [total_append]
  omega
theorem total_up {l : List Int} (h : ∀ e ∈ l, 0 ≤ e) : total (l.map (· + 1)) = 2 * total l := by
  induction l with
  | nil => rfl
  | cons e l ih =>
    have h0 := h e List.mem_cons_self
    have hi := ih fun d hd => h d (List.mem_cons_of_mem _ hd)
    unfold total at *
    simp only [List.map_cons, List.sum_cons]
    rw [hi, show (e + 1).toNat = e.toNat + 1 by omega, Nat.pow_succ]
    omega
theorem total_bits (n k : Nat) : total (bitsTo n k) = n % 2 ^ k := by
  induction k with
  | zero => simp [bitsTo, total, Nat.mod_one]
  | succ k ih =>
    rw [bitsTo_succ, total_append, ih, Nat.pow_succ, Nat.mod_mul]
    congr 1
    rw [Nat.testBit_eq_decide_div_mod_eq]
    by_cases h : n / 2 ^ k % 2 = 1
    · simp [h, total]
    · have : n / 2 ^ k % 2 = 0 := by omega
      simp [this, total]
theorem total_bitsL {u : Nat} (h : u ≤ 4611686018427387903) : total (bitsL (u : Int)) = u := by
  rw [bitsL_nat h, total_bits]
  exact Nat.mod_eq_of_lt (by have : (2 : Nat) ^ 62 = 4611686018427387904 := by decide
                             omega)
def awayB (l : List Int) : Bool := l.any fun e => decide (e < 0) || decide (61 < e)
theorem awayB_no {l : List Int} (h : ∀ e ∈ l, 0 ≤ e ∧ e ≤ 61) : awayB l = false := by
  unfold awayB
  rw [List.any_eq_false]
  intro e he
  have := h e he
  simp
  omega
def sumL (l : List Int) : Int × Int := if awayB l = true then (0, 1) else if 4611686018427387903 < total l then (0, 21) else (total l, 0)
theorem sumL_ok {l : List Int} (h : ∀ e ∈ l, 0 ≤ e ∧ e ≤ 61) (ht : total l ≤ 4611686018427387903) : sumL l = ((total l : Int), 0) := by
  unfold sumL
  rw [awayB_no h, if_neg (by decide), if_neg (by omega)]
theorem sumL_bits {u : Nat} (h : u ≤ 4611686018427387903) : sumL (bitsL (u : Int)) = ((u : Int), 0) := by
  have := sumL_ok (bitsL_bd (u : Int)) (by rw [total_bitsL h]; exact h)
  rwa [total_bitsL h] at this

theorem bits_twice {x : Nat} (h : x < 1152921504606846976) : bitsTo (2 * x) 62 = (bitsTo x 62).map (· + 1) := by
  have h61 : x.testBit 61 = false := Nat.testBit_lt_two_pow (by have : (2 : Nat) ^ 61 = 2305843009213693952 := by decide
                                                                omega)
  have e1 : bitsTo x 62 = bitsTo x 61 := by rw [bitsTo_succ]; simp [h61]
  rw [e1]
  unfold bitsTo
  rw [List.range_succ_eq_map, List.filter_cons]
  have h0 : (2 * x).testBit 0 = false := by simp
  rw [if_neg (by rw [h0]; decide), List.filter_map, List.map_map, List.map_map]
  have e2 : ((fun i => (2 * x).testBit i) ∘ Nat.succ) = fun i => x.testBit i := by
    funext i
    simp only [Function.comp_apply]
    rw [Nat.testBit_succ, show 2 * x / 2 = x by omega]
  rw [e2]
  refine List.map_congr_left fun i _ => ?_
  simp
theorem bits_twice1 {x : Nat} (h : x < 1152921504606846976) : bitsTo (2 * x + 1) 62 = 0 :: (bitsTo x 62).map (· + 1) := by
  have h61 : x.testBit 61 = false := Nat.testBit_lt_two_pow (by have : (2 : Nat) ^ 61 = 2305843009213693952 := by decide
                                                                omega)
  have e1 : bitsTo x 62 = bitsTo x 61 := by rw [bitsTo_succ]; simp [h61]
  rw [e1]
  unfold bitsTo
  rw [List.range_succ_eq_map, List.filter_cons]
  have h0 : (2 * x + 1).testBit 0 = true := by simp
  rw [if_pos h0, List.filter_map, List.map_cons, List.map_map, List.map_map]
  have e2 : ((fun i => (2 * x + 1).testBit i) ∘ Nat.succ) = fun i => x.testBit i := by
    funext i
    simp only [Function.comp_apply]
    rw [Nat.testBit_succ, show (2 * x + 1) / 2 = x by omega]
  rw [e2]
  rfl

end Go.Proofs.YtildobjgohddoaaDoor
