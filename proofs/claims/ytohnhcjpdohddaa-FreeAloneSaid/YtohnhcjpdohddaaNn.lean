/-
  CountSums: sums of lists, one behind the other, are the sums of the whole; the order makes no difference: the law returns true whatever list and number come in.
  Conditions: none.
-/
import Derived.Test.YtohnhcjpdohddaaNl
import Derived.Test.YtohnhcjpdohddaaB03
namespace Go.Proofs.Ytohnhcjpdohddaa
open Go.RowKit Go.Sort

/-- the raw numbers that the law makes a list of, at most b of them, each below d -/
def rawTo (d : Int) (raw : List Int) (k : Nat) : List Int := (raw.take k).map fun c => pickI c d
theorem length_rawTo (d : Int) (raw : List Int) (k : Nat) : (rawTo d raw k).length = min k raw.length := by simp [rawTo]
theorem rawTo_succ {d : Int} {raw : List Int} {k : Nat} (h : k < raw.length) : rawTo d raw (k + 1) = rawTo d raw k ++ [pickI (raw.getD k 0) d] := by
  unfold rawTo
  rw [List.take_succ_eq_append_getElem h, List.map_append, List.getD_eq_getElem?_getD, List.getElem?_eq_getElem h]
  rfl
theorem rawTo_bd {d : Int} (hd : 1 ≤ d) {raw : List Int} {k : Nat} : ∀ e ∈ rawTo d raw k, 0 ≤ e ∧ e < d := by
  intro e he
  obtain ⟨c, _, rfl⟩ := List.mem_map.1 he
  exact pickI_bd c d hd
theorem total_le {l : List Int} {m : Nat} (h : ∀ e ∈ l, 0 ≤ e ∧ e ≤ m) : total l ≤ l.length * 2 ^ m := by
  induction l with
  | nil => simp [total]
  | cons e l ih =>
    have h0 := h e List.mem_cons_self
    have h1 := ih fun d hd => h d (List.mem_cons_of_mem _ hd)
    have h2 := Nat.pow_le_pow_right (n := 2) (by decide) (show e.toNat ≤ m by omega)
    have h3 : total (e :: l) = 2 ^ e.toNat + total l := by simp [total]
    rw [h3, List.length_cons, Nat.add_mul]
    omega

/-! ### pieces of a slice that the call has made -/
def Shape (A : Option Addr) (n c : Nat) : Prop := (A = none ∧ c = 0 ∧ n = 0) ∨ ∃ g, A = some ⟨g, 0, none⟩
theorem own_parts {w : World} {B : Nat} {v : Value} {l : List Int} (h : Own w B v l) : ∃ A c, v = .slice A l.length c ∧ l.length ≤ c ∧ c ≤ maxLen ∧ Now w A l ∧ Shape A l.length c := by
  obtain ⟨A, c, rfl, hc, hN⟩ := Own.reads h
  rcases h.2 with ⟨he, h0⟩ | ⟨g, cap, cur, he, _, _, _, hcap, _, _⟩
  · simp only [Value.slice.injEq] at he
    exact ⟨A, c, rfl, hc, by rw [he.2.2]; unfold maxLen; omega, hN, .inl ⟨he.1, he.2.2, he.2.1⟩⟩
  · simp only [Value.slice.injEq] at he
    exact ⟨A, c, rfl, hc, by rw [he.2.2]; exact hcap, hN, .inr ⟨g, he.1⟩⟩
theorem now_drop {w : World} {b off : Nat} {l : List Int} (h : Now w (some ⟨b, off, none⟩) l) {t : Nat} (ht : t < l.length) : Now w (some ⟨b, off + t, none⟩) (l.drop t) := by
  intro j hj
  rw [List.length_drop] at hj
  obtain ⟨b', off', e, hlt, h0⟩ := h (t + j) (by omega)
  simp only [Option.some.injEq, Addr.mk.injEq, and_true] at e
  obtain ⟨rfl, rfl⟩ := e
  refine ⟨b, off + t, rfl, hlt, ?_⟩
  rw [Nat.add_assoc, h0]
  simp [List.getD_eq_getElem?_getD, List.getElem?_drop]
theorem now_take {w : World} {A : Option Addr} {l : List Int} (h : Now w A l) (t : Nat) : Now w A (l.take t) := by
  intro j hj
  rw [List.length_take] at hj
  obtain ⟨b, off, e, hlt, h0⟩ := h j (by omega)
  refine ⟨b, off, e, hlt, ?_⟩
  rw [h0]
  simp [List.getD_eq_getElem?_getD, List.getElem?_take, show j < t by omega]

theorem slice_from {w : World} {A : Option Addr} {l : List Int} {n c t : Nat} (hs : Shape A n c) (hN : Now w A l) (hn : n = l.length) (ht : t ≤ n) (hc : n ≤ c) (hm : c ≤ maxLen) :
    ∃ AT cT, Now w AT (l.drop t) ∧ n - t ≤ cT ∧ ∀ W, (Instr.slice 23 (.slice A n c) (some (.int .i64 (t : Int))) none none).run Try.prog W = .ok (.slice AT (n - t) cT) W := by
  subst hn
  unfold maxLen at hm
  rcases hs with ⟨rfl, rfl, h0⟩ | ⟨g, rfl⟩
  · obtain rfl : l = [] := List.eq_nil_of_length_eq_zero h0
    obtain rfl : t = 0 := by simpa using ht
    refine ⟨none, 0, Rd.nil _ _ _, by simp, fun W => ?_⟩
    go_simp
  · refine ⟨if c = t then (some ⟨g, 0, none⟩ : Option Addr) else some ⟨g, t, none⟩, c - t, ?_, by omega, fun W => ?_⟩
    · by_cases htl2 : t < l.length
      · rw [if_neg (by omega)]
        have := now_drop hN htl2
        rwa [Nat.zero_add] at this
      · rw [List.drop_eq_nil_of_le (by omega)]
        exact Rd.nil _ _ _
    · go_simp
theorem slice_to {A : Option Addr} {n c t : Nat} (hs : Shape A n c) (ht : t ≤ n) (hc : n ≤ c) (hm : c ≤ maxLen) :
    ∀ W, (Instr.slice 23 (.slice A n c) none (some (.int .i64 (t : Int))) none).run Try.prog W = .ok (.slice A t c) W := by
  unfold maxLen at hm
  intro W
  rcases hs with ⟨rfl, rfl, rfl⟩ | ⟨g, rfl⟩
  · obtain rfl : t = 0 := by omega
    go_simp
  · have htc : t ≤ c := by omega
    go_simp

theorem exec_from {o : Oper} {ev : Operand → Value} {x y : Operand} {v i r : Value} (ho : o.op = .slice 23 x (some y) none none) (hx : ev x = v) (hy : ev y = i) (h : ∀ W, (Instr.slice 23 v (some i) none none).run Try.prog W = .ok r W) (w : World) : (execOp ev o).run Try.prog w = .ok (.value r) w := by
  simp [execOp, ho, hx, hy, Result.andThen, run_sliceAt_slice (P := Try.prog) w 23 _ _ _ _ (by kernel_rfl), h]
theorem exec_to {o : Oper} {ev : Operand → Value} {x y : Operand} {v i r : Value} (ho : o.op = .slice 23 x none (some y) none) (hx : ev x = v) (hy : ev y = i) (h : ∀ W, (Instr.slice 23 v none (some i) none).run Try.prog W = .ok r W) (w : World) : (execOp ev o).run Try.prog w = .ok (.value r) w := by
  simp [execOp, ho, hx, hy, Result.andThen, run_sliceAt_slice (P := Try.prog) w 23 _ _ _ _ (by kernel_rfl), h]

/-- append of two pieces to nothing -/
theorem turn_any {w : World} {A A' : Option Addr} {l m : List Int} (c c' : Nat) (hl : Now w A l) (hm : Now w A' m) (hlen : l.length + m.length ≤ 1000) :
    ∃ v1 w1 v2 w2, (Builtin.append_ #[23, 23] 23 #[.slice none 0 0, .slice A l.length c]).run Try.prog w = .ok v1 w1 ∧
      (Builtin.append_ #[23, 23] 23 #[v1, .slice A' m.length c']).run Try.prog w1 = .ok v2 w2 ∧ Hid (Own w2 w.heap.size v2 (l ++ m)) ∧ Below w.heap.size w w2 := by
  have h0 : Own w w.heap.size (.slice none 0 0) [] := World.ownsRow_nil _ _ _ _
  obtain ⟨v1, w1, r1, o1, g1⟩ := app_any (w := w) (v := .slice none 0 0) (out := []) c (Nat.le_refl _) h0 hl (by simp; omega)
  have b1 : Below w.heap.size w w1 := (Below.refl _ _).grown g1 (Nat.le_refl _) (fun k e => by cases e)
  obtain ⟨v2, w2, r2, o2, g2⟩ := app_any c' b1.size o1 (hm.below b1) (by simp; omega)
  have b2 : Below w.heap.size w w2 := b1.grown g2 b1.size (fun k e => (World.ownsRow.lt o1 k e).1)
  exact ⟨v1, w1, v2, w2, r1, r2, o2, b2⟩

/-- the list of at most 40 numbers below 50, in two parts -/
structure Parts (l : List Int) (t ta tb : Nat) : Prop where
  one : sumL (l.take t) = ((ta : Int), 0)
  two : sumL (l.drop t) = ((tb : Int), 0)
  all : sumL l = ((ta : Int) + (tb : Int), 0)
  turned : sumL (l.drop t ++ l.take t) = ((ta : Int) + (tb : Int), 0)
  small : ta + tb ≤ 22517998136852480
theorem parts_of {l : List Int} (hl : l.length ≤ 40) (h : ∀ e ∈ l, 0 ≤ e ∧ e < 50) (t : Nat) : Parts l t (total (l.take t)) (total (l.drop t)) := by
  have h61 : ∀ e ∈ l, 0 ≤ e ∧ e ≤ 61 := fun e he => by have := h e he; omega
  have htot : total (l.take t) + total (l.drop t) = total l := by rw [← total_append, List.take_append_drop]
  have hb : total l ≤ 22517998136852480 := by
    have h1 := total_le (m := 49) (l := l) (fun e he => by have := h e he; omega)
    have h2 : (2 : Nat) ^ 49 = 562949953421312 := by decide
    rw [h2] at h1
    have h3 : l.length * 562949953421312 ≤ 40 * 562949953421312 := Nat.mul_le_mul_right _ hl
    omega
  refine ⟨sumL_ok (fun e he => h61 e (List.mem_of_mem_take he)) (by omega), sumL_ok (fun e he => h61 e (List.mem_of_mem_drop he)) (by omega), ?_, ?_, by omega⟩
  · rw [sumL_ok h61 (by omega), ← htot]
    simp
  · rw [sumL_ok (fun e he => by
      rcases List.mem_append.1 he with h1 | h1
      · exact h61 e (List.mem_of_mem_drop h1)
      · exact h61 e (List.mem_of_mem_take h1)) (by rw [total_append]; omega), total_append]
    simp
    omega
theorem small_i64 {l : List Int} (h : ∀ e ∈ l, 0 ≤ e ∧ e < 50) : ∀ e ∈ l, I64 e := fun e he => by have := h e he; exact i64_small (by omega)

end Go.Proofs.Ytohnhcjpdohddaa
