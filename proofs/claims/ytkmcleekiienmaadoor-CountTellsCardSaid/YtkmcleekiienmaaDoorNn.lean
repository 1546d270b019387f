/-
  CountSums: sums of lists, one behind the other, are the sums of the whole; the order makes no difference: the law returns true whatever list and number come in.
  Conditions: none.
-/
import Derived.Test.YtkmcleekiienmaaDoorNl
import Derived.Test.YtkmcleekiienmaaDoorQr
namespace Go.Proofs.YtkmcleekiienmaaDoor
open Go.RowKit Go.Sort

/-- the raw numbers that the law makes a list of, at most b of them, each below d -/
def rawTo (d : Int) (raw : List Int) (k : Nat) : List Int := (raw.take k).map fun c => pickI c d
theorem length_rawTo (d : Int) (raw : List Int) (k : Nat) : (rawTo d raw k).length = min k raw.length := by simp [rawTo]
theorem rawTo_succ {d : Int} {raw : List Int} {k : Nat} (h : k < raw.length) : rawTo d raw (k + 1) = rawTo d raw k ++ [pickI (raw.getD k 0) d] := by
  unfold rawTo
  rw [List.take_succ_eq_append_getElem h, List.map_append, List.getD_eq_getElem?_getD, List.getElem?_eq_getElem h]
  rfl
theorem rawTo_bd {d : Int} (hd : 1 ≤ d) {raw : List Int} {k : Nat} : ∀ e ∈ rawTo d raw k, 0 ≤ e ∧ e < d := by
  intro e he
  obtain ⟨c, _, rfl⟩ := List.mem_map.1 he
  exact pickI_bd c d hd
theorem total_le {l : List Int} {m : Nat} (h : ∀ e ∈ l, 0 ≤ e ∧ e ≤ m) : total l ≤ l.length * 2 ^ m := by
  induction l with
  | nil => simp [total]
  | cons e l ih =>
    have h0 := h e List.mem_cons_self
    have h1 := ih fun d hd => h d (List.mem_cons_of_mem _ hd)
    have h2 := Nat.pow_le_pow_right (n := 2) (by decide) (show e.toNat ≤ m by omega)
    have h3 : total (e :: l) = 2 ^ e.toNat + total l := by simp [total]
    rw [h3, List.length_cons, Nat.add_mul]
    omega

/-! ### pieces of a slice that the call has made -/
def Shape (A : Option Addr) (n c : Nat) : Prop := (A = none ∧ c = 0 ∧ n = 0) ∨ ∃ g, A = some ⟨g, 0, none⟩
theorem own_parts {w : World} {B : Nat} {v : Value} {l : List Int} (h : Own w B v l) : ∃ A c, v = .slice A l.length c ∧ l.length ≤ c ∧ c ≤ maxLen ∧ Now w A l ∧ Shape A l.length c := by
  obtain ⟨A, c, rfl, hc, hN⟩ := Own.reads h
  rcases h.2 with ⟨he, h0⟩ | ⟨g, cap, cur, he, _, _, _, hcap, _, _⟩
  · simp only [Value.slice.injEq] at he
    exact ⟨A, c, rfl, hc, by rw [he.2.2]; unfold maxLen; omega, hN, .inl ⟨he.1, he.2.2, he.2.1⟩⟩
  · simp only [Value.slice.injEq] at he
    exact ⟨A, c, rfl, hc, by rw [he.2.2]; exact hcap, hN, .inr ⟨g, he.1⟩⟩
theorem now_drop {w : World} {b off : Nat} {l : List Int} (h : Now w (some ⟨b, off, none⟩) l) {t : Nat} (ht : t < l.length) : Now w (some ⟨b, off + t, none⟩) (l.drop t) := by
  intro j hj
  rw [List.length_drop] at hj
  obtain ⟨b', off', e, hlt, h0⟩ := h (t + j) (by omega)
  simp only [Option.some.injEq, Addr.mk.injEq, and_true] at e
  obtain ⟨rfl, rfl⟩ := e
  refine ⟨b, off + t, rfl, hlt, ?_⟩
  rw [Nat.add_assoc, h0]
  simp [List.getD_eq_getElem?_getD, List.getElem?_drop]
theorem now_take {w : World} {A : Option Addr} {l : List Int} (h : Now w A l) (t : Nat) : Now w A (l.take t) := by
  intro j hj
  rw [List.length_take] at hj
  obtain ⟨b, off, e, hlt, h0⟩ := h j (by omega)
  refine ⟨b, off, e, hlt, ?_⟩
  rw [h0]
  simp [List.getD_eq_getElem?_getD, List.getElem?_take, show j < t by omega]

theorem slice_from {w : World} {A : Option Addr} {l : List Int} {n c t : Nat} (hs : Shape A n c) (hN : Now w A l) (hn : n = l.length) (ht : t ≤ n) (hc : n ≤ c) (hm : c ≤ maxLen) :
    ∃ AT cT, Now w AT (l.drop t) ∧ n - t ≤ cT ∧ ∀ W, (Instr.slice 22 (.slice A n c) (some (.int .i64 (t : Int))) none none).run Tryd.prog W = .ok (.slice AT (n - t) cT) W := by
  subst hn
  unfold maxLen at hm
  rcases hs with ⟨rfl, rfl, h0⟩ | ⟨g, rfl⟩
  · obtain rfl : l = [] := List.eq_nil_of_length_eq_zero h0
    obtain rfl : t = 0 := by simpa using ht
    refine ⟨none, 0, Rd.nil _ _ _, by simp, fun W => ?_⟩
    go_simp
  · refine ⟨if c = t then (some ⟨g, 0, none⟩ : Option Addr) else some ⟨g, t, none⟩, c - t, ?_, by omega, fun W => ?_⟩
    · by_cases htl2 : t < l.length
      · rw [if_neg (by omega)]
        have := now_drop hN htl2
        rwa [Nat.zero_add] at this
      · rw [List.drop_eq_nil_of_le (by omega)]
        exact Rd.nil _ _ _
    · go_simp
theorem slice_to {A : Option Addr} {n c t : Nat} (hs : Shape A n c) (ht : t ≤ n) (hc : n ≤ c) (hm : c ≤ maxLen) :
    ∀ W, (Instr.slice 22 (.slice A n c) none (some (.int .i64 (t : Int))) none).run Tryd.prog W = .ok (.slice A t c) W := by
  unfold maxLen at hm
  intro W
  rcases hs with ⟨rfl, rfl, rfl⟩ | ⟨g, rfl⟩
  · obtain rfl : t = 0 := by omega
    go_simp
  · have htc : t ≤ c := by omega
    go_simp

theorem exec_from {o : Oper} {ev : Operand → Value} {x y : Operand} {v i r : Value} (ho : o.op = .slice 22 x (some y) none none) (hx : ev x = v) (hy : ev y = i) (h : ∀ W, (Instr.slice 22 v (some i) none none).run Tryd.prog W = .ok r W) (w : World) : (execOp ev o).run Tryd.prog w = .ok (.value r) w := by
  simp [execOp, ho, hx, hy, Result.andThen, run_sliceAt_slice (P := Tryd.prog) w 22 _ _ _ _ (by kernel_rfl), h]
theorem exec_to {o : Oper} {ev : Operand → Value} {x y : Operand} {v i r : Value} (ho : o.op = .slice 22 x none (some y) none) (hx : ev x = v) (hy : ev y = i) (h : ∀ W, (Instr.slice 22 v none (some i) none).run Tryd.prog W = .ok r W) (w : World) : (execOp ev o).run Tryd.prog w = .ok (.value r) w := by
  simp [execOp, ho, hx, hy, Result.andThen, run_sliceAt_slice (P := Tryd.prog) w 22 _ _ _ _ (by kernel_rfl), h]

/-- append of two pieces to nothing -/
theorem turn_any {w : World} {A A' : Option Addr} {l m : List Int} (c c' : Nat) (hl : Now w A l) (hm : Now w A' m) (hlen : l.length + m.length ≤ 1000) :
    ∃ v1 w1 v2 w2, (Builtin.append_ #[22, 22] 22 #[.slice none 0 0, .slice A l.length c]).run Tryd.prog w = .ok v1 w1 ∧
      (Builtin.append_ #[22, 22] 22 #[v1, .slice A' m.length c']).run Tryd.prog w1 = .ok v2 w2 ∧ Hid (Own w2 w.heap.size v2 (l ++ m)) ∧ Below w.heap.size w w2 := by
  have h0 : Own w w.heap.size (.slice none 0 0) [] := World.ownsRow_nil _ _ _ _
  obtain ⟨v1, w1, r1, o1, g1⟩ := app_any (w := w) (v := .slice none 0 0) (out := []) c (Nat.le_refl _) h0 hl (by simp; omega)
  have b1 : Below w.heap.size w w1 := (Below.refl _ _).grown g1 (Nat.le_refl _) (fun k e => by cases e)
  obtain ⟨v2, w2, r2, o2, g2⟩ := app_any c' b1.size o1 (hm.below b1) (by simp; omega)
  have b2 : Below w.heap.size w w2 := b1.grown g2 b1.size (fun k e => (World.ownsRow.lt o1 k e).1)
  exact ⟨v1, w1, v2, w2, r1, r2, o2, b2⟩

/-- the list of at most 40 numbers below 50, in two parts -/
structure Parts (l : List Int) (t ta tb : Nat) : Prop where
  one : sumL (l.take t) = ((ta : Int), 0)
  two : sumL (l.drop t) = ((tb : Int), 0)
  all : sumL l = ((ta : Int) + (tb : Int), 0)
  turned : sumL (l.drop t ++ l.take t) = ((ta : Int) + (tb : Int), 0)
  small : ta + tb ≤ 22517998136852480
theorem parts_of {l : List Int} (hl : l.length ≤ 40) (h : ∀ e ∈ l, 0 ≤ e ∧ e < 50) (t : Nat) : Parts l t (total (l.take t)) (total (l.drop t)) := by
  have h61 : ∀ e ∈ l, 0 ≤ e ∧ e ≤ 61 := fun e he => by have := h e he; omega
  have htot : total (l.take t) + total (l.drop t) = total l := by rw [← total_append, List.take_append_drop]
  have hb : total l ≤ 22517998136852480 := by
    have h1 := total_le (m := 49) (l := l) (fun e he => by have := h e he; omega)
    have h2 : (2 : Nat) ^ 49 = 562949953421312 := by decide
    rw [h2] at h1
    have h3 : l.length * 562949953421312 ≤ 40 * 562949953421312 := Nat.mul_le_mul_right _ hl
    omega
  refine ⟨sumL_ok (fun e he => h61 e (List.mem_of_mem_take he)) (by omega), sumL_ok (fun e he => h61 e (List.mem_of_mem_drop he)) (by omega), ?_, ?_, by omega⟩
  · rw [sumL_ok h61 (by omega), ← htot]
    simp
  · rw [sumL_ok (fun e he => by
      rcases List.mem_append.1 he with h1 | h1
      · exact h61 e (List.mem_of_mem_drop h1)
      · exact h61 e (List.mem_of_mem_take h1)) (by rw [total_append]; omega), total_append]
    simp
    omega
theorem small_i64 {l : List Int} (h : ∀ e ∈ l, 0 ≤ e ∧ e < 50) : ∀ e ∈ l, I64 e := fun e he => by have := h e he; exact i64_small (by omega)

set_option maxHeartbeats 4000000 in
set_option maxRecDepth 100000 in
theorem countSums_walk (A : Option Addr) (raw : List Int) (c : Nat) (at_ : Int) (w : World) (hR : Rd w w.heap.size A raw) (hl : raw.length ≤ 9223372036854775807) (hc : raw.length ≤ c) (hw : ∀ p ∈ raw, I64 p) (hat : I64 at_) (hT : Tab w) :
    Calls Tryd.prog 6 #[.slice A raw.length c, .int .i64 at_] w fun e w' => e = .returned (.bool true) ∧ Below w.heap.size w w' := by
  have HW := Lib.hid hw
  have HAT := Lib.hid hat
  clear hw hat
  go_enter Tryd.func6, Tryd.ntmps6
  go_wp2_with fail
  refine (awake_any w hT).mono ?_
  rintro e w1 ⟨rfl, hb1⟩
  have HR1 : Hid (Now w1 A raw) := Now.below hR hb1
  have B1 := Lib.hid hb1
  clear hb1 hR hT
  go_wp2
  go_loopw [6, 7] (fun v i wr => ∃ k : Nat, k ≤ raw.length ∧ k ≤ 40 ∧ i = .int .i64 k ∧ Hid (Own wr w1.heap.size v (rawTo 50 raw k)) ∧ Hid (Below w1.heap.size w1 wr)) (fun _ i _ => 40 - (intOf i).toNat)
  case atStart => exact ⟨0, Nat.zero_le _, Nat.zero_le _, rfl, World.ownsRow_nil _ _ _ _, Below.refl _ _⟩
  case round =>
    obtain ⟨k, hk, hk40, rfl, HO, HB⟩ := hrel
    by_cases hlt : k < raw.length ∧ k < 40
    · obtain ⟨hlt1, hlt2⟩ := hlt
      have hltz : (k : Int) < (raw.length : Int) := by omega
      obtain ⟨b, off, rfl, _, hcell⟩ := (HR1.out).at_ (by omega)
      have c0 := Qt.keep HB.out (hcell k hlt1)
      have hx64 := HW.out _ (getD_mem hlt1)
      have hup := rawTo_succ (d := 50) hlt1
      obtain ⟨x, hx⟩ : ∃ x, x = raw.getD k 0 := ⟨_, rfl⟩
      rw [← hx] at c0 hx64 hup
      obtain ⟨v', w', hrun, hown, hb2⟩ := push_any (pickI x 50) HB.out.size HO.out (by rw [length_rawTo]; omega)
      have HUP := Lib.hid hup
      have HO2 := Lib.hid hown
      have HRUN := Lib.hid hrun
      have HB2 := Lib.hid (HB.out.trans hb2)
      have HX := Lib.hid hx64
      clear hup hown hrun hb2 hcell hx hx64
      go_wp2_with (first
        | (go_at_call 10; refine (pick_any x 50 _ HX.out.1 HX.out.2 (by omega) (by omega)).mono ?_; rintro e w' ⟨rfl, rfl⟩)
        | (at_builtin; refine Lib.wpList_append_run _ rfl (.tmp 28) (.tmp 34) 22 22 rfl _ _ rfl rfl _ _ HRUN.out ?_))
      go_roundw
      case measure => simp [intOf]; omega
      case rel => exact ⟨k + 1, by omega, by omega, by go_num, (by rw [HUP.out]; exact HO2.out), HB2⟩
    · have hbd := rawTo_bd (d := 50) (by omega) (raw := raw) (k := k)
      have hlen := length_rawTo 50 raw k
      have hown := HO.out
      obtain ⟨l, hl2⟩ : ∃ l, l = rawTo 50 raw k := ⟨_, rfl⟩
      rw [← hl2] at hbd hlen hown
      clear HO hl2
      obtain ⟨A2, c2, rfl, hc2, hm2, hN, hSh⟩ := own_parts hown
      have hl40 : l.length ≤ 40 := by omega
      have hpk := fun W => pick_nat at_ ((l.length : Int) + 1) W HAT.out (by omega) (by omega)
      have hpb := pickI_bd at_ ((l.length : Int) + 1) (by omega)
      obtain ⟨t, ht⟩ : ∃ t : Nat, t = (pickI at_ ((l.length : Int) + 1)).toNat := ⟨_, rfl⟩
      rw [← ht] at hpk
      have htl : t ≤ l.length := by omega
      have hP := parts_of hl40 hbd t
      have hsm := hP.small
      generalize total (l.take t) = ta at hP hsm
      generalize total (l.drop t) = tb at hP hsm
      have HP := Lib.hid hP
      have HI := Lib.hid (small_i64 hbd)
      have HI1 : Hid (∀ e ∈ l.take t, I64 e) := fun e he => HI.out e (List.mem_of_mem_take he)
      have HI2 : Hid (∀ e ∈ l.drop t, I64 e) := fun e he => HI.out e (List.mem_of_mem_drop he)
      have HI3 : Hid (∀ e ∈ l.drop t ++ l.take t, I64 e) := fun e he => by
        rcases List.mem_append.1 he with h1 | h1
        · exact HI2.out e h1
        · exact HI1.out e h1
      have HT1 : Hid (t = (l.take t).length) := by show t = _; rw [List.length_take]; omega
      have HT2 : Hid (l.length - t = (l.drop t).length) := by show _ = _; rw [List.length_drop]
      obtain ⟨AT, cT, hNT, hcT, hfrom⟩ := slice_from hSh hN rfl htl hc2 hm2
      have hto := slice_to hSh htl hc2 hm2
      have HN := Lib.hid hN
      have HNT := Lib.hid hNT
      obtain ⟨m, hm⟩ : ∃ m, m = l.length - t := ⟨_, rfl⟩
      rw [← hm] at hfrom hcT HT2
      obtain ⟨n, hn⟩ : ∃ n, n = l.length := ⟨_, rfl⟩
      rw [← hn] at hpk hfrom hto hc2 hl40 htl ⊢
      have HNL := Lib.hid hn
      have hm40 : m ≤ 40 := by omega
      have hdec : (¬ (k : Int) < (raw.length : Int)) ∨ ((k : Int) < (raw.length : Int) ∧ ¬ (k : Int) < 40) := by omega
      have hmn : n - t = m := by omega
      clear hlt hlen hown hSh hN hNT hP ht hpb hm hn hbd hmn hm2
      rcases hdec with hd1 | ⟨hd1, hd2⟩
      all_goals
        go_wp2_with fail
        refine (hpk _).mono ?_
        rintro e w5 ⟨rfl, rfl⟩
        go_wp2_with fail
        refine (aw_sum HP.out.one (now_take HN.out t) HT1.out (by omega) (by omega) HI1.out).mono ?_
        rintro e w6 ⟨rfl, hb⟩
        have B6 := Lib.hid (Qt.more HB.out HB.out.size hb)
        have HN6 := Lib.hid (HN.out.below hb)
        have HNT6 := Lib.hid (HNT.out.below hb)
        clear hb
        go_wp2_with fail
        refine (aw_sum HP.out.two HNT6.out HT2.out (by omega) hcT HI2.out).mono ?_
        rintro e w7 ⟨rfl, hb⟩
        have B7 := Lib.hid (Qt.more B6.out B6.out.size hb)
        have HN7 := Lib.hid (HN6.out.below hb)
        have HNT7 := Lib.hid (HNT6.out.below hb)
        clear hb B6 HN6 HNT6
        go_wp2_with fail
        refine (aw_sum HP.out.all HN7.out HNL.out (by omega) hc2 HI.out).mono ?_
        rintro e w8 ⟨rfl, hb⟩
        have B8 := Lib.hid (Qt.more B7.out B7.out.size hb)
        have HN8 := Lib.hid (HN7.out.below hb)
        have HNT8 := Lib.hid (HNT7.out.below hb)
        clear hb B7 HN7 HNT7
        go_wp2_with fail
        obtain ⟨v1, w9, v2, w10, r1, r2, HO9, hb9⟩ := turn_any (w := w8.drew) (A := AT) (A' := A2) (l := l.drop t) (m := l.take t) cT c2 (Now.below HNT8.out ⟨rfl, rfl, rfl, Nat.le_refl _, fun _ _ => rfl⟩) (now_take (Now.below HN8.out ⟨rfl, rfl, rfl, Nat.le_refl _, fun _ _ => rfl⟩) t) (by rw [← HT1.out, ← HT2.out]; omega)
        rw [← HT2.out] at r1
        rw [← HT1.out] at r2
        obtain ⟨A3, c3, rfl, hc3, hm3, hN3, _⟩ := own_parts HO9.out
        have hl3 : (l.drop t ++ l.take t).length = m + t := by rw [List.length_append, ← HT1.out, ← HT2.out]
        rw [hl3] at hc3 r2
        have HN3 := Lib.hid hN3
        have HL3 := Lib.hid hl3
        have R1 := Lib.hid r1
        have R2 := Lib.hid r2
        have HF := Lib.hid hfrom
        have HTO := Lib.hid hto
        have B10 := Lib.hid (Qt.more B8.out B8.out.size (show Below w8.heap.size w8 w10 from (show Below w8.heap.size w8 w8.drew from ⟨rfl, rfl, rfl, Nat.le_refl _, fun _ _ => rfl⟩).trans hb9))
        have hmt : m + t ≤ 9223372036854775807 := by omega
        clear r1 r2 hfrom hto hN3 hl3 hb9 hm3 HO9 B8
        refine Qt.region_script [(true, 0), (true, 1), (true, 2), (true, 4), (true, 5), (true, 6), (false, 3), (false, 7), (false, 8), (true, 9), (true, 10), (true, 11), (true, 12), (true, 13)] (by kernel_rfl) (by kernel_rfl) (by kernel_rfl) rfl ?_
        refine ⟨_, some 61, .slice A2 n c2, rfl, rfl, ⟨rfl, fun _ => rfl⟩, ?_⟩
        simp only [Act.put, List.setIfInBounds_toArray, List.set_cons_succ, List.set_cons_zero]
        refine ⟨_, some 62, .int .i64 (t : Int), rfl, rfl, ⟨rfl, fun _ => rfl⟩, ?_⟩
        simp only [Act.put, List.setIfInBounds_toArray, List.set_cons_succ, List.set_cons_zero]
        refine ⟨_, some 63, .slice AT m cT, rfl, rfl, ⟨rfl, exec_from (x := .tmp 61) (y := .tmp 62) rfl rfl rfl HF.out⟩, ?_⟩
        simp only [Act.put, List.setIfInBounds_toArray, List.set_cons_succ, List.set_cons_zero]
        refine ⟨_, some 65, .slice A2 n c2, rfl, rfl, ⟨rfl, fun _ => rfl⟩, ?_⟩
        simp only [Act.put, List.setIfInBounds_toArray, List.set_cons_succ, List.set_cons_zero]
        refine ⟨_, some 66, .int .i64 (t : Int), rfl, rfl, ⟨rfl, fun _ => rfl⟩, ?_⟩
        simp only [Act.put, List.setIfInBounds_toArray, List.set_cons_succ, List.set_cons_zero]
        refine ⟨_, some 67, .slice A2 t c2, rfl, rfl, ⟨rfl, exec_to (x := .tmp 65) (y := .tmp 66) rfl rfl rfl HTO.out⟩, ?_⟩
        simp only [Act.put, List.setIfInBounds_toArray, List.set_cons_succ, List.set_cons_zero]
        refine ⟨_, rfl, ?_⟩
        refine Lib.wpList_append_run _ rfl (.const (.slice none 0 0)) (.tmp 63) 22 22 rfl (.slice none 0 0) (.slice AT m cT) rfl rfl _ _ R1.out ?_
        simp only [Act.put, List.setIfInBounds_toArray, List.set_cons_succ, List.set_cons_zero]
        refine ⟨rfl, ?_⟩
        refine ⟨_, rfl, ?_⟩
        refine Lib.wpList_append_run _ rfl (.tmp 64) (.tmp 67) 22 22 rfl v1 (.slice A2 t c2) rfl rfl _ _ R2.out ?_
        simp only [Act.put, List.setIfInBounds_toArray, List.set_cons_succ, List.set_cons_zero]
        refine ⟨rfl, ?_⟩
        refine ⟨_, rfl, ?_⟩
        clear R1 R2 HF HTO
        go_wp2_with fail
        refine (aw_sum HP.out.turned HN3.out HL3.out.symm hmt hc3 HI3.out).mono ?_
        rintro e w11 ⟨rfl, hb⟩
        have B11 := Lib.hid (Qt.more B10.out B10.out.size hb)
        clear hb B10 HN3
        go_wp2_with fail
        refine ⟨rfl, ?_⟩
        refine ⟨_, some 60, .tuple #[.int .i64 ((ta : Int) + (tb : Int)), .int .i64 0], rfl, rfl, ⟨rfl, fun _ => rfl⟩, ?_⟩
        simp only [Act.put, List.setIfInBounds_toArray, List.set_cons_succ, List.set_cons_zero]
        refine ⟨_, some 70, .int .i64 ((ta : Int) + (tb : Int)), rfl, rfl, ⟨rfl, fun _ => rfl⟩, ?_⟩
        simp only [Act.put, List.setIfInBounds_toArray, List.set_cons_succ, List.set_cons_zero]
        refine ⟨_, some 71, .int .i64 0, rfl, rfl, ⟨rfl, fun _ => rfl⟩, ?_⟩
        simp only [Act.put, List.setIfInBounds_toArray, List.set_cons_succ, List.set_cons_zero]
        refine ⟨_, some 15, .int .i64 ((ta : Int) + (tb : Int)), rfl, rfl, ⟨rfl, fun _ => rfl⟩, ?_⟩
        simp only [Act.put, List.setIfInBounds_toArray, List.set_cons_succ, List.set_cons_zero]
        refine ⟨_, some 16, .int .i64 0, rfl, rfl, ⟨rfl, fun _ => rfl⟩, ?_⟩
        simp only [Qt.scriptW, Act.put, List.setIfInBounds_toArray, List.set_cons_succ, List.set_cons_zero]
        go_wp2
        go_ret
        exact ⟨by first | rfl | (simp; done), Qt.more B1.out B1.out.size B11.out⟩

end Go.Proofs.YtkmcleekiienmaaDoor
