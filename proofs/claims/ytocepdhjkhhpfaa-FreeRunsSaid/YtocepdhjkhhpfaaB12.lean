/-
  Texts that the claims of this seat share, part 12.
-/
import Derived.Test.YtocepdhjkhhpfaaB11
import Derived.Test.YtocepdhjkhhpfaaB03
import Derived.Test.YtocepdhjkhhpfaaB06
import Derived.Test.YtocepdhjkhhpfaaB05
import Derived.Lib.Hide
import Derived.Test.YtocepdhjkhhpfaaRows
import Derived.Test.YtocepdhjkhhpfaaB00
import Derived.WalkKit
import Derived.WalkSpells
import Derived.WalkLawsBesides
import Derived.WalkArith
import Derived.IntWalk
import Derived.Lib.AppendZerosOnto
import Derived.Lib.QuietBelow
set_option linter.unusedVariables false
set_option linter.unusedSimpArgs false
namespace Go.Proofs.Ytocepdhjkhhpfaa
open Go.RowKit Go.Sort

/-- the raw numbers that the law makes a list of, at most b of them, each below d -/
def rawTo (d : Int) (raw : List Int) (k : Nat) : List Int := (raw.take k).map fun c => pickI c d
theorem length_rawTo (d : Int) (raw : List Int) (k : Nat) : (rawTo d raw k).length = min k raw.length := by simp [rawTo]
theorem rawTo_succ {d : Int} {raw : List Int} {k : Nat} (h : k < raw.length) : rawTo d raw (k + 1) = rawTo d raw k ++ [pickI (raw.getD k 0) d] := by
  unfold rawTo
  rw [List.take_succ_eq_append_getElem h, List.map_append, List.getD_eq_getElem?_getD, List.getElem?_eq_getElem h]
  rfl
theorem rawTo_bd {d : Int} (hd : 1 ≤ d) {raw : List Int} {k : Nat} : ∀ e ∈ rawTo d raw k, 0 ≤ e ∧ e < d := by
  intro e he
  obtain ⟨c, _, rfl⟩ := List.mem_map.1 he
  exact pickI_bd c d hd
theorem total_le {l : List Int} {m : Nat} (h : ∀ e ∈ l, 0 ≤ e ∧ e ≤ m) : total l ≤ l.length * 2 ^ m := by
  induction l with
  | nil => simp [total]
  | cons e l ih =>
    have h0 := h e List.mem_cons_self
    have h1 := ih fun d hd => h d (List.mem_cons_of_mem _ hd)
    have h2 := Nat.pow_le_pow_right (n := 2) (by decide) (show e.toNat ≤ m by omega)
    have h3 : total (e :: l) = 2 ^ e.toNat + total l := by simp [total]
    rw [h3, List.length_cons, Nat.add_mul]
    omega

/-! ### pieces of a slice that the call has made -/
def Shape (A : Option Addr) (n c : Nat) : Prop := (A = none ∧ c = 0 ∧ n = 0) ∨ ∃ g, A = some ⟨g, 0, none⟩
theorem own_parts {w : World} {B : Nat} {v : Value} {l : List Int} (h : Own w B v l) : ∃ A c, v = .slice A l.length c ∧ l.length ≤ c ∧ c ≤ maxLen ∧ Now w A l ∧ Shape A l.length c := by
  obtain ⟨A, c, rfl, hc, hN⟩ := Own.reads h
  rcases h.2 with ⟨he, h0⟩ | ⟨g, cap, cur, he, _, _, _, hcap, _, _⟩
  · simp only [Value.slice.injEq] at he
    exact ⟨A, c, rfl, hc, by rw [he.2.2]; unfold maxLen; omega, hN, .inl ⟨he.1, he.2.2, he.2.1⟩⟩
  · simp only [Value.slice.injEq] at he
    exact ⟨A, c, rfl, hc, by rw [he.2.2]; exact hcap, hN, .inr ⟨g, he.1⟩⟩
theorem now_drop {w : World} {b off : Nat} {l : List Int} (h : Now w (some ⟨b, off, none⟩) l) {t : Nat} (ht : t < l.length) : Now w (some ⟨b, off + t, none⟩) (l.drop t) := by
  intro j hj
  rw [List.length_drop] at hj
  obtain ⟨b', off', e, hlt, h0⟩ := h (t + j) (by omega)
  simp only [Option.some.injEq, Addr.mk.injEq, and_true] at e
  obtain ⟨rfl, rfl⟩ := e
  refine ⟨b, off + t, rfl, hlt, ?_⟩
  rw [Nat.add_assoc, h0]
  simp [List.getD_eq_getElem?_getD, List.getElem?_drop]
theorem now_take {w : World} {A : Option Addr} {l : List Int} (h : Now w A l) (t : Nat) : Now w A (l.take t) := by
  intro j hj
  rw [List.length_take] at hj
  obtain ⟨b, off, e, hlt, h0⟩ := h j (by omega)
  refine ⟨b, off, e, hlt, ?_⟩
  rw [h0]
  simp [List.getD_eq_getElem?_getD, List.getElem?_take, show j < t by omega]

theorem slice_from {w : World} {A : Option Addr} {l : List Int} {n c t : Nat} (hs : Shape A n c) (hN : Now w A l) (hn : n = l.length) (ht : t ≤ n) (hc : n ≤ c) (hm : c ≤ maxLen) :
    ∃ AT cT, Now w AT (l.drop t) ∧ n - t ≤ cT ∧ ∀ W, (Instr.slice 23 (.slice A n c) (some (.int .i64 (t : Int))) none none).run Try.prog W = .ok (.slice AT (n - t) cT) W := by
  subst hn
  unfold maxLen at hm
  rcases hs with ⟨rfl, rfl, h0⟩ | ⟨g, rfl⟩
  · obtain rfl : l = [] := List.eq_nil_of_length_eq_zero h0
    obtain rfl : t = 0 := by simpa using ht
    refine ⟨none, 0, Rd.nil _ _ _, by simp, fun W => ?_⟩
    go_simp
  · refine ⟨if c = t then (some ⟨g, 0, none⟩ : Option Addr) else some ⟨g, t, none⟩, c - t, ?_, by omega, fun W => ?_⟩
    · by_cases htl2 : t < l.length
      · rw [if_neg (by omega)]
        have := now_drop hN htl2
        rwa [Nat.zero_add] at this
      · rw [List.drop_eq_nil_of_le (by omega)]
        exact Rd.nil _ _ _
    · go_simp
theorem slice_to {A : Option Addr} {n c t : Nat} (hs : Shape A n c) (ht : t ≤ n) (hc : n ≤ c) (hm : c ≤ maxLen) :
    ∀ W, (Instr.slice 23 (.slice A n c) none (some (.int .i64 (t : Int))) none).run Try.prog W = .ok (.slice A t c) W := by
  unfold maxLen at hm
  intro W
  rcases hs with ⟨rfl, rfl, rfl⟩ | ⟨g, rfl⟩
  · obtain rfl : t = 0 := by omega
    go_simp
  · have htc : t ≤ c := by omega
    go_simp

theorem exec_from {o : Oper} {ev : Operand → Value} {x y : Operand} {v i r : Value} (ho : o.op = .slice 23 x (some y) none none) (hx : ev x = v) (hy : ev y = i) (h : ∀ W, (Instr.slice 23 v (some i) none none).run Try.prog W = .ok r W) (w : World) : (execOp ev o).run Try.prog w = .ok (.value r) w := by
  simp [execOp, ho, hx, hy, Result.andThen, run_sliceAt_slice (P := Try.prog) w 23 _ _ _ _ (by kernel_rfl), h]
theorem exec_to {o : Oper} {ev : Operand → Value} {x y : Operand} {v i r : Value} (ho : o.op = .slice 23 x none (some y) none) (hx : ev x = v) (hy : ev y = i) (h : ∀ W, (Instr.slice 23 v none (some i) none).run Try.prog W = .ok r W) (w : World) : (execOp ev o).run Try.prog w = .ok (.value r) w := by
  simp [execOp, ho, hx, hy, Result.andThen, run_sliceAt_slice (P := Try.prog) w 23 _ _ _ _ (by kernel_rfl), h]

/-- append of two pieces to nothing -/
theorem turn_any {w : World} {A A' : Option Addr} {l m : List Int} (c c' : Nat) (hl : Now w A l) (hm : Now w A' m) (hlen : l.length + m.length ≤ 1000) :
    ∃ v1 w1 v2 w2, (Builtin.append_ #[23, 23] 23 #[.slice none 0 0, .slice A l.length c]).run Try.prog w = .ok v1 w1 ∧
      (Builtin.append_ #[23, 23] 23 #[v1, .slice A' m.length c']).run Try.prog w1 = .ok v2 w2 ∧ Hid (Own w2 w.heap.size v2 (l ++ m)) ∧ Below w.heap.size w w2 := by
  have h0 : Own w w.heap.size (.slice none 0 0) [] := World.ownsRow_nil _ _ _ _
  obtain ⟨v1, w1, r1, o1, g1⟩ := app_any (w := w) (v := .slice none 0 0) (out := []) c (Nat.le_refl _) h0 hl (by simp; omega)
  have b1 : Below w.heap.size w w1 := (Below.refl _ _).grown g1 (Nat.le_refl _) (fun k e => by cases e)
  obtain ⟨v2, w2, r2, o2, g2⟩ := app_any c' b1.size o1 (hm.below b1) (by simp; omega)
  have b2 : Below w.heap.size w w2 := b1.grown g2 b1.size (fun k e => (World.ownsRow.lt o1 k e).1)
  exact ⟨v1, w1, v2, w2, r1, r2, o2, b2⟩

/-- the list of at most 40 numbers below 50, in two parts -/
structure Parts (l : List Int) (t ta tb : Nat) : Prop where
  one : sumL (l.take t) = ((ta : Int), 0)
  two : sumL (l.drop t) = ((tb : Int), 0)
  all : sumL l = ((ta : Int) + (tb : Int), 0)
  turned : sumL (l.drop t ++ l.take t) = ((ta : Int) + (tb : Int), 0)
  small : ta + tb ≤ 22517998136852480
theorem parts_of {l : List Int} (hl : l.length ≤ 40) (h : ∀ e ∈ l, 0 ≤ e ∧ e < 50) (t : Nat) : Parts l t (total (l.take t)) (total (l.drop t)) := by
  have h61 : ∀ e ∈ l, 0 ≤ e ∧ e ≤ 61 := fun e he => by have := h e he; omega
  have htot : total (l.take t) + total (l.drop t) = total l := by rw [← total_append, List.take_append_drop]
  have hb : total l ≤ 22517998136852480 := by
    have h1 := total_le (m := 49) (l := l) (fun e he => by have := h e he; omega)
    have h2 : (2 : Nat) ^ 49 = 562949953421312 := by decide
    rw [h2] at h1
    have h3 : l.length * 562949953421312 ≤ 40 * 562949953421312 := Nat.mul_le_mul_right _ hl
    omega
  refine ⟨sumL_ok (fun e he => h61 e (List.mem_of_mem_take he)) (by omega), sumL_ok (fun e he => h61 e (List.mem_of_mem_drop he)) (by omega), ?_, ?_, by omega⟩
  · rw [sumL_ok h61 (by omega), ← htot]
    simp
  · rw [sumL_ok (fun e he => by
      rcases List.mem_append.1 he with h1 | h1
      · exact h61 e (List.mem_of_mem_drop h1)
      · exact h61 e (List.mem_of_mem_take h1)) (by rw [total_append]; omega), total_append]
    simp
    omega
theorem small_i64 {l : List Int} (h : ∀ e ∈ l, 0 ≤ e ∧ e < 50) : ∀ e ∈ l, I64 e := fun e he => by have := h e he; exact i64_small (by omega)

end Go.Proofs.Ytocepdhjkhhpfaa
namespace Go.Proofs.Ytocepdhjkhhpfaa
set_option maxRecDepth 100000
set_option linter.unusedVariables false
set_option linter.unusedSimpArgs false
open Go.RowKit Go.Sort

theorem take_snoc (l : List Wk) {k : Nat} (h : k < l.length) : l.take (k + 1) = l.take k ++ [l.getD k deadW] := by rw [List.take_add_one, List.getD_eq_getElem?_getD, List.getElem?_eq_getElem h]; rfl
theorem given_step (l : List Wk) {k : Nat} (h : k < l.length) : givenN (l.take (k + 1)) = if (l.getD k deadW).job = 2 then givenN (l.take k) + 1 else givenN (l.take k) := by
  rw [take_snoc l h]
  generalize l.getD k deadW = x
  unfold givenN
  rw [List.filter_append, List.length_append]
  by_cases h0 : x.job = 2
  · rw [if_pos h0]; simp [h0]
  · rw [if_neg h0]; simp [h0]
def outsL (l : List Wk) : List Int := (l.filter fun w => w.job == 1 && decide (0 ≤ w.out)).map (·.out)
theorem outs_step (l : List Wk) {k : Nat} (h : k < l.length) : outsL (l.take (k + 1)) = if (l.getD k deadW).job = 1 ∧ 0 ≤ (l.getD k deadW).out then outsL (l.take k) ++ [(l.getD k deadW).out] else outsL (l.take k) := by
  rw [take_snoc l h]
  generalize l.getD k deadW = x
  unfold outsL
  rw [List.filter_append, List.map_append]
  by_cases h0 : x.job = 1 ∧ 0 ≤ x.out
  · rw [if_pos h0]; simp [h0.1, h0.2]
  · rw [if_neg h0]
    have : (x.job == 1 && decide (0 ≤ x.out)) = false := by
      by_cases h1 : x.job = 1
      · have : ¬ 0 ≤ x.out := fun q => h0 ⟨h1, q⟩
        simp [this]
      · simp [h1]
    simp [this]
theorem given_le (l : List Wk) : givenN l ≤ l.length := by unfold givenN; exact List.length_filter_le _ _
theorem outs_le (l : List Wk) : (outsL l).length ≤ l.length := by unfold outsL; rw [List.length_map]; exact List.length_filter_le _ _
set_option maxHeartbeats 8000000 in
theorem keep_any (H L : Option Addr) (held : List Int) (l : List Wk) (d dL : Nat) (w : World) (hN : Now w H held) (hSh : Shape H held.length d) (hc : held.length ≤ d) (hm : d ≤ maxLen) (hl : held.length ≤ 100000) (hL : NowWk w L l) (hll : l.length ≤ 100) (hg : givenN l ≤ held.length) :
    Calls Try.prog 20 #[.slice H held.length d, .slice L l.length dL] w (NumsR (keepL held l) w) := by
  have hkeep : keepL held l = held.drop (givenN l) ++ outsL l := by unfold keepL outsL; rw [Nat.min_eq_left hg]
  obtain ⟨AT, cT, hNT, -, hrunT⟩ := slice_from hSh hN rfl hg hc hm
  rw [hkeep]
  have HL := Lib.hid hL
  have HT := Lib.hid (And.intro hNT hrunT)
  clear hN hSh hc hm hL hkeep hNT hrunT
  go_enter Try.func20, Try.ntmps20
  go_wp2
  go_loopw [5, 6] (fun g i wr => ∃ k : Nat, k ≤ l.length ∧ i = .int .i64 k ∧ g = .int .i64 (givenN (l.take k) : Int) ∧ wr = w) (fun _ i _ => l.length - (intOf i).toNat)
  case atStart => exact ⟨0, Nat.zero_le _, rfl, rfl, rfl⟩
  case round =>
    obtain ⟨k, hk, rfl, rfl, hwr⟩ := hrel
    subst hwr
    by_cases hlt : k < l.length
    · have hltz : (k : Int) < (l.length : Int) := by omega
      obtain ⟨b2, off2, hL2, hb2l, hc2⟩ := nowWk_row HL.out (by omega)
      have hcW := hc2 k hlt
      have hsu := given_step l hlt
      have hgb := given_le (l.take k)
      rw [List.length_take] at hgb
      obtain ⟨⟨xpc, xjob, x0, x1, x2, xd, xo⟩, hxx⟩ : ∃ x, x = l.getD k deadW := ⟨_, rfl⟩
      rw [← hxx] at hcW hsu
      have y1 := hcW.c1
      simp only at y1 hsu
      obtain ⟨g, hgg⟩ : ∃ g, g = givenN (l.take k) := ⟨_, rfl⟩
      rw [← hgg] at hsu hgb ⊢
      have hgl : g ≤ 100 := by omega
      have HSU := Lib.hid hsu
      subst hL2
      clear hc2 hcW hxx hgg hgb hsu
      by_cases h2 : xjob = 2
      · subst h2
        go_wp2
        go_roundw
        case measure => simp [intOf]; omega
        case rel => exact ⟨k + 1, by omega, by go_num, by rw [HSU.out, if_pos rfl]; go_num, by first | trivial | rfl⟩
      · have e2 : (xjob == 2) = false := beq_eq_false_iff_ne.2 h2
        go_wp2
        go_roundw
        case measure => simp [intOf]; omega
        case rel => exact ⟨k + 1, by omega, by go_num, by rw [HSU.out, if_neg h2], by first | trivial | rfl⟩
    · obtain rfl : k = l.length := by omega
      have hltz : ¬ (l.length : Int) < (l.length : Int) := by omega
      rw [List.take_length]
      obtain ⟨g, hgg⟩ : ∃ g, g = givenN l := ⟨_, rfl⟩
      rw [← hgg] at HT hg ⊢
      have hmn : ¬ (held.length : Int) < (g : Int) := by omega
      have hrT := HT.out.2
      obtain ⟨T, hT⟩ : ∃ T, T = held.drop g := ⟨_, rfl⟩
      have hTl : T.length = held.length - g := by rw [hT, List.length_drop]
      have hNT := HT.out.1
      rw [← hT] at hNT ⊢
      obtain ⟨v, w2, hcp, hO2, hB2⟩ := copy_run AT T cT wr hNT (by omega)
      rw [hTl] at hcp
      obtain ⟨mT, hmT⟩ : ∃ mT, mT = held.length - g := ⟨_, rfl⟩
      rw [← hmT] at hrT hcp hTl
      have HCp := Lib.hid hcp
      have HTe := Lib.hid (show T = held.drop (givenN l) by rw [hT, hgg])
      have HH := Lib.hid (And.intro hO2 (And.intro hB2 hTl))
      have hmb : mT ≤ 100000 := by omega
      clear hcp hO2 hB2 hNT hT hmT hTl HT hgg
      go_wp2_with (at_builtin; refine Lib.wpList_append_run _ rfl (.const (.slice none 0 0)) (.tmp 28) 23 23 rfl _ _ rfl rfl _ _ HCp.out ?_)
      obtain ⟨w5, hw5⟩ : ∃ w5, w5 = wr := ⟨_, rfl⟩
      rw [← hw5] at HH HL ⊢
      have HW := Lib.hid hw5
      clear HCp hrT hw5
      go_loopw [7, 8] (fun v i wr => ∃ k : Nat, k ≤ l.length ∧ i = .int .i64 k ∧ Hid (Own wr w5.heap.size v (T ++ outsL (l.take k)) ∧ Below w5.heap.size w5 wr)) (fun _ i _ => l.length - (intOf i).toNat)
      case atStart => exact ⟨0, Nat.zero_le _, rfl, (show Hid _ from by rw [show outsL (l.take 0) = [] from rfl, List.append_nil]; exact ⟨HH.out.1, HH.out.2.1⟩)⟩
      case round =>
        obtain ⟨k, hk, rfl, HO⟩ := hrel
        have hbd := outs_le (l.take k)
        rw [List.length_take] at hbd
        by_cases hlt : k < l.length
        · have hltz : (k : Int) < (l.length : Int) := by omega
          obtain ⟨b2, off2, hL2, hb2l, hc2⟩ := nowWk_row HL.out (by omega)
          have hcW := (hc2 k (by omega)).below (HO.out.2.block b2 hb2l)
          have hsu := outs_step l hlt
          obtain ⟨⟨xpc, xjob, x0, x1, x2, xd, xo⟩, hxx⟩ : ∃ x, x = l.getD k deadW := ⟨_, rfl⟩
          rw [← hxx] at hcW hsu
          have y1 := hcW.c1
          have y11 := hcW.c11
          simp only at y1 y11 hsu
          obtain ⟨hd, hhd⟩ : ∃ hd, hd = outsL (l.take k) := ⟨_, rfl⟩
          rw [← hhd] at hsu hbd HO
          have hdl : (T ++ hd).length ≤ 100100 := by rw [List.length_append, HH.out.2.2]; omega
          subst hL2
          clear hc2 hcW hxx hhd hbd
          by_cases h1 : xjob = 1
          · by_cases h0 : 0 ≤ xo
            · rw [if_pos ⟨h1, h0⟩] at hsu
              have HSU := Lib.hid hsu
              obtain ⟨A3, c3, hv, -, -⟩ := own_slice HO.out.1
              obtain ⟨v', w6, hrun, hO6, hg6⟩ := pushW_any xo HO.out.2.size HO.out.1 (by omega)
              have hB6 := HO.out.2.grown hg6 HO.out.2.size (fun k e => (World.ownsRow.lt HO.out.1 k e).1)
              have HRun := Lib.hid hrun
              have HN := Lib.hid (And.intro hO6 hB6)
              subst hv h1
              clear hsu hrun hO6 hg6 hB6
              go_wp2_with (at_builtin; refine Lib.wpList_append_run _ rfl (.tmp 50) (.tmp 56) 23 23 rfl _ _ rfl rfl _ _ HRun.out ?_)
              go_roundw
              case measure => simp [intOf]; omega
              case rel => exact ⟨k + 1, by omega, by go_num, (show Hid _ from by rw [HSU.out, ← List.append_assoc]; exact HN.out)⟩
            · rw [if_neg (fun q => h0 q.2)] at hsu
              have HSU := Lib.hid hsu
              subst h1
              clear hsu
              go_wp2_with fail
              go_roundw
              case measure => simp [intOf]; omega
              case rel => exact ⟨k + 1, by omega, by go_num, (show Hid _ from by rw [HSU.out]; exact HO.out)⟩
          · rw [if_neg (fun q => h1 q.1)] at hsu
            have HSU := Lib.hid hsu
            have e1 : (xjob == 1) = false := beq_eq_false_iff_ne.2 h1
            clear hsu
            go_wp2_with fail
            go_roundw
            case measure => simp [intOf]; omega
            case rel => exact ⟨k + 1, by omega, by go_num, (show Hid _ from by rw [HSU.out]; exact HO.out)⟩
        · obtain rfl : k = l.length := by omega
          have hltz : ¬ (l.length : Int) < (l.length : Int) := by omega
          rw [List.take_length] at HO
          go_wp2
          go_ret
          refine ⟨_, rfl, ?_, ?_⟩
          · rw [← HTe.out, ← HW.out]; exact HO.out.1
          · rw [← HW.out]; exact HO.out.2
end Go.Proofs.Ytocepdhjkhhpfaa
namespace Go.Proofs.Ytocepdhjkhhpfaa
set_option linter.unusedVariables false
set_option linter.unusedSimpArgs false

/-- four kids; a node: its level, its kids, its cells -/
abbrev Kd := Int × Int × Int × Int
abbrev Nd := Int × Kd × Int
def kd (k : Kd) : Nat → Int
  | 0 => k.1
  | 1 => k.2.1
  | 2 => k.2.2.1
  | _ => k.2.2.2
theorem kd_ext {k m : Kd} (h : ∀ i, i < 4 → kd k i = kd m i) : k = m := by
  obtain ⟨a, b, c, d⟩ := k
  obtain ⟨a', b', c', d'⟩ := m
  have h0 : a = a' := h 0 (by decide)
  have h1 : b = b' := h 1 (by decide)
  have h2 : c = c' := h 2 (by decide)
  have h3 : d = d' := h 3 (by decide)
  rw [h0, h1, h2, h3]
def deadN : Nd := (0, (0, 0, 0, 0), 0)
def liveN : Nd := (0, (0, 0, 0, 0), 1)
def ndAt (l : List Nd) (i : Int) : Nd := l.getD i.toNat deadN
/-- the cells of the first kids together -/
def popTo (l : List Nd) (k : Kd) : Nat → Int
  | 0 => 0
  | i + 1 => min (popTo l k i + (ndAt l (kd k i)).2.2) 4611686018427387903
def kidB (l : List Nd) (n lev k : Int) : Bool := decide (0 ≤ k) && decide (k < n) && decide ((ndAt l k).1 = lev)
/-- the place of the node with these kids, from place i on, so many places -/
def atFrom (l : List Nd) (k : Kd) : Nat → Nat → Option Nat
  | _, 0 => none
  | i, f + 1 => if (l.getD i deadN).2.1 = k then some i else atFrom l k (i + 1) f
def at6 (l : List Nd) (k : Kd) : Option Nat := atFrom l k 2 (l.length - 2)
def kidsB (l : List Nd) (n lev : Int) (k : Kd) : Bool := kidB l n lev k.1 && kidB l n lev k.2.1 && kidB l n lev k.2.2.1 && kidB l n lev k.2.2.2
def fits6 (l : List Nd) (n : Nat) : Bool :=
  kidsB l n ((l.getD n deadN).1 - 1) (l.getD n deadN).2.1 && decide (1 ≤ (l.getD n deadN).1) && decide ((l.getD n deadN).1 ≤ 42) && decide ((l.getD n deadN).2.2 = popTo l (l.getD n deadN).2.1 4) && decide (at6 l (l.getD n deadN).2.1 = some n)
def headB6 (l : List Nd) (room : Int) : Bool :=
  decide (2 ≤ room) && decide (room ≤ 100000) && decide (2 ≤ l.length) && decide ((l.length : Int) ≤ room) && decide (l.getD 0 deadN = deadN) && decide (l.getD 1 deadN = liveN)
def right6 (l : List Nd) (room : Int) : Bool := headB6 l room && (List.range l.length).all fun i => decide (i < 2) || fits6 l i

theorem atFrom_some {l : List Nd} {k : Kd} : ∀ {f i n : Nat}, atFrom l k i f = some n → i ≤ n ∧ n < i + f ∧ (l.getD n deadN).2.1 = k ∧ ∀ j, i ≤ j → j < n → (l.getD j deadN).2.1 ≠ k := by
  intro f
  induction f with
  | zero => intro i n h; cases h
  | succ f ih =>
    intro i n h
    unfold atFrom at h
    by_cases he : (l.getD i deadN).2.1 = k
    · rw [if_pos he] at h
      injection h with h
      subst h
      exact ⟨Nat.le_refl _, by omega, he, fun j h1 h2 => by omega⟩
    · rw [if_neg he] at h
      obtain ⟨h1, h2, h3, h4⟩ := ih h
      refine ⟨by omega, by omega, h3, fun j hj1 hj2 => ?_⟩
      rcases Nat.eq_or_lt_of_le hj1 with rfl | h5
      · exact he
      · exact h4 j h5 hj2
theorem atFrom_none {l : List Nd} {k : Kd} : ∀ {f i : Nat}, atFrom l k i f = none ↔ ∀ j, i ≤ j → j < i + f → (l.getD j deadN).2.1 ≠ k := by
  intro f
  induction f with
  | zero => intro i; exact ⟨fun _ j h1 h2 => by omega, fun _ => rfl⟩
  | succ f ih =>
    intro i
    unfold atFrom
    by_cases he : (l.getD i deadN).2.1 = k
    · rw [if_pos he]
      exact ⟨fun h => (by cases h), fun h => absurd he (h i (Nat.le_refl _) (by omega))⟩
    · rw [if_neg he, ih]
      constructor
      · intro h j h1 h2
        rcases Nat.eq_or_lt_of_le h1 with rfl | h5
        · exact he
        · exact h j h5 (by omega)
      · intro h j h1 h2
        exact h j (by omega) (by omega)
theorem at_some {l : List Nd} {k : Kd} {n : Nat} (h : at6 l k = some n) : 2 ≤ n ∧ n < l.length ∧ (l.getD n deadN).2.1 = k ∧ ∀ j, 2 ≤ j → j < n → (l.getD j deadN).2.1 ≠ k := by
  obtain ⟨h1, h2, h3, h4⟩ := atFrom_some h
  exact ⟨h1, by omega, h3, h4⟩
theorem at_none {l : List Nd} {k : Kd} : at6 l k = none ↔ ∀ j, 2 ≤ j → j < l.length → (l.getD j deadN).2.1 ≠ k := by
  unfold at6
  rw [atFrom_none]
  exact ⟨fun h j h1 h2 => h j h1 (by omega), fun h j h1 h2 => h j h1 (by omega)⟩
theorem at_is {l : List Nd} {k : Kd} {n : Nat} (h2 : 2 ≤ n) (hn : n < l.length) (hk : (l.getD n deadN).2.1 = k) (hf : ∀ j, 2 ≤ j → j < n → (l.getD j deadN).2.1 ≠ k) : at6 l k = some n := by
  cases h : at6 l k with
  | none => exact absurd hk (at_none.1 h n h2 hn)
  | some m =>
    obtain ⟨m1, m2, m3, m4⟩ := at_some h
    rcases Nat.lt_trichotomy m n with h5 | h5 | h5
    · exact absurd m3 (hf m m1 h5)
    · rw [h5]
    · exact absurd hk (m4 n h2 h5)

/-- what a store that is right is -/
structure Right6 (l : List Nd) (room : Int) : Prop where
  room2 : 2 ≤ room
  room100 : room ≤ 100000
  two : 2 ≤ l.length
  len : (l.length : Int) ≤ room
  dead : l.getD 0 deadN = deadN
  live : l.getD 1 deadN = liveN
  fits : ∀ n, 2 ≤ n → n < l.length → fits6 l n = true
theorem right_iff {l : List Nd} {room : Int} : right6 l room = true ↔ Right6 l room := by
  unfold right6 headB6
  simp only [Bool.and_eq_true, decide_eq_true_eq, List.all_eq_true, List.mem_range, Bool.or_eq_true]
  constructor
  · rintro ⟨⟨⟨⟨⟨⟨h1, h2⟩, h3⟩, h4⟩, h5⟩, h6⟩, h7⟩
    exact ⟨h1, h2, h3, h4, h5, h6, fun n hn hl => (h7 n hl).resolve_left (by omega)⟩
  · intro h
    refine ⟨⟨⟨⟨⟨⟨h.room2, h.room100⟩, h.two⟩, h.len⟩, h.dead⟩, h.live⟩, fun i hi => ?_⟩
    by_cases h2 : i < 2
    · exact .inl h2
    · exact .inr (h.fits i (by omega) hi)
theorem kidB_iff {l : List Nd} {n lev k : Int} : kidB l n lev k = true ↔ 0 ≤ k ∧ k < n ∧ (ndAt l k).1 = lev := by unfold kidB; simp [and_assoc]
theorem kidsB_iff {l : List Nd} {n lev : Int} {k : Kd} : kidsB l n lev k = true ↔ ∀ i, i < 4 → kidB l n lev (kd k i) = true := by
  unfold kidsB
  simp only [Bool.and_eq_true]
  constructor
  · rintro ⟨⟨⟨h0, h1⟩, h2⟩, h3⟩ i hi
    match i, hi with
    | 0, _ => exact h0
    | 1, _ => exact h1
    | 2, _ => exact h2
    | 3, _ => exact h3
  · intro h
    exact ⟨⟨⟨h 0 (by decide), h 1 (by decide)⟩, h 2 (by decide)⟩, h 3 (by decide)⟩
/-- what a node that fits is -/
structure Fits6 (l : List Nd) (n : Nat) : Prop where
  kid : ∀ i, i < 4 → 0 ≤ kd (l.getD n deadN).2.1 i ∧ kd (l.getD n deadN).2.1 i < n ∧ (ndAt l (kd (l.getD n deadN).2.1 i)).1 = (l.getD n deadN).1 - 1
  lo : 1 ≤ (l.getD n deadN).1
  hi : (l.getD n deadN).1 ≤ 42
  pop : (l.getD n deadN).2.2 = popTo l (l.getD n deadN).2.1 4
  first : at6 l (l.getD n deadN).2.1 = some n
theorem fits_iff {l : List Nd} {n : Nat} : fits6 l n = true ↔ Fits6 l n := by
  unfold fits6
  simp only [Bool.and_eq_true, decide_eq_true_eq, kidsB_iff, kidB_iff]
  exact ⟨fun ⟨⟨⟨⟨h1, h2⟩, h3⟩, h4⟩, h5⟩ => ⟨h1, h2, h3, h4, h5⟩, fun h => ⟨⟨⟨⟨h.kid, h.lo⟩, h.hi⟩, h.pop⟩, h.first⟩⟩

/-! ### levels and cells are within bounds -/
theorem popTo_bd {l : List Nd} {k : Kd} (h : ∀ i, i < 4 → 0 ≤ (ndAt l (kd k i)).2.2) : ∀ i, i ≤ 4 → 0 ≤ popTo l k i ∧ popTo l k i ≤ 4611686018427387903 := by
  intro i
  induction i with
  | zero => intro _; unfold popTo; omega
  | succ i ih =>
    intro hi
    have h1 := ih (by omega)
    have h2 := h i (by omega)
    unfold popTo
    omega
theorem ndAt_nat (l : List Nd) (n : Nat) : ndAt l (n : Int) = l.getD n deadN := by unfold ndAt; rw [Int.toNat_natCast]
theorem right_bd {l : List Nd} {room : Int} (h : Right6 l room) : ∀ n, n < l.length → 0 ≤ (l.getD n deadN).1 ∧ (l.getD n deadN).1 ≤ 42 ∧ 0 ≤ (l.getD n deadN).2.2 ∧ (l.getD n deadN).2.2 ≤ 4611686018427387903 := by
  intro n
  induction n using Nat.strongRecOn with
  | ind n ih =>
    intro hn
    by_cases h2 : n < 2
    · rcases (by omega : n = 0 ∨ n = 1) with rfl | rfl
      · rw [h.dead]; decide
      · rw [h.live]; decide
    · have hf := fits_iff.1 (h.fits n (by omega) hn)
      have := popTo_bd (l := l) (k := (l.getD n deadN).2.1) (fun i hi => by
        obtain ⟨k1, k2, _⟩ := hf.kid i hi
        have := ih (kd (l.getD n deadN).2.1 i).toNat (by omega) (by omega)
        exact this.2.2.1) 4 (Nat.le_refl _)
      rw [← hf.pop] at this
      exact ⟨by have := hf.lo; omega, hf.hi, this.1, this.2⟩
/-- of level 0 there are just the two -/
theorem level_zero {l : List Nd} {room : Int} (h : Right6 l room) {n : Nat} (hn : n < l.length) : (l.getD n deadN).1 = 0 ↔ n < 2 := by
  constructor
  · intro h0
    rcases Nat.lt_or_ge n 2 with h2 | h2
    · exact h2
    · have := (fits_iff.1 (h.fits n h2 hn)).lo
      omega
  · intro h2
    rcases (by omega : n = 0 ∨ n = 1) with rfl | rfl
    · rw [h.dead]; rfl
    · rw [h.live]; rfl

/-! ### a node more -/
theorem getD_app {l : List Nd} {x : Nd} {i : Nat} (h : i < l.length) : (l ++ [x]).getD i deadN = l.getD i deadN := by
  rw [List.getD_eq_getElem?_getD, List.getD_eq_getElem?_getD, List.getElem?_append_left h]
theorem getD_last {l : List Nd} {x : Nd} : (l ++ [x]).getD l.length deadN = x := by
  rw [List.getD_eq_getElem?_getD, List.getElem?_append_right (Nat.le_refl _), Nat.sub_self]; rfl
theorem ndAt_app {l : List Nd} {x : Nd} {i : Int} (h0 : 0 ≤ i) (h : i < l.length) : ndAt (l ++ [x]) i = ndAt l i := getD_app (by omega)
theorem popTo_app {l : List Nd} {x : Nd} {k : Kd} (h : ∀ i, i < 4 → 0 ≤ kd k i ∧ kd k i < l.length) : ∀ i, i ≤ 4 → popTo (l ++ [x]) k i = popTo l k i := by
  intro i
  induction i with
  | zero => intro _; rfl
  | succ i ih =>
    intro hi
    have := h i (by omega)
    unfold popTo
    rw [ih (by omega), ndAt_app this.1 this.2]
/-- What Put answers, of a store that is right. -/
def put6 (l : List Nd) (room : Int) (k : Kd) : List Nd × Int × Int :=
  if kidsB l l.length (ndAt l k.1).1 k = false then (l, 0, 1)
  else if 42 < (ndAt l k.1).1 + 1 then (l, 0, 1)
  else match at6 l k with
    | some n => (l, n, 0)
    | none => if room ≤ l.length then (l, 0, 40) else (l ++ [((ndAt l k.1).1 + 1, k, popTo l k 4)], l.length, 0)
def intern6 (l : List Nd) (room : Int) (k : Kd) : List Nd × Int × Int := if right6 l room = true then put6 l room k else (l, 0, 1)
theorem right_app {l : List Nd} {room : Int} (h : Right6 l room) {k : Kd} (hk : kidsB l l.length (ndAt l k.1).1 k = true) (hl : (ndAt l k.1).1 + 1 ≤ 42) (ha : at6 l k = none) (hr : (l.length : Int) < room) : Right6 (l ++ [((ndAt l k.1).1 + 1, k, popTo l k 4)]) room := by
  have hkid := fun i hi => kidB_iff.1 (kidsB_iff.1 hk i hi)
  have h2 := h.two
  refine ⟨h.room2, h.room100, by rw [List.length_append]; omega, by rw [List.length_append, List.length_singleton]; omega, ?_, ?_, fun n hn hl2 => ?_⟩
  · rw [getD_app (by omega)]; exact h.dead
  · rw [getD_app (by omega)]; exact h.live
  rw [List.length_append, List.length_singleton] at hl2
  rw [fits_iff]
  have hlo := (right_bd h k.1.toNat (by have := hkid 0 (by decide); simp only [kd] at this; omega)).1
  by_cases hlast : n = l.length
  · subst hlast
    have e : (l ++ [((ndAt l k.1).1 + 1, k, popTo l k 4)]).getD l.length deadN = ((ndAt l k.1).1 + 1, k, popTo l k 4) := getD_last
    refine ⟨?_, ?_, ?_, ?_, ?_⟩
    · intro i hi
      rw [e]
      obtain ⟨k1, k2, k3⟩ := hkid i hi
      refine ⟨k1, k2, ?_⟩
      rw [ndAt_app k1 k2, k3]
      simp only
      omega
    · rw [e]; show 1 ≤ (l.getD k.1.toNat deadN).1 + 1; omega
    · rw [e]; exact hl
    · rw [e]; exact (popTo_app (fun i hi => ⟨(hkid i hi).1, (hkid i hi).2.1⟩) 4 (Nat.le_refl _)).symm
    · rw [e]
      refine at_is hn (by rw [List.length_append, List.length_singleton]; omega) (by rw [e]) (fun j hj1 hj2 => ?_)
      rw [getD_app hj2]
      exact at_none.1 ha j hj1 hj2
  · have hnl : n < l.length := by omega
    have hf := fits_iff.1 (h.fits n hn hnl)
    refine ⟨?_, by rw [getD_app hnl]; exact hf.lo, by rw [getD_app hnl]; exact hf.hi, ?_, ?_⟩
    · intro i hi
      rw [getD_app hnl]
      obtain ⟨k1, k2, k3⟩ := hf.kid i hi
      exact ⟨k1, k2, by rw [ndAt_app k1 (by omega)]; exact k3⟩
    · rw [getD_app hnl, popTo_app (fun i hi => ⟨(hf.kid i hi).1, by have := (hf.kid i hi).2.1; omega⟩) 4 (Nat.le_refl _)]
      exact hf.pop
    · rw [getD_app hnl]
      obtain ⟨a1, a2, a3, a4⟩ := at_some hf.first
      exact at_is hn (by rw [List.length_append, List.length_singleton]; omega) (by rw [getD_app hnl]) (fun j hj1 hj2 => by rw [getD_app (by omega)]; exact a4 j hj1 hj2)
theorem put_right {l : List Nd} {room : Int} (h : Right6 l room) (k : Kd) : Right6 (put6 l room k).1 room := by
  unfold put6
  by_cases h1 : kidsB l l.length (ndAt l k.1).1 k = false
  · rw [if_pos h1]; exact h
  · rw [if_neg h1]
    by_cases h2 : 42 < (ndAt l k.1).1 + 1
    · rw [if_pos h2]; exact h
    · rw [if_neg h2]
      cases h3 : at6 l k with
      | some n => exact h
      | none =>
        simp only
        by_cases h4 : room ≤ l.length
        · rw [if_pos h4]; exact h
        · rw [if_neg h4]
          exact right_app h (by simpa using h1) (by omega) h3 (by omega)
end Go.Proofs.Ytocepdhjkhhpfaa
namespace Go.Proofs.Ytocepdhjkhhpfaa
set_option linter.unusedVariables false
set_option linter.unusedSimpArgs false

/-! ### rows -/
def row (s : Nat) (a : List UInt8) (y : Nat) : List UInt8 := (a.drop (y * s)).take s
def half (s : Nat) (a b : List UInt8) (n : Nat) : List UInt8 := (List.range n).flatMap fun y => row s a y ++ row s b y
/-- four squares of side s, joined -/
def joinB (s : Nat) (q0 q1 q2 q3 : List UInt8) : List UInt8 := half s q0 q1 s ++ half s q2 q3 s
theorem row_len {s y : Nat} {a : List UInt8} {n : Nat} (h : a.length = n * s) (hy : y < n) : (row s a y).length = s := by
  unfold row
  rw [List.length_take, List.length_drop, h]
  have h1 : y * s + s ≤ n * s := by
    have := Nat.mul_le_mul_right s (show y + 1 ≤ n from hy)
    rwa [Nat.add_mul, Nat.one_mul] at this
  omega
theorem half_succ (s : Nat) (a b : List UInt8) (n : Nat) : half s a b (n + 1) = half s a b n ++ (row s a n ++ row s b n) := by
  unfold half
  rw [List.range_succ, List.flatMap_append]
  simp
theorem half_len {s : Nat} {a b : List UInt8} {N : Nat} (ha : a.length = N * s) (hb : b.length = N * s) : ∀ n, n ≤ N → (half s a b n).length = n * (2 * s) := by
  intro n
  induction n with
  | zero => intro _; simp [half]
  | succ n ih =>
    intro hn
    rw [half_succ, List.length_append, List.length_append, ih (by omega), row_len ha (by omega), row_len hb (by omega), Nat.add_mul]
    omega
theorem joinB_len {s : Nat} {q0 q1 q2 q3 : List UInt8} (h0 : q0.length = s * s) (h1 : q1.length = s * s) (h2 : q2.length = s * s) (h3 : q3.length = s * s) : (joinB s q0 q1 q2 q3).length = (2 * s) * (2 * s) := by
  unfold joinB
  rw [List.length_append, half_len h0 h1 s (Nat.le_refl _), half_len h2 h3 s (Nat.le_refl _), ← Nat.add_mul]
  congr 1
  omega
theorem half_inj {s : Nat} {a b a' b' : List UInt8} {N : Nat} (ha : a.length = N * s) (hb : b.length = N * s) (ha' : a'.length = N * s) (hb' : b'.length = N * s) : ∀ n, n ≤ N → half s a b n = half s a' b' n → ∀ y, y < n → row s a y = row s a' y ∧ row s b y = row s b' y := by
  intro n
  induction n with
  | zero => intro _ _ y hy; omega
  | succ n ih =>
    intro hn h y hy
    rw [half_succ, half_succ] at h
    obtain ⟨h1, h2⟩ := List.append_inj h (by rw [half_len ha hb n (by omega), half_len ha' hb' n (by omega)])
    obtain ⟨h3, h4⟩ := List.append_inj h2 (by rw [row_len ha (by omega), row_len ha' (by omega)])
    rcases Nat.lt_or_ge y n with h5 | h5
    · exact ih (by omega) h1 y h5
    · obtain rfl : y = n := by omega
      exact ⟨h3, h4⟩
theorem rows_inj {s : Nat} (hs : 0 < s) {a b : List UInt8} {N : Nat} (ha : a.length = N * s) (hb : b.length = N * s) (h : ∀ y, y < N → row s a y = row s b y) : a = b := by
  refine List.ext_getElem (by rw [ha, hb]) fun i h1 h2 => ?_
  have hy : i / s < N := by rw [Nat.div_lt_iff_lt_mul hs]; omega
  have hx : i % s < s := Nat.mod_lt _ hs
  have e := h (i / s) hy
  have hi : i = i / s * s + i % s := by rw [Nat.mul_comm]; exact (Nat.div_add_mod i s).symm
  have g : ∀ c : List UInt8, c.length = N * s → (row s c (i / s))[i % s]? = c[i]? := by
    intro c hc
    unfold row
    rw [List.getElem?_take, if_pos hx, List.getElem?_drop, ← hi]
  have g1 := g a ha
  have g2 := g b hb
  rw [e, g2, List.getElem?_eq_getElem h1, List.getElem?_eq_getElem h2] at g1
  exact (Option.some.inj g1).symm
theorem joinB_inj {s : Nat} (hs : 0 < s) {q0 q1 q2 q3 p0 p1 p2 p3 : List UInt8} (h0 : q0.length = s * s) (h1 : q1.length = s * s) (h2 : q2.length = s * s) (h3 : q3.length = s * s) (g0 : p0.length = s * s) (g1 : p1.length = s * s) (g2 : p2.length = s * s) (g3 : p3.length = s * s)
    (h : joinB s q0 q1 q2 q3 = joinB s p0 p1 p2 p3) : q0 = p0 ∧ q1 = p1 ∧ q2 = p2 ∧ q3 = p3 := by
  unfold joinB at h
  obtain ⟨a, b⟩ := List.append_inj h (by rw [half_len h0 h1 s (Nat.le_refl _), half_len g0 g1 s (Nat.le_refl _)])
  have ra := half_inj h0 h1 g0 g1 s (Nat.le_refl _) a
  have rb := half_inj h2 h3 g2 g3 s (Nat.le_refl _) b
  exact ⟨rows_inj hs h0 g0 fun y hy => (ra y hy).1, rows_inj hs h1 g1 fun y hy => (ra y hy).2, rows_inj hs h2 g2 fun y hy => (rb y hy).1, rows_inj hs h3 g3 fun y hy => (rb y hy).2⟩

/-! ### how many are alive -/
def sumB (a : List UInt8) : Nat := (a.map fun c => c.toNat - 48).sum
theorem sumB_append (a b : List UInt8) : sumB (a ++ b) = sumB a + sumB b := by unfold sumB; simp
theorem half_sum {s : Nat} {a b : List UInt8} : ∀ n, sumB (half s a b n) = sumB (a.take (n * s)) + sumB (b.take (n * s)) := by
  intro n
  have key : ∀ (c : List UInt8) (n : Nat), c.take ((n + 1) * s) = c.take (n * s) ++ row s c n := by
    intro c n
    unfold row
    rw [Nat.add_mul, Nat.one_mul, List.take_add]
  induction n with
  | zero => simp [half, sumB]
  | succ n ih =>
    rw [half_succ, sumB_append, sumB_append, ih, key a, key b, sumB_append, sumB_append]
    omega
theorem joinB_sum {s : Nat} {q0 q1 q2 q3 : List UInt8} (h0 : q0.length = s * s) (h1 : q1.length = s * s) (h2 : q2.length = s * s) (h3 : q3.length = s * s) : sumB (joinB s q0 q1 q2 q3) = sumB q0 + sumB q1 + sumB q2 + sumB q3 := by
  unfold joinB
  rw [sumB_append, half_sum, half_sum, List.take_of_length_le (by omega), List.take_of_length_le (by omega), List.take_of_length_le (by omega), List.take_of_length_le (by omega)]
  omega

/-! ### what a node stands for -/
def bitsN (l : List Nd) : Nat → Nat → List UInt8
  | 0, n => [UInt8.ofNat (48 + (l.getD n deadN).2.2.toNat)]
  | j + 1, n => joinB (2 ^ j) (bitsN l j (l.getD n deadN).2.1.1.toNat) (bitsN l j (l.getD n deadN).2.1.2.1.toNat) (bitsN l j (l.getD n deadN).2.1.2.2.1.toNat) (bitsN l j (l.getD n deadN).2.1.2.2.2.toNat)
theorem bitsN_len (l : List Nd) : ∀ j n, (bitsN l j n).length = 2 ^ j * 2 ^ j := by
  intro j
  induction j with
  | zero => intro n; rfl
  | succ j ih =>
    intro n
    show (joinB _ _ _ _ _).length = _
    rw [joinB_len (ih _) (ih _) (ih _) (ih _), Nat.pow_succ, Nat.mul_comm 2]
theorem bitsN_inj {l : List Nd} {room : Int} (h : Right6 l room) : ∀ (j n m : Nat), n < l.length → m < l.length → (l.getD n deadN).1 = j → (l.getD m deadN).1 = j → bitsN l j n = bitsN l j m → n = m := by
  intro j
  induction j with
  | zero =>
    intro n m hn hm ln lm hb
    have n2 := (level_zero h hn).1 ln
    have m2 := (level_zero h hm).1 lm
    rcases (by omega : n = 0 ∨ n = 1) with rfl | rfl <;> rcases (by omega : m = 0 ∨ m = 1) with rfl | rfl
    · rfl
    · unfold bitsN at hb; rw [h.dead, h.live] at hb; exact absurd hb (by decide)
    · unfold bitsN at hb; rw [h.dead, h.live] at hb; exact absurd hb (by decide)
    · rfl
  | succ j ih =>
    intro n m hn hm ln lm hb
    have n2 : 2 ≤ n := by
      rcases Nat.lt_or_ge n 2 with h2 | h2
      · have := (level_zero h hn).2 h2; omega
      · exact h2
    have m2 : 2 ≤ m := by
      rcases Nat.lt_or_ge m 2 with h2 | h2
      · have := (level_zero h hm).2 h2; omega
      · exact h2
    have fn := fits_iff.1 (h.fits n n2 hn)
    have fm := fits_iff.1 (h.fits m m2 hm)
    obtain ⟨b0, b1, b2, b3⟩ := joinB_inj (Nat.two_pow_pos j) (bitsN_len l j _) (bitsN_len l j _) (bitsN_len l j _) (bitsN_len l j _) (bitsN_len l j _) (bitsN_len l j _) (bitsN_len l j _) (bitsN_len l j _) hb
    have key : ∀ i, i < 4 → bitsN l j (kd (l.getD n deadN).2.1 i).toNat = bitsN l j (kd (l.getD m deadN).2.1 i).toNat → kd (l.getD n deadN).2.1 i = kd (l.getD m deadN).2.1 i := by
      intro i hi hbi
      obtain ⟨a1, a2, a3⟩ := fn.kid i hi
      obtain ⟨c1, c2, c3⟩ := fm.kid i hi
      have := ih _ _ (by omega) (by omega) (by show (ndAt l _).1 = _; rw [a3, ln]; omega) (by show (ndAt l _).1 = _; rw [c3, lm]; omega) hbi
      omega
    have hk : (l.getD n deadN).2.1 = (l.getD m deadN).2.1 := kd_ext fun i hi => by
      match i, hi with
      | 0, _ => exact key 0 (by decide) b0
      | 1, _ => exact key 1 (by decide) b1
      | 2, _ => exact key 2 (by decide) b2
      | 3, _ => exact key 3 (by decide) b3
    have h1 := fn.first
    rw [hk, fm.first] at h1
    exact (Option.some.inj h1).symm
/-- a node's cells are as many as it says, of levels where none is cut off -/
theorem bitsN_sum {l : List Nd} {room : Int} (h : Right6 l room) : ∀ (j n : Nat), j ≤ 20 → n < l.length → (l.getD n deadN).1 = j → ((sumB (bitsN l j n) : Nat) : Int) = (l.getD n deadN).2.2 ∧ sumB (bitsN l j n) ≤ 4 ^ j ∧ ∀ c ∈ bitsN l j n, c = 48 ∨ c = 49 := by
  intro j
  induction j with
  | zero =>
    intro n _ hn ln
    have n2 := (level_zero h hn).1 ln
    rcases (by omega : n = 0 ∨ n = 1) with rfl | rfl
    · unfold bitsN; rw [h.dead]; exact ⟨by decide, by decide, by decide⟩
    · unfold bitsN; rw [h.live]; exact ⟨by decide, by decide, by decide⟩
  | succ j ih =>
    intro n hj hn ln
    have n2 : 2 ≤ n := by
      rcases Nat.lt_or_ge n 2 with h2 | h2
      · have := (level_zero h hn).2 h2; omega
      · exact h2
    have fn := fits_iff.1 (h.fits n n2 hn)
    have key : ∀ i, i < 4 → _ := fun i hi => ih (kd (l.getD n deadN).2.1 i).toNat (by omega) (by have := fn.kid i hi; omega) (by show (ndAt l _).1 = _; rw [(fn.kid i hi).2.2, ln]; omega)
    have k0 := key 0 (by decide)
    have k1 := key 1 (by decide)
    have k2 := key 2 (by decide)
    have k3 := key 3 (by decide)
    simp only [kd] at k0 k1 k2 k3
    have hs : sumB (bitsN l (j + 1) n) = _ := joinB_sum (bitsN_len l j _) (bitsN_len l j _) (bitsN_len l j _) (bitsN_len l j _)
    have h4 : 4 ^ (j + 1) = 4 * 4 ^ j := by rw [Nat.pow_succ]; omega
    have hbig : 4 ^ (j + 1) ≤ 4 ^ 20 := Nat.pow_le_pow_right (by decide) hj
    have hbig2 : (4 : Nat) ^ 20 = 1099511627776 := by decide
    refine ⟨?_, by rw [hs]; omega, ?_⟩
    · rw [fn.pop, hs]
      unfold popTo popTo popTo popTo popTo
      simp only [kd, ndAt]
      omega
    · intro c hc
      have hrow : ∀ (s : Nat) (a : List UInt8) y, c ∈ row s a y → c ∈ a := fun s a y hc => List.mem_of_mem_drop (List.mem_of_mem_take hc)
      have hhalf : ∀ (s : Nat) (a b : List UInt8) N, c ∈ half s a b N → c ∈ a ∨ c ∈ b := by
        intro s a b N hc
        unfold half at hc
        obtain ⟨y, _, hy⟩ := List.mem_flatMap.1 hc
        rcases List.mem_append.1 hy with hy | hy
        · exact .inl (hrow _ _ _ hy)
        · exact .inr (hrow _ _ _ hy)
      rcases List.mem_append.1 (show c ∈ half _ _ _ _ ++ half _ _ _ _ from hc) with hc | hc
      · rcases hhalf _ _ _ _ hc with hc | hc
        · exact k0.2.2 c hc
        · exact k1.2.2 c hc
      · rcases hhalf _ _ _ _ hc with hc | hc
        · exact k2.2.2 c hc
        · exact k3.2.2 c hc
end Go.Proofs.Ytocepdhjkhhpfaa
namespace Go.Proofs.Ytocepdhjkhhpfaa
set_option linter.unusedVariables false
set_option linter.unusedSimpArgs false

/-- kids that may be put -/
structure Fit4 (l : List Nd) (k : Kd) : Prop where
  kid : ∀ i, i < 4 → 0 ≤ kd k i ∧ kd k i < l.length ∧ (ndAt l (kd k i)).1 = (ndAt l k.1).1
  low : (ndAt l k.1).1 + 1 ≤ 42
theorem Fit4.b {l : List Nd} {k : Kd} (h : Fit4 l k) : kidsB l l.length (ndAt l k.1).1 k = true := kidsB_iff.2 fun i hi => kidB_iff.2 (h.kid i hi)
/-- What comes of it. -/
inductive PutCase (l : List Nd) (room : Int) (k : Kd) : Prop
  | had (n : Nat) (h : at6 l k = some n) (e : put6 l room k = (l, (n : Int), 0))
  | full (h : at6 l k = none) (hr : room ≤ l.length) (e : put6 l room k = (l, 0, 40))
  | new (h : at6 l k = none) (hr : (l.length : Int) < room) (e : put6 l room k = (l ++ [((ndAt l k.1).1 + 1, k, popTo l k 4)], (l.length : Int), 0))
theorem put_case {l : List Nd} {k : Kd} (h : Fit4 l k) (room : Int) : PutCase l room k := by
  have h1 := h.b
  have h2 := h.low
  have e : put6 l room k = match at6 l k with
    | some n => (l, (n : Int), 0)
    | none => if room ≤ l.length then (l, 0, 40) else (l ++ [((ndAt l k.1).1 + 1, k, popTo l k 4)], (l.length : Int), 0) := by
    unfold put6
    rw [if_neg (by rw [h1]; decide), if_neg (by omega)]
    all_goals rfl
  cases ha : at6 l k with
  | some n => rw [ha] at e; exact .had n ha e
  | none =>
    rw [ha] at e
    simp only at e
    by_cases hr : room ≤ l.length
    · rw [if_pos hr] at e; exact .full ha hr e
    · rw [if_neg hr] at e; exact .new ha (by omega) e
/-- a store that has another one's nodes, and maybe more -/
structure Grows (l m : List Nd) : Prop where
  len : l.length ≤ m.length
  same : ∀ i, i < l.length → m.getD i deadN = l.getD i deadN
theorem Grows.refl (l : List Nd) : Grows l l := ⟨Nat.le_refl _, fun _ _ => rfl⟩
theorem Grows.trans {a b c : List Nd} (h : Grows a b) (k : Grows b c) : Grows a c := ⟨Nat.le_trans h.len k.len, fun i hi => (k.same i (Nat.lt_of_lt_of_le hi h.len)).trans (h.same i hi)⟩
theorem Grows.app (l : List Nd) (x : Nd) : Grows l (l ++ [x]) := ⟨by simp, fun i hi => getD_app hi⟩
theorem Grows.nd {l m : List Nd} (h : Grows l m) {i : Int} (h0 : 0 ≤ i) (h1 : i < l.length) : ndAt m i = ndAt l i := h.same _ (by omega)
theorem Grows.fit4 {l m : List Nd} (h : Grows l m) {k : Kd} (hk : Fit4 l k) : Fit4 m k := by
  have h0 := hk.kid 0 (by decide)
  have e0 : ndAt m k.1 = ndAt l k.1 := h.nd h0.1 h0.2.1
  have hl := h.len
  refine ⟨fun i hi => ?_, by rw [e0]; exact hk.low⟩
  obtain ⟨k1, k2, k3⟩ := hk.kid i hi
  exact ⟨k1, by omega, by rw [h.nd k1 k2, e0]; exact k3⟩
/-- a store where a node stands has it at its place -/
theorem Grows.at_ {l m : List Nd} (h : Grows l m) {k : Kd} {n : Nat} (ha : at6 l k = some n) : at6 m k = some n := by
  obtain ⟨a1, a2, a3, a4⟩ := at_some ha
  exact at_is a1 (Nat.lt_of_lt_of_le a2 h.len) (by rw [h.same n a2]; exact a3) (fun j hj1 hj2 => by rw [h.same j (by omega)]; exact a4 j hj1 hj2)
theorem at_new {l : List Nd} {k : Kd} (h2 : 2 ≤ l.length) (ha : at6 l k = none) (lev pop : Int) : at6 (l ++ [(lev, k, pop)]) k = some l.length :=
  at_is h2 (by simp) (by rw [getD_last]) (fun j hj1 hj2 => by rw [getD_app hj2]; exact at_none.1 ha j hj1 hj2)
/-- what was put -/
structure Put6 (l m : List Nd) (room : Int) (k : Kd) (n : Nat) : Prop where
  grows : Grows l m
  right : Right6 m room
  at_ : at6 m k = some n
  more : m.length ≤ l.length + 1
theorem put_ok {l : List Nd} {room : Int} (hr : Right6 l room) {k : Kd} (h : Fit4 l k) : (∃ (m : List Nd) (n : Nat), put6 l room k = (m, (n : Int), 0) ∧ Put6 l m room k n) ∨ (put6 l room k = (l, 0, 40) ∧ room ≤ l.length ∧ at6 l k = none) := by
  have hp := put_right hr k
  rcases put_case h room with ⟨n, ha, e⟩ | ⟨ha, hf, e⟩ | ⟨ha, hf, e⟩
  · exact .inl ⟨l, n, e, Grows.refl l, hr, ha, Nat.le_succ _⟩
  · exact .inr ⟨e, hf, ha⟩
  · rw [e] at hp
    exact .inl ⟨_, l.length, e, Grows.app l _, hp, at_new hr.two ha _ _, by simp⟩
/-- put again -/
theorem put_again {m : List Nd} {room : Int} {k : Kd} {n : Nat} (h : Fit4 m k) (ha : at6 m k = some n) : put6 m room k = (m, (n : Int), 0) := by
  rcases put_case h room with ⟨n', ha', e⟩ | ⟨ha', _, _⟩ | ⟨ha', _, _⟩
  · rw [ha] at ha'; injection ha' with ha'; subst ha'; exact e
  · rw [ha] at ha'; cases ha'
  · rw [ha] at ha'; cases ha'
theorem intern_right {l : List Nd} {room : Int} (h : Right6 l room) (k : Kd) : intern6 l room k = put6 l room k := by unfold intern6; rw [if_pos (right_iff.2 h)]

/-! ### a node's level is below its place -/
theorem level_low {l : List Nd} {room : Int} (h : Right6 l room) : ∀ n, n < l.length → 2 ≤ n → (l.getD n deadN).1 ≤ (n : Int) - 1 := by
  intro n
  induction n using Nat.strongRecOn with
  | ind n ih =>
    intro hn h2
    have hf := fits_iff.1 (h.fits n h2 hn)
    obtain ⟨k1, k2, k3⟩ := hf.kid 0 (by decide)
    by_cases hk : (kd (l.getD n deadN).2.1 0).toNat < 2
    · have h0 := (level_zero h (n := (kd (l.getD n deadN).2.1 0).toNat) (by omega)).2 hk
      have e : (ndAt l (kd (l.getD n deadN).2.1 0)).1 = 0 := h0
      rw [e] at k3
      omega
    · have := ih (kd (l.getD n deadN).2.1 0).toNat (by omega) (by omega) (by omega)
      have e : (ndAt l (kd (l.getD n deadN).2.1 0)).1 ≤ _ := this
      rw [k3] at e
      omega
theorem level_lt {l : List Nd} {room : Int} (h : Right6 l room) {n : Nat} (hn : n < l.length) : (l.getD n deadN).1 ≤ (l.length : Int) - 2 := by
  have h2 := h.two
  by_cases hn2 : n < 2
  · have := (level_zero h hn).2 hn2
    omega
  · have := level_low h n hn (by omega)
    omega

/-! ### the laws' raw stores -/
def pick6 (c n : Int) : Int := if c < 0 then (-(c + 1)) % n else c % n
theorem pick6_bd (c n : Int) (hn : 1 ≤ n) : 0 ≤ pick6 c n ∧ pick6 c n < n := by
  unfold pick6
  split
  · exact ⟨Int.emod_nonneg _ (by omega), Int.emod_lt_of_pos _ (by omega)⟩
  · exact ⟨Int.emod_nonneg _ (by omega), Int.emod_lt_of_pos _ (by omega)⟩
def new6 : List Nd := [deadN, liveN]
theorem right_new {room : Int} (h2 : 2 ≤ room) (h : room ≤ 100000) : Right6 new6 room := ⟨h2, h, by decide, h2, rfl, rfl, fun n hn hl => absurd hl (by have : new6.length = 2 := rfl; omega)⟩
/-- the places of a level, so many of the places seen -/
def sameTo (l : List Nd) (lev : Int) (n : Nat) : List Int := ((List.range n).filter fun i => decide ((l.getD i deadN).1 = lev)).map fun i : Nat => (i : Int)
theorem sameTo_succ (l : List Nd) (lev : Int) (n : Nat) : sameTo l lev (n + 1) = if (l.getD n deadN).1 = lev then sameTo l lev n ++ [(n : Int)] else sameTo l lev n := by
  unfold sameTo
  rw [List.range_succ, List.filter_append, List.map_append]
  by_cases h : (l.getD n deadN).1 = lev
  · rw [if_pos h, List.filter_cons, if_pos (by simpa using h)]; rfl
  · rw [if_neg h, List.filter_cons, if_neg (by simpa using h)]; simp
theorem mem_sameTo {l : List Nd} {lev : Int} {n : Nat} {x : Int} (h : x ∈ sameTo l lev n) : 0 ≤ x ∧ x < n ∧ (ndAt l x).1 = lev := by
  unfold sameTo at h
  obtain ⟨i, hi, rfl⟩ := List.mem_map.1 h
  obtain ⟨h1, h2⟩ := List.mem_filter.1 hi
  rw [List.mem_range] at h1
  refine ⟨by omega, by omega, ?_⟩
  rw [ndAt_nat]
  simpa using h2
theorem sameTo_mem {l : List Nd} {lev : Int} {n i : Nat} (h : i < n) (hl : (l.getD i deadN).1 = lev) : (i : Int) ∈ sameTo l lev n := by
  unfold sameTo
  exact List.mem_map.2 ⟨i, List.mem_filter.2 ⟨List.mem_range.2 h, by simpa using hl⟩, rfl⟩
theorem sameTo_len (l : List Nd) (lev : Int) (n : Nat) : (sameTo l lev n).length ≤ n := by
  unfold sameTo
  rw [List.length_map]
  refine Nat.le_trans (List.length_filter_le _ _) ?_
  simp
abbrev Raw5 := Int × Int × Int × Int × Int
def levOf (l : List Nd) (r : Raw5) : Int := if 0 < l.length then (ndAt l (pick6 r.2.2.2.2 l.length)).1 else 0
def pickOf (s : List Int) (c : Int) : Int := if 0 < s.length then s.getD (pick6 c s.length).toNat 0 else 0
/-- what the laws' Kids answers -/
def kids6 (l : List Nd) (r : Raw5) : Kd :=
  (pickOf (sameTo l (levOf l r) l.length) r.1, pickOf (sameTo l (levOf l r) l.length) r.2.1, pickOf (sameTo l (levOf l r) l.length) r.2.2.1, pickOf (sameTo l (levOf l r) l.length) r.2.2.2.1)
theorem pickOf_mem {s : List Int} (h : 0 < s.length) (c : Int) : pickOf s c ∈ s := by
  unfold pickOf
  rw [if_pos h]
  have hb := pick6_bd c s.length (by omega)
  rw [List.getD_eq_getElem?_getD, List.getElem?_eq_getElem (by omega)]
  exact List.getElem_mem _
theorem kids_fit {l : List Nd} {room : Int} (h : Right6 l room) (hl : l.length ≤ 43) (r : Raw5) : Fit4 l (kids6 l r) := by
  have h2 := h.two
  have hp := pick6_bd r.2.2.2.2 l.length (by omega)
  have hlev : levOf l r = (l.getD (pick6 r.2.2.2.2 l.length).toNat deadN).1 := by unfold levOf; rw [if_pos (by omega)]; rfl
  have hmem : (((pick6 r.2.2.2.2 l.length).toNat : Nat) : Int) ∈ sameTo l (levOf l r) l.length := sameTo_mem (by omega) hlev.symm
  have hs : 0 < (sameTo l (levOf l r) l.length).length := List.length_pos_of_mem hmem
  have key : ∀ i, i < 4 → kd (kids6 l r) i ∈ sameTo l (levOf l r) l.length := by
    intro i hi
    match i, hi with
    | 0, _ => exact pickOf_mem hs _
    | 1, _ => exact pickOf_mem hs _
    | 2, _ => exact pickOf_mem hs _
    | 3, _ => exact pickOf_mem hs _
  have e0 : (ndAt l (kids6 l r).1).1 = levOf l r := (mem_sameTo (key 0 (by decide))).2.2
  have hlow := level_lt h (n := (pick6 r.2.2.2.2 l.length).toNat) (by omega)
  refine ⟨fun i hi => ?_, by rw [e0, hlev]; omega⟩
  obtain ⟨k1, k2, k3⟩ := mem_sameTo (key i hi)
  exact ⟨k1, k2, by rw [e0]; exact k3⟩
/-- a store of raw numbers -/
def storeTo (room : Int) (raw : List Raw5) : Nat → List Nd
  | 0 => new6
  | n + 1 => (intern6 (storeTo room raw n) room (kids6 (storeTo room raw n) (raw.getD n (0, 0, 0, 0, 0)))).1
def store6 (room : Int) (raw : List Raw5) : List Nd := storeTo (2 + pick6 room 60) raw (min raw.length 40)
theorem storeTo_right {room : Int} (h2 : 2 ≤ room) (h : room ≤ 100000) (raw : List Raw5) : ∀ n, n ≤ 40 → Right6 (storeTo room raw n) room ∧ (storeTo room raw n).length ≤ n + 2 := by
  intro n
  induction n with
  | zero => intro _; exact ⟨right_new h2 h, Nat.le_refl 2⟩
  | succ n ih =>
    intro hn
    obtain ⟨h1, h3⟩ := ih (by omega)
    have hf := kids_fit h1 (by omega) (raw.getD n (0, 0, 0, 0, 0))
    show Right6 (intern6 _ room _).1 room ∧ _
    rw [intern_right h1]
    refine ⟨put_right h1 _, ?_⟩
    show (intern6 _ room _).1.length ≤ _
    rw [intern_right h1]
    rcases put_ok h1 hf with ⟨m, k, e, hp⟩ | ⟨e, _, _⟩
    · rw [e]; have := hp.more; simp only; omega
    · rw [e]; simp only; omega
theorem store_right (room : Int) (raw : List Raw5) : Right6 (store6 room raw) (2 + pick6 room 60) ∧ (store6 room raw).length ≤ 42 := by
  have hp := pick6_bd room 60 (by decide)
  have := storeTo_right (room := 2 + pick6 room 60) (by omega) (by omega) raw (min raw.length 40) (by omega)
  exact ⟨this.1, by unfold store6; omega⟩
end Go.Proofs.Ytocepdhjkhhpfaa
namespace Go.Proofs.Ytocepdhjkhhpfaa
set_option linter.unusedVariables false
set_option linter.unusedSimpArgs false

/-- Two nodes stand for the same just if they are the same. -/
theorem bits_iff {l : List Nd} {room : Int} (h : Right6 l room) {n m : Nat} (hn : n < l.length) (hm : m < l.length) : bitsN l (l.getD n deadN).1.toNat n = bitsN l (l.getD m deadN).1.toNat m ↔ n = m := by
  have bn := right_bd h n hn
  have bm := right_bd h m hm
  constructor
  · intro hb
    have hl := congrArg List.length hb
    rw [bitsN_len, bitsN_len, ← Nat.pow_add, ← Nat.pow_add] at hl
    have he : (l.getD n deadN).1.toNat + (l.getD n deadN).1.toNat = (l.getD m deadN).1.toNat + (l.getD m deadN).1.toNat := by
      rcases Nat.lt_trichotomy ((l.getD n deadN).1.toNat + (l.getD n deadN).1.toNat) ((l.getD m deadN).1.toNat + (l.getD m deadN).1.toNat) with h1 | h1 | h1
      · have := Nat.pow_lt_pow_right (a := 2) (by decide) h1; omega
      · exact h1
      · have := Nat.pow_lt_pow_right (a := 2) (by decide) h1; omega
    have hlev : (l.getD n deadN).1.toNat = (l.getD m deadN).1.toNat := by omega
    rw [← hlev] at hb
    exact bitsN_inj h _ n m hn hm (by omega) (by omega) hb
  · rintro rfl
    rfl
/-- the cells of four kids, with none cut off ahead of the end -/
theorem popTo_sum {l : List Nd} {k : Kd} (h : ∀ i, i < 4 → 0 ≤ (ndAt l (kd k i)).2.2) : popTo l k 4 = min ((ndAt l k.1).2.2 + (ndAt l k.2.1).2.2 + (ndAt l k.2.2.1).2.2 + (ndAt l k.2.2.2).2.2) 4611686018427387903 := by
  have h0 := h 0 (by decide)
  have h1 := h 1 (by decide)
  have h2 := h 2 (by decide)
  have h3 := h 3 (by decide)
  simp only [kd] at h0 h1 h2 h3
  unfold popTo popTo popTo popTo popTo
  simp only [kd]
  omega
/-- kids turned -/
def turnK (k : Kd) : Nat → Kd
  | 0 => k
  | n + 1 => let q := turnK k n; (q.2.1, q.2.2.1, q.2.2.2, q.1)
theorem turnK_sum (l : List Nd) (k : Kd) : ∀ n, (ndAt l (turnK k n).1).2.2 + (ndAt l (turnK k n).2.1).2.2 + (ndAt l (turnK k n).2.2.1).2.2 + (ndAt l (turnK k n).2.2.2).2.2 = (ndAt l k.1).2.2 + (ndAt l k.2.1).2.2 + (ndAt l k.2.2.1).2.2 + (ndAt l k.2.2.2).2.2 := by
  intro n
  induction n with
  | zero => rfl
  | succ n ih => rw [← ih]; simp only [turnK]; omega
theorem turnK_kd (k : Kd) : ∀ n i, i < 4 → ∃ j, j < 4 ∧ kd (turnK k n) i = kd k j := by
  intro n
  induction n with
  | zero => intro i hi; exact ⟨i, hi, rfl⟩
  | succ n ih =>
    intro i hi
    match i, hi with
    | 0, _ => exact ih 1 (by decide)
    | 1, _ => exact ih 2 (by decide)
    | 2, _ => exact ih 3 (by decide)
    | 3, _ => exact ih 0 (by decide)
theorem fit_turn {l : List Nd} {k : Kd} (h : Fit4 l k) (n : Nat) : Fit4 l (turnK k n) := by
  obtain ⟨j0, hj0, e0⟩ := turnK_kd k n 0 (by decide)
  have e : (ndAt l (turnK k n).1).1 = (ndAt l k.1).1 := by
    have : (turnK k n).1 = kd k j0 := e0
    rw [this]
    exact (h.kid j0 hj0).2.2
  refine ⟨fun i hi => ?_, by rw [e]; exact h.low⟩
  obtain ⟨j, hj, ej⟩ := turnK_kd k n i hi
  rw [ej, e]
  exact h.kid j hj
/-- the node that was put -/
theorem Put6.node {l m : List Nd} {room : Int} {k : Kd} {n : Nat} (h : Put6 l m room k n) (hf : Fit4 l k) : 2 ≤ n ∧ n < m.length ∧ (m.getD n deadN).2.1 = k ∧ (m.getD n deadN).1 = (ndAt l k.1).1 + 1 ∧ (m.getD n deadN).2.2 = popTo l k 4 := by
  obtain ⟨a1, a2, a3, _⟩ := at_some h.at_
  have hfn := fits_iff.1 (h.right.fits n a1 a2)
  have hk0 := hfn.kid 0 (by decide)
  rw [a3] at hk0
  have e0 : ndAt m k.1 = ndAt l k.1 := h.grows.nd (hf.kid 0 (by decide)).1 (hf.kid 0 (by decide)).2.1
  have ep : ∀ i, i ≤ 4 → popTo m k i = popTo l k i := by
    intro i
    induction i with
    | zero => intro _; rfl
    | succ i ih =>
      intro hi
      unfold popTo
      rw [ih (by omega), h.grows.nd (hf.kid i (by omega)).1 (hf.kid i (by omega)).2.1]
  refine ⟨a1, a2, a3, ?_, ?_⟩
  · have : (ndAt m k.1).1 = (m.getD n deadN).1 - 1 := hk0.2.2
    rw [e0] at this
    omega
  · rw [hfn.pop, a3, ep 4 (Nat.le_refl _)]

/-! ### nodes in which all is dead -/
/-- what Empty does, so many levels up -/
def emptyTo (l : List Nd) (room : Int) : Nat → List Nd × Int × Int
  | 0 => (l, 0, 0)
  | j + 1 => if (emptyTo l room j).2.2 = 0 then put6 (emptyTo l room j).1 room ((emptyTo l room j).2.1, (emptyTo l room j).2.1, (emptyTo l room j).2.1, (emptyTo l room j).2.1) else emptyTo l room j
def empty6 (l : List Nd) (room lev : Int) : List Nd × Int × Int :=
  if (right6 l room && decide (0 ≤ lev) && decide (lev ≤ 42)) = true then
    (if (emptyTo l room lev.toNat).2.2 = 0 then emptyTo l room lev.toNat else (l, 0, (emptyTo l room lev.toNat).2.2))
  else (l, 0, 1)
/-- a node is the dead one of its level -/
def Emp (l : List Nd) : Nat → Nat → Prop
  | 0, n => n = 0
  | j + 1, n => ∃ e : Nat, Emp l j e ∧ at6 l ((e : Int), (e : Int), (e : Int), (e : Int)) = some n
theorem emp_grows {l m : List Nd} (h : Grows l m) : ∀ j n, Emp l j n → Emp m j n := by
  intro j
  induction j with
  | zero => intro n hn; exact hn
  | succ j ih =>
    intro n hn
    obtain ⟨e, he, ha⟩ := hn
    exact ⟨e, ih e he, h.at_ ha⟩
theorem emp_one {l : List Nd} : ∀ j n m, Emp l j n → Emp l j m → n = m := by
  intro j
  induction j with
  | zero => intro n m hn hm; exact hn.trans hm.symm
  | succ j ih =>
    intro n m ⟨e, he, ha⟩ ⟨e', he', ha'⟩
    obtain rfl := ih e e' he he'
    rw [ha] at ha'
    exact Option.some.inj ha'
theorem emp_node {l : List Nd} {room : Int} (h : Right6 l room) : ∀ j n, Emp l j n → n < l.length ∧ (l.getD n deadN).1 = j ∧ (l.getD n deadN).2.2 = 0 := by
  intro j
  induction j with
  | zero =>
    intro n hn
    have h2 := h.two
    obtain rfl : n = 0 := hn
    rw [h.dead]
    exact ⟨by omega, rfl, rfl⟩
  | succ j ih =>
    intro n ⟨e, he, ha⟩
    obtain ⟨e1, e2, e3⟩ := ih e he
    obtain ⟨a1, a2, a3, _⟩ := at_some ha
    have hf := fits_iff.1 (h.fits n a1 a2)
    have hk := (hf.kid 0 (by decide)).2.2
    have hp := hf.pop
    rw [a3] at hk hp
    have ee : ndAt l (e : Int) = l.getD e deadN := ndAt_nat l e
    simp only [kd] at hk
    rw [ee, e2] at hk
    refine ⟨a2, by omega, ?_⟩
    rw [hp]
    unfold popTo popTo popTo popTo popTo
    simp only [kd]
    rw [ee, e3]
    decide
/-- so many levels up, where there is room -/
theorem empty_ok {l : List Nd} {room : Int} (h : Right6 l room) : ∀ j : Nat, j ≤ 42 → (l.length : Int) + j ≤ room → ∃ (m : List Nd) (n : Nat), emptyTo l room j = (m, (n : Int), 0) ∧ Grows l m ∧ Right6 m room ∧ Emp m j n ∧ m.length ≤ l.length + j := by
  intro j
  induction j with
  | zero => intro _ _; exact ⟨l, 0, rfl, Grows.refl l, h, rfl, Nat.le_refl _⟩
  | succ j ih =>
    intro hj hr
    obtain ⟨m, n, e, g, hm, he, hl⟩ := ih (by omega) (by omega)
    obtain ⟨n1, n2, n3⟩ := emp_node hm j n he
    have e4 : emptyTo l room (j + 1) = put6 m room ((n : Int), (n : Int), (n : Int), (n : Int)) := by
      show (if (emptyTo l room j).2.2 = 0 then _ else _) = _
      rw [e, if_pos rfl]
    have hfit : Fit4 m ((n : Int), (n : Int), (n : Int), (n : Int)) := by
      refine ⟨fun i hi => ?_, ?_⟩
      · have : kd ((n : Int), (n : Int), (n : Int), (n : Int)) i = (n : Int) := by
          match i, hi with
          | 0, _ => rfl
          | 1, _ => rfl
          | 2, _ => rfl
          | 3, _ => rfl
        rw [this]
        exact ⟨by omega, by omega, rfl⟩
      · show (ndAt m (n : Int)).1 + 1 ≤ 42
        rw [ndAt_nat, n2]
        omega
    rcases put_ok hm hfit with ⟨m', n', e', hp⟩ | ⟨_, hf, _⟩
    · refine ⟨m', n', by rw [e4, e'], g.trans hp.grows, hp.right, ⟨n, emp_grows hp.grows j n he, hp.at_⟩, ?_⟩
      have := hp.more
      omega
    · omega
/-- where they stand already nothing is put -/
theorem empty_had {l : List Nd} {room : Int} (h : Right6 l room) : ∀ j n, j ≤ 42 → Emp l j n → emptyTo l room j = (l, (n : Int), 0) := by
  intro j
  induction j with
  | zero => intro n _ hn; obtain rfl : n = 0 := hn; rfl
  | succ j ih =>
    intro n hj ⟨e, he, ha⟩
    have h1 := ih e (by omega) he
    obtain ⟨n1, n2, n3⟩ := emp_node h j e he
    have e4 : emptyTo l room (j + 1) = put6 l room ((e : Int), (e : Int), (e : Int), (e : Int)) := by
      show (if (emptyTo l room j).2.2 = 0 then _ else _) = _
      rw [h1, if_pos rfl]
    rw [e4]
    refine put_again ⟨fun i hi => ?_, ?_⟩ ha
    · have : kd ((e : Int), (e : Int), (e : Int), (e : Int)) i = (e : Int) := by
        match i, hi with
        | 0, _ => rfl
        | 1, _ => rfl
        | 2, _ => rfl
        | 3, _ => rfl
      rw [this]
      exact ⟨by omega, by omega, rfl⟩
    · show (ndAt l (e : Int)).1 + 1 ≤ 42
      rw [ndAt_nat, n2]
      omega
theorem emp_below {l : List Nd} : ∀ j n, Emp l j n → ∀ i, i ≤ j → ∃ e, Emp l i e := by
  intro j
  induction j with
  | zero =>
    intro n hn i hi
    obtain rfl : i = 0 := by omega
    exact ⟨n, hn⟩
  | succ j ih =>
    intro n hn i hi
    obtain ⟨e, he, ha⟩ := hn
    rcases Nat.lt_or_ge i (j + 1) with h | h
    · exact ih e he i (by omega)
    · obtain rfl : i = j + 1 := by omega
      exact ⟨n, e, he, ha⟩
end Go.Proofs.Ytocepdhjkhhpfaa
namespace Go.Proofs.Ytocepdhjkhhpfaa
set_option linter.unusedVariables false
set_option linter.unusedSimpArgs false

def isKid (k : Kd) (x : Nat) : Bool := decide ((x : Int) = k.1) || decide ((x : Int) = k.2.1) || decide ((x : Int) = k.2.2.1) || decide ((x : Int) = k.2.2.2)
theorem isKid_iff {k : Kd} {x : Nat} : isKid k x = true ↔ ∃ i, i < 4 ∧ kd k i = (x : Int) := by
  unfold isKid
  simp only [Bool.or_eq_true, decide_eq_true_eq]
  constructor
  · rintro (((h | h) | h) | h)
    · exact ⟨0, by decide, h.symm⟩
    · exact ⟨1, by decide, h.symm⟩
    · exact ⟨2, by decide, h.symm⟩
    · exact ⟨3, by decide, h.symm⟩
  · rintro ⟨i, hi, h⟩
    match i, hi with
    | 0, _ => exact .inl (.inl (.inl h.symm))
    | 1, _ => exact .inl (.inl (.inr h.symm))
    | 2, _ => exact .inl (.inr h.symm)
    | 3, _ => exact .inr h.symm
def setK (k : Kd) (f : Nat → Bool) : Nat → Bool := fun x => f x || isKid k x
/-- the flags, from a place down -/
def down (l : List Nd) : Nat → (Nat → Bool) → Nat → Bool
  | 0, f => f
  | i + 1, f => down l i (if (decide (2 ≤ i) && f i) = true then setK (l.getD i deadN).2.1 f else f)
def base6 (R : List Int) : Nat → Bool := fun x => decide (x < 2) || R.any fun r => decide (r = (x : Int))
def keepF (l : List Nd) (R : List Int) : Nat → Bool := down l l.length (base6 R)

theorem down_mono (l : List Nd) : ∀ (i : Nat) (f : Nat → Bool) (x : Nat), f x = true → down l i f x = true := by
  intro i
  induction i with
  | zero => intro f x h; exact h
  | succ i ih =>
    intro f x h
    refine ih _ x ?_
    split
    · unfold setK; rw [h]; rfl
    · exact h
theorem down_above {l : List Nd} (hk : ∀ i, 2 ≤ i → i < l.length → ∀ x, isKid (l.getD i deadN).2.1 x = true → x < i) : ∀ (i : Nat), i ≤ l.length → ∀ (f : Nat → Bool) (x : Nat), i ≤ x → down l i f x = f x := by
  intro i
  induction i with
  | zero => intro _ f x _; rfl
  | succ i ih =>
    intro hi f x hx
    show down l i _ x = f x
    rw [ih (by omega) _ x (by omega)]
    split
    · next h =>
      simp only [Bool.and_eq_true, decide_eq_true_eq] at h
      unfold setK
      have : isKid (l.getD i deadN).2.1 x = false := by
        rw [Bool.eq_false_iff]
        intro hx2
        have := hk i h.1 (by omega) x hx2
        omega
      rw [this, Bool.or_false]
    · rfl
theorem down_closed {l : List Nd} (hk : ∀ i, 2 ≤ i → i < l.length → ∀ x, isKid (l.getD i deadN).2.1 x = true → x < i) : ∀ (i : Nat), i ≤ l.length → ∀ (f : Nat → Bool) (j x : Nat), 2 ≤ j → j < i → down l i f j = true → isKid (l.getD j deadN).2.1 x = true → down l i f x = true := by
  intro i
  induction i with
  | zero => intro _ f j x _ hj; omega
  | succ i ih =>
    intro hi f j x h2 hj hd hx
    rcases Nat.lt_or_ge j i with h | h
    · exact ih (by omega) _ j x h2 h hd hx
    · obtain rfl : j = i := by omega
      have hab : down l j (if (decide (2 ≤ j) && f j) = true then setK (l.getD j deadN).2.1 f else f) j = true := hd
      rw [down_above hk j (by omega) _ j (Nat.le_refl _)] at hab
      have hfj : f j = true := by
        by_cases hc : (decide (2 ≤ j) && f j) = true
        · simp only [Bool.and_eq_true] at hc
          exact hc.2
        · rw [if_neg hc] at hab
          exact hab
      show down l j (if (decide (2 ≤ j) && f j) = true then setK (l.getD j deadN).2.1 f else f) x = true
      refine down_mono l j _ x ?_
      rw [if_pos (by rw [hfj, decide_eq_true h2]; rfl)]
      unfold setK
      rw [hx, Bool.or_true]
theorem down_min (l : List Nd) : ∀ (i : Nat) (f : Nat → Bool) (x : Nat), down l i f x = true → f x = true ∨ ∃ j, 2 ≤ j ∧ j < i ∧ down l i f j = true ∧ isKid (l.getD j deadN).2.1 x = true := by
  intro i
  induction i with
  | zero => intro f x h; exact .inl h
  | succ i ih =>
    intro f x h
    rcases ih _ x h with h1 | ⟨j, j1, j2, j3, j4⟩
    · by_cases hc : (decide (2 ≤ i) && f i) = true
      · rw [if_pos hc] at h1
        unfold setK at h1
        simp only [Bool.or_eq_true] at h1
        rcases h1 with h1 | h1
        · exact .inl h1
        · simp only [Bool.and_eq_true, decide_eq_true_eq] at hc
          exact .inr ⟨i, hc.1, Nat.lt_succ_self i, down_mono l (i + 1) f i hc.2, h1⟩
      · rw [if_neg hc] at h1
        exact .inl h1
    · exact .inr ⟨j, j1, by omega, j3, j4⟩
theorem kid_lt {l : List Nd} {room : Int} (h : Right6 l room) : ∀ i, 2 ≤ i → i < l.length → ∀ x, isKid (l.getD i deadN).2.1 x = true → x < i := by
  intro i h2 hi x hx
  obtain ⟨c, hc, e⟩ := isKid_iff.1 hx
  have := (fits_iff.1 (h.fits i h2 hi)).kid c hc
  rw [e] at this
  omega

/-- what is known of the flags -/
structure Kept (l : List Nd) (R : List Int) (K : Nat → Bool) : Prop where
  zero : K 0 = true
  one : K 1 = true
  root : ∀ r ∈ R, 0 ≤ r → K r.toNat = true
  kid : ∀ j, 2 ≤ j → j < l.length → K j = true → ∀ c, c < 4 → K (kd (l.getD j deadN).2.1 c).toNat = true
  why : ∀ x, K x = true → x < 2 ∨ (x : Int) ∈ R ∨ ∃ j, 2 ≤ j ∧ j < l.length ∧ K j = true ∧ isKid (l.getD j deadN).2.1 x = true
theorem kept_keep {l : List Nd} {room : Int} (h : Right6 l room) (R : List Int) : Kept l R (keepF l R) := by
  have hm := down_mono l l.length (base6 R)
  refine ⟨hm 0 rfl, hm 1 rfl, fun r hr h0 => hm _ ?_, fun j h2 hj hK c hc => ?_, fun x hx => ?_⟩
  · unfold base6
    rw [Bool.or_eq_true]
    exact .inr (List.any_eq_true.2 ⟨r, hr, by simp; omega⟩)
  · have hkc := (fits_iff.1 (h.fits j h2 hj)).kid c hc
    exact down_closed (kid_lt h) l.length (Nat.le_refl _) _ j _ h2 hj hK (isKid_iff.2 ⟨c, hc, by omega⟩)
  · rcases down_min l l.length (base6 R) x hx with h1 | h1
    · unfold base6 at h1
      simp only [Bool.or_eq_true, decide_eq_true_eq, List.any_eq_true] at h1
      rcases h1 with h1 | ⟨r, hr, e⟩
      · exact .inl h1
      · exact .inr (.inl (by rw [← e]; exact hr))
    · exact .inr (.inr h1)

/-! ### where what is kept goes -/
def cnt (K : Nat → Bool) (n : Nat) : Nat := ((List.range n).filter K).length
theorem cnt_succ (K : Nat → Bool) (n : Nat) : cnt K (n + 1) = if K n = true then cnt K n + 1 else cnt K n := by
  unfold cnt
  rw [List.range_succ, List.filter_append, List.length_append]
  by_cases h : K n = true
  · rw [if_pos h, List.filter_cons, if_pos h]; rfl
  · rw [if_neg h, List.filter_cons, if_neg h]; rfl
theorem cnt_mono (K : Nat → Bool) {n m : Nat} (h : n ≤ m) : cnt K n ≤ cnt K m := by
  induction m with
  | zero => obtain rfl : n = 0 := by omega
            exact Nat.le_refl _
  | succ m ih =>
    rcases Nat.lt_or_ge n (m + 1) with h1 | h1
    · have := ih (by omega)
      rw [cnt_succ]
      split <;> omega
    · obtain rfl : n = m + 1 := by omega
      exact Nat.le_refl _
theorem cnt_lt {K : Nat → Bool} {n m : Nat} (h : n < m) (hn : K n = true) : cnt K n < cnt K m := by
  have h1 := cnt_succ K n
  rw [if_pos hn] at h1
  have h2 := cnt_mono K (show n + 1 ≤ m from h)
  omega
theorem cnt_inj {K : Nat → Bool} {n m : Nat} (hn : K n = true) (hm : K m = true) (h : cnt K n = cnt K m) : n = m := by
  rcases Nat.lt_trichotomy n m with h1 | h1 | h1
  · have := cnt_lt h1 hn; omega
  · exact h1
  · have := cnt_lt h1 hm; omega
theorem cnt_le (K : Nat → Bool) (n : Nat) : cnt K n ≤ n := by
  unfold cnt
  refine Nat.le_trans (List.length_filter_le _ _) ?_
  simp
def mapK (K : Nat → Bool) (k : Kd) : Kd := (cnt K k.1.toNat, cnt K k.2.1.toNat, cnt K k.2.2.1.toNat, cnt K k.2.2.2.toNat)
theorem mapK_kd (K : Nat → Bool) (k : Kd) (i : Nat) : kd (mapK K k) i = (cnt K (kd k i).toNat : Int) := by
  match i with
  | 0 => rfl
  | 1 => rfl
  | 2 => rfl
  | n + 3 => rfl
def mapN (K : Nat → Bool) (x : Nd) : Nd := (x.1, mapK K x.2.1, x.2.2)
/-- the nodes that are kept, so many seen -/
def newTo (l : List Nd) (K : Nat → Bool) (n : Nat) : List Nd := ((List.range n).filter K).map fun i => mapN K (l.getD i deadN)
theorem newTo_len (l : List Nd) (K : Nat → Bool) (n : Nat) : (newTo l K n).length = cnt K n := by unfold newTo cnt; rw [List.length_map]
theorem newTo_succ (l : List Nd) (K : Nat → Bool) (n : Nat) : newTo l K (n + 1) = if K n = true then newTo l K n ++ [mapN K (l.getD n deadN)] else newTo l K n := by
  unfold newTo
  rw [List.range_succ, List.filter_append, List.map_append]
  by_cases h : K n = true
  · rw [if_pos h, List.filter_cons, if_pos h]; rfl
  · rw [if_neg h, List.filter_cons, if_neg h]; simp
theorem newTo_get {l : List Nd} {K : Nat → Bool} {i : Nat} (hK : K i = true) : ∀ n, i < n → (newTo l K n).getD (cnt K i) deadN = mapN K (l.getD i deadN) := by
  intro n
  induction n with
  | zero => intro h; omega
  | succ n ih =>
    intro h
    rw [newTo_succ]
    rcases Nat.lt_or_ge i n with h1 | h1
    · have h2 := ih h1
      have h3 := cnt_lt h1 hK
      split
      · rw [getD_app (by rw [newTo_len]; exact h3)]; exact h2
      · exact h2
    · obtain rfl : i = n := by omega
      rw [if_pos hK, ← newTo_len l K i, getD_last]
/-- each place of the new store comes from one -/
theorem newTo_from {K : Nat → Bool} : ∀ (n p : Nat), p < cnt K n → ∃ i, i < n ∧ K i = true ∧ cnt K i = p := by
  intro n
  induction n with
  | zero => intro p h; simp [cnt] at h
  | succ n ih =>
    intro p h
    rw [cnt_succ] at h
    by_cases hK : K n = true
    · rw [if_pos hK] at h
      rcases Nat.lt_or_ge p (cnt K n) with h1 | h1
      · obtain ⟨i, i1, i2, i3⟩ := ih p h1
        exact ⟨i, by omega, i2, i3⟩
      · exact ⟨n, Nat.lt_succ_self n, hK, by omega⟩
    · rw [if_neg hK] at h
      obtain ⟨i, i1, i2, i3⟩ := ih p h
      exact ⟨i, by omega, i2, i3⟩
def liveL (l : List Nd) (R : List Int) : List Nd := newTo l (keepF l R) l.length
def liveAt (l : List Nd) (R : List Int) : List Int := R.map fun r => (cnt (keepF l R) r.toNat : Int)

section
variable {l : List Nd} {room : Int} {R : List Int} {K : Nat → Bool}
theorem cnt_01 (hK : Kept l R K) : cnt K 0 = 0 ∧ cnt K 1 = 1 ∧ cnt K 2 = 2 := by
  have h1 := cnt_succ K 0
  have h2 := cnt_succ K 1
  rw [if_pos hK.zero] at h1
  rw [if_pos hK.one] at h2
  have h0 : cnt K 0 = 0 := rfl
  have e1 : cnt K 1 = 1 := h1.trans (by rw [h0])
  exact ⟨h0, e1, h2.trans (by rw [e1])⟩
/-- What is live is right. -/
theorem live_right (h : Right6 l room) (hK : Kept l R K) : Right6 (newTo l K l.length) room := by
  have h2 := h.two
  obtain ⟨c0, c1, c2⟩ := cnt_01 hK
  have hlen := newTo_len l K l.length
  have hm := cnt_mono K h2
  have hle := cnt_le K l.length
  have hr := h.len
  refine ⟨h.room2, h.room100, by omega, by omega, ?_, ?_, fun p hp hpl => ?_⟩
  · have := newTo_get (l := l) hK.zero l.length (by omega)
    rw [c0, h.dead] at this
    rw [this]
    unfold mapN mapK deadN
    simp only [Int.toNat_zero, c0]
    rfl
  · have := newTo_get (l := l) hK.one l.length (by omega)
    rw [c1, h.live] at this
    rw [this]
    unfold mapN mapK liveN
    simp only [Int.toNat_zero, c0]
    rfl
  · obtain ⟨i, i1, i2, rfl⟩ := newTo_from (K := K) l.length p (by omega)
    have hi2 : 2 ≤ i := by
      rcases Nat.lt_or_ge i 2 with h3 | h3
      · rcases (by omega : i = 0 ∨ i = 1) with rfl | rfl <;> omega
      · exact h3
    have hf := fits_iff.1 (h.fits i hi2 i1)
    have e := newTo_get (l := l) i2 l.length i1
    have hkid := hK.kid i hi2 i1 i2
    have hnd : ∀ c, c < 4 → ndAt (newTo l K l.length) (kd (mapK K (l.getD i deadN).2.1) c) = mapN K (ndAt l (kd (l.getD i deadN).2.1 c)) := by
      intro c hc
      rw [mapK_kd, ndAt_nat]
      have := hf.kid c hc
      exact newTo_get (hkid c hc) l.length (by omega)
    rw [fits_iff]
    refine ⟨fun c hc => ?_, by rw [e]; exact hf.lo, by rw [e]; exact hf.hi, ?_, ?_⟩
    · rw [e]
      show 0 ≤ kd (mapK K _) c ∧ kd (mapK K _) c < _ ∧ (ndAt _ (kd (mapK K _) c)).1 = (l.getD i deadN).1 - 1
      rw [hnd c hc, mapK_kd]
      have h3 := hf.kid c hc
      have h4 := cnt_lt (show (kd (l.getD i deadN).2.1 c).toNat < i by omega) (hkid c hc)
      exact ⟨by omega, by omega, h3.2.2⟩
    · rw [e]
      show (l.getD i deadN).2.2 = popTo _ (mapK K _) 4
      rw [hf.pop]
      unfold popTo popTo popTo popTo popTo
      rw [hnd 0 (by decide), hnd 1 (by decide), hnd 2 (by decide), hnd 3 (by decide)]
      rfl
    · rw [e]
      show at6 _ (mapK K _) = some (cnt K i)
      refine at_is (by have := cnt_mono K hi2; omega) (by rw [hlen]; exact cnt_lt i1 i2) (by rw [e]; rfl) (fun q hq1 hq2 hq3 => ?_)
      obtain ⟨j, j1, j2, rfl⟩ := newTo_from (K := K) l.length q (by have := cnt_mono K (Nat.le_of_lt i1); omega)
      have hj2 : 2 ≤ j := by
        rcases Nat.lt_or_ge j 2 with h3 | h3
        · rcases (by omega : j = 0 ∨ j = 1) with rfl | rfl <;> omega
        · exact h3
      have ej := newTo_get (l := l) j2 l.length j1
      rw [ej] at hq3
      have hfj := fits_iff.1 (h.fits j hj2 j1)
      have hkk : (l.getD j deadN).2.1 = (l.getD i deadN).2.1 := kd_ext fun c hc => by
        have h5 := congrArg (fun k => kd k c) (show mapK K (l.getD j deadN).2.1 = mapK K (l.getD i deadN).2.1 from hq3)
        simp only [mapK_kd] at h5
        have := cnt_inj (hK.kid j hj2 j1 j2 c hc) (hkid c hc) (by omega)
        have a1 := hf.kid c hc
        have a2 := hfj.kid c hc
        omega
      have h6 := hfj.first
      rw [hkk, hf.first] at h6
      have := Option.some.inj h6
      subst this
      omega
/-- A node that is kept stands for what it stood for. -/
theorem live_bits (h : Right6 l room) (hK : Kept l R K) : ∀ (j i : Nat), i < l.length → K i = true → (l.getD i deadN).1 = j → bitsN (newTo l K l.length) j (cnt K i) = bitsN l j i := by
  intro j
  induction j with
  | zero =>
    intro i hi hKi _
    unfold bitsN
    rw [newTo_get hKi l.length hi]
    rfl
  | succ j ih =>
    intro i hi hKi hl
    have hi2 : 2 ≤ i := by
      rcases Nat.lt_or_ge i 2 with h3 | h3
      · have := (level_zero h hi).2 h3; omega
      · exact h3
    have hf := fits_iff.1 (h.fits i hi2 hi)
    have key : ∀ c, c < 4 → bitsN (newTo l K l.length) j (kd (mapK K (l.getD i deadN).2.1) c).toNat = bitsN l j (kd (l.getD i deadN).2.1 c).toNat := by
      intro c hc
      rw [mapK_kd, Int.toNat_natCast]
      have h3 := hf.kid c hc
      exact ih _ (by omega) (hK.kid i hi2 hi hKi c hc) (by show (ndAt l _).1 = _; rw [h3.2.2, hl]; omega)
    show joinB _ _ _ _ _ = joinB _ _ _ _ _
    rw [newTo_get hKi l.length hi]
    have k0 := key 0 (by decide)
    have k1 := key 1 (by decide)
    have k2 := key 2 (by decide)
    have k3 := key 3 (by decide)
    simp only [kd] at k0 k1 k2 k3
    show joinB _ (bitsN _ j (mapK K _).1.toNat) (bitsN _ j (mapK K _).2.1.toNat) (bitsN _ j (mapK K _).2.2.1.toNat) (bitsN _ j (mapK K _).2.2.2.toNat) = _
    rw [k0, k1, k2, k3]
/-- Of what is live all is live. -/
theorem live_all (h : Right6 l room) (hK : Kept l R K) {K' : Nat → Bool} (hK' : Kept (newTo l K l.length) (R.map fun r => (cnt K r.toNat : Int)) K') : ∀ (f i : Nat), l.length ≤ i + f → i < l.length → K i = true → K' (cnt K i) = true := by
  obtain ⟨c0, c1, c2⟩ := cnt_01 hK
  intro f
  induction f with
  | zero => intro i h1 h2; omega
  | succ f ih =>
    intro i h1 h2 hKi
    rcases hK.why i hKi with h3 | h3 | ⟨j, j1, j2, j3, j4⟩
    · rcases (by omega : i = 0 ∨ i = 1) with rfl | rfl
      · rw [c0]; exact hK'.zero
      · rw [c1]; exact hK'.one
    · have := hK'.root (cnt K i : Int) (List.mem_map.2 ⟨(i : Int), h3, by rw [Int.toNat_natCast]⟩) (by omega)
      rwa [Int.toNat_natCast] at this
    · have hij := kid_lt h j j1 j2 i j4
      have h5 := ih j (by omega) j2 j3
      have e := newTo_get (l := l) j3 l.length j2
      obtain ⟨c, hc, ec⟩ := isKid_iff.1 j4
      have h6 := hK'.kid (cnt K j) (by have := cnt_mono K j1; omega) (by rw [newTo_len]; exact cnt_lt j2 j3) h5 c hc
      rw [e] at h6
      have e2 : kd (mapN K (l.getD j deadN)).2.1 c = (cnt K i : Int) := by
        show kd (mapK K _) c = _
        rw [mapK_kd, ec, Int.toNat_natCast]
      rw [e2, Int.toNat_natCast] at h6
      exact h6
theorem cnt_full {K : Nat → Bool} : ∀ n, (∀ i, i < n → K i = true) → cnt K n = n := by
  intro n
  induction n with
  | zero => intro _; rfl
  | succ n ih =>
    intro h
    rw [cnt_succ, if_pos (h n (Nat.lt_succ_self n)), ih fun i hi => h i (by omega)]
/-- Done twice it is done once. -/
theorem live_twice (h : Right6 l room) (hK : Kept l R K) {K' : Nat → Bool} (hK' : Kept (newTo l K l.length) (R.map fun r => (cnt K r.toNat : Int)) K') : newTo (newTo l K l.length) K' (newTo l K l.length).length = newTo l K l.length ∧ ∀ p, p < (newTo l K l.length).length → cnt K' p = p := by
  have hr := live_right h hK
  have hall : ∀ p, p < (newTo l K l.length).length → K' p = true := by
    intro p hp
    rw [newTo_len] at hp
    obtain ⟨i, i1, i2, rfl⟩ := newTo_from (K := K) l.length p hp
    exact live_all h hK hK' l.length i (by omega) i1 i2
  have hcnt : ∀ p, p ≤ (newTo l K l.length).length → cnt K' p = p := fun p hp => cnt_full p fun i hi => hall i (by omega)
  generalize newTo l K l.length = m at *
  refine ⟨?_, fun p hp => hcnt p (by omega)⟩
  refine List.ext_getElem (by rw [newTo_len, hcnt _ (Nat.le_refl _)]) fun p h1 h2 => ?_
  have e := newTo_get (l := m) (hall p h2) m.length h2
  rw [hcnt p (by omega), List.getD_eq_getElem?_getD, List.getElem?_eq_getElem h1, Option.getD_some] at e
  rw [e]
  have e2 : m.getD p deadN = m[p] := by rw [List.getD_eq_getElem?_getD, List.getElem?_eq_getElem h2, Option.getD_some]
  rw [← e2]
  have hk : ∀ c, c < 4 → 0 ≤ kd (m.getD p deadN).2.1 c ∧ kd (m.getD p deadN).2.1 c < m.length := by
    intro c hc
    by_cases hp2 : p < 2
    · have h4 := hr.two
      rcases (by omega : p = 0 ∨ p = 1) with rfl | rfl
      · rw [hr.dead]
        have : kd deadN.2.1 c = 0 := by
          match c, hc with
          | 0, _ => rfl
          | 1, _ => rfl
          | 2, _ => rfl
          | 3, _ => rfl
        rw [this]; omega
      · rw [hr.live]
        have : kd liveN.2.1 c = 0 := by
          match c, hc with
          | 0, _ => rfl
          | 1, _ => rfl
          | 2, _ => rfl
          | 3, _ => rfl
        rw [this]; omega
    · have := (fits_iff.1 (hr.fits p (by omega) h2)).kid c hc
      exact ⟨this.1, by omega⟩
  have hmk : mapK K' (m.getD p deadN).2.1 = (m.getD p deadN).2.1 := kd_ext fun c hc => by
    have := hk c hc
    rw [mapK_kd, hcnt _ (by omega)]
    omega
  unfold mapN
  rw [hmk]
end
end Go.Proofs.Ytocepdhjkhhpfaa
namespace Go.Proofs.Ytocepdhjkhhpfaa
set_option linter.unusedVariables false
set_option linter.unusedSimpArgs false
open Go.RowKit Go.Sort

/-- the six cells of a node -/
def cellsN (x : Nd) : List Value := [.int .i64 x.1, .int .i64 x.2.1.1, .int .i64 x.2.1.2.1, .int .i64 x.2.1.2.2.1, .int .i64 x.2.1.2.2.2, .int .i64 x.2.2]
def flN (l : List Nd) : List Value := l.flatMap cellsN
theorem flN_append (l m : List Nd) : flN (l ++ m) = flN l ++ flN m := by unfold flN; simp
theorem flN_one (x : Nd) : flN [x] = cellsN x := by simp [flN]
theorem length_flN (l : List Nd) : (flN l).length = l.length * 6 := by
  induction l with
  | nil => rfl
  | cons x l ih => simp only [flN, cellsN, List.flatMap_cons, List.length_append, List.length_cons, List.length_nil] at ih ⊢; omega
theorem flN_get (l : List Nd) (j : Nat) (h : j < l.length) : (flN l)[j * 6]? = some (.int .i64 (l.getD j deadN).1) ∧ (flN l)[j * 6 + 1]? = some (.int .i64 (l.getD j deadN).2.1.1) ∧ (flN l)[j * 6 + 2]? = some (.int .i64 (l.getD j deadN).2.1.2.1) ∧ (flN l)[j * 6 + 3]? = some (.int .i64 (l.getD j deadN).2.1.2.2.1) ∧ (flN l)[j * 6 + 4]? = some (.int .i64 (l.getD j deadN).2.1.2.2.2) ∧ (flN l)[j * 6 + 5]? = some (.int .i64 (l.getD j deadN).2.2) := by
  induction l generalizing j with
  | nil => exact absurd h (Nat.not_lt_zero j)
  | cons x l ih =>
    cases j with
    | zero => simp [flN, cellsN]
    | succ j =>
      have := ih j (by simpa using h)
      have e1 : (j + 1) * 6 = j * 6 + 1 + 1 + 1 + 1 + 1 + 1 := by omega
      have e2 : flN (x :: l) = .int .i64 x.1 :: .int .i64 x.2.1.1 :: .int .i64 x.2.1.2.1 :: .int .i64 x.2.1.2.2.1 :: .int .i64 x.2.1.2.2.2 :: .int .i64 x.2.2 :: flN l := rfl
      rw [e1, e2]
      simpa using this
theorem flN_cell1 (m : List Nd) : ∀ u ∈ flN m, u.oneCell' = true := by
  intro u hu
  obtain ⟨x, _, hx⟩ := List.mem_flatMap.1 hu
  simp only [cellsN, List.mem_cons, List.not_mem_nil, or_false] at hx
  rcases hx with rfl | rfl | rfl | rfl | rfl | rfl <;> rfl

/-- a node lies here -/
def NdAt (w : World) (b o : Nat) (x : Nd) : Prop := w.cell? ⟨b, o, none⟩ = some (.int .i64 x.1) ∧ w.cell? ⟨b, o + 1, none⟩ = some (.int .i64 x.2.1.1) ∧ w.cell? ⟨b, o + 2, none⟩ = some (.int .i64 x.2.1.2.1) ∧ w.cell? ⟨b, o + 3, none⟩ = some (.int .i64 x.2.1.2.2.1) ∧ w.cell? ⟨b, o + 4, none⟩ = some (.int .i64 x.2.1.2.2.2) ∧ w.cell? ⟨b, o + 5, none⟩ = some (.int .i64 x.2.2)
/-- The slice at A of l.length nodes reads as l, below block B. -/
def RdN (w : World) (B : Nat) (A : Option Addr) (l : List Nd) : Prop :=
  ∀ j, j < l.length → ∃ b off, A = some ⟨b, off, none⟩ ∧ b < B ∧ NdAt w b (off + j * 6) (l.getD j deadN)
theorem NdAt.below {w w' : World} {b o B : Nat} {x : Nd} (h : NdAt w b o x) (hb : Below B w w') (hx : b < B) : NdAt w' b o x := by
  obtain ⟨h0, h1, h2, h3, h4, h5⟩ := h
  exact ⟨(hb.cell (p := ⟨b, o, none⟩) hx).trans h0, (hb.cell (p := ⟨b, o + 1, none⟩) hx).trans h1, (hb.cell (p := ⟨b, o + 2, none⟩) hx).trans h2, (hb.cell (p := ⟨b, o + 3, none⟩) hx).trans h3, (hb.cell (p := ⟨b, o + 4, none⟩) hx).trans h4, (hb.cell (p := ⟨b, o + 5, none⟩) hx).trans h5⟩
theorem RdN.below {w w' : World} {B B' : Nat} {A : Option Addr} {l : List Nd} (h : RdN w B A l) (hb : Below B' w w') (hB : B ≤ B') : RdN w' B A l := fun j hj => by
  obtain ⟨b, off, e, hlt, h0⟩ := h j hj
  exact ⟨b, off, e, hlt, h0.below hb (Nat.lt_of_lt_of_le hlt hB)⟩
theorem RdN.more {w : World} {B B' : Nat} {A : Option Addr} {l : List Nd} (h : RdN w B A l) (hB : B ≤ B') : RdN w B' A l := fun j hj => by
  obtain ⟨b, off, e, hlt, h0⟩ := h j hj
  exact ⟨b, off, e, by omega, h0⟩
theorem RdN.nil (w : World) (B : Nat) (A : Option Addr) : RdN w B A [] := fun j hj => absurd hj (Nat.not_lt_zero j)
theorem RdN.at_ {w : World} {B : Nat} {A : Option Addr} {l : List Nd} (h : RdN w B A l) (hn : 0 < l.length) :
    ∃ b off, A = some ⟨b, off, none⟩ ∧ b < B ∧ ∀ j, j < l.length → NdAt w b (off + j * 6) (l.getD j deadN) := by
  obtain ⟨b, off, e, hlt, _⟩ := h 0 hn
  refine ⟨b, off, e, hlt, fun j hj => ?_⟩
  obtain ⟨b', off', e', _, h0⟩ := h j hj
  rw [e] at e'
  injection e' with e'
  injection e' with e1 e2
  subst e1 e2
  exact h0
def NowN (w : World) (A : Option Addr) (l : List Nd) : Prop := RdN w w.heap.size A l
theorem NowN.below {w w' : World} {A : Option Addr} {l : List Nd} (h : NowN w A l) (hb : Below w.heap.size w w') : NowN w' A l := (RdN.below h hb (Nat.le_refl _)).more hb.size
theorem nowN_nil (w : World) (A : Option Addr) : NowN w A [] := RdN.nil _ _ _

/-- It reads as its list. -/
def ReadsN (w : World) (v : Value) (l : List Nd) : Prop := ∃ A c, v = .slice A l.length c ∧ l.length ≤ c ∧ NowN w A l
theorem ReadsN.below {w w' : World} {v : Value} {l : List Nd} (h : ReadsN w v l) (hb : Below w.heap.size w w') : ReadsN w' v l := by
  obtain ⟨A, c, e, hc, hR⟩ := h
  exact ⟨A, c, e, hc, hR.below hb⟩

theorem nowN_at {w : World} {m : List Nd} {b off : Nat} (h : ∀ j, j < m.length → NdAt w b (off + j * 6) (m.getD j deadN)) :
    ∀ j u, (flN m)[j]? = some u → w.cell? ((⟨b, off, none⟩ : Addr).add j) = some u := by
  intro j u hu
  rw [Addr.add_lit]
  have hj : j < m.length * 6 := by
    rcases Nat.lt_or_ge j (m.length * 6) with h1 | h1
    · exact h1
    · rw [List.getElem?_eq_none (by rw [length_flN]; exact h1)] at hu; cases hu
  obtain ⟨h0, h1, h2, h3, h4, h5⟩ := h (j / 6) (by omega)
  obtain ⟨f0, f1, f2, f3, f4, f5⟩ := flN_get m (j / 6) (by omega)
  have hc : j % 6 = 0 ∨ j % 6 = 1 ∨ j % 6 = 2 ∨ j % 6 = 3 ∨ j % 6 = 4 ∨ j % 6 = 5 := by omega
  rcases hc with hp | hp | hp | hp | hp | hp
  · have e : j = j / 6 * 6 := by omega
    rw [e] at hu ⊢
    rw [f0] at hu
    rw [← hu]
    exact h0
  · have e : j = j / 6 * 6 + 1 := by omega
    rw [e] at hu ⊢
    rw [f1] at hu
    rw [← hu, ← Nat.add_assoc]
    exact h1
  · have e : j = j / 6 * 6 + 2 := by omega
    rw [e] at hu ⊢
    rw [f2] at hu
    rw [← hu, ← Nat.add_assoc]
    exact h2
  · have e : j = j / 6 * 6 + 3 := by omega
    rw [e] at hu ⊢
    rw [f3] at hu
    rw [← hu, ← Nat.add_assoc]
    exact h3
  · have e : j = j / 6 * 6 + 4 := by omega
    rw [e] at hu ⊢
    rw [f4] at hu
    rw [← hu, ← Nat.add_assoc]
    exact h4
  · have e : j = j / 6 * 6 + 5 := by omega
    rw [e] at hu ⊢
    rw [f5] at hu
    rw [← hu, ← Nat.add_assoc]
    exact h5

end Go.Proofs.Ytocepdhjkhhpfaa
namespace Go.Proofs.Ytocepdhjkhhpfaa
set_option linter.unusedVariables false
set_option linter.unusedSimpArgs false
open Go.RowKit Go.Sort

def kidsV (k : Kd) : Value := .agg #[.int .i64 k.1, .int .i64 k.2.1, .int .i64 k.2.2.1, .int .i64 k.2.2.2]
def nodeV (x : Nd) : Value := .agg #[.int .i64 x.1, .int .i64 x.2.1.1, .int .i64 x.2.1.2.1, .int .i64 x.2.1.2.2.1, .int .i64 x.2.1.2.2.2, .int .i64 x.2.2]
theorem kd_eq (x y : Kd) : (x.1 == y.1 && (x.2.1 == y.2.1 && (x.2.2.1 == y.2.2.1 && x.2.2.2 == y.2.2.2))) = decide (x = y) := by
  obtain ⟨a, b, c, d⟩ := x
  obtain ⟨a', b', c', d'⟩ := y
  rw [Bool.eq_iff_iff]
  simp
theorem eqK_at (n : Nat) (a b c d a' b' c' d' : Int) (w : World) : (Op.equalIn (n + 1 + 1) 53 (.agg #[.int .i64 a, .int .i64 b, .int .i64 c, .int .i64 d]) (.agg #[.int .i64 a', .int .i64 b', .int .i64 c', .int .i64 d'])).run Try.prog w = .ok (a == a' && (b == b' && (c == c' && d == d'))) w := by
  have u3 := Try.underlying3
  have a3 := Try.isAgg3
  have z3 := Try.sizeOf3
  rw [Op.equalIn]
  simp only [Sem.run_bind, run_underlying Try.underlying53, Result.andThen_ok]
  simp only [Std.Legacy.Range.forIn_eq_forIn_range', Std.Legacy.Range.size, Nat.sub_zero, Nat.add_sub_cancel, Nat.div_one, List.range'_succ, List.range'_zero, List.forIn_cons, List.forIn_nil]
  go_simp
  by_cases h1 : a = a' <;> by_cases h2 : b = b' <;> by_cases h3 : c = c' <;> by_cases h4 : d = d' <;> simp [h1, h2, h3, h4]
theorem eqlK (x y : Kd) (w : World) : (binOp .eql 53 (.agg #[.int .i64 x.1, .int .i64 x.2.1, .int .i64 x.2.2.1, .int .i64 x.2.2.2]) (.agg #[.int .i64 y.1, .int .i64 y.2.1, .int .i64 y.2.2.1, .int .i64 y.2.2.2])).run Try.prog w = .ok (.bool (decide (x = y))) w := by
  rw [run_eql_struct, show (10000 : Nat) = 9998 + 1 + 1 from rfl, eqK_at, kd_eq]
  rfl

/-- a store as it comes in -/
def storeV (A : Option Addr) (n c : Nat) (room : Int) : Value := .agg #[.slice A n c, .int .i64 room]
def atV (o : Option Nat) : Int := match o with | some n => (n : Int) | none => -1
theorem lt_heap6 {w : World} {k : Nat} {o : Obj} (h : w.heap[k]? = some o) : k < w.heap.size := (Array.getElem?_eq_some_iff.1 h).1
end Go.Proofs.Ytocepdhjkhhpfaa
