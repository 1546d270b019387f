/-
  Looking through a list of cells: whether one is beyond the bounds, whether one is there.
-/
import Derived.Test.YtafoleafhkadiaaCd
namespace Go.Proofs.Ytafoleafhkadiaa
open Go.RowKit Go.Sort

/-- where the first cell stands of which p holds; -1 -/
def ixL (p : Int × Int → Bool) (l : List (Int × Int)) : Int := match l.findIdx? p with | some k => k | none => -1
theorem ixL_hit {p : Int × Int → Bool} {l : List (Int × Int)} {k : Nat} (hk : k < l.length) (h : p (l.getD k (0, 0)) = true) (hb : ∀ j, j < k → p (l.getD j (0, 0)) = false) : ixL p l = k := by
  unfold ixL
  have e : l.findIdx? p = some k := by
    rw [List.findIdx?_eq_some_iff_getElem]
    refine ⟨hk, by rwa [List.getD_eq_getElem?_getD, List.getElem?_eq_getElem hk] at h, fun j hj => ?_⟩
    have := hb j hj
    rw [List.getD_eq_getElem?_getD, List.getElem?_eq_getElem (by omega)] at this
    simpa using this
  rw [e]
theorem ixL_miss {p : Int × Int → Bool} {l : List (Int × Int)} (hb : ∀ j, j < l.length → p (l.getD j (0, 0)) = false) : ixL p l = -1 := by
  unfold ixL
  have e : l.findIdx? p = none := by
    rw [List.findIdx?_eq_none_iff]
    intro x hx
    obtain ⟨j, hj, rfl⟩ := List.getElem_of_mem hx
    have := hb j hj
    rwa [List.getD_eq_getElem?_getD, List.getElem?_eq_getElem hj] at this
  rw [e]
theorem ixL_any (p : Int × Int → Bool) (l : List (Int × Int)) : decide (0 ≤ ixL p l) = l.any p := by
  unfold ixL
  cases h : l.findIdx? p with
  | none =>
    rw [List.findIdx?_eq_none_iff] at h
    have : l.any p = false := by rw [List.any_eq_false]; intro x hx; rw [h x hx]; simp
    rw [this]; rfl
  | some k =>
    rw [List.findIdx?_eq_some_iff_getElem] at h
    obtain ⟨hk, hp, _⟩ := h
    have : l.any p = true := List.any_eq_true.2 ⟨_, List.getElem_mem hk, hp⟩
    rw [this]; simp

set_option maxHeartbeats 1000000 in
theorem indexFunc_any (A : Option Addr) (l : List (Int × Int)) (c : Nat) (w : World) (hR : Rd w w.heap.size A l) (hl : l.length ≤ 1000000) (hc : l.length ≤ c) :
    Calls Try.prog 55 #[.slice A l.length c, .func (.func 39) #[] #[]] w fun e w' => e = .returned (.int .i64 (ixL (fun p => !inB p) l)) ∧ Below w.heap.size w w' := by
  generalize hr : ixL (fun p => !inB p) l = r
  have HR := Lib.hid hr
  clear hr
  go_enter Try.func55, Try.ntmps55
  go_wp2
  go_loopw [5, 8] (fun _ i wr => ∃ k : Nat, k ≤ l.length ∧ i = .int .i64 k ∧ Hid (∀ j, j < k → (fun p => !inB p) (l.getD j (0, 0)) = false) ∧ Below w.heap.size w wr) (fun _ i _ => l.length - (intOf i).toNat)
  case atStart => exact ⟨0, Nat.zero_le _, rfl, fun j hj => absurd hj (Nat.not_lt_zero j), Below.refl _ _⟩
  case round =>
    obtain ⟨k, hk, rfl, HK, hb⟩ := hrel
    by_cases hlt : k < l.length
    · have hltz : (k : Int) < (l.length : Int) := by omega
      obtain ⟨b, off, rfl, hbB, hcell⟩ := hR.at_ (by omega)
      obtain ⟨⟨x, y⟩, hxy⟩ : ∃ p, p = l.getD k (0, 0) := ⟨_, rfl⟩
      have a0 := (hcell k hlt).1
      have a1 := (hcell k hlt).2
      rw [← hxy] at a0 a1
      simp only at a0 a1
      have c0 := Qt.keep hb a0
      have c1 := Qt.keep hb a1
      have HXY := Lib.hid hxy
      clear hxy hcell
      cases hin : inB (x, y) with
      | true =>
        have hok : (fun p => !inB p) (l.getD k (0, 0)) = false := by simp only; rw [← HXY.out, hin]; rfl
        have HOK := Lib.hid hok
        clear hok
        go_wp2_with (go_at_call 39; refine (beyond_no (x, y) hin _).mono ?_; rintro e w' ⟨rfl, hb1⟩)
        go_roundw
        case measure => simp [intOf]; omega
        case rel =>
          refine ⟨k + 1, by omega, by go_num, (show Hid _ from fun j hj => ?_), Qt.more hb hb.size hb1⟩
          by_cases hjk : j = k
          · subst hjk; exact HOK.out
          · exact HK.out j (by omega)
      | false =>
        have hok : ixL (fun p => !inB p) l = k := ixL_hit hlt (by rw [← HXY.out]; simp [hin]) HK.out
        have HOK := Lib.hid hok
        clear hok
        go_wp2_with (go_at_call 39; refine (beyond_yes (x, y) hin _).mono ?_; rintro e w' ⟨rfl, hb1⟩)
        go_ret
        exact ⟨Qt.ret_int (by rw [← HR.out, HOK.out]), Qt.more hb hb.size hb1⟩
    · have hltz : ¬ (k : Int) < (l.length : Int) := by omega
      have hm : ixL (fun p => !inB p) l = -1 := ixL_miss fun j hj => HK.out j (by omega)
      have HM := Lib.hid hm
      clear hm
      go_wp2
      go_ret
      exact ⟨Qt.ret_int (by rw [← HR.out, HM.out]), hb⟩

theorem containsFunc_any (A : Option Addr) (l : List (Int × Int)) (c : Nat) (w : World) (hR : Rd w w.heap.size A l) (hl : l.length ≤ 1000000) (hc : l.length ≤ c) :
    Calls Try.prog 38 #[.slice A l.length c, .func (.func 39) #[] #[]] w fun e w' => e = .returned (.bool (l.any fun p => !inB p)) ∧ Below w.heap.size w w' := by
  rw [← ixL_any]
  have h := indexFunc_any A l c w hR hl hc
  generalize ixL (fun p => !inB p) l = r at h ⊢
  go_enter Try.func38, Try.ntmps38
  go_wp2_with (go_at_call 55; refine h.mono ?_; rintro e w' ⟨rfl, hb1⟩)
  all_goals go_ret
  all_goals exact ⟨by first | rfl | (simp [*]; done), hb1⟩

set_option maxHeartbeats 1000000 in
theorem index_any (A : Option Addr) (l : List (Int × Int)) (c : Nat) (q : Int × Int) (w : World) (hR : Rd w w.heap.size A l) (hl : l.length ≤ 1000000) (hc : l.length ≤ c) :
    Calls Try.prog 62 #[.slice A l.length c, .agg #[.int .i64 q.1, .int .i64 q.2]] w fun e w' => e = .returned (.int .i64 (ixL (fun p => decide (p = q)) l)) ∧ Below w.heap.size w w' := by
  obtain ⟨qx, qy⟩ := q
  generalize hr : ixL (fun p => decide (p = (qx, qy))) l = r
  have HR := Lib.hid hr
  clear hr
  go_enter Try.func62, Try.ntmps62
  go_wp2
  go_loopw [5, 8] (fun _ i wr => ∃ k : Nat, k ≤ l.length ∧ i = .int .i64 k ∧ Hid (∀ j, j < k → (fun p => decide (p = (qx, qy))) (l.getD j (0, 0)) = false) ∧ Below w.heap.size w wr ∧ wr.cell? ⟨w.heap.size, 0, none⟩ = some (.int .i64 qx) ∧ wr.cell? ⟨w.heap.size, 1, none⟩ = some (.int .i64 qy)) (fun _ i _ => l.length - (intOf i).toNat)
  case atStart => exact ⟨0, Nat.zero_le _, rfl, fun j hj => absurd hj (Nat.not_lt_zero j), (Below.refl _ _).alloc (Nat.le_refl _) _, by simp, by simp⟩
  case round =>
    obtain ⟨k, hk, rfl, HK, hb, hq0, hq1⟩ := hrel
    by_cases hlt : k < l.length
    · have hltz : (k : Int) < (l.length : Int) := by omega
      obtain ⟨b, off, rfl, hbB, hcell⟩ := hR.at_ (by omega)
      obtain ⟨⟨x, y⟩, hxy⟩ : ∃ p, p = l.getD k (0, 0) := ⟨_, rfl⟩
      have a0 := (hcell k hlt).1
      have a1 := (hcell k hlt).2
      rw [← hxy] at a0 a1
      simp only at a0 a1
      have c0 := Qt.keep hb a0
      have c1 := Qt.keep hb a1
      have HXY := Lib.hid hxy
      clear hxy hcell
      have k0 := Qt.cell_in c0
      have k1 := Qt.cell_in c1
      have k2 := Qt.cell_in hq0
      have k3 := Qt.cell_in hq1
      have hcase : (qx = x ∧ qy = y) ∨ (qx = x ∧ ¬ qy = y) ∨ ¬ qx = x := by
        by_cases h1 : qx = x <;> by_cases h2 : qy = y <;> simp [h1, h2]
      rcases hcase with ⟨rfl, rfl⟩ | hne
      · have hok : ixL (fun p => decide (p = (qx, qy))) l = k := ixL_hit hlt (by rw [← HXY.out]; simp) HK.out
        have HOK := Lib.hid hok
        clear hok
        go_wp2
        refine Qt.below_all (by kernel_rfl) (by kernel_rfl) ?_
        repeat (go_big_quiet_step (fail))
        refine wpQuiet_nil ?_
        intro w1 hb1
        go_wp2
        go_ret
        exact ⟨Qt.ret_int (by rw [← HR.out, HOK.out]), Qt.more hb hb.size hb1⟩
      · have hok : (fun p => decide (p = (qx, qy))) (l.getD k (0, 0)) = false := by
          simp only; rw [← HXY.out]; simp; intro e1 e2; subst e1 e2; rcases hne with ⟨_, h⟩ | h <;> exact h rfl
        have HOK := Lib.hid hok
        clear hok
        rcases hne with ⟨rfl, hy⟩ | hx
        all_goals
          go_wp2
          refine Qt.below_all (by kernel_rfl) (by kernel_rfl) ?_
          repeat (go_big_quiet_step (fail))
          refine wpQuiet_nil ?_
          intro w1 hb1
          go_wp2
          go_roundw
          case measure => simp [intOf]; omega
          case rel =>
            refine ⟨k + 1, by omega, by go_num, (show Hid _ from fun j hj => ?_), Qt.more hb hb.size hb1, Qt.keep hb1 hq0, Qt.keep hb1 hq1⟩
            by_cases hjk : j = k
            · subst hjk; exact HOK.out
            · exact HK.out j (by omega)
    · have hltz : ¬ (k : Int) < (l.length : Int) := by omega
      have hm : ixL (fun p => decide (p = (qx, qy))) l = -1 := ixL_miss fun j hj => HK.out j (by omega)
      have HM := Lib.hid hm
      clear hm
      go_wp2
      go_ret
      exact ⟨Qt.ret_int (by rw [← HR.out, HM.out]), hb⟩

theorem contains_any (A : Option Addr) (l : List (Int × Int)) (c : Nat) (q : Int × Int) (w : World) (hR : Rd w w.heap.size A l) (hl : l.length ≤ 1000000) (hc : l.length ≤ c) :
    Calls Try.prog 50 #[.slice A l.length c, .agg #[.int .i64 q.1, .int .i64 q.2]] w fun e w' => e = .returned (.bool (l.any fun p => decide (p = q))) ∧ Below w.heap.size w w' := by
  rw [← ixL_any]
  obtain ⟨qx, qy⟩ := q
  have hb0 : Below w.heap.size w (w.alloc (.cells #[.int .i64 qx, .int .i64 qy] 25)) := (Below.refl _ w).alloc (Nat.le_refl _) _
  have h := index_any A l c (qx, qy) (w.alloc (.cells #[.int .i64 qx, .int .i64 qy] 25)) ((hR.below hb0 (Nat.le_refl _)).more (by simp)) hl hc
  generalize ixL (fun p => decide (p = (qx, qy))) l = r at h ⊢
  go_enter Try.func50, Try.ntmps50
  go_wp2_with (go_at_call 62; refine h.mono ?_; rintro e w' ⟨rfl, hb1⟩)
  all_goals go_ret
  all_goals exact ⟨by first | rfl | (simp [*]; done), Qt.more hb0 hb0.size hb1⟩

/-- Has: whether a cell is in a list -/
def hasB (l : List (Int × Int)) (q : Int × Int) : Bool := l.any fun p => decide (p = q)
theorem hasB_iff (l : List (Int × Int)) (q : Int × Int) : hasB l q = true ↔ q ∈ l := by
  simp [hasB]

theorem has_any (A : Option Addr) (l : List (Int × Int)) (c : Nat) (q : Int × Int) (w : World) (hR : Rd w w.heap.size A l) (hl : l.length ≤ 1000000) (hc : l.length ≤ c) :
    Calls Try.prog 24 #[.slice A l.length c, .agg #[.int .i64 q.1, .int .i64 q.2]] w fun e w' => e = .returned (.bool (hasB l q)) ∧ Below w.heap.size w w' := by
  unfold hasB
  obtain ⟨qx, qy⟩ := q
  have hb0 : Below w.heap.size w (w.alloc (.cells #[.int .i64 qx, .int .i64 qy] 25)) := (Below.refl _ w).alloc (Nat.le_refl _) _
  have h := contains_any A l c (qx, qy) (w.alloc (.cells #[.int .i64 qx, .int .i64 qy] 25)) ((hR.below hb0 (Nat.le_refl _)).more (by simp)) hl hc
  generalize (l.any fun p => decide (p = (qx, qy))) = r at h ⊢
  go_enter Try.func24, Try.ntmps24
  go_wp2_with (go_at_call 50; refine h.mono ?_; rintro e w' ⟨rfl, hb1⟩)
  go_ret
  exact ⟨rfl, Qt.more hb0 hb0.size hb1⟩

end Go.Proofs.Ytafoleafhkadiaa
