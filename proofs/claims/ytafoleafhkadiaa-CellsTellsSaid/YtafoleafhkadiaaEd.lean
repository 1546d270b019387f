/-
  The library's Clone of cells; Run: so many generations.
-/
import Derived.Test.YtafoleafhkadiaaEc
import Derived.Test.YtafoleafhkadiaaLh
namespace Go.Proofs.Ytafoleafhkadiaa
open Go.RowKit Go.Sort

/-- one list comes out -/
def One (w : World) (l : List (Int × Int)) (e : Ending) (w' : World) : Prop := ∃ v, e = .returned v ∧ Reads w' v l ∧ Below w.heap.size w w'

/-- append at the operation, by what it comes to -/
theorem wpList_append_run (w : World) {P : Program} {ops : Array Oper} {rest : List Oper} {o : Oper} {a : Act} {Q : Exit → Act → World → Prop} (hgd : o.guard = none) (d s : Operand) (t t' : TypeId)
    (ho : o.op = .call { callee := .builtin .append, args := #[d, s], argTypes := #[t, t'] }) (v u : Value) (hd : a.eval d = v) (hs : a.eval s = u) {v' : Value} {w' : World}
    (hr : (Builtin.append_ #[t, t'] o.type #[v, u]).run P w = .ok v' w') (h : wpList P ops Q rest (a.put o.dst v') w') : wpList P ops Q (o :: rest) a w := by
  refine wpList_plain hgd fun K hK => ?_
  unfold Oper.wp
  simp [execOp, ho, resolve, invoke, builtin, hd, hs, hr, Result.andThen]
  exact hK _ _ h

theorem eql_nil (A : Option Addr) (n c : Nat) (w : World) : (binOp .eql 23 (.slice A n c) (.slice none 0 0)).run Try.prog w = .ok (.bool A.isNone) w := by
  have h := run_neq_slice_nil_any (P := Try.prog) w 23 25 A n c 0 0 Try.underlying23
  simp only [binOp] at h ⊢
  cases A <;> simp_all [Op.equal, Op.maxDepth, Lib.run_equalIn_slice_nil w 9999 23 25 _ n c 0 0 Try.underlying23]

set_option maxHeartbeats 1000000 in
set_option maxRecDepth 100000 in
theorem clone_any (A : Option Addr) (l : List (Int × Int)) (c : Nat) (w : World) (hR : Now w A l) (hl : l.length ≤ 500000) (hc : l.length ≤ c) :
    Calls Try.prog 53 #[.slice A l.length c] w (One w l) := by
  have heq := eql_nil A l.length c
  cases A with
  | none =>
    have h0 : l = [] := by
      cases l with
      | nil => rfl
      | cons x r => obtain ⟨b, off, e, _⟩ := hR 0 (by simp); cases e
    subst h0
    go_enter Try.func53, Try.ntmps53
    simp only [List.length_nil, Option.isNone_none] at heq
    go_wp2
    go_ret
    exact ⟨_, rfl, ⟨none, 0, rfl, Nat.le_refl _, Rd.nil _ _ _⟩, Below.refl _ _⟩
  | some a =>
    have hB0 : Below w.heap.size w (w.alloc (.cells #[] 25)) := (Below.refl _ w).alloc (Nat.le_refl _) _
    have ho : Own (w.alloc (.cells #[] 25)) w.heap.size 25 (.slice (some ⟨w.heap.size, 0, none⟩) 0 0) [] := World.ownsRow_lit (size := 2) w #[] 0 (Nat.le_refl _) (by unfold maxLen; omega) (by simp)
    obtain ⟨v', w', hrun, hown, hgr⟩ := app_any c (by simp) ho (Now.below hR hB0) (by simp; omega)
    have HO := Lib.hid hown
    have HB : Hid (Below w.heap.size w w') := hB0.grown hgr (by simp) (fun k e => by simp [Value.ownBlock] at e; omega)
    clear hown hgr ho hB0
    simp only [Option.isNone_some] at heq
    go_enter Try.func53, Try.ntmps53
    go_wp2_with (at_builtin; refine wpList_append_run _ rfl (.tmp 5) (.tmp 6) 23 23 rfl _ _ rfl rfl hrun ?_)
    go_ret
    obtain ⟨A', c', e, h1, h2⟩ := HO.out.rd
    exact ⟨_, rfl, ⟨A', c', e, h1, h2⟩, HB.out⟩

theorem run_bad (A : Option Addr) (l : List (Int × Int)) (c : Nat) (n : Int) (w : World) (hR : Now w A l) (hl : l.length ≤ 1000000) (hc : l.length ≤ c) (hi : I64 n) (hb : rightB l = false ∨ n < 0 ∨ 1000 < n) :
    Calls Try.prog 32 #[.slice A l.length c, .int .i64 n] w (Ans w (1, [])) := by
  have hright := right_any A l c w hR hl hc
  generalize hr : rightB l = r at hb hright
  clear hr
  have HI := Lib.hid hi
  clear hi
  go_enter Try.func32, Try.ntmps32
  rcases hb with rfl | hb
  · go_wp2_with (go_at_call 17; refine hright.mono ?_; rintro e w1 ⟨rfl, hb1⟩)
    go_ret2
    exact Ans.nil 1 hb1
  · cases r
    · go_wp2_with (go_at_call 17; refine hright.mono ?_; rintro e w1 ⟨rfl, hb1⟩)
      go_ret2
      exact Ans.nil 1 hb1
    · rcases hb with hb | hb
      · go_wp2_with (go_at_call 17; refine hright.mono ?_; rintro e w1 ⟨rfl, hb1⟩)
        go_ret2
        exact Ans.nil 1 hb1
      · have hn : ¬ n < 0 := by omega
        go_wp2_with (go_at_call 17; refine hright.mono ?_; rintro e w1 ⟨rfl, hb1⟩)
        go_ret2
        exact Ans.nil 1 hb1

set_option maxHeartbeats 1000000 in
set_option maxRecDepth 100000 in
theorem run_good (A : Option Addr) (l : List (Int × Int)) (c : Nat) (n : Nat) (w : World) (hR : Now w A l) (hc : l.length ≤ c) (hr : rightB l = true) (hn : n ≤ 1000) :
    Calls Try.prog 32 #[.slice A l.length c, .int .i64 n] w (Ans w (runR n l)) := by
  have h2000 := ((rightB_iff l).1 hr).1
  have hright := right_yes (w := w) hR (by omega) hc hr
  have HRI := Lib.hid hr
  clear hr
  go_enter Try.func32, Try.ntmps32
  have h1 : ¬ (n : Int) < 0 := by omega
  have h2 : ¬ 1000 < (n : Int) := by omega
  go_wp2_with (first
    | (go_at_call 17; refine hright.mono ?_; rintro e w1 ⟨rfl, hb1⟩)
    | (go_at_call 53; refine (clone_any A l c _ (Now.below hR hb1) (by omega) hc).mono ?_; rintro e w2 ⟨v2, rfl, hv2, hb2⟩))
  have HV2 := Lib.hid hv2
  have HB2 := Lib.hid (Qt.more hb1 hb1.size hb2)
  clear hb1 hb2 hv2 hright h1 h2
  go_loopw [6, 22] (fun v i wr => ∃ (k : Nat) (m : List (Int × Int)), k ≤ n ∧ i = .int .i64 k ∧ Aside (Reads wr v m ∧ runR n l = runR (n - k) m ∧ rightB m = true ∧ Below w.heap.size w wr)) (fun _ i _ => n - (intOf i).toNat)
  case atStart => exact ⟨0, l, Nat.zero_le _, rfl, HV2.out, rfl, HRI.out, HB2.out⟩
  case round =>
    obtain ⟨k, m, hk, rfl, HR⟩ := hrel
    obtain ⟨A', c', rfl, hc', hR'⟩ := HR.out.1
    have hm := Nat.le_trans ((rightB_iff m).1 HR.out.2.2.1).1 (show 2000 ≤ 1000000 by omega)
    by_cases hlt : k < n
    · have hltz : (k : Int) < (n : Int) := by omega
      have hnext := next_ans A' m c' wr hR' hm hc'
      by_cases h0 : (nextR m).1 = 0
      · have HN := Lib.hid h0
        have HOK := Lib.hid (runR_ok h0 (n - (k + 1)))
        obtain ⟨r, hr⟩ : ∃ r, r = nextR m := ⟨_, rfl⟩
        rw [← hr] at hnext h0
        obtain ⟨e0, l0⟩ := r
        simp only at h0
        subst h0
        have HE := Lib.hid hr
        clear hr
        go_wp2_with (go_at_call 30; refine hnext.mono ?_; rintro e w3 ⟨v3, rfl, hv3, hb3⟩)
        go_roundw
        case measure => simp [intOf]; omega
        case rel =>
          refine ⟨k + 1, l0, by omega, by go_num, hv3, ?_, ?_, Qt.more HR.out.2.2.2 HR.out.2.2.2.size hb3⟩
          · have h := HOK.out
            rw [← HE.out] at h
            rw [HR.out.2.1, show n - k = n - (k + 1) + 1 by omega, h]
          · have h := nextR_right HN.out
            rwa [← HE.out] at h
      · have HN := Lib.hid h0
        have HOK := Lib.hid (runR_err h0 (n - (k + 1)))
        have HNIL := Lib.hid (nextR_err_nil h0)
        obtain ⟨r, hr⟩ : ∃ r, r = nextR m := ⟨_, rfl⟩
        rw [← hr] at hnext h0
        obtain ⟨e0, l0⟩ := r
        simp only at h0
        have HE := Lib.hid hr
        clear hr
        go_wp2_with (go_at_call 30; refine hnext.mono ?_; rintro e w3 ⟨v3, rfl, hv3, hb3⟩)
        go_ret2
        have h := HOK.out
        rw [← HE.out] at h
        rw [HR.out.2.1, show n - k = n - (k + 1) + 1 by omega, h]
        exact Ans.nil e0 (Qt.more HR.out.2.2.2 HR.out.2.2.2.size hb3)
    · have hltz : ¬ (k : Int) < (n : Int) := by omega
      obtain rfl : k = n := by omega
      go_wp2
      go_ret2
      rw [HR.out.2.1, Nat.sub_self]
      exact ⟨_, rfl, ⟨A', c', rfl, hc', hR'⟩, HR.out.2.2.2⟩

theorem run_ans (A : Option Addr) (l : List (Int × Int)) (c : Nat) (n : Int) (w : World) (hR : Now w A l) (hl : l.length ≤ 1000000) (hc : l.length ≤ c) (hi : I64 n) :
    Calls Try.prog 32 #[.slice A l.length c, .int .i64 n] w (Ans w (runA l n)) := by
  unfold runA
  by_cases h : rightB l = true ∧ 0 ≤ n ∧ n ≤ 1000
  · rw [if_pos h]
    have := run_good A l c n.toNat w hR hc h.1 (by omega)
    rwa [show ((n.toNat : Nat) : Int) = n by omega] at this
  · rw [if_neg h]
    refine run_bad A l c n w hR hl hc hi ?_
    by_cases hr : rightB l = true
    · have h' : ¬ (0 ≤ n ∧ n ≤ 1000) := fun hh => h ⟨hr, hh⟩
      right; omega
    · left; simpa using hr

end Go.Proofs.Ytafoleafhkadiaa
