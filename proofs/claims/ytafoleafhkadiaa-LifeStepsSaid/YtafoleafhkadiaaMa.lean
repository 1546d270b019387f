/-
  LifeDead: what has fewer than three cells is dead behind one generation; what is empty stays so: the law returns true whatever numbers come in.
  Conditions: none.
-/
import Derived.Test.YtafoleafhkadiaaEf
import Derived.Test.YtafoleafhkadiaaDn
import Derived.Test.YtafoleafhkadiaaGa
namespace Go.Proofs.Ytafoleafhkadiaa
open Go.RowKit Go.Sort

theorem pick2_any (c n : Int) (w : World) (h1 : -9223372036854775808 ≤ c) (h2 : c ≤ 9223372036854775807) (hn : 1 ≤ n) (hn2 : n ≤ 9223372036854775807) :
    Calls Try.prog 29 #[.int .i64 c, .int .i64 n] w fun e w' => e = .returned (.int .i64 (pickI c n)) ∧ w = w' := by
  generalize hr : pickI c n = r
  have HR := Lib.hid hr
  clear hr
  go_enter Try.func29, Try.ntmps29
  go_wp2
  all_goals go_ret
  all_goals refine ⟨?_, rfl⟩
  all_goals (refine Qt.ret_int ?_; rw [← HR.out]; unfold pickI)
  · rw [if_pos (by assumption), ← Int.neg_tmod, Int.tmod_eq_emod_of_nonneg (by omega)]
  · rw [if_neg (by omega)]

theorem Near.box {l : List (Int × Int)} (h : Near l) : InBox (-8) 7 (-8) 7 l := h.2.2
theorem Near.next {l : List (Int × Int)} (h : Near l) : nextR l = (0, nextL l) := by
  have hb := next_box h.box
  refine nextR_ok h.right (fun p hp => (inB_iff p).2 ?_) (Nat.le_trans (box_len hb (rises_nextL l) 18 18 (by decide) (by decide)) (by decide))
  have := hb p hp
  omega
theorem Near.take {l : List (Int × Int)} (h : Near l) (k : Nat) : Near (l.take k) :=
  ⟨Nat.le_trans (by rw [List.length_take]; omega) h.1, List.Pairwise.sublist (List.take_sublist k l) h.2.1, fun p hp => h.2.2 p (List.mem_of_mem_take hp)⟩
theorem runA_nil {n : Int} (h : 0 ≤ n ∧ n ≤ 1000) : runA [] n = (0, []) := by
  unfold runA
  rw [if_pos ⟨by decide, h⟩]
  have : ∀ k : Nat, runR k [] = (0, []) := by
    intro k
    induction k with
    | zero => rfl
    | succ k ih => rw [runR_ok (by decide)]; exact ih
  exact this _

set_option maxHeartbeats 4000000 in
set_option maxRecDepth 100000 in
theorem lifeDead_walk (A : Option Addr) (raw : List (Int × Int)) (c : Nat) (n : Int) (w : World) (hR : Rd w w.heap.size A raw) (hl : raw.length ≤ 9223372036854775807) (hc : raw.length ≤ c) (hw : ∀ p ∈ raw, I64 p.1 ∧ I64 p.2) (hn : I64 n) :
    Calls Try.prog 9 #[.slice A raw.length c, .int .i64 n] w fun e w' => e = .returned (.bool true) ∧ Below w.heap.size w w' := by
  have HW := Lib.hid hw
  have hn1 := hn.1
  have hn2 := hn.2
  clear hw hn
  go_enter Try.func9, Try.ntmps9
  go_wp2_with fail
  refine (awake2_any w).mono ?_
  rintro e w1 ⟨rfl, hb1⟩
  go_wp2_with fail
  refine (set_own A raw c w1 ((hR.below hb1 (Nat.le_refl _)).more hb1.size) hl hc HW.out).mono ?_
  rintro e w2 ⟨v, rfl, hv, hb2⟩
  obtain ⟨A2, c2, rfl, hc2, hr2⟩ := hv.rd
  have HSH := Lib.hid (shape_own hv)
  have HB2 := Lib.hid (Qt.more hb1 hb1.size hb2)
  have HNE := Lib.hid (rawSet_near raw)
  obtain ⟨s, hs⟩ : ∃ s, s = rawSet raw := ⟨_, rfl⟩
  rw [← hs] at hr2 hc2 HNE HSH ⊢
  have HS2 : Hid (Now w2 A2 s) := hr2
  have h60 := HNE.out.1
  clear hs hb1 hb2 hr2 hR HW hv
  obtain ⟨t, ht, hts, hmin⟩ : ∃ t : Nat, t = (s.take 2).length ∧ t ≤ s.length ∧ min (s.length : Int) 2 = (t : Int) := ⟨_, rfl, by rw [List.length_take]; omega, by rw [List.length_take]; omega⟩
  have HT := Lib.hid ht
  have hts2 : t ≤ 2 := by omega
  clear ht
  have hnx : nextR (s.take 2) = (0, []) := by rw [(HNE.out.take 2).next, next_few (by rw [List.length_take]; omega)]
  have hnx2 : nextR s = (0, nextL s) := HNE.out.next
  have hbox : (nextL s).length ≤ 3 * s.length := next_third s
  have hrt : rightB (nextL s) = true := by have := nextR_right (l := s) (by rw [hnx2]); rwa [hnx2] at this
  have HNX := Lib.hid hnx
  have HNX2 := Lib.hid hnx2
  have HRT := Lib.hid hrt
  have hpk := pickI_bd n 1001 (by omega)
  have HRN := Lib.hid (runA_nil (n := pickI n 1001) (by omega))
  have HPI : Hid (I64 (pickI n 1001)) := ⟨by omega, by omega⟩
  clear hnx hnx2 hrt hpk
  go_wp2_with fail
  refine (next_ok HNX.out (HS2.out.take 2) HT.out (by omega) (by omega)).mono ?_
  rintro e w3 ⟨A3, c3, rfl, hc3, HN3, hb3⟩
  have HB3 := Lib.hid (Qt.more HB2.out HB2.out.size hb3)
  have HS3 := Lib.hid (HS2.out.below hb3)
  clear hb3 HN3 HS2 hmin
  go_wp2_with fail
  refine (pick2_any n 1001 w3 hn1 hn2 (by omega) (by omega)).mono ?_
  rintro e w4 ⟨rfl, rfl⟩
  go_wp2_with fail
  refine (run_ok HRN.out (now_nil _ _) rfl (by decide) (by decide) HPI.out).mono ?_
  rintro e w5 ⟨A5, c5, rfl, hc5, HN5, hb5⟩
  have HB5 := Lib.hid (Qt.more HB3.out HB3.out.size hb5)
  have HS5 := Lib.hid (HS3.out.below hb5)
  clear hb5 HN5 HS3
  go_wp2_with fail
  refine (next_ok HNX2.out HS5.out rfl hc2 (by omega)).mono ?_
  rintro e w6 ⟨A6, c6, rfl, hc6, HN6, hb6⟩
  have HB6 := Lib.hid (Qt.more HB5.out HB5.out.size hb6)
  have hz1 : ((nextL s).length : Int) ≤ 3 * (s.length : Int) := by omega
  obtain ⟨m, hm⟩ : ∃ m, m = nextL s := ⟨_, rfl⟩
  rw [← hm] at HN6 hc6 hbox hz1 HRT ⊢
  have hR6 := refRight_any A6 m c6 w6 HN6.out (by omega) hc6
  rw [HRT.out] at hR6
  clear hm hb6 HNX2
  go_wp2_with (go_at_call 18; refine hR6.mono ?_; rintro e w7 ⟨rfl, hb7⟩)
  go_ret
  exact ⟨rfl, Qt.more HB6.out HB6.out.size hb7⟩

end Go.Proofs.Ytafoleafhkadiaa
