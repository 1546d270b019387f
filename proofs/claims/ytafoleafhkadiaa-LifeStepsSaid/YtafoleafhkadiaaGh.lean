/-
  The document's answer of layer 2: Run.
-/
import Derived.Test.YtafoleafhkadiaaGg
import Derived.Test.YtafoleafhkadiaaEd
namespace Go.Proofs.Ytafoleafhkadiaa
open Go.RowKit Go.Sort

theorem refRun_bad (A : Option Addr) (l : List (Int × Int)) (c : Nat) (n : Int) (w : World) (hR : Now w A l) (hl : l.length ≤ 1000000) (hc : l.length ≤ c) (hi : I64 n) (hb : rightB l = false ∨ n < 0 ∨ 1000 < n) :
    Calls Try.prog 33 #[.slice A l.length c, .int .i64 n] w (Ans w (1, [])) := by
  have hright := refRight_any A l c w hR hl hc
  generalize hr : rightB l = r at hb hright
  clear hr
  have HI := Lib.hid hi
  clear hi
  go_enter Try.func33, Try.ntmps33
  rcases hb with rfl | hb
  · go_wp2_with (go_at_call 18; refine hright.mono ?_; rintro e w1 ⟨rfl, hb1⟩)
    go_ret2
    exact Ans.nil 1 hb1
  · cases r
    · go_wp2_with (go_at_call 18; refine hright.mono ?_; rintro e w1 ⟨rfl, hb1⟩)
      go_ret2
      exact Ans.nil 1 hb1
    · rcases hb with hb | hb
      · go_wp2_with (go_at_call 18; refine hright.mono ?_; rintro e w1 ⟨rfl, hb1⟩)
        go_ret2
        exact Ans.nil 1 hb1
      · have hn : ¬ n < 0 := by omega
        go_wp2_with (go_at_call 18; refine hright.mono ?_; rintro e w1 ⟨rfl, hb1⟩)
        go_ret2
        exact Ans.nil 1 hb1

set_option maxHeartbeats 2000000 in
set_option maxRecDepth 100000 in
theorem refRun_good (A : Option Addr) (l : List (Int × Int)) (c : Nat) (n : Nat) (w : World) (hR : Now w A l) (hc : l.length ≤ c) (hr : rightB l = true) (hn : n ≤ 1000) :
    Calls Try.prog 33 #[.slice A l.length c, .int .i64 n] w (Ans w (runR n l)) := by
  have h2000 := ((rightB_iff l).1 hr).1
  have hright := refRight_any A l c w hR (by omega) hc
  rw [hr] at hright
  have HRI := Lib.hid hr
  clear hr
  have HA : Hid (∀ W : World, Below w.heap.size w W → ∃ v' w', (Builtin.append_ #[23, 23] 23 #[.slice none 0 0, .slice A l.length c]).run Try.prog W = .ok v' w' ∧ Own w' W.heap.size 25 v' l ∧ Below W.heap.size W w') := fun W hW => by
    obtain ⟨v', w', hrun, hown, hgr⟩ := app_any (w := W) (v := .slice none 0 0) (out := []) c (Nat.le_refl _) (World.ownsRow_nil _ _ _ _) (Now.below hR hW) (by simp; omega)
    exact ⟨v', w', hrun, hown, (Below.refl _ _).grown hgr (Nat.le_refl _) (fun k e => by cases e)⟩
  go_enter Try.func33, Try.ntmps33
  have h1 : ¬ (n : Int) < 0 := by omega
  have h2 : ¬ 1000 < (n : Int) := by omega
  go_wp2_with fail
  refine hright.mono ?_
  rintro e w1 ⟨rfl, hb1⟩
  obtain ⟨v2, w2, hrun, hown, hb2⟩ := HA.out w1 hb1
  have HO := Lib.hid hown
  have HB2 := Lib.hid (Qt.more hb1 hb1.size hb2)
  have HRUN := Lib.hid hrun
  clear hown hb2 hrun hb1 HA hright
  go_wp2_with (at_builtin; refine wpList_append_run _ rfl (.const (.slice none 0 0)) (.tmp 21) 23 23 rfl _ _ rfl rfl HRUN.out ?_)
  clear h1 h2
  go_loopw [6, 7] (fun v i wr => ∃ (k : Nat) (m : List (Int × Int)), k ≤ n ∧ i = .int .i64 k ∧ Aside (Reads wr v m ∧ runR n l = runR (n - k) m ∧ rightB m = true ∧ Below w.heap.size w wr)) (fun _ i _ => n - (intOf i).toNat)
  case atStart =>
    obtain ⟨A', c', e, h1, h2⟩ := HO.out.rd
    exact ⟨0, l, Nat.zero_le _, rfl, ⟨A', c', e, h1, h2⟩, rfl, HRI.out, HB2.out⟩
  case round =>
    obtain ⟨k, m, hk, rfl, HR⟩ := hrel
    obtain ⟨A', c', rfl, hc', hR'⟩ := HR.out.1
    have hm := Nat.le_trans ((rightB_iff m).1 HR.out.2.2.1).1 (show 2000 ≤ 1000000 by omega)
    by_cases hlt : k < n
    · have hltz : (k : Int) < (n : Int) := by omega
      have hnext := refNext_any A' m c' wr hR' hm hc'
      by_cases h0 : (nextR m).1 = 0
      · have HN := Lib.hid h0
        have HOK := Lib.hid (runR_ok h0 (n - (k + 1)))
        obtain ⟨r, hr⟩ : ∃ r, r = nextR m := ⟨_, rfl⟩
        rw [← hr] at hnext h0
        obtain ⟨e0, l0⟩ := r
        simp only at h0
        subst h0
        have HE := Lib.hid hr
        clear hr
        go_wp2_with (go_at_call 31; refine hnext.mono ?_; rintro e w3 ⟨v3, rfl, hv3, hb3⟩)
        go_roundw
        case measure => simp [intOf]; omega
        case rel =>
          refine ⟨k + 1, l0, by omega, by go_num, hv3, ?_, ?_, Qt.more HR.out.2.2.2 HR.out.2.2.2.size hb3⟩
          · have h := HOK.out
            rw [← HE.out] at h
            rw [HR.out.2.1, show n - k = n - (k + 1) + 1 by omega, h]
          · have h := nextR_right HN.out
            rwa [← HE.out] at h
      · have HN := Lib.hid h0
        have HOK := Lib.hid (runR_err h0 (n - (k + 1)))
        obtain ⟨r, hr⟩ : ∃ r, r = nextR m := ⟨_, rfl⟩
        rw [← hr] at hnext h0
        obtain ⟨e0, l0⟩ := r
        simp only at h0
        have HE := Lib.hid hr
        clear hr
        go_wp2_with (go_at_call 31; refine hnext.mono ?_; rintro e w3 ⟨v3, rfl, hv3, hb3⟩)
        go_ret2
        have h := HOK.out
        rw [← HE.out] at h
        rw [HR.out.2.1, show n - k = n - (k + 1) + 1 by omega, h]
        exact Ans.nil e0 (Qt.more HR.out.2.2.2 HR.out.2.2.2.size hb3)
    · have hltz : ¬ (k : Int) < (n : Int) := by omega
      obtain rfl : k = n := by omega
      go_wp2
      go_ret2
      rw [HR.out.2.1, Nat.sub_self]
      exact ⟨_, rfl, ⟨A', c', rfl, hc', hR'⟩, HR.out.2.2.2⟩

theorem refRun_any (A : Option Addr) (l : List (Int × Int)) (c : Nat) (n : Int) (w : World) (hR : Now w A l) (hl : l.length ≤ 1000000) (hc : l.length ≤ c) (hi : I64 n) :
    Calls Try.prog 33 #[.slice A l.length c, .int .i64 n] w (Ans w (runA l n)) := by
  unfold runA
  by_cases h : rightB l = true ∧ 0 ≤ n ∧ n ≤ 1000
  · rw [if_pos h]
    have := refRun_good A l c n.toNat w hR hc h.1 (by omega)
    rwa [show ((n.toNat : Nat) : Int) = n by omega] at this
  · rw [if_neg h]
    refine refRun_bad A l c n w hR hl hc hi ?_
    by_cases hr : rightB l = true
    · have h' : ¬ (0 ≤ n ∧ n ≤ 1000) := fun hh => h ⟨hr, hh⟩
      right; omega
    · left; simpa using hr

end Go.Proofs.Ytafoleafhkadiaa
