/-
  The laws' own first calls of layer 2, whose answers are fixed; contracts in the form in which the laws want them.
-/
import Derived.Test.YtafoleafhkadiaaEd
namespace Go.Proofs.Ytafoleafhkadiaa
open Go.RowKit Go.Sort

/-- a list and an error's number come out: the list at some place, now -/
def Gives (w : World) (n : Int) (l : List (Int × Int)) (e : Ending) (w' : World) : Prop :=
  ∃ A c, e = .returned (.tuple #[.slice A l.length c, .int .i64 n]) ∧ l.length ≤ c ∧ Hid (Now w' A l) ∧ Below w.heap.size w w'
theorem Ans.gives {w w' : World} {r : Int × List (Int × Int)} {e : Ending} (h : Ans w r e w') : Gives w r.1 r.2 e w' := by
  obtain ⟨v, rfl, ⟨A, c, rfl, hc, hR⟩, hb⟩ := h
  exact ⟨A, c, rfl, hc, hR, hb⟩

theorem next_ok {A : Option Addr} {l m : List (Int × Int)} {n c : Nat} {k : Int} {w : World} (hr : nextR l = (k, m)) (hR : Now w A l) (hn : n = l.length) (hc : n ≤ c) (hl : n ≤ 1000000) :
    Calls Try.prog 30 #[.slice A n c] w (Gives w k m) := by
  subst hn
  refine (next_ans A l c w hR hl hc).mono fun e w' h => ?_
  rw [hr] at h
  exact h.gives
theorem run_ok {A : Option Addr} {l m : List (Int × Int)} {n c : Nat} {k t : Int} {w : World} (hr : runA l t = (k, m)) (hR : Now w A l) (hn : n = l.length) (hc : n ≤ c) (hl : n ≤ 1000000) (ht : I64 t) :
    Calls Try.prog 32 #[.slice A n c, .int .i64 t] w (Gives w k m) := by
  subst hn
  refine (run_ans A l c t w hR hl hc ht).mono fun e w' h => ?_
  rw [hr] at h
  exact h.gives
theorem now_nil (w : World) (A : Option Addr) : Now w A [] := Rd.nil _ _ _
/-- cells laid in a new block -/
theorem now_lit {w : World} {T g : Nat} {cs : Array Value} (l : List (Int × Int)) (hcs : cs = (fl l).toArray) (hg : g = w.heap.size) : Now (w.alloc (.cells cs T)) (some ⟨g, 0, none⟩) l := fun j hj => by
  subst hcs hg
  obtain ⟨h0, h1⟩ := fl_get l j hj
  refine ⟨w.heap.size, 0, rfl, by simp, ?_, ?_⟩
  · rw [Nat.zero_add, ← h0, (Whole.new w T _).cell]; simp
  · rw [Nat.zero_add, ← h1, (Whole.new w T _).cell]; simp
/-- an element, where it lies -/
theorem Now.el {w : World} {A : Option Addr} {l : List (Int × Int)} (h : Now w A l) {j : Nat} (hj : j < l.length) :
    ∃ b off, A = some ⟨b, off, none⟩ ∧ w.cell? ⟨b, off + j * 2, none⟩ = some (.int .i64 (l.getD j (0, 0)).1) ∧ w.cell? ⟨b, off + j * 2 + 1, none⟩ = some (.int .i64 (l.getD j (0, 0)).2) := by
  obtain ⟨b, off, e, _, h0, h1⟩ := h j hj
  exact ⟨b, off, e, h0, h1⟩

def bl3 : List (Int × Int) := [(0, 0), (1, 0), (2, 0)]
def bl3v : List (Int × Int) := [(1, -1), (1, 0), (1, 1)]
theorem aw2_next : nextR bl3 = (0, bl3v) := by decide +kernel
theorem aw2_run : runA bl3 4 = (0, bl3) := by decide +kernel
theorem aw2_bad : nextR [(0, 0), (0, 0)] = (1, []) := by decide +kernel
theorem aw2_far : runA [] 1001 = (1, []) := by decide +kernel

theorem lives_ok {a : Bool} {n : Int} {r : Bool} (h : livesB a n = r) (w : World) : Calls Try.prog 34 #[.bool a, .int .i64 n] w fun e w' => e = .returned (.bool r) ∧ w = w' := by
  subst h; exact lives_any a n w

set_option maxHeartbeats 2000000 in
set_option maxRecDepth 100000 in
theorem awake2_any (w : World) : Calls Try.prog 28 #[] w fun e w' => e = .returned (.bool true) ∧ Below w.heap.size w w' := by
  go_enter Try.func28, Try.ntmps28
  go_wp2_with fail
  refine (next_ok aw2_next (now_lit bl3 rfl rfl) rfl (by decide) (by decide)).mono ?_
  rintro e w1 ⟨A1, c1, rfl, hc1, HN1, hb1⟩
  have HB1 := Lib.hid (Qt.more ((Below.refl _ w).alloc (Nat.le_refl _) _) (by simp) hb1)
  clear hb1
  go_wp2_with fail
  refine (run_ok aw2_run (now_lit bl3 rfl rfl) rfl (by decide) (by decide) ⟨by decide, by decide⟩).mono ?_
  rintro e w2 ⟨A2, c2, rfl, hc2, HN2, hb2⟩
  have hb2' := Qt.more ((Below.refl _ w1).alloc (Nat.le_refl _) _) (by simp) hb2
  have HB2 := Lib.hid (Qt.more HB1.out HB1.out.size hb2')
  have HN12 := Lib.hid (HN1.out.below hb2')
  clear hb2 hb2' HN1 HB1
  go_wp2_with fail
  refine (next_ok aw2_bad (now_lit [(0, 0), (0, 0)] rfl rfl) rfl (by decide) (by decide)).mono ?_
  rintro e w3 ⟨A3, c3, rfl, hc3, HN3, hb3⟩
  have hb3' := Qt.more ((Below.refl _ w2).alloc (Nat.le_refl _) _) (by simp) hb3
  have HB3 := Lib.hid (Qt.more HB2.out HB2.out.size hb3')
  have HN13 := Lib.hid (HN12.out.below hb3')
  have HN23 := Lib.hid (HN2.out.below hb3')
  clear hb3 hb3' HN12 HN2 HB2
  go_wp2_with fail
  refine (run_ok aw2_far (now_nil _ _) rfl (by decide) (by decide) ⟨by decide, by decide⟩).mono ?_
  rintro e w4 ⟨A4, c4, rfl, hc4, HN4, hb4⟩
  have HB4 := Lib.hid (Qt.more HB3.out HB3.out.size hb4)
  have HN14 := Lib.hid (HN13.out.below hb4)
  have HN24 := Lib.hid (HN23.out.below hb4)
  obtain ⟨b1, o1, rfl, p0, p1⟩ := HN14.out.el (j := 0) (by decide)
  obtain ⟨b2, o2, rfl, q0, q1⟩ := HN24.out.el (j := 2) (by decide)
  simp [bl3, bl3v] at p0 p1 q0 q1
  have l1 : livesB true 2 = true := by decide
  have l2 : livesB false 2 = false := by decide
  have l3 : livesB false 3 = true := by decide
  have l4 : livesB true 4 = false := by decide
  have z1 : bl3v.length = 3 := rfl
  have z2 : bl3.length = 3 := rfl
  rw [z1, z2]
  clear hb4 HN13 HN23 HB3 HN3 HN4 z1 z2 hc1 hc2 hc3 hc4
  go_wp2_with (go_at_call 34; refine (lives_any _ _ _).mono ?_; rintro e w5 ⟨rfl, rfl⟩)
  go_ret
  exact ⟨rfl, HB4.out⟩

end Go.Proofs.Ytafoleafhkadiaa
