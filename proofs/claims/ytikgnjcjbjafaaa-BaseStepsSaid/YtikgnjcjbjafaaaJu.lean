/-
  What BaseSteps is about: a small set, others about it, and what stands in the middle behind a generation.
-/
import Derived.Test.YtikgnjcjbjafaaaJt
import Derived.Test.YtikgnjcjbjafaaaJq
import Derived.Test.YtikgnjcjbjafaaaGg
namespace Go.Proofs.Ytikgnjcjbjafaaa
set_option maxRecDepth 100000
set_option linter.unusedVariables false
set_option linter.unusedSimpArgs false
open Go.RowKit Go.Sort

/-- a set, and so many of other cells that are outside of the square of the level 2 -/
def moTo (L M : List (Int × Int)) (i : Nat) : List (Int × Int) := Cel.setL (L ++ (M.take i).filter fun c => !insideB 1 c)
section
variable {L M : List (Int × Int)} {i : Nat}
theorem moTo_in (h : i < M.length) (hin : insideB 1 (M.getD i (0, 0)) = true) : moTo L M (i + 1) = moTo L M i := by
  unfold moTo
  rw [Cel.take_snoc h, List.filter_append, List.filter_cons, hin]
  simp
theorem moTo_out (h : i < M.length) (hin : insideB 1 (M.getD i (0, 0)) = false) : moTo L M (i + 1) = Cel.putL (M.getD i (0, 0)) (moTo L M i) := by
  unfold moTo
  rw [Cel.take_snoc h, List.filter_append, List.filter_cons, hin, ← Cel.setL_snoc, List.append_assoc]
  simp
theorem moTo_len : (moTo L M i).length ≤ L.length + i := by
  unfold moTo
  refine Nat.le_trans (Cel.length_setL _) ?_
  rw [List.length_append]
  have h1 := List.length_filter_le (fun c : Int × Int => !insideB 1 c) (M.take i)
  have h2 : (M.take i).length ≤ i := by rw [List.length_take]; omega
  omega
theorem moTo_zero : moTo L M 0 = Cel.setL L := by
  unfold moTo
  rw [List.take_zero, List.filter_nil, List.append_nil]
theorem mem_moTo (c : Int × Int) : c ∈ moTo L M i ↔ c ∈ L ∨ (c ∈ M.take i ∧ insideB 1 c = false) := by
  unfold moTo
  rw [Cel.mem_setL, List.mem_append, List.mem_filter, Bool.not_eq_true']
end
/-- the cells of a node, gathered, are its set -/
theorem ofR_about {l : List Nd} {room : Int} {e n : Nat} {S : List (Int × Int)} (h : Sq l room e n S) : Cel.ofR (about7 l e n) = (0, S) := by
  have h3 := (Cel.rightB_iff _).1 h.set
  have e1 : Cel.setL (about7 l e n) = S := Cel.rises_ext (Cel.rises_setL _) h3.2.2 fun y => (Cel.mem_setL _ y).trans (h.flat y)
  rw [Cel.ofR_in fun j hj => h3.2.1 _ ((h.flat _).1 (Cel.getD_mem hj)), e1, if_neg (by omega)]
structure StK (l0 : List Nd) (R : Int) (S : List (Int × Int)) (m b : List Nd) (n p : Nat) : Prop where
  make : make7 l0 R S 2 = (m, (n : Int), 0)
  step : step8 m R (n : Int) = (b, (p : Int), 0)
  few1 : m.length ≤ 1000000
  few2 : b.length ≤ 1000000
  sq : Sq b R 0 p (cropL (Cel.nextL S) 0 0 0)
  lev : (b.getD p deadN).1 = 1
theorem steps_known {l0 : List Nd} {R : Int} (hr : Right6 l0 R) (hl : l0.length ≤ 42) (hR : 100 ≤ R) {S : List (Int × Int)} (hS1 : Cel.rightB S = true) (hS2 : ∀ s ∈ S, insideB 1 s = true) (hS3 : S.length ≤ 16) :
    ∃ (m b : List Nd) (n p : Nat), StK l0 R S m b n p := by
  obtain ⟨m, n, t1, hmk, hg1, hsq1, ht1, _, hl1⟩ := make_ok2 (room := R) hr (e := 1) (by decide) hS1 hS2 (by omega)
  have hl1' : m.length ≤ 76 := by omega
  have hr1 := hsq1.right
  have hn2 : Is m 2 n := hsq1.is
  have hfit := step_fit (n := n) hr1
  obtain ⟨b, p, hpe, hpp⟩ : ∃ (b : List Nd) (p : Nat), put6 m R (stepK m n) = (b, (p : Int), 0) ∧ Put6 m b R (stepK m n) p := by
    rcases put_ok hr1 hfit with h | ⟨_, hf, _⟩
    · exact h
    · omega
  have hlb := hpp.more
  have hrb := hpp.right
  have hp := at_some hpp.at_
  have h0 : (ndAt m (stepK m n).1).1 = (0 : Nat) := by
    show (ndAt m ((nxK m n 1 1 : Nat) : Int)).1 = _
    rw [ndAt_nat]
    exact (cell_is hr1 (nxK_lt _ _ _ _)).lev
  have hpi : Is b 1 p := put_is hpp hfit h0
  exact ⟨m, b, n, p, hmk, step8_put hr1 hn2 hpe, by omega, by omega, hsq1.step hrb hpi hp.2.2.1, by rw [hpi.lev]; rfl⟩
structure NxK (L M T : List (Int × Int)) : Prop where
  next : Cel.nextR T = (0, Cel.nextL T)
  crop : cropL (Cel.nextL T) 0 0 0 = cropL (Cel.nextL (Cel.setL L)) 0 0 0
  few : T.length ≤ 76
  fewN : (Cel.nextL T).length ≤ 2000
  bdN : ∀ s ∈ Cel.nextL T, -1152921504606846976 ≤ s.1 ∧ s.1 ≤ 1152921504606846976 ∧ -1152921504606846976 ≤ s.2 ∧ s.2 ≤ 1152921504606846976
theorem next_known {L : List (Int × Int)} (hL : L.length ≤ 16) (hS : ∀ s ∈ Cel.setL L, insideB 1 s = true) (rs : List (Int × Int)) : NxK L (Cel.rawSet rs) (moTo L (Cel.rawSet rs) (Cel.rawSet rs).length) := by
  obtain ⟨hM1, hM2, hM3⟩ := raw_set rs
  have hmm := fun c => mem_moTo (L := L) (M := Cel.rawSet rs) (i := (Cel.rawSet rs).length) c
  rw [List.take_length] at hmm
  have hlen := moTo_len (L := L) (M := Cel.rawSet rs) (i := (Cel.rawSet rs).length)
  have hris : Cel.Rises (moTo L (Cel.rawSet rs) (Cel.rawSet rs).length) := Cel.rises_setL _
  generalize moTo L (Cel.rawSet rs) (Cel.rawSet rs).length = T at *
  have hSL : ∀ c, c ∈ L → insideB 1 c = true := fun c hc => hS c ((Cel.mem_setL _ _).2 hc)
  have hbox : Cel.InBox (-8) 7 (-8) 7 T := fun q hq => by
    rcases (hmm q).1 hq with h | ⟨h, _⟩
    · have := of_decide_eq_true (hSL q h)
      rw [show (2 : Int) ^ 1 = 2 from rfl] at this
      omega
    · have := of_decide_eq_true (hM3 3 (Nat.le_refl _) q h)
      rw [show (2 : Int) ^ 3 = 8 from rfl] at this
      omega
  have hb := Cel.next_box hbox
  have hnl : (Cel.nextL T).length ≤ 2000 := Nat.le_trans (Cel.box_len hb (Cel.rises_nextL T) 18 18 (by decide) (by decide)) (by decide)
  have hrt : Cel.rightB T = true := (Cel.rightB_iff _).2 ⟨by omega, fun q hq => (Cel.inB_iff q).2 (by have := hbox q hq; omega), hris⟩
  refine ⟨Cel.nextR_ok hrt (fun q hq => (Cel.inB_iff q).2 (by have := hb q hq; omega)) hnl, next_about (Cel.rises_setL _) hris fun c c1 c2 c3 c4 => ?_, by omega, hnl, fun s hs => by have := hb s hs; omega⟩
  have hin : insideB 1 c = true := by
    unfold insideB
    rw [show (2 : Int) ^ 1 = 2 from rfl]
    exact decide_eq_true (by omega)
  rw [hmm, Cel.mem_setL]
  constructor
  · rintro (h | ⟨_, h⟩)
    · exact h
    · rw [hin] at h; cases h
  · exact .inl
end Go.Proofs.Ytikgnjcjbjafaaa
