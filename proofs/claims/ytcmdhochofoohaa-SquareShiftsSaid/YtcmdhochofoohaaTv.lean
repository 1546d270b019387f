/-
  Plain mathematics of layer 7: a set that is a quarter of another square.
-/
import Derived.Test.YtcmdhochofoohaaB14
import Derived.Test.YtcmdhochofoohaaCl
namespace Go.Proofs.Ytcmdhochofoohaa
set_option maxRecDepth 100000
set_option linter.unusedVariables false
set_option linter.unusedSimpArgs false

def farX (k : Nat) : Int := 8 * (2 * ((k % 2 : Nat) : Int) - 1)
def farY (k : Nat) : Int := 8 * (2 * ((k / 2 : Nat) : Int) - 1)
theorem near_of {s : Int × Int} (h : insideB 3 s = true) : -8 ≤ s.1 ∧ s.1 < 8 ∧ -8 ≤ s.2 ∧ s.2 < 8 := of_decide_eq_true h
theorem far_agree {k : Nat} (hk : k < 4) {s : Int × Int} (hs : insideB 3 s = true) (c : Int × Int) : agreeB 5 (inwardC 4 (s.1 + farX k, s.2 + farY k)) c = true ↔ q7 4 c = k ∧ agreeB 4 (inwardC 3 s) c = true := by
  have hn := near_of hs
  have e : inwardC 4 (s.1 + farX k, s.2 + farY k) = ((inwardC 3 s).1 + 2 ^ 4 * ((k % 2 : Nat) : Int), (inwardC 3 s).2 + 2 ^ 4 * ((k / 2 : Nat) : Int)) := by
    unfold inwardC farX farY
    rw [show (2 : Int) ^ 4 = 16 from rfl, show (2 : Int) ^ 3 = 8 from rfl]
    exact Prod.ext (by simp only; omega) (by simp only; omega)
  have hq : q7 4 (inwardC 4 (s.1 + farX k, s.2 + farY k)) = k := by
    unfold q7 inwardC farX farY
    rw [show (2 : Int) ^ 4 = 16 from rfl]
    simp only
    rcases (by omega : k = 0 ∨ k = 1 ∨ k = 2 ∨ k = 3) with rfl | rfl | rfl | rfl <;> omega
  have ha : Agree 4 (inwardC 4 (s.1 + farX k, s.2 + farY k)) (inwardC 3 s) := by
    rw [e]
    exact agree_shift _ _ _ _
  rw [agree_iff, agree_iff, agree_succ, hq]
  exact ⟨fun ⟨h1, h2⟩ => ⟨h1.symm, ha.symm.trans h2⟩, fun ⟨h1, h2⟩ => ⟨h1.symm, ha.trans h2⟩⟩
theorem far_set {k : Nat} (hk : k < 4) {S : List (Int × Int)} (hS : Cel.rightB S = true) (hin : ∀ s ∈ S, insideB 3 s = true) : Cel.rightB (Cel.shL (farX k) (farY k) S) = true ∧ (∀ s ∈ Cel.shL (farX k) (farY k) S, insideB 4 s = true) ∧ (Cel.shL (farX k) (farY k) S).all Cel.inB = true := by
  have h3 := (Cel.rightB_iff _).1 hS
  have hx : -8 ≤ farX k ∧ farX k ≤ 8 ∧ -8 ≤ farY k ∧ farY k ≤ 8 := by unfold farX farY; omega
  have hi : ∀ s ∈ Cel.shL (farX k) (farY k) S, -16 ≤ s.1 ∧ s.1 < 16 ∧ -16 ≤ s.2 ∧ s.2 < 16 := fun s hs => by
    obtain ⟨t, ht, rfl⟩ := List.mem_map.1 hs
    have := near_of (hin t ht)
    simp only
    omega
  have hb : ∀ s ∈ Cel.shL (farX k) (farY k) S, Cel.inB s = true := fun s hs => by
    have := hi s hs
    unfold Cel.inB
    exact decide_eq_true (by omega)
  refine ⟨(Cel.rightB_iff _).2 ⟨by rw [Cel.length_shL]; exact h3.1, hb, ?_⟩, fun s hs => ?_, List.all_eq_true.2 hb⟩
  · unfold Cel.shL Cel.Rises
    rw [List.pairwise_map]
    refine List.Pairwise.imp ?_ h3.2.2
    intro p q hpq
    unfold Cel.lessB at *
    replace hpq := of_decide_eq_true hpq
    exact decide_eq_true (by simp only; omega)
  · have := hi s hs
    unfold insideB
    rw [show (2 : Int) ^ 4 = 16 from rfl]
    exact decide_eq_true (by omega)
theorem Sq.quarter {l : List Nd} {room : Int} {k p : Nat} {S : List (Int × Int)} (hk : k < 4) (hS : Cel.rightB S = true) (hin : ∀ s ∈ S, insideB 3 s = true) (h : Sq l room 4 p (Cel.shL (farX k) (farY k) S)) :
    Sq l room 3 (kidN l p k) S ∧ ∀ i, i < 4 → ¬ i = k → kidN l p i < l.length ∧ (l.getD (kidN l p i) deadN).2.2 = 0 := by
  have hal : ∀ i, i < 4 → ∀ c, ∃ c', q7 4 c' = i ∧ Agree 4 c' c ∧ (Go.Proofs.Ytcmdhochofoohaa.alive l 4 (kidN l p i) c = true ↔ ∃ s, s ∈ S ∧ q7 4 c' = k ∧ agreeB 4 (inwardC 3 s) c' = true) := fun i hi c => by
    obtain ⟨c', h1, h2, e⟩ := kid_alive l 4 p hi c
    refine ⟨c', h1, h2, ?_⟩
    rw [e, h.alive c', List.any_eq_true]
    constructor
    · rintro ⟨t, ht, ha⟩
      obtain ⟨u, hu, rfl⟩ := List.mem_map.1 ht
      obtain ⟨s, hs, rfl⟩ := List.mem_map.1 hu
      exact ⟨s, hs, (far_agree hk (hin s hs) c').1 ha⟩
    · rintro ⟨s, hs, ha⟩
      exact ⟨_, List.mem_map_of_mem (List.mem_map_of_mem hs), (far_agree hk (hin s hs) c').2 ha⟩
  refine ⟨⟨h.right, kid_is h.right h.is hk, by decide, hS, hin, fun c => ?_⟩, fun i hi hne => ?_⟩
  · obtain ⟨c', h1, h2, e⟩ := hal k hk c
    rw [Bool.eq_iff_iff, e, List.any_eq_true]
    constructor
    · rintro ⟨s, hs, _, ha⟩
      exact ⟨_, List.mem_map_of_mem hs, agree_iff.2 ((agree_iff.1 ha).trans h2)⟩
    · rintro ⟨t, ht, ha⟩
      obtain ⟨s, hs, rfl⟩ := List.mem_map.1 ht
      exact ⟨s, hs, h1, agree_iff.2 ((agree_iff.1 ha).trans h2.symm)⟩
  · have hi' := kid_is h.right h.is hi
    refine ⟨hi'.lt, ?_⟩
    refine (emp_node h.right 4 _ (emp_of h.right 4 _ hi' fun c => ?_)).2.2
    obtain ⟨c', h1, h2, e⟩ := hal i hi c
    rw [Bool.eq_false_iff]
    intro ht
    obtain ⟨s, _, h3, _⟩ := e.1 ht
    exact hne (h1.symm.trans h3)
end Go.Proofs.Ytcmdhochofoohaa
