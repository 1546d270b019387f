/-
  Plain maths of layer 5: what was parsed is a set whose box is not too wide; it is told, and parsed again.
-/
import Derived.Test.YtacpncmdgkljdaaDoorZo
namespace Go.Proofs.YtacpncmdgkljdaaDoor
set_option linter.unusedVariables false
set_option linter.unusedSimpArgs false
open Go.RowKit Go.Sort
open Cel (loX hiX rightB)

/-- what is known of a set that was parsed -/
structure Fine5 (l : List (Int × Int)) : Prop where
  right : rightB l = true
  small : Small l
  corner : 0 ≤ loX l l.length ∧ loX l l.length ≤ 1099511627776 ∧ 0 ≤ (l.getD 0 (0, 0)).2 ∧ (l.getD 0 (0, 0)).2 ≤ 1099511627776
theorem fine5_up {L : List (Nat × Nat)} (hr : L.Pairwise lessN) (hl : L.length ≤ 2000) (hb : ∀ c ∈ L, c.1 < 1099511627776 ∧ c.2 ≤ 1099511627776) : Fine5 (L.map upC) := by
  have hin : ∀ p ∈ L.map upC, 0 ≤ p.1 ∧ p.1 < 1099511627776 ∧ 0 ≤ p.2 ∧ p.2 ≤ 1099511627776 := by
    intro p hp
    obtain ⟨c, hc, rfl⟩ := List.mem_map.1 hp
    have := hb c hc
    unfold upC
    simp only
    omega
  have hright : rightB (L.map upC) = true := by
    rw [Cel.rightB_iff]
    refine ⟨by rw [List.length_map]; exact hl, fun p hp => ?_, up_rises hr⟩
    rw [Cel.inB_iff]
    have := hin p hp
    omega
  generalize L.map upC = l at *
  have hcor : 0 ≤ loX l l.length ∧ loX l l.length ≤ 1099511627776 ∧ 0 ≤ (l.getD 0 (0, 0)).2 ∧ (l.getD 0 (0, 0)).2 ≤ 1099511627776 := by
    by_cases h0 : l.length = 0
    · have : l = [] := List.eq_nil_of_length_eq_zero h0
      subst this
      decide
    · obtain ⟨j, hj, e⟩ := Cel.loX_hit (l := l) (by omega) (Nat.le_refl _)
      have h1 := hin _ (Cel.getD_mem hj)
      have h2 := hin _ (Cel.getD_mem (l := l) (k := 0) (by omega))
      omega
  refine ⟨hright, fun p hp => ?_, hcor⟩
  have := hin p hp
  omega
theorem parsed_fine {l : List UInt8} {out : List (Int × Int)} {p : Nat} (h : parseP l = (out, 0, p)) : p = 0 ∧ Fine5 out := by
  have hs := parse_shape l
  rw [h] at hs
  obtain ⟨h0, L, rfl, hr, hl, hb⟩ := hs.good rfl
  exact ⟨h0, fine5_up hr hl hb⟩
theorem parsed_bad {l : List UInt8} {out : List (Int × Int)} {e : Int} {p : Nat} (h : parseP l = (out, e, p)) (he : e ≠ 0) : out = [] ∧ p ≤ l.length := by
  have hs := parse_shape l
  rw [h] at hs
  exact hs.bad he
theorem parsed_len {l : List UInt8} {out : List (Int × Int)} {p : Nat} (h : parseP l = (out, 0, p)) : l.length ≤ 20000 := by
  by_cases hl : 20000 < l.length
  · unfold parseP at h
    rw [if_pos hl] at h
    simp at h
  · omega
/-- told, and parsed again, if the text is not too long -/
theorem again {l : List (Int × Int)} (h : Fine5 l) : ∃ m e p, parseP (printL l) = (m, e, p) ∧ ((printL l).length ≤ 20000 → m = cornerL l ∧ e = 0) := by
  by_cases hl : (printL l).length ≤ 20000
  · exact ⟨_, _, _, parse_home h.right h.small hl, fun _ => ⟨rfl, rfl⟩⟩
  · exact ⟨_, _, _, rfl, fun h => absurd h hl⟩
end Go.Proofs.YtacpncmdgkljdaaDoor
