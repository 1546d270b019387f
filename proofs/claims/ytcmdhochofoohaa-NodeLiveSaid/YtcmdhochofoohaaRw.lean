/-
  Plain maths of the law NodeLive.
-/
import Derived.Test.YtcmdhochofoohaaRv
namespace Go.Proofs.Ytcmdhochofoohaa
set_option maxRecDepth 100000
set_option linter.unusedVariables false
set_option linter.unusedSimpArgs false

/-- what NodeLive asks -/
structure Lives (l : List Nd) (R : Int) (IN : List Int) (L : List Nd) (AT : List Int) : Prop where
  one : live6 l R IN = (L, AT, 0)
  right : Right6 L R
  less : L.length ≤ l.length
  len : AT.length = IN.length
  at_ : ∀ i, i < IN.length → ∃ r p : Nat, IN.getD i 0 = (r : Int) ∧ AT.getD i 0 = (p : Int) ∧ r < l.length ∧ p < L.length ∧ (L.getD p deadN).1 = (l.getD r deadN).1 ∧ (L.getD p deadN).2.2 = (l.getD r deadN).2.2 ∧ txN L p = txN l r
  two : live6 L R AT = (L, AT, 0)
theorem lives {l : List Nd} {R : Int} (h : Right6 l R) (IN : List Int) (hin : ∀ r ∈ IN, 0 ≤ r ∧ r < l.length) : ∃ L AT, Lives l R IN L AT := by
  have hK := kept_keep h IN
  have hr := live_right h hK
  have hK2 := kept_keep hr (IN.map fun r => (cnt (keepF l IN) r.toNat : Int))
  have htw := live_twice h hK hK2
  have hroot : ∀ r ∈ IN, keepF l IN r.toNat = true := fun r hr => by
    have := hin r hr
    exact hK.root r hr this.1
  have hb : rootsB l IN = true := by
    unfold rootsB
    rw [List.all_eq_true]
    intro r hr
    have := hin r hr
    simp
    omega
  have hp : ∀ r ∈ IN, cnt (keepF l IN) r.toNat < (liveL l IN).length := fun r hr => by
    have := hin r hr
    unfold liveL
    rw [newTo_len]
    exact cnt_lt (by omega) (hroot r hr)
  have hb2 : rootsB (liveL l IN) (liveAt l IN) = true := by
    unfold rootsB liveAt
    rw [List.all_eq_true]
    intro r hr
    obtain ⟨q, hq, rfl⟩ := List.mem_map.1 hr
    have := hp q hq
    simp
    omega
  refine ⟨liveL l IN, liveAt l IN, ?_, hr, ?_, ?_, ?_, ?_⟩
  · unfold live6
    rw [right_iff.2 h, hb]
    rfl
  · unfold liveL
    rw [newTo_len]
    exact cnt_le _ _
  · unfold liveAt
    rw [List.length_map]
  · intro i hi
    have hm : IN.getD i 0 ∈ IN := by
      rw [List.getD_eq_getElem?_getD, List.getElem?_eq_getElem hi]
      exact List.getElem_mem hi
    have hb := hin _ hm
    have hk := hroot _ hm
    have hl := hp _ hm
    have hg := newTo_get (l := l) hk l.length (by omega)
    have hbd := right_bd h (IN.getD i 0).toNat (by omega)
    refine ⟨(IN.getD i 0).toNat, cnt (keepF l IN) (IN.getD i 0).toNat, by omega, ?_, by omega, hl, ?_, ?_, ?_⟩
    · unfold liveAt
      rw [List.getD_eq_getElem?_getD, List.getElem?_map, List.getElem?_eq_getElem hi]
      rw [List.getD_eq_getElem?_getD, List.getElem?_eq_getElem hi]
      rfl
    · unfold liveL
      rw [hg]
      rfl
    · unfold liveL
      rw [hg]
      rfl
    · have e1 : ((liveL l IN).getD (cnt (keepF l IN) (IN.getD i 0).toNat) deadN).1 = (l.getD (IN.getD i 0).toNat deadN).1 := by
        unfold liveL
        rw [hg]
        rfl
      unfold txN
      rw [e1]
      by_cases h4 : 4 < (l.getD (IN.getD i 0).toNat deadN).1
      · rw [if_pos h4, if_pos h4]
      · rw [if_neg h4, if_neg h4]
        exact congrArg txB (live_bits h hK _ _ (by omega) hk (by omega))
  · unfold live6
    rw [show right6 (liveL l IN) R = true from right_iff.2 hr, hb2]
    show (liveL (liveL l IN) (liveAt l IN), liveAt (liveL l IN) (liveAt l IN), (0 : Int)) = _
    have e1 : liveL (liveL l IN) (liveAt l IN) = liveL l IN := htw.1
    have e2 : liveAt (liveL l IN) (liveAt l IN) = liveAt l IN := by
      refine (List.map_congr_left (g := fun r => r) fun r hr => ?_).trans (List.map_id _)
      obtain ⟨q, hq, rfl⟩ := List.mem_map.1 hr
      have := htw.2 _ (hp q hq)
      simp only [Int.toNat_natCast]
      exact congrArg (fun n : Nat => (n : Int)) this
    rw [e1, e2]
end Go.Proofs.Ytcmdhochofoohaa
