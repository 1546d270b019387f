/-
  CellsTells, for every input: sets, and what is made of them, are as the document says
  Conditions: none.
-/
import Derived.Test.YtafoleafhkadiaaMk
import Derived.Lib.SmallJoins
namespace Go.Proofs.Ytafoleafhkadiaa.cellsTells
open Go.ChangeShapes Go.WideShapes Go.ChangeAt Go.RowKit
set_option linter.unusedVariables false

set_option maxRecDepth 100000 in
theorem lifted (os : Os) (started : os.Started) (H : Type) (enc : TypeId × Value → H) :
    ReturnsInHanded {} Try.checked os 3 .any (Rows.cellsTellsSpec.pre6 enc Try.prog Try.f3 Rows.cellsTellsRow.domain false) (Rows.cellsTellsSpec.post enc Try.prog Try.f3 false true false false) := by
  refine returnsInHanded_of_change (C := Try.checked) own started (by kernel_rfl) Try.func3
    (ChangeSpec.witness6 (enc := enc) (C := Try.checked) false ⟨#[], #[.slice none 0 0, .slice none 0 0, .agg #[.int .i64 0, .int .i64 0], .int .i64 0, .int .i64 0], []⟩ 8 (by kernel_rfl) (by kernel_rfl) (by kernel_rfl) (by kernel_rfl)) ?_
  intro W base args ds gs before hval0 hW hcnd _
  have hval : ∀ (j : Nat) t v, Try.f3.params[j]? = some t → args[j]? = some v → Value.okWide Try.prog W .any base t v := hval0
  have hW' := hW
  obtain ⟨p, q, hA0, hV, rfl, hfz, hnd⟩ := hW
  have hA : DataW.TrodAll enc Try.prog W 0 (fun _ => true) true Try.f3.params.toList args.toList ds p := hA0
  rw [Try.params3] at hA hval
  obtain ⟨v0, vs0, d0, ds0, p0, q0, hargs, rfl, rfl, h0, r0⟩ := trodAll_cons hA
  obtain ⟨v1, vs1, d1, ds1, p1, q1, rfl, rfl, rfl, h1, r1⟩ := trodAll_cons r0
  obtain ⟨v2, vs2, d2, ds2, p2, q2, rfl, rfl, rfl, h2, r2⟩ := trodAll_cons r1
  obtain ⟨v3, vs3, d3, ds3, p3, q3, rfl, rfl, rfl, h3, r3⟩ := trodAll_cons r2
  obtain ⟨v4, vs4, d4, ds4, p4, q4, rfl, rfl, rfl, h4, r4⟩ := trodAll_cons r3
  obtain ⟨rfl, rfl, rfl⟩ := trodAll_nil r4
  obtain rfl : args = #[v0, v1, v2, v3, v4] := by cases args; simp_all
  obtain ⟨rfl, rfl⟩ := trodVars_none hV
  obtain ⟨va2, vb2, ya2, yb2, m2, rfl, rfl, rfl, ta2, tb2⟩ := Go.Joins.open_agg2 Try.underlying25 (by kernel_rfl) (by kernel_rfl) (hval 2 25 v2 rfl rfl) h2
  obtain ⟨na2, ea2, ga2, fa2⟩ := DataW.trod_int Try.underlying3 ta2
  obtain rfl : va2 = .int .i64 na2 := by simpa using ea2
  subst ga2
  obtain ⟨nb2, eb2, gb2, fb2⟩ := DataW.trod_int Try.underlying3 tb2
  obtain rfl : vb2 = .int .i64 nb2 := by simpa using eb2
  subst gb2
  obtain ⟨n3, rfl, rfl, rfl, f3⟩ := open_int Try.underlying3 (hval 3 3 v3 rfl rfl) h3
  obtain ⟨n4, rfl, rfl, rfl, f4⟩ := open_int Try.underlying3 (hval 4 3 v4 rfl rfl) h4
  obtain ⟨a0, len0, cap0, rfl⟩ := okWide_slice Try.underlying22 (hval 0 22 v0 rfl rfl)
  have k0 := h0
  have lt0 : ∀ x ∈ p0, x.block < W.heap.size := by obtain ⟨m, hm⟩ := k0; exact DataW.trod_lt m _ _ _ hm
  obtain ⟨fuel0, hf0⟩ := h0
  obtain ⟨raw0, rfl, hc0, hm0, hR0, hw0⟩ := open_pairs Try.underlying22 twoArr hf0
  obtain ⟨a1, len1, cap1, rfl⟩ := okWide_slice Try.underlying23 (hval 1 23 v1 rfl rfl)
  have k1 := h1
  have lt1 : ∀ x ∈ p1, x.block < W.heap.size := by obtain ⟨m, hm⟩ := k1; exact DataW.trod_lt m _ _ _ hm
  obtain ⟨fuel1, hf1⟩ := h1
  obtain ⟨raw1, rfl, hc1, hm1, hR1, hw1⟩ := open_pairs Try.underlying23 twoCell1 hf1
  clear hA0 hval0
  have hl0 : raw0.length ≤ 9223372036854775807 := Nat.le_trans hc0 (by simpa [maxLen] using hm0)
  have hl1 : raw1.length ≤ 9223372036854775807 := Nat.le_trans hc1 (by simpa [maxLen] using hm1)
  refine (cellsTells_walk a0 raw0 cap0 a1 raw1 cap1 na2 nb2 n3 n4 W hR0 hl0 hc0 hw0 hR1 hl1 hc1 (i64_of_wf fa2) (i64_of_wf fb2) (i64_of_wf f3) (i64_of_wf f4)).mono fun e W' ⟨he, bel⟩ => ?_
  subst he
  exact ⟨_, rfl, _, _, _, [], _, [], hW', trodAll_mk1 (shut_bool Try.underlying4 _), (trodAll_cons_mk (Below.trod laidOut (by kernel_rfl) (of_decide_eq_true (by kernel_rfl)) k0 bel lt0) (trodAll_cons_mk (Below.trod laidOut (by kernel_rfl) (of_decide_eq_true (by kernel_rfl)) k1 bel lt1) (trodAll_cons_mk (Go.Joins.shut_agg2 Try.underlying25 (by kernel_rfl) (by kernel_rfl) (shut_int Try.underlying3 fa2) (shut_int Try.underlying3 fb2)) (trodAll_cons_mk (shut_int Try.underlying3 f3) (trodAll_mk1 (shut_int Try.underlying3 f4)))))), rfl, bel.frame _, fun h => by cases h⟩

theorem over : Rows.cellsTellsRow.holds Try.pinned (OpenSpec.ofChange Rows.cellsTellsSpec) :=
  OpenClaim.holds_of_wide 3 Try.f3 rfl rfl rfl rfl rfl rfl rfl ⟨rfl, rfl, rfl, rfl, rfl⟩ rfl rfl rfl rfl rfl (by kernel_rfl) Try.func3 (by kernel_rfl)
    (of_decide_eq_true (by kernel_rfl)) (by unfold Func.isWrapper; first | (rw [if_pos (by decide +kernel)]; kernel_rfl) | (rw [if_neg (by decide +kernel)]; exact ⟨rfl, rfl⟩))
    (fun os started H enc _ => lifted os started H enc)

theorem proved : Rows.CellsTellsSaid := over
end Go.Proofs.Ytafoleafhkadiaa.cellsTells
