/-
  SquareTells, for every input: nodes are made of sets, and sets told of nodes, as the document says (raw stores and sets, and any; any levels, places and cells, and raw ones).
  Conditions: none.
-/
import Derived.Test.YtmmaeikeafemaaaGreatOu
import Derived.Test.YtmmaeikeafemaaaGreatB26
import Derived.Test.YtmmaeikeafemaaaGreatB16
import Derived.Lib.SmallJoins
namespace Go.Proofs.YtmmaeikeafemaaaGreat.squareTells
open Go.ChangeShapes Go.WideShapes Go.ChangeAt Go.RowKit
set_option linter.unusedVariables false

set_option maxRecDepth 100000 in
theorem lifted (os : Os) (started : os.Started) (H : Type) (enc : TypeId × Value → H) :
    ReturnsInHanded {} Tryz.checked os 3 .any (Rows.squareTellsSpec.pre6 enc Tryz.prog Tryz.f3 Rows.squareTellsRow.domain false) (Rows.squareTellsSpec.post enc Tryz.prog Tryz.f3 false true false false) := by
  refine returnsInHanded_of_change (C := Tryz.checked) own started (by kernel_rfl) Tryz.func3
    (ChangeSpec.witness6 (enc := enc) (C := Tryz.checked) false ⟨#[], #[.int .i64 0, .slice none 0 0, .slice none 0 0, .int .i64 0, .agg #[.slice none 0 0, .int .i64 0], .agg #[.int .i64 0, .int .i64 0], .int .i64 0, .slice none 0 0], []⟩ 8 (by kernel_rfl) (by kernel_rfl) (by kernel_rfl) (by kernel_rfl)) ?_
  intro W base args ds gs before hval0 hW hcnd _
  have hval : ∀ (j : Nat) t v, Tryz.f3.params[j]? = some t → args[j]? = some v → Value.okWide Tryz.prog W .any base t v := hval0
  have hW' := hW
  obtain ⟨p, q, hA0, hV, rfl, hfz, hnd⟩ := hW
  have hA : DataW.TrodAll enc Tryz.prog W 0 (fun _ => true) true Tryz.f3.params.toList args.toList ds p := hA0
  rw [Tryz.params3] at hA hval
  obtain ⟨v0, vs0, d0, ds0, p0, q0, hargs, rfl, rfl, h0, r0⟩ := trodAll_cons hA
  obtain ⟨v1, vs1, d1, ds1, p1, q1, rfl, rfl, rfl, h1, r1⟩ := trodAll_cons r0
  obtain ⟨v2, vs2, d2, ds2, p2, q2, rfl, rfl, rfl, h2, r2⟩ := trodAll_cons r1
  obtain ⟨v3, vs3, d3, ds3, p3, q3, rfl, rfl, rfl, h3, r3⟩ := trodAll_cons r2
  obtain ⟨v4, vs4, d4, ds4, p4, q4, rfl, rfl, rfl, h4, r4⟩ := trodAll_cons r3
  obtain ⟨v5, vs5, d5, ds5, p5, q5, rfl, rfl, rfl, h5, r5⟩ := trodAll_cons r4
  obtain ⟨v6, vs6, d6, ds6, p6, q6, rfl, rfl, rfl, h6, r6⟩ := trodAll_cons r5
  obtain ⟨v7, vs7, d7, ds7, p7, q7, rfl, rfl, rfl, h7, r7⟩ := trodAll_cons r6
  obtain ⟨rfl, rfl, rfl⟩ := trodAll_nil r7
  obtain rfl : args = #[v0, v1, v2, v3, v4, v5, v6, v7] := by cases args; simp_all
  obtain ⟨rfl, rfl⟩ := trodVars_none hV
  obtain ⟨n0, rfl, rfl, rfl, f0⟩ := open_int Tryz.underlying3 (hval 0 3 v0 rfl rfl) h0
  obtain ⟨n3, rfl, rfl, rfl, f3⟩ := open_int Tryz.underlying3 (hval 3 3 v3 rfl rfl) h3
  obtain ⟨va5, vb5, ya5, yb5, m5, rfl, rfl, rfl, ta5, tb5⟩ := Go.Joins.open_agg2 Tryz.underlying28 (by kernel_rfl) (by kernel_rfl) (hval 5 28 v5 rfl rfl) h5
  obtain ⟨na5, ea5, ga5, fa5⟩ := DataW.trod_int Tryz.underlying3 ta5
  obtain rfl : va5 = .int .i64 na5 := by simpa using ea5
  subst ga5
  obtain ⟨nb5, eb5, gb5, fb5⟩ := DataW.trod_int Tryz.underlying3 tb5
  obtain rfl : vb5 = .int .i64 nb5 := by simpa using eb5
  subst gb5
  obtain ⟨n6, rfl, rfl, rfl, f6⟩ := open_int Tryz.underlying3 (hval 6 3 v6 rfl rfl) h6
  obtain ⟨a1, len1, cap1, rfl⟩ := okWide_slice Tryz.underlying22 (hval 1 22 v1 rfl rfl)
  have k1 := h1
  have lt1 : ∀ x ∈ p1, x.block < W.heap.size := by obtain ⟨m, hm⟩ := k1; exact DataW.trod_lt m _ _ _ hm
  obtain ⟨fuel1, hf1⟩ := h1
  obtain ⟨raw1, rfl, hc1, hm1, hR1, hw1⟩ := raws_in hf1
  obtain ⟨a2, len2, cap2, rfl⟩ := okWide_slice Tryz.underlying23 (hval 2 23 v2 rfl rfl)
  have k2 := h2
  have lt2 : ∀ x ∈ p2, x.block < W.heap.size := by obtain ⟨m, hm⟩ := k2; exact DataW.trod_lt m _ _ _ hm
  obtain ⟨fuel2, hf2⟩ := h2
  obtain ⟨raw2, rfl, hc2, hm2, hR2, hw2⟩ := Cel.open_pairs Tryz.underlying23 Cel.twoArr hf2
  have k4 := h4
  have lt4 : ∀ x ∈ p4, x.block < W.heap.size := by obtain ⟨m, hm⟩ := k4; exact DataW.trod_lt m _ _ _ hm
  obtain ⟨a4, l4, cap4, room4, rfl, hc4, hm4, hR4, hw4, hI4⟩ := store_val (hval 4 26 v4 rfl rfl) h4
  obtain ⟨a7, len7, cap7, rfl⟩ := okWide_slice Tryz.underlying29 (hval 7 29 v7 rfl rfl)
  have k7 := h7
  have lt7 : ∀ x ∈ p7, x.block < W.heap.size := by obtain ⟨m, hm⟩ := k7; exact DataW.trod_lt m _ _ _ hm
  obtain ⟨fuel7, hf7⟩ := h7
  obtain ⟨raw7, rfl, hc7, hm7, hR7, hw7⟩ := Cel.open_pairs Tryz.underlying29 (Cel.two_struct Tryz.underlying28 rfl rfl Tryz.underlying3 (by kernel_rfl) (by kernel_rfl)) hf7
  clear hA0 hval0
  have hl1 : raw1.length ≤ 9223372036854775807 := Nat.le_trans hc1 (by simpa [maxLen] using hm1)
  have hl2 : raw2.length ≤ 9223372036854775807 := Nat.le_trans hc2 (by simpa [maxLen] using hm2)
  have hl4 : l4.length ≤ 9223372036854775807 := Nat.le_trans hc4 (by simpa [maxLen] using hm4)
  have hl7 : raw7.length ≤ 9223372036854775807 := Nat.le_trans hc7 (by simpa [maxLen] using hm7)
  refine (squareTells_law n0 a1 raw1 cap1 a2 raw2 cap2 n3 a4 l4 cap4 room4 (na5, nb5) n6 a7 raw7 cap7 W (i64_wf6 f0) hR1 hl1 hw1 hR2 hl2 hc2 hw2 (i64_wf6 f3) hR4 hl4 hc4 hw4 hI4 ⟨i64_wf6 fa5, i64_wf6 fb5⟩ (i64_wf6 f6) hR7 hl7 hc7).mono fun e W' ⟨he, bel⟩ => ?_
  subst he
  exact ⟨_, rfl, _, _, _, [], _, [], hW', trodAll_mk1 (shut_bool Tryz.underlying4 _), (trodAll_cons_mk (shut_int Tryz.underlying3 f0) (trodAll_cons_mk (Below.trod laidOut (by kernel_rfl) (of_decide_eq_true (by kernel_rfl)) k1 bel lt1) (trodAll_cons_mk (Below.trod laidOut (by kernel_rfl) (of_decide_eq_true (by kernel_rfl)) k2 bel lt2) (trodAll_cons_mk (shut_int Tryz.underlying3 f3) (trodAll_cons_mk (Below.trod laidOut (by kernel_rfl) (of_decide_eq_true (by kernel_rfl)) k4 bel lt4) (trodAll_cons_mk (Go.Joins.shut_agg2 Tryz.underlying28 (by kernel_rfl) (by kernel_rfl) (shut_int Tryz.underlying3 fa5) (shut_int Tryz.underlying3 fb5)) (trodAll_cons_mk (shut_int Tryz.underlying3 f6) (trodAll_mk1 (Below.trod laidOut (by kernel_rfl) (of_decide_eq_true (by kernel_rfl)) k7 bel lt7))))))))), rfl, bel.frame _, fun h => by cases h⟩

theorem over : Rows.squareTellsRow.holds Tryz.pinned (OpenSpec.ofChange Rows.squareTellsSpec) :=
  OpenClaim.holds_of_wide 3 Tryz.f3 rfl rfl rfl rfl rfl rfl rfl ⟨rfl, rfl, rfl, rfl, rfl⟩ rfl rfl rfl rfl rfl (by kernel_rfl) Tryz.func3 (by kernel_rfl)
    (of_decide_eq_true (by kernel_rfl)) (by unfold Func.isWrapper; first | (rw [if_pos (by decide +kernel)]; kernel_rfl) | (rw [if_neg (by decide +kernel)]; exact ⟨rfl, rfl⟩))
    (fun os started H enc _ => lifted os started H enc)

theorem proved : Rows.SquareTellsSaid := over
end Go.Proofs.YtmmaeikeafemaaaGreat.squareTells
