/-
  What BaseTwice is about: asked again, the same nodes are told.
-/
import Derived.Test.YtikgnjcjbjafaaaJp
import Derived.Test.YtikgnjcjbjafaaaKe
namespace Go.Proofs.Ytikgnjcjbjafaaa
set_option maxRecDepth 100000
set_option linter.unusedVariables false
set_option linter.unusedSimpArgs false
open Go.RowKit Go.Sort

theorem centre8_put {l m : List Nd} {room : Int} {e n : Nat} {z : Int} (hr : Right6 l room) (hn : Is l (e + 2) n) (hp : put6 l room (sqK l n 1 1) = (m, z, 0)) : centre8 l room (n : Int) = (m, z, 0) := by
  have hl := levI_is hn
  have hz : centreZ room l (n : Int) = (m, z, 0) := by
    unfold centreZ
    rw [if_neg (by omega), Int.toNat_natCast, hp]
  unfold centre8 grown6
  rw [if_pos (right_iff.2 hr), hz, if_pos rfl]
theorem step8_put {l m : List Nd} {room : Int} {n : Nat} {z : Int} (hr : Right6 l room) (hn : Is l 2 n) (hp : put6 l room (stepK l n) = (m, z, 0)) : step8 l room (n : Int) = (m, z, 0) := by
  have hl := levI_is hn
  have hz : stepZ room l (n : Int) = (m, z, 0) := by
    unfold stepZ
    rw [if_pos (by omega), Int.toNat_natCast, hp]
  unfold step8 grown6
  rw [if_pos (right_iff.2 hr), hz, if_pos rfl]
theorem nine8_list {l a : List Nd} {room : Int} {e n : Nat} {p : Nat → Nat} (hr : Right6 l room) (hn : Is l (e + 2) n) (h : (nineTo room l n 9).1 = a ∧ (nineTo room l n 9).2.2 = 0 ∧ ∀ j, j < 9 → (nineTo room l n 9).2.1 j = ((p j : Nat) : Int)) : ∃ f : Nat → Int, nine8 l room (n : Int) = (a, f, 0) ∧ ∀ j, j < 9 → f j = ((p j : Nat) : Int) := by
  obtain ⟨h1, h2, h3⟩ := h
  have hl := levI_is hn
  have hz : nineZ room l (n : Int) = nineTo room l n 9 := by
    unfold nineZ
    rw [if_neg (by omega), Int.toNat_natCast, if_pos h2]
  refine ⟨_, ?_, h3⟩
  unfold nine8 grown9
  rw [if_pos (right_iff.2 hr), hz, if_pos h2]
  generalize nineTo room l n 9 = z at *
  obtain ⟨z1, z2, z3⟩ := z
  simp only at h1 h2
  rw [h1, h2]
/-- What is known when the laws' square, a small set's node, the nine, the middle and the step were made. -/
structure TwK (m0 : List Nd) (R : Int) (n : Nat) (S : List (Int × Int)) (m1 a cc : List Nd) (two k : Nat) (q : Int) (f f2 : Nat → Int) : Prop where
  make : make7 m0 R S 2 = (m1, (two : Int), 0)
  nine : nine8 m1 R (n : Int) = (a, f, 0)
  mid : centre8 a R (n : Int) = (a, q, 0)
  step : step8 a R (two : Int) = (cc, (k : Int), 0)
  nine2 : nine8 cc R (n : Int) = (cc, f2, 0)
  mid2 : centre8 cc R (n : Int) = (cc, q, 0)
  step2 : step8 cc R (two : Int) = (cc, (k : Int), 0)
  same : row9 f2 = row9 f
  few1 : m1.length ≤ 1000000
  few2 : a.length ≤ 1000000
  few3 : cc.length ≤ 1000000
theorem twice_known {room : Int} {raw : List Raw5} {rs : List (Int × Int)} {lev R0 R : Int} {m0 : List Nd} {n e t : Nat} (HL : SqL room raw rs lev R0 m0 n e t) (hRR : R = R0 + 200) {S : List (Int × Int)} (hS1 : Cel.rightB S = true) (hS2 : ∀ s ∈ S, insideB 1 s = true) (hS3 : S.length ≤ 16) :
    ∃ (m1 a cc : List Nd) (two k : Nat) (q : Int) (f f2 : Nat → Int), TwK m0 R n S m1 a cc two k q f f2 := by
  have hrl := HL.rlo
  have hrh := HL.rhi
  have hlen := HL.len
  have hthi := HL.thi
  have hehi := HL.ehi
  have hrt : Right6 m0 R := HL.sq.right.more (by omega) (by omega) (by omega)
  obtain ⟨e', rfl⟩ : ∃ e', e = e' + 1 := ⟨e - 1, by have := HL.elo; omega⟩
  have hnis : Is m0 (e' + 2) n := HL.sq.is
  obtain ⟨m1, two, t1, hmk, hg1, hsq1, ht1, _, hl1⟩ := make_ok2 (room := R) hrt (e := 1) (by decide) hS1 hS2 (by omega)
  have hl1' : m1.length ≤ m0.length + 34 := by omega
  have hr1 := hsq1.right
  have hn1 := hnis.grows hg1
  have htw : Is m1 2 two := hsq1.is
  obtain ⟨a, f, p, hn8, hat, hfp⟩ := nine8_at hr1 hn1 (by omega) (by omega)
  have hla := hat.len
  have hra := hat.right
  have hna := hn1.grows hat.grows
  have hta := htw.grows hat.grows
  have hmid := hat.again hr1 hn1 (by omega) (Grows.refl a) (y := 1) (x := 1) (by decide) (by decide)
  obtain ⟨cc, k, hpe, hpp⟩ : ∃ (cc : List Nd) (k : Nat), put6 a R (stepK a two) = (cc, (k : Int), 0) ∧ Put6 a cc R (stepK a two) k := by
    rcases put_ok hra (step_fit (n := two) hra) with h | ⟨_, hf, _⟩
    · exact h
    · omega
  have hlc := hpp.more
  have hrc := hpp.right
  have hnc := hna.grows hpp.grows
  have htc := hta.grows hpp.grows
  obtain ⟨f2, hn82, hfp2⟩ := nine8_list hrc hnc (nine_again hr1 hn1 (by omega) hat hpp.grows 9 (Nat.le_refl _))
  have hmid2 := hat.again hr1 hn1 (by omega) hpp.grows (y := 1) (x := 1) (by decide) (by decide)
  have hst2 : put6 cc R (stepK cc two) = (cc, (k : Int), 0) := by
    rw [stepK_grows hra hta hpp.grows]
    exact put_again (hpp.grows.fit4 (step_fit (n := two) hra)) hpp.at_
  exact ⟨m1, a, cc, two, k, _, f, f2, hmk, hn8, centre8_put hra hna hmid, step8_put hra hta hpe, hn82, centre8_put hrc hnc hmid2, step8_put hrc htc hst2, row9_congr fun j hj => by rw [hfp2 j hj, hfp j hj], by omega, by omega, by omega⟩
end Go.Proofs.Ytikgnjcjbjafaaa
