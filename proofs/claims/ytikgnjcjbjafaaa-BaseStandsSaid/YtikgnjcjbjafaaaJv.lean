/-
  What BaseStands is about: the middle of a node that stands for a set, and the nine.
-/
import Derived.Test.YtikgnjcjbjafaaaJu
import Derived.Test.YtikgnjcjbjafaaaKe
namespace Go.Proofs.Ytikgnjcjbjafaaa
set_option maxRecDepth 100000
set_option linter.unusedVariables false
set_option linter.unusedSimpArgs false
open Go.RowKit Go.Sort

structure BsK (m0 : List Nd) (R : Int) (n e : Nat) (S : List (Int × Int)) (a b : List Nd) (m : Nat) (f : Nat → Int) (p : Nat → Nat) : Prop where
  cen : centre8 m0 R (n : Int) = (a, (m : Int), 0)
  nin : nine8 a R (n : Int) = (b, f, 0)
  fp : ∀ j, j < 9 → f j = ((p j : Nat) : Int)
  mid : f 4 = (m : Int)
  sq0 : Sq m0 R (e + 1) n S
  part : ∀ j, j < 9 → Sq b R e (p j) (cropL S ((((j % 3 : Nat) : Int) - 1) * 2 ^ e) ((((j / 3 : Nat) : Int) - 1) * 2 ^ e) e)
  levn : (m0.getD n deadN).1 = (e : Int) + 2
  levm : (a.getD m deadN).1 = (e : Int) + 1
  levp : ∀ j, j < 9 → (b.getD (p j) deadN).1 = (e : Int) + 1
  ltm : m < a.length
  ltp : ∀ j, j < 9 → p j < b.length
  few0 : m0.length ≤ 1000000
  few1 : a.length ≤ 1000000
  few2 : b.length ≤ 1000000
  lo : 2 ≤ e
  hi : e ≤ 5
  flat : (about7 m0 (e + 1) n).length ≤ 60
theorem stands_known {room : Int} {raw : List Raw5} {rs : List (Int × Int)} {lev R0 R : Int} {m0 : List Nd} {n e t : Nat} (HL : SqL room raw rs lev R0 m0 n e t) (hRR : R = R0 + 100) :
    ∃ (a b : List Nd) (m e' : Nat) (f : Nat → Int) (p : Nat → Nat), BsK m0 R n e' (Cel.rawSet rs) a b m f p := by
  have hrl := HL.rlo
  have hrh := HL.rhi
  have hlen := HL.len
  have hthi := HL.thi
  have hehi := HL.ehi
  have helo := HL.elo
  have hrt : Right6 m0 R := HL.sq.right.more (by omega) (by omega) (by omega)
  obtain ⟨e', rfl⟩ : ∃ e', e = e' + 1 := ⟨e - 1, by omega⟩
  have hnis : Is m0 (e' + 2) n := HL.sq.is
  have hsq0 : Sq m0 R (e' + 1) n (Cel.rawSet rs) := ⟨hrt, HL.sq.is, HL.sq.low, HL.sq.set, HL.sq.ins, HL.sq.alive⟩
  have hfit := sq_fit hrt hnis (by omega) (y := 1) (x := 1) (by decide) (by decide)
  obtain ⟨a, m, hpe, hpp⟩ : ∃ (a : List Nd) (m : Nat), put6 m0 R (sqK m0 n 1 1) = (a, (m : Int), 0) ∧ Put6 m0 a R (sqK m0 n 1 1) m := by
    rcases put_ok hrt hfit with h | ⟨_, hf, _⟩
    · exact h
    · omega
  have hla := hpp.more
  have hra := hpp.right
  have hna := hnis.grows hpp.grows
  have hsa := hsq0.grows hpp.grows hra
  obtain ⟨b, f, p, hn8, hat, hfp⟩ := nine8_at hra hna (by omega) (by omega)
  have hlb := hat.len
  have hmi : Is a (e' + 1) m := put_is hpp hfit (sq_lev hrt hnis (Grows.refl m0) (by decide) (by decide))
  have hp4 : p 4 = m := by
    have h1 := hat.kids 4 (by decide)
    rw [show (4 : Nat) / 3 = 1 from rfl, show (4 : Nat) % 3 = 1 from rfl, sqK_grows hrt hnis hpp.grows (by decide) (by decide), hat.grows.at_ hpp.at_] at h1
    exact (Option.some.inj h1).symm
  have hf := HL.few
  have hfl := hsq0.len
  have h60 := HL.set60
  refine ⟨a, b, m, e', f, p, centre8_put hrt hnis hpe, hn8, hfp, by rw [hfp 4 (by decide), hp4], hsq0, fun j hj => ?_, by rw [hnis.lev]; omega, by rw [hmi.lev]; omega, fun j hj => by rw [(hat.is j hj).lev]; omega, hmi.lt, fun j hj => (hat.is j hj).lt, by omega, by omega, by omega, by omega, by omega, by omega⟩
  exact hsa.part hat.grows hat.right (hat.is j hj) (y := j / 3) (x := j % 3) (by omega) (by omega) (hat.kid hj)
/-- the cells of a node, cropped, are its set's -/
theorem crop_about {l : List Nd} {room : Int} {e n : Nat} {S : List (Int × Int)} (h : Sq l room e n S) (dx dy : Int) (k : Nat) : Cel.setL (cropL (about7 l e n) dx dy k) = cropL S dx dy k :=
  Cel.rises_ext (Cel.rises_setL _) (rises_crop ((Cel.rightB_iff _).1 h.set).2.2 _ _ _) fun y => by rw [Cel.mem_setL, mem_crop, mem_crop, h.flat]
theorem about_bd {l : List Nd} {room : Int} {e n : Nat} {S : List (Int × Int)} (h : Sq l room e n S) : ∀ s ∈ about7 l e n, -1152921504606846976 ≤ s.1 ∧ s.1 ≤ 1152921504606846976 ∧ -1152921504606846976 ≤ s.2 ∧ s.2 ≤ 1152921504606846976 := fun s hs => by
  have := (Cel.inB_iff s).1 (((Cel.rightB_iff _).1 h.set).2.1 s ((h.flat s).1 hs))
  omega
end Go.Proofs.Ytikgnjcjbjafaaa
