/-
  What BaseTurned is about: a small set and the one turned by half, and their steps.
-/
import Derived.Test.YtikgnjcjbjafaaaJq
namespace Go.Proofs.Ytikgnjcjbjafaaa
set_option maxRecDepth 100000
set_option linter.unusedVariables false
set_option linter.unusedSimpArgs false
open Go.RowKit Go.Sort

/-- so many of the raw ones seen, turned -/
def tuTo (rs : List (Int × Int)) (i : Nat) : List (Int × Int) := Cel.setL ((rs.take i).map fun c => halfT (smC c))
theorem tuTo_succ {rs : List (Int × Int)} {i : Nat} (h : i < rs.length) : tuTo rs (i + 1) = Cel.putL (halfT (smC (rs.getD i (0, 0)))) (tuTo rs i) := by
  unfold tuTo Cel.setL
  rw [Cel.take_snoc h, List.map_append, List.foldl_append]
  rfl
theorem tuTo_bd {rs : List (Int × Int)} {i : Nat} : ∀ s ∈ tuTo rs i, -2 ≤ s.1 ∧ s.1 < 2 ∧ -2 ≤ s.2 ∧ s.2 < 2 := fun s hs => by
  have := (Cel.mem_setL _ _).1 hs
  obtain ⟨c, _, rfl⟩ := List.mem_map.1 this
  have := smC_bd c
  unfold halfT
  simp only
  omega
theorem tuTo_len (rs : List (Int × Int)) (i : Nat) : (tuTo rs i).length ≤ i := Nat.le_trans (Cel.length_setL _) (by rw [List.length_map, List.length_take]; omega)
theorem tuTo_right {rs : List (Int × Int)} {i : Nat} (hi : i ≤ 16) : Cel.rightB (tuTo rs i) = true :=
  (Cel.rightB_iff _).2 ⟨by have := tuTo_len rs i; omega, fun s hs => by
    have := tuTo_bd s hs
    unfold Cel.inB
    exact decide_eq_true (by omega), Cel.rises_setL _⟩
theorem tuTo_in {rs : List (Int × Int)} {i : Nat} : ∀ s ∈ tuTo rs i, insideB 1 s = true := fun s hs => by
  have := tuTo_bd s hs
  unfold insideB
  exact decide_eq_true (by simp; omega)
theorem tuTo_sm (rs : List (Int × Int)) (i : Nat) : tuTo rs i = Cel.setL ((smTo rs i).map halfT) := by
  refine Cel.rises_ext (Cel.rises_setL _) (Cel.rises_setL _) fun c => ?_
  unfold tuTo
  rw [Cel.mem_setL, Cel.mem_setL]
  simp only [List.mem_map]
  constructor
  · rintro ⟨x, hx, rfl⟩
    exact ⟨smC x, (Cel.mem_setL _ _).2 (List.mem_map.2 ⟨x, hx, rfl⟩), rfl⟩
  · rintro ⟨y, hy, rfl⟩
    obtain ⟨x, hx, rfl⟩ := List.mem_map.1 ((Cel.mem_setL _ _).1 hy)
    exact ⟨x, hx, rfl⟩
structure TuK (S T : List (Int × Int)) (s t a b : List Nd) (n k x y : Nat) (K L : Kd) : Prop where
  make : make7 new6 100 S 2 = (s, (n : Int), 0)
  make2 : make7 s 100 T 2 = (t, (k : Int), 0)
  step : step8 t 100 (n : Int) = (a, (x : Int), 0)
  step2 : step8 a 100 (k : Int) = (b, (y : Int), 0)
  ltx : x < b.length
  lty : y < b.length
  kx : (b.getD x deadN).2.1 = K
  ky : (b.getD y deadN).2.1 = L
  turned : K.1 = L.2.2.2 ∧ K.2.1 = L.2.2.1 ∧ K.2.2.1 = L.2.1 ∧ K.2.2.2 = L.1
  few1 : s.length ≤ 1000000
  few2 : t.length ≤ 1000000
  few3 : a.length ≤ 1000000
  few4 : b.length ≤ 1000000
  rs : Right6 s 100
theorem turned_known {S T : List (Int × Int)} (hS1 : Cel.rightB S = true) (hS2 : ∀ s ∈ S, insideB 1 s = true) (hS3 : S.length ≤ 16) (hT1 : Cel.rightB T = true) (hT2 : ∀ s ∈ T, insideB 1 s = true) (hT3 : T.length ≤ 16) (hT : T = Cel.setL (S.map halfT)) :
    ∃ (s t a b : List Nd) (n k x y : Nat) (K L : Kd), TuK S T s t a b n k x y K L := by
  have hr0 : Right6 new6 100 := right_new (by decide) (by decide)
  have hl0 : new6.length = 2 := rfl
  obtain ⟨s, n, t1, hmk, hg1, hsq1, ht1, _, hl1⟩ := make_ok2 (room := 100) hr0 (e := 1) (by decide) hS1 hS2 (by omega)
  have hl1' : s.length ≤ 36 := by omega
  have hr1 := hsq1.right
  obtain ⟨t, k, t2, hmk2, hg2, hsq2, ht2, _, hl2⟩ := make_ok2 (room := 100) hr1 (e := 1) (by decide) hT1 hT2 (by omega)
  have hl2' : t.length ≤ 70 := by omega
  have hr2 := hsq2.right
  have hsn := hsq1.grows hg2 hr2
  have hn2 : Is t 2 n := hsn.is
  have hk2 : Is t 2 k := hsq2.is
  obtain ⟨a, x, hpe, hpp⟩ : ∃ (a : List Nd) (x : Nat), put6 t 100 (stepK t n) = (a, (x : Int), 0) ∧ Put6 t a 100 (stepK t n) x := by
    rcases put_ok hr2 (step_fit (n := n) hr2) with h | ⟨_, hf, _⟩
    · exact h
    · omega
  have hla := hpp.more
  have hra := hpp.right
  have hka := hk2.grows hpp.grows
  have hsk := hsq2.grows hpp.grows hra
  obtain ⟨b, y, hpe2, hpp2⟩ : ∃ (b : List Nd) (y : Nat), put6 a 100 (stepK a k) = (b, (y : Int), 0) ∧ Put6 a b 100 (stepK a k) y := by
    rcases put_ok hra (step_fit (n := k) hra) with h | ⟨_, hf, _⟩
    · exact h
    · omega
  have hlb := hpp2.more
  have hx := at_some (hpp2.grows.at_ hpp.at_)
  have hy := at_some hpp2.at_
  have ht := fun j (hj : j < 4) => turned_step hsn hsk hT hj
  exact ⟨s, t, a, b, n, k, x, y, stepK t n, stepK a k, hmk, hmk2, step8_put hr2 hn2 hpe, step8_put hra hka hpe2, hx.2.1, hy.2.1, hx.2.2.1, hy.2.2.1, ⟨ht 0 (by decide), ht 1 (by decide), ht 2 (by decide), ht 3 (by decide)⟩, by omega, by omega, by omega, by omega, hr1⟩
end Go.Proofs.Ytikgnjcjbjafaaa
