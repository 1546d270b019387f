/-
  What the laws of layer 1 say of sets that raw numbers make, and of their box.
-/
import Derived.Test.YtafoleafhkadiaaCo
import Derived.Test.YtafoleafhkadiaaCq
namespace Go.Proofs.Ytafoleafhkadiaa
open Go.RowKit Go.Sort

theorem rawSet_in (raw : List (Int × Int)) : ∀ p ∈ rawSet raw, inB p = true := by
  intro p hp
  have h := rawTo_bd ((mem_setL _ _).1 hp)
  rw [inB_iff]
  omega
theorem rawSet_len (raw : List (Int × Int)) : (rawSet raw).length ≤ 60 := Nat.le_trans (length_setL _) (length_rawTo _ _)
theorem rawSet_rises (raw : List (Int × Int)) : Rises (rawSet raw) := rises_setL _
theorem rawSet_right (raw : List (Int × Int)) : rightB (rawSet raw) = true := (rightB_iff _).2 ⟨Nat.le_trans (rawSet_len raw) (by decide), rawSet_in raw, rawSet_rises raw⟩

/-! ### what the box is about -/
theorem loX_le {l : List (Int × Int)} {k j : Nat} (hj : j < k) (hk : k ≤ l.length) : loX l k ≤ (l.getD j (0, 0)).1 := by
  induction k with
  | zero => omega
  | succ k ih =>
    rw [loX_succ (by omega)]
    by_cases h : j = k
    · subst h; omega
    · have := ih (by omega) (by omega); omega
theorem hiX_ge {l : List (Int × Int)} {k j : Nat} (hj : j < k) (hk : k ≤ l.length) : (l.getD j (0, 0)).1 ≤ hiX l k := by
  induction k with
  | zero => omega
  | succ k ih =>
    rw [hiX_succ (by omega)]
    by_cases h : j = k
    · subst h; omega
    · have := ih (by omega) (by omega); omega
theorem loX_hit {l : List (Int × Int)} (h0 : 0 < l.length) {k : Nat} (hk : k ≤ l.length) : ∃ j, j < l.length ∧ (l.getD j (0, 0)).1 = loX l k := by
  induction k with
  | zero => exact ⟨0, h0, rfl⟩
  | succ k ih =>
    obtain ⟨j, hj, e⟩ := ih (by omega)
    rw [loX_succ (by omega)]
    by_cases h : loX l k ≤ (l.getD k (0, 0)).1
    · exact ⟨j, hj, by rw [e]; omega⟩
    · exact ⟨k, by omega, by omega⟩
theorem hiX_hit {l : List (Int × Int)} (h0 : 0 < l.length) {k : Nat} (hk : k ≤ l.length) : ∃ j, j < l.length ∧ (l.getD j (0, 0)).1 = hiX l k := by
  induction k with
  | zero => exact ⟨0, h0, rfl⟩
  | succ k ih =>
    obtain ⟨j, hj, e⟩ := ih (by omega)
    rw [hiX_succ (by omega)]
    by_cases h : (l.getD k (0, 0)).1 ≤ hiX l k
    · exact ⟨j, hj, by rw [e]; omega⟩
    · exact ⟨k, by omega, by omega⟩
theorem rises_y {l : List (Int × Int)} (h : Rises l) {i j : Nat} (hij : i ≤ j) (hj : j < l.length) : (l.getD i (0, 0)).2 ≤ (l.getD j (0, 0)).2 := by
  by_cases e : i = j
  · subst e; exact Int.le_refl _
  · have := rises_get h (i := i) (j := j) (by omega) hj
    rw [lessB_iff] at this
    omega

/-- whether one of the first k cells has p -/
def anyTo (p : Int × Int → Bool) (l : List (Int × Int)) (k : Nat) : Bool := (l.take k).any p
theorem anyTo_succ {p : Int × Int → Bool} {l : List (Int × Int)} {k : Nat} (hk : k < l.length) : anyTo p l (k + 1) = (anyTo p l k || p (l.getD k (0, 0))) := by
  unfold anyTo; rw [take_snoc hk, List.any_append]; simp
theorem anyTo_yes {p : Int × Int → Bool} {l : List (Int × Int)} {j : Nat} (hj : j < l.length) (h : p (l.getD j (0, 0)) = true) : anyTo p l l.length = true := by
  unfold anyTo
  rw [List.take_length, List.any_eq_true]
  exact ⟨_, getD_mem hj, h⟩

theorem Whole.set_ {w : World} {g T : Nat} {cs : Array Value} (h : Whole w g T cs) (i : Nat) (u : Value) : Whole (w.setCell ⟨g, i, none⟩ u) g T (cs.setIfInBounds i u) := heap_setCell_same w g i cs T u h
theorem Whole.far {w : World} {g T : Nat} {cs : Array Value} (h : Whole w g T cs) {p : Addr} (hp : g ≠ p.block) (u : Value) : Whole (w.setCell p u) g T cs := (Below.heap_setCell w p u g hp).trans h
theorem Whole.set4 {w : World} {g T : Nat} {a b c d a' b' c' d' a2 b2 c2 d2 : Value} (h : Whole w g T #[a, b, c, d]) (e0 : a' = a2) (e1 : b' = b2) (e2 : c' = c2) (e3 : d' = d2) :
    Whole ((((w.setCell ⟨g, 0, none⟩ a').setCell ⟨g, 1, none⟩ b').setCell ⟨g, 2, none⟩ c').setCell ⟨g, 3, none⟩ d') g T #[a2, b2, c2, d2] := by
  subst e0 e1 e2 e3
  exact (((h.set_ 0 a').set_ 1 b').set_ 2 c').set_ 3 d'
theorem side_eq {a b : Int} {P : Prop} [Decidable P] (h : a = b ↔ P) : Value.bool (a == b) = Value.bool (false || decide P) := by
  congr 1
  rw [Bool.eq_iff_iff]
  simp [h]

end Go.Proofs.Ytafoleafhkadiaa
