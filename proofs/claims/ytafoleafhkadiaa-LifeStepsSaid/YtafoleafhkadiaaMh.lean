/-
  LifeSteps: a run is its generations one behind the other, and a generation reaches one cell farther: the law returns true whatever numbers come in.
  Conditions: none.
-/
import Derived.Test.YtafoleafhkadiaaGa
import Derived.Test.YtafoleafhkadiaaMg
import Derived.Test.YtafoleafhkadiaaMe
namespace Go.Proofs.Ytafoleafhkadiaa
open Go.RowKit Go.Sort

theorem getD_of {l : List (Int × Int)} {j : Nat} (hj : j < l.length) : l.getD j (0, 0) = l[j] := by rw [List.getD_eq_getElem?_getD, List.getElem?_eq_getElem hj]; rfl
theorem runA_iter2 {s : List (Int × Int)} (h : Near s) {k j : Nat} (hk : k + j ≤ 14) : runA (iterL k s) j = (0, iterL (k + j) s) := by
  have hb : InBox (-8) (-8 + ((16 : Nat) : Int) - 1) (-8) (-8 + ((16 : Nat) : Int) - 1) s := h.box.mono (by omega) (by omega) (by omega) (by omega)
  have hlen : ∀ i, i ≤ k + j → (iterL i s).length ≤ 2000 := fun i hi => iter_len hb h.2.1 (Nat.le_trans (Nat.mul_le_mul (show 16 + 2 * i ≤ 44 by omega) (show 16 + 2 * i ≤ 44 by omega)) (by decide))
  rw [iterL_add]
  refine runA_iter (right_box (iter_box h.box k) (rises_iterL h.2.1 k) (hlen k (by omega)) (by omega) (by omega) (by omega) (by omega)) (by omega) fun i _ hi => ?_
  rw [← iterL_add]
  exact ⟨box_in (iter_box h.box (k + i)) (by omega) (by omega) (by omega) (by omega), hlen _ (by omega)⟩
theorem steps_facts {s : List (Int × Int)} (h : Near s) {k j : Nat} (hk : k ≤ 7) (hj : j ≤ 7) :
    runA s k = (0, iterL k s) ∧ runA (iterL k s) j = (0, iterL (k + j) s) ∧ runA s ((k : Int) + (j : Int)) = (0, iterL (k + j) s) ∧ nextR s = (0, nextL s) ∧
    (iterL k s).length ≤ 2000 ∧ (iterL (k + j) s).length ≤ 2000 ∧ (nextL s).length ≤ 2000 ∧ rightB s = true ∧ rightB (nextL s) = true := by
  have hb : InBox (-8) (-8 + ((16 : Nat) : Int) - 1) (-8) (-8 + ((16 : Nat) : Int) - 1) s := h.box.mono (by omega) (by omega) (by omega) (by omega)
  have hlen : ∀ i, i ≤ 14 → (iterL i s).length ≤ 2000 := fun i hi => iter_len hb h.2.1 (Nat.le_trans (Nat.mul_le_mul (show 16 + 2 * i ≤ 44 by omega) (show 16 + 2 * i ≤ 44 by omega)) (by decide))
  have e0 := runA_iter2 h (k := 0) (j := k) (by omega)
  have e1 := runA_iter2 h (k := k) (j := j) (by omega)
  have e2 := runA_iter2 h (k := 0) (j := k + j) (by omega)
  rw [Nat.zero_add] at e0 e2
  push_cast at e2
  have hl1 : (nextL s).length ≤ 2000 := hlen 1 (by omega)
  have hr : rightB s = true := h.right
  exact ⟨e0, e1, e2, nextR_ok hr (box_in (next_box h.box) (by omega) (by omega) (by omega) (by omega)) hl1, hlen k (by omega), hlen _ (by omega), hl1, hr,
    right_box (next_box h.box) (rises_nextL s) hl1 (by omega) (by omega) (by omega) (by omega)⟩

theorem box_grow {s : List (Int × Int)} (hs : rightB s = true) (hm : rightB (nextL s) = true) (h0 : 0 < s.length) (h1 : 0 < (nextL s).length) :
    ∃ x y a b x' y' a' b' : Int, boxV s = .agg #[.int .i64 x, .int .i64 y, .int .i64 a, .int .i64 b] ∧ boxV (nextL s) = .agg #[.int .i64 x', .int .i64 y', .int .i64 a', .int .i64 b'] ∧
      (-1099511627776 ≤ x ∧ x ≤ 1099511627776) ∧ (-1099511627776 ≤ y ∧ y ≤ 1099511627776) ∧ (-1099511627776 ≤ x' ∧ x' ≤ 1099511627776) ∧ (-1099511627776 ≤ y' ∧ y' ≤ 1099511627776) ∧
      (-2199023255555 ≤ a ∧ a ≤ 2199023255555) ∧ (-2199023255555 ≤ b ∧ b ≤ 2199023255555) ∧ (-2199023255555 ≤ a' ∧ a' ≤ 2199023255555) ∧ (-2199023255555 ≤ b' ∧ b' ≤ 2199023255555) ∧
      x - 1 ≤ x' ∧ y - 1 ≤ y' ∧ x' + a' ≤ x + a + 1 ∧ y' + b' ≤ y + b + 1 := by
  obtain ⟨-, hsi, hsr⟩ := (rightB_iff s).1 hs
  obtain ⟨-, hmi, hmr⟩ := (rightB_iff _).1 hm
  have b1 := loX_bd hsi h0 s.length
  have b2 := hiX_bd hsi h0 s.length
  have b3 := loX_bd hmi h1 (nextL s).length
  have b4 := hiX_bd hmi h1 (nextL s).length
  have c1 := (inB_iff _).1 (hsi _ (getD_mem h0))
  have c2 := (inB_iff _).1 (hsi _ (getD_mem (show s.length - 1 < s.length by omega)))
  have c3 := (inB_iff _).1 (hmi _ (getD_mem h1))
  have c4 := (inB_iff _).1 (hmi _ (getD_mem (show (nextL s).length - 1 < (nextL s).length by omega)))
  have hbox : InBox (loX s s.length) (hiX s s.length) (s.getD 0 (0, 0)).2 (s.getD (s.length - 1) (0, 0)).2 s := by
    intro p hp
    obtain ⟨j, hj, e⟩ := List.getElem_of_mem hp
    rw [← getD_of hj] at e
    subst e
    exact ⟨loX_le hj (Nat.le_refl _), hiX_ge hj (Nat.le_refl _), rises_y hsr (Nat.zero_le _) hj, rises_y hsr (by omega) (by omega)⟩
  have hn := next_box hbox
  obtain ⟨i, hi, ei⟩ := loX_hit h1 (Nat.le_refl (nextL s).length)
  obtain ⟨j, hj, ej⟩ := hiX_hit h1 (Nat.le_refl (nextL s).length)
  have n1 := hn _ (getD_mem hi)
  have n2 := hn _ (getD_mem hj)
  have n3 := hn _ (getD_mem h1)
  have n4 := hn _ (getD_mem (show (nextL s).length - 1 < (nextL s).length by omega))
  exact ⟨_, _, _, _, _, _, _, _, rfl, rfl, b1, by omega, b3, by omega, by omega, by omega, by omega, by omega, by omega, by omega, by omega, by omega⟩

end Go.Proofs.Ytafoleafhkadiaa
