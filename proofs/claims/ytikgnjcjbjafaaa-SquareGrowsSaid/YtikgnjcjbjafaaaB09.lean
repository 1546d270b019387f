/-
  Texts that the claims of this seat share, part 9.
-/
import Derived.Test.YtikgnjcjbjafaaaB08
import Derived.Test.YtikgnjcjbjafaaaB05
import Derived.Test.YtikgnjcjbjafaaaB04
import Derived.Test.YtikgnjcjbjafaaaB07
import Derived.KernelRfl
import Derived.Test.YtikgnjcjbjafaaaProg
import Derived.WalkKit
import Derived.WalkSpells
import Derived.WalkLawsBesides
import Derived.Lib.QuietBelow
import Derived.Lib.Hide
import Derived.BigQuiet
import Derived.StillTailTactics
import Derived.LoopN
import Derived.Handy
import Derived.Test.YtikgnjcjbjafaaaB00
import Derived.Deep.LoopGhost
set_option linter.unusedVariables false
set_option linter.unusedSimpArgs false
namespace Go.Proofs.Ytikgnjcjbjafaaa
set_option maxRecDepth 100000
set_option linter.unusedVariables false
set_option linter.unusedSimpArgs false
open Go.RowKit Go.Sort

theorem pow_le7 {e f : Nat} (h : e ≤ f) : (2 : Int) ^ e ≤ 2 ^ f := by
  have h1 : (2 : Nat) ^ e ≤ 2 ^ f := Nat.pow_le_pow_right (by decide) h
  have e1 : ∀ k : Nat, ((2 ^ k : Nat) : Int) = 2 ^ k := fun k => by simp
  rw [← e1, ← e1]
  omega
theorem pow_bd7 {e : Nat} (he : e ≤ 60) : (1 : Int) ≤ 2 ^ e ∧ (2 : Int) ^ e ≤ 1152921504606846976 := ⟨pow_pos7 e, pow_le7 he⟩
theorem half_any (e : Nat) (he : e ≤ 60) (w : World) : Calls Try.prog 53 #[.int .i64 ((e : Int) + 1)] w fun r w' => r = .returned (.int .i64 (2 ^ e)) ∧ w = w' := by
  obtain ⟨h1, h2⟩ := pow_bd7 he
  go_enter Try.func53, Try.ntmps53
  go_wp2
  go_ret
  exact ⟨rfl, rfl⟩
abbrev cellV (c : Int × Int) : Value := .agg #[.int .i64 c.1, .int .i64 c.2]
/-- a cell in a box -/
structure ClB (w : World) (b : Nat) (c : Int × Int) : Prop where
  row : w.heap[b]? = some (.cells #[.int .i64 c.1, .int .i64 c.2] 32 (0, 0))
section
variable {w w' : World} {b : Nat} {c : Int × Int}
theorem ClB.below (h : ClB w b c) (hb : Below w.heap.size w w') : ClB w' b c := ⟨(hb.block _ (lt_heap6 h.row)).trans h.row⟩
theorem ClB.c0 (h : ClB w b c) : w.cell? ⟨b, 0, none⟩ = some (.int .i64 c.1) := by rw [Lib.cell_of_heap h.row]; rfl
theorem ClB.c1 (h : ClB w b c) : w.cell? ⟨b, 1, none⟩ = some (.int .i64 c.2) := by rw [Lib.cell_of_heap h.row]; rfl
theorem ClB.kp (h : ClB w b c) (hk : Kp w w') : ClB w' b c := ⟨hk _ _ _ _ h.row ⟨.inl (by decide), by decide⟩⟩
theorem clB_new (c : Int × Int) : ClB (w.alloc (.cells #[.int .i64 c.1, .int .i64 c.2] 32)) w.heap.size c := ⟨heap_alloc_new w _⟩
end
/-- a cell is in a square, told from its middle -/
def insideB (e : Nat) (c : Int × Int) : Bool := decide (-(2 ^ e) ≤ c.1 ∧ c.1 < 2 ^ e ∧ -(2 ^ e) ≤ c.2 ∧ c.2 < 2 ^ e)
set_option maxHeartbeats 4000000 in
theorem within_any (e : Nat) (he : e ≤ 60) (c : Int × Int) (hx : I64 c.1) (hy : I64 c.2) (w : World) : Calls Try.prog 47 #[cellV c, .int .i64 ((e : Int) + 1)] w fun r w' => r = .returned (.bool (insideB e c)) ∧ Below w.heap.size w w' := by
  obtain ⟨h1, h2⟩ := pow_bd7 he
  obtain ⟨x, y⟩ := c
  have hal := (Below.refl w.heap.size w).alloc (Nat.le_refl _) (.cells #[.int .i64 x, .int .i64 y] 32)
  have HA := Lib.hid hal
  have HC := clB_new (w := w) (x, y)
  have hh := fun W (_ : Below (w.alloc (.cells #[.int .i64 x, .int .i64 y] 32)).heap.size (w.alloc (.cells #[.int .i64 x, .int .i64 y] 32)) W) => half_any e he W
  have k0 := Qt.cell_in HC.c0
  have k1 := Qt.cell_in HC.c1
  simp only at k0 k1 hx hy
  unfold I64 at hx hy
  have hfin : ∀ (b : Bool) (W : World), Below (w.alloc (.cells #[.int .i64 x, .int .i64 y] 32)).heap.size (w.alloc (.cells #[.int .i64 x, .int .i64 y] 32)) W → insideB e (x, y) = b → (b = insideB e (x, y)) ∧ Below w.heap.size w W := fun b W hW hb => ⟨hb.symm, Qt.more HA.out HA.out.size hW⟩
  have HF := Lib.hid hfin
  have hcase : (¬ -(2 ^ e) ≤ min x y ∧ insideB e (x, y) = false) ∨ (-(2 ^ e) ≤ min x y ∧ ¬ max x y < 2 ^ e ∧ insideB e (x, y) = false) ∨ (-(2 ^ e) ≤ min x y ∧ max x y < 2 ^ e ∧ insideB e (x, y) = true) := by
    unfold insideB
    simp only [decide_eq_false_iff_not, decide_eq_true_eq]
    generalize (2 : Int) ^ e = p at *
    omega
  clear hal HC HA hfin
  go_enter Try.func47, Try.ntmps47
  rcases hcase with ⟨a1, a2⟩ | ⟨a1, a3, a2⟩ | ⟨a1, a3, a2⟩
  · have d1 : decide (-(2 ^ e) ≤ min x y) = false := decide_eq_false a1
    have A2 := Lib.hid a2
    clear a2
    go_wp2_with fail
    refine Qt.below_all (by kernel_rfl) (by kernel_rfl) ?_
    iterate 20 (go_big_quiet_step (first | (go_at_call 53; exact Qt.at_same hh)))
    refine wpQuiet_nil ?_
    intro w2 hb2
    have HB2 := Lib.hid hb2
    clear hb2 hh k0 k1
    go_wp2_with fail
    go_ret
    rw [A2.out]
    exact ⟨rfl, (HF.out _ _ HB2.out rfl).2⟩
  · have d1 : decide (-(2 ^ e) ≤ min x y) = true := decide_eq_true a1
    have d2 : decide (max x y < 2 ^ e) = false := decide_eq_false a3
    have A2 := Lib.hid a2
    clear a2
    go_wp2_with fail
    refine Qt.below_all (by kernel_rfl) (by kernel_rfl) ?_
    iterate 20 (go_big_quiet_step (first | (go_at_call 53; exact Qt.at_same hh)))
    refine wpQuiet_nil ?_
    intro w2 hb2
    have HB2 := Lib.hid hb2
    clear hb2 hh k0 k1
    go_wp2_with fail
    go_ret
    rw [A2.out]
    exact ⟨rfl, (HF.out _ _ HB2.out rfl).2⟩
  · have d1 : decide (-(2 ^ e) ≤ min x y) = true := decide_eq_true a1
    have d2 : decide (max x y < 2 ^ e) = true := decide_eq_true a3
    have A2 := Lib.hid a2
    clear a2
    go_wp2_with fail
    refine Qt.below_all (by kernel_rfl) (by kernel_rfl) ?_
    iterate 20 (go_big_quiet_step (first | (go_at_call 53; exact Qt.at_same hh)))
    refine wpQuiet_nil ?_
    intro w2 hb2
    have HB2 := Lib.hid hb2
    clear hb2 hh k0 k1
    go_wp2_with fail
    go_ret
    rw [A2.out]
    exact ⟨rfl, (HF.out _ _ HB2.out rfl).2⟩
/-- .. told from its corner -/
def inwardC (e : Nat) (c : Int × Int) : Int × Int := (c.1 + 2 ^ e, c.2 + 2 ^ e)
set_option maxHeartbeats 4000000 in
theorem inward_any (e : Nat) (he : e ≤ 60) (c : Int × Int) (hin : insideB e c = true) (w : World) : Calls Try.prog 48 #[cellV c, .int .i64 ((e : Int) + 1)] w fun r w' => r = .returned (cellV (inwardC e c)) ∧ Below w.heap.size w w' := by
  obtain ⟨h1, h2⟩ := pow_bd7 he
  obtain ⟨x, y⟩ := c
  unfold insideB at hin
  simp only [decide_eq_true_eq] at hin
  obtain ⟨i1, i2, i3, i4⟩ := hin
  have wx : IntKind.i64.wrap (x + 2 ^ e) = x + 2 ^ e := by rw [IntKind.wrap_i64]; generalize (2 : Int) ^ e = p at *; omega
  have wy : IntKind.i64.wrap (y + 2 ^ e) = y + 2 ^ e := by rw [IntKind.wrap_i64]; generalize (2 : Int) ^ e = p at *; omega
  have hal := (Below.refl w.heap.size w).alloc (Nat.le_refl _) (.cells #[.int .i64 x, .int .i64 y] 32)
  have hal2 := (Below.refl (w.alloc (.cells #[.int .i64 x, .int .i64 y] 32)).heap.size (w.alloc (.cells #[.int .i64 x, .int .i64 y] 32))).alloc (Nat.le_refl _) (.cells #[.int .i64 0, .int .i64 0] 32)
  have hall := Qt.more hal hal.size hal2
  have HC := (clB_new (w := w) (x, y)).below hal2
  have hr := heap_alloc_new (w.alloc (.cells #[.int .i64 x, .int .i64 y] 32)) (.cells #[.int .i64 0, .int .i64 0] 32)
  have hs1 : (w.alloc (.cells #[.int .i64 x, .int .i64 y] 32)).heap.size = w.heap.size + 1 := by simp
  rw [hs1] at hr
  have HR := Lib.hid hr
  have HA := Lib.hid hall
  have k0 := Qt.cell_in HC.c0
  have k1 := Qt.cell_in HC.c1
  simp only at k0 k1
  clear hal hal2 hall HC hr hs1 i1 i2 i3 i4
  go_enter Try.func48, Try.ntmps48
  go_wp2_with fail
  generalize ((w.alloc (.cells #[.int .i64 x, .int .i64 y] 32)).alloc (.cells #[.int .i64 0, .int .i64 0] 32)) = v at *
  have hh := fun W (_ : Below v.heap.size v W) => half_any e he W
  refine Qt.below_tail 11 (by kernel_rfl) (by kernel_rfl) ?_
  simp only [List.take_succ_cons, List.take_zero]
  iterate 11 (go_big_quiet_step (first | (go_at_call 53; exact Qt.at_same hh)))
  refine wpQuiet_nil ?_
  intro w2 hb2
  have hr2 := (hb2.block _ (lt_heap6 HR.out)).trans HR.out
  have r0 : w2.cell? ⟨w.heap.size + 1, 0, none⟩ = some (.int .i64 0) := by rw [Lib.cell_of_heap hr2]; rfl
  have r1 : w2.cell? ⟨w.heap.size + 1, 1, none⟩ = some (.int .i64 0) := by rw [Lib.cell_of_heap hr2]; rfl
  have f0 : w2.frozen? ⟨w.heap.size + 1, 0, none⟩ = false := Lib.frozen_of_heap hr2 0
  have f1 : w2.frozen? ⟨w.heap.size + 1, 1, none⟩ = false := Lib.frozen_of_heap hr2 1
  have hBf := Qt.more HA.out HA.out.size hb2
  have HT : Hid (((w2.setCell ⟨w.heap.size + 1, 0, none⟩ (.int .i64 (x + 2 ^ e))).setCell ⟨w.heap.size + 1, 1, none⟩ (.int .i64 (y + 2 ^ e))).heap[w.heap.size + 1]? = some (.cells #[.int .i64 (x + 2 ^ e), .int .i64 (y + 2 ^ e)] 32 (0, 0)) ∧ Below w.heap.size w ((w2.setCell ⟨w.heap.size + 1, 0, none⟩ (.int .i64 (x + 2 ^ e))).setCell ⟨w.heap.size + 1, 1, none⟩ (.int .i64 (y + 2 ^ e)))) := by
    refine ⟨?_, (hBf.setCell (by show w.heap.size ≤ w.heap.size + 1; omega) _).setCell (by show w.heap.size ≤ w.heap.size + 1; omega) _⟩
    simp [World.setCell, Array.getElem?_modify, hr2]
  clear hb2 hh k0 k1 hBf hr2
  simp only [List.drop_succ_cons, List.drop_zero]
  go_wp2_with fail
  refine bodyPost_ret (results_cell1 rfl _ _ _ _ _ _ _ rfl HT.out.1 Try.underlying32 rfl (by kernel_rfl)) rfl ?_
  exact ⟨rfl, HT.out.2⟩
set_option maxHeartbeats 4000000 in
theorem quarter_any (e : Nat) (he : e ≤ 60) (u v : Nat) (hu : (u : Int) ≤ 9223372036854775807) (hv : (v : Int) ≤ 9223372036854775807) (w : World) : Calls Try.prog 49 #[cellV ((u : Int), (v : Int)), .int .i64 ((e : Int) + 1)] w fun r w' => r = .returned (.int .i64 (q7 e ((u : Int), (v : Int)) : Nat)) ∧ Below w.heap.size w w' := by
  rw [q7_cast]
  have h1 : bits .and .i64 ((u : Int) / 2 ^ e) 1 = (u : Int) / 2 ^ e % 2 := by rw [bit_of, and_one]; simp
  have h2 : bits .and .i64 ((v : Int) / 2 ^ e) 1 = (v : Int) / 2 ^ e % 2 := by rw [bit_of, and_one]; simp
  have b1 : 0 ≤ (u : Int) / 2 ^ e % 2 ∧ (u : Int) / 2 ^ e % 2 ≤ 1 := by omega
  have b2 : 0 ≤ (v : Int) / 2 ^ e % 2 ∧ (v : Int) / 2 ^ e % 2 ≤ 1 := by omega
  have hal := (Below.refl w.heap.size w).alloc (Nat.le_refl _) (.cells #[.int .i64 (u : Int), .int .i64 (v : Int)] 32)
  have HA := Lib.hid hal
  have HC := clB_new (w := w) ((u : Int), (v : Int))
  have k0 := Qt.cell_in HC.c0
  have k1 := Qt.cell_in HC.c1
  simp only at k0 k1 ⊢
  have HH := Lib.hid (And.intro h1 h2)
  clear HC hal
  generalize hp : (u : Int) / 2 ^ e % 2 = p at *
  generalize hq : (v : Int) / 2 ^ e % 2 = q at *
  clear hp hq
  go_enter Try.func49, Try.ntmps49
  go_wp2_with fail
  refine Qt.below_all (by kernel_rfl) (by kernel_rfl) ?_
  iterate 15 (go_big_quiet_step (fail))
  refine wpQuiet_nil ?_
  intro w2 hb2
  have HB2 := Lib.hid (Qt.more HA.out HA.out.size hb2)
  clear hb2 k0 k1
  go_wp2_with fail
  go_ret
  exact ⟨by first | rfl | (simp; omega), HB2.out⟩
end Go.Proofs.Ytikgnjcjbjafaaa
namespace Go.Proofs.Ytikgnjcjbjafaaa
set_option maxRecDepth 100000
set_option linter.unusedVariables false
set_option linter.unusedSimpArgs false
open Go.RowKit Go.Sort

theorem Ix.below {n0 : Nat} {w w' : World} {g b : Nat} {l : List Nd} {room : Int} (h : Ix n0 w g b l room) (hb : Below w.heap.size w w') : Ix n0 w' g b l room := by
  obtain ⟨v, D, h⟩ := h
  exact ⟨v, D, h.below hb⟩
theorem Ix.hB {n0 : Nat} {w : World} {g b : Nat} {l : List Nd} {room : Int} (h : Ix n0 w g b l room) : n0 ≤ w.heap.size := by
  obtain ⟨v, D, h⟩ := h
  exact h.hB
/-- a cell of a block beside the index is set -/
theorem Ix.setOff {n0 : Nat} {w : World} {g b : Nat} {l : List Nd} {room : Int} (h : Ix n0 w g b l room) (h2 : 2 ≤ l.length) {kb : Nat} {cs : Array Value} {T : TypeId} {fz : Nat × Nat} (hk : w.heap[kb]? = some (.cells cs T fz)) (ho : Off cs T) (j : Nat) (u : Value) : Ix n0 (w.setCell ⟨kb, j, none⟩ u) g b l room := by
  obtain ⟨v, D, h⟩ := h
  have h1 : g ≠ kb := by
    intro e
    have := h.row
    unfold IxRow at this
    rw [e, hk] at this
    injection this with this
    injection this with _ this _
    exact ho.2 this
  have h3 : b ≠ kb := by
    intro e
    obtain ⟨es, c, hm⟩ := map_kind h.map
    rw [e, hk] at hm
    injection hm with hm
    cases hm
  refine ⟨v, D, ⟨?_, World.ownsRow.kept h.own (but_set j u) (.inr fun e => own_off h.own h2 kb e cs T fz hk ho), h.map.setCell h3 _, h.says, h.gB, h.bB, ?_⟩⟩
  · have := h.row
    unfold IxRow at this ⊢
    rw [Below.heap_setCell _ _ _ _ (by show g ≠ kb; exact h1)]
    exact this
  · simp [World.setCell]
    exact h.hB
theorem BelK.setNew {n0 : Nat} {w wr : World} (h : BelK n0 w wr) {kb : Nat} (hk : w.heap.size ≤ kb) (hn : n0 ≤ w.heap.size) (j : Nat) (u : Value) : BelK n0 w (wr.setCell ⟨kb, j, none⟩ u) := by
  refine ⟨h.bel.setCell (by show n0 ≤ kb; omega) _, fun i cs T fz hi ho => ?_⟩
  rw [Below.heap_setCell _ _ _ _ (by have := lt_heap6 hi; show i ≠ kb; omega)]
  exact h.kp i cs T fz hi ho
/-- four kids in a box -/
def KR (w : World) (b : Nat) (k : Kd) : Prop := w.heap[b]? = some (.cells #[.int .i64 k.1, .int .i64 k.2.1, .int .i64 k.2.2.1, .int .i64 k.2.2.2] 52 (0, 0))
theorem KR.set {w : World} {b : Nat} {k : Kd} (h : KR w b k) {j : Nat} (hj : j < 4) (v : Int) : KR (w.setCell ⟨b, j, none⟩ (.int .i64 v)) b (kset k j v) := by
  unfold KR at h ⊢
  rcases (by omega : j = 0 ∨ j = 1 ∨ j = 2 ∨ j = 3) with rfl | rfl | rfl | rfl <;> simp [World.setCell, Array.getElem?_modify, h, kset]
theorem KR.kp {w w' : World} {b : Nat} {k : Kd} (h : KR w b k) (hk : Kp w w') : KR w' b k := hk _ _ _ _ h ⟨.inl (by decide), by decide⟩
theorem KR.c {w : World} {b : Nat} {k : Kd} (h : KR w b k) {j : Nat} (hj : j < 4) : w.cell? ⟨b, j, none⟩ = some (.int .i64 (kd k j)) := by
  rcases (by omega : j = 0 ∨ j = 1 ∨ j = 2 ∨ j = 3) with rfl | rfl | rfl | rfl <;> (rw [Lib.cell_of_heap h]; rfl)
/-- a maker in a box -/
def MR (w : World) (b g : Nat) : Prop := w.heap[b]? = some (.cells #[.pointer (some ⟨g, 0, none⟩)] 84 (0, 0))
theorem MR.kp {w w' : World} {b g : Nat} (h : MR w b g) (hk : Kp w w') : MR w' b g := hk _ _ _ _ h ⟨.inl (by decide), by decide⟩
theorem MR.c {w : World} {b g : Nat} (h : MR w b g) : w.cell? ⟨b, 0, none⟩ = some (.pointer (some ⟨g, 0, none⟩)) := by rw [Lib.cell_of_heap h]; rfl
abbrev makerV (g : Nat) : Value := .agg #[.pointer (some ⟨g, 0, none⟩)]
/-- What is known in the loop over quarters. -/
structure OfAt (room : Int) (Fm : Nat → List Nd → List Nd × Int × Int) (l : List Nd) (n0 : Nat) (w wr : World) (g b j : Nat) (m : List Nd) (q : Kd) : Prop where
  told : fourTo Fm l j = (m, q, 0)
  ix : Ix n0 wr g b m room
  right : Right6 m room
  bel : BelK n0 w wr
  mkr : MR wr w.heap.size g
  kids : KR wr (w.heap.size + 1) q
set_option maxHeartbeats 8000000 in
theorem of_any (F : Nat) (eg : ∀ args w, (callFunc F args).run Try.prog w = .ok (.enter F args) w) (c1 c2 c3 : Value) (Fm : Nat → List Nd → List Nd × Int × Int) (n0 g b : Nat) (l : List Nd) (room : Int) (w : World) (hix : Ix n0 w g b l room) (hr : Right6 l room)
    (hF : ∀ i l', i < 4 → Right6 l' room → Right6 (Fm i l').1 room)
    (hE : ∀ i, i < 4 → ∀ l' W, Right6 l' room → Ix n0 W g b l' room → BelK n0 w W → Calls Try.prog F #[.int .i64 (i : Nat), c1, c2, c3] W (IxK (Fm i l') n0 g b room W)) :
    Calls Try.prog 97 #[makerV g, .func (.func F) #[] #[c1, c2, c3]] w (IxK (four room Fm l) n0 g b room w) := by
  have hn0 := hix.hB
  have hal1 := (Below.refl w.heap.size w).alloc (Nat.le_refl _) (.cells #[.pointer (some ⟨g, 0, none⟩)] 84)
  have hs1 : (w.alloc (.cells #[.pointer (some ⟨g, 0, none⟩)] 84)).heap.size = w.heap.size + 1 := by simp
  have hal2 := (Below.refl _ (w.alloc (.cells #[.pointer (some ⟨g, 0, none⟩)] 84))).alloc (Nat.le_refl _) (.cells #[.int .i64 0, .int .i64 0, .int .i64 0, .int .i64 0] 52)
  have hk0 := heap_alloc_new (w.alloc (.cells #[.pointer (some ⟨g, 0, none⟩)] 84)) (.cells #[.int .i64 0, .int .i64 0, .int .i64 0, .int .i64 0] 52)
  rw [hs1] at hk0
  have hall := Qt.more hal1 hal1.size hal2
  have HO0 : Hid (OfAt room Fm l n0 w ((w.alloc (.cells #[.pointer (some ⟨g, 0, none⟩)] 84)).alloc (.cells #[.int .i64 0, .int .i64 0, .int .i64 0, .int .i64 0] 52)) g b 0 l (0, 0, 0, 0)) :=
    ⟨rfl, hix.below hall, hr, .of hall hn0, (hal2.block _ (by rw [hs1]; omega)).trans (heap_alloc_new w _), hk0⟩
  obtain ⟨z, hz⟩ : ∃ z, z = four room Fm l := ⟨_, rfl⟩
  rw [← hz]
  have HZ := Lib.hid hz
  have HF := Lib.hid hF
  have HE := Lib.hid hE
  have HN := Lib.hid hn0
  clear hix hr hal1 hal2 hk0 hall hs1 hz hF hE hn0
  go_enter Try.func97, Try.ntmps97
  go_wp2_with fail
  generalize ((w.alloc (.cells #[.pointer (some ⟨g, 0, none⟩)] 84)).alloc (.cells #[.int .i64 0, .int .i64 0, .int .i64 0, .int .i64 0] 52)) = v0 at *
  go_loopw [9] (fun i wr => ∃ (j : Nat), j ≤ 4 ∧ i = .int .i64 j ∧ Hid (∃ m q, OfAt room Fm l n0 w wr g b j m q)) (fun i _ => 4 - (intOf i).toNat)
  case atStart => exact ⟨0, by omega, rfl, ⟨_, _, HO0.out⟩⟩
  case round =>
    obtain ⟨j, hj, rfl, HH⟩ := hrel
    obtain ⟨m, q, HO⟩ := HH.out
    by_cases hlt : j < 4
    · have hltz : (j : Int) < 4 := by omega
      have hcall := HE.out j hlt m wr HO.right HO.ix HO.bel
      have hFr := HF.out j m hlt HO.right
      have hnext : fourTo Fm l (j + 1) = ((Fm j m).1, kset q j (Fm j m).2.1, (Fm j m).2.2) := by
        show (if (fourTo Fm l j).2.2 = 0 then _ else _) = _
        rw [HO.told]
        rfl
      obtain ⟨⟨m2, p, ee⟩, hp⟩ : ∃ p, p = Fm j m := ⟨_, rfl⟩
      rw [← hp] at hcall hFr hnext
      dsimp only at hFr hnext
      have HNX := Lib.hid hnext
      have HFR := Lib.hid hFr
      have HOh := Lib.hid HO
      have heg := eg
      clear HO HH hp hnext hFr
      go_wp2_with fail
      refine hcall.mono ?_
      rintro e w1 ⟨rfl, hi1, hb1⟩
      dsimp only at hi1
      have hk1 := HOh.out.kids.kp hb1.kp
      have hm1 := HOh.out.mkr.kp hb1.kp
      have hB1 := HOh.out.bel.trans hb1
      have f0 : w1.frozen? ⟨w.heap.size + 1, j, none⟩ = false := Lib.frozen_of_heap hk1 j
      have c0 := hk1.c hlt
      have h2 := HFR.out.two
      have hks := hk1.set hlt p
      have HO1 : Hid (OfAt room Fm l n0 w (w1.setCell ⟨w.heap.size + 1, j, none⟩ (.int .i64 p)) g b (j + 1) m2 (kset q j p) ∨ ¬ ee = 0) := by
        by_cases he : ee = 0
        · refine .inl ⟨by rw [HNX.out, he], hi1.setOff h2 hk1 ⟨.inl (by decide), by decide⟩ j _, HFR.out, hB1.setNew (by omega) HN.out j _, ?_, hks⟩
          unfold MR at hm1 ⊢
          rw [Below.heap_setCell _ _ _ _ (by show w.heap.size ≠ w.heap.size + 1; omega)]
          exact hm1
        · exact .inr he
      have HIX := Lib.hid (hi1.setOff h2 hk1 ⟨.inl (by decide), by decide⟩ j (.int .i64 p))
      have HBX := Lib.hid (hB1.setNew (kb := w.heap.size + 1) (by omega) HN.out j (.int .i64 p))
      clear hcall hi1 hb1 hk1 hm1 hB1 hks h2
      by_cases he : ee = 0
      · subst he
        have hO2 := HO1.out.resolve_right (fun h => h rfl)
        have HO2 := Lib.hid hO2
        clear hO2
        go_wp2_with fail
        go_roundw
        case measure => simp [intOf]; omega
        case rel => exact ⟨j + 1, by omega, by go_num, ⟨_, _, HO2.out⟩⟩
      · have hzz : z = (m2, 0, ee) := by
          rw [HZ.out]
          unfold four
          have hs := fourTo_stop (F := Fm) (l := l) (i := j + 1) (by rw [HNX.out]; exact he) (4 - (j + 1))
          rw [show j + 1 + (4 - (j + 1)) = 4 by omega] at hs
          rw [hs, HNX.out, if_neg he]
        subst hzz
        go_wp2_with fail
        go_ret2
        exact ⟨rfl, HIX.out, HBX.out⟩
    · obtain rfl : j = 4 := by omega
      have hltz : ¬ ((4 : Nat) : Int) < 4 := by decide
      have hzz : z = put6 m room q := by
        rw [HZ.out]
        unfold four
        rw [HO.told]
        rfl
      have hcall := intern_anyK n0 g b m room q wr HO.ix HO.right
      rw [← hzz] at hcall
      unfold kidsV at hcall
      have m0 := HO.mkr.c
      have k0 := HO.kids.c (j := 0) (by decide)
      have k1 := HO.kids.c (j := 1) (by decide)
      have k2 := HO.kids.c (j := 2) (by decide)
      have k3 := HO.kids.c (j := 3) (by decide)
      have HBX := Lib.hid HO.bel
      simp only [kd] at k0 k1 k2 k3
      clear HO HH hzz
      go_wp2_with fail
      refine hcall.mono ?_
      rintro e w1 ⟨rfl, hi1, hb1⟩
      have HI := Lib.hid hi1
      have HB := Lib.hid (HBX.out.trans hb1)
      clear hcall hi1 hb1 m0 k0 k1 k2 k3
      go_wp2_with fail
      go_ret2
      exact ⟨rfl, HI.out, HB.out⟩
end Go.Proofs.Ytikgnjcjbjafaaa
namespace Go.Proofs.Ytikgnjcjbjafaaa.Cel

def cmpI (a b : Int) : Int := if a < b then -1 else if b < a then 1 else 0
def orI (a b : Int) : Int := if a = 0 then b else a
/-- how two places stand: by Y first -/
def cmpP (p q : Int × Int) : Int := orI (cmpI p.2 q.2) (cmpI p.1 q.1)
def inB (p : Int × Int) : Bool := decide (-1099511627776 ≤ p.1 ∧ p.1 ≤ 1099511627776 ∧ -1099511627776 ≤ p.2 ∧ p.2 ≤ 1099511627776)
def lessB (p q : Int × Int) : Bool := decide (p.2 < q.2 ∨ p.2 = q.2 ∧ p.1 < q.1)
def pickI (c n : Int) : Int := if c < 0 then (-(c + 1)) % n else c % n

theorem pickI_bd (c n : Int) (hn : 1 ≤ n) : 0 ≤ pickI c n ∧ pickI c n < n := by
  unfold pickI
  split
  · exact ⟨Int.emod_nonneg _ (by omega), Int.emod_lt_of_pos _ (by omega)⟩
  · exact ⟨Int.emod_nonneg _ (by omega), Int.emod_lt_of_pos _ (by omega)⟩

theorem lessB_iff (p q : Int × Int) : lessB p q = true ↔ (p.2 < q.2 ∨ p.2 = q.2 ∧ p.1 < q.1) := by simp [lessB]
theorem cmpP_neg (p q : Int × Int) : cmpP p q < 0 ↔ lessB p q = true := by
  rw [lessB_iff]
  unfold cmpP orI cmpI
  by_cases h1 : p.2 < q.2
  · simp [h1]
  · by_cases h2 : q.2 < p.2
    · simp [h1, h2]; omega
    · have h3 : p.2 = q.2 := by omega
      by_cases h4 : p.1 < q.1
      · simp [h1, h2, h4, h3]
      · by_cases h5 : q.1 < p.1 <;> simp [h1, h2, h4, h5, h3]
theorem cmpP_zero (p q : Int × Int) : cmpP p q = 0 ↔ p = q := by
  obtain ⟨a, b⟩ := p
  obtain ⟨c, d⟩ := q
  unfold cmpP orI cmpI
  by_cases h1 : b < d
  · simp [h1]; omega
  · by_cases h2 : d < b
    · simp [h1, h2]; omega
    · by_cases h4 : a < c
      · simp [h1, h2, h4]; omega
      · by_cases h5 : c < a
        · simp [h1, h2, h4, h5]; omega
        · simp [h1, h2, h4, h5]; omega
theorem lessB_irrefl (p : Int × Int) : lessB p p = false := by simp [lessB]
theorem lessB_trans {p q r : Int × Int} (h1 : lessB p q = true) (h2 : lessB q r = true) : lessB p r = true := by
  rw [lessB_iff] at *; omega
theorem lessB_asymm {p q : Int × Int} (h1 : lessB p q = true) : lessB q p = false := by
  rw [Bool.eq_false_iff]; intro h2; rw [lessB_iff] at *; omega
theorem lessB_total {p q : Int × Int} (h : p ≠ q) (h1 : lessB p q = false) : lessB q p = true := by
  rw [Bool.eq_false_iff, ne_eq, lessB_iff] at h1
  rw [lessB_iff]
  obtain ⟨a, b⟩ := p
  obtain ⟨c, d⟩ := q
  simp only [ne_eq, Prod.mk.injEq, not_and] at h h1 ⊢
  by_cases e : a = c
  · have := h e; omega
  · omega
theorem lessB_ne {p q : Int × Int} (h : lessB p q = true) : p ≠ q := by
  intro e; subst e; rw [lessB_irrefl] at h; cases h

/-- A list that rises. -/
def Rises (l : List (Int × Int)) : Prop := l.Pairwise fun p q => lessB p q = true

/-- The document's answer puts a cell into a list so. -/
def putL (c : Int × Int) : List (Int × Int) → List (Int × Int)
  | [] => [c]
  | x :: r => if x = c ∨ lessB c x = true then c :: (x :: r).filter (fun y => decide (y ≠ c)) else x :: putL c r

theorem mem_putL (c y : Int × Int) (l : List (Int × Int)) : y ∈ putL c l ↔ y = c ∨ y ∈ l := by
  induction l with
  | nil => simp [putL]
  | cons x r ih =>
    unfold putL
    split
    · simp only [List.mem_cons, List.mem_filter, decide_eq_true_eq]
      constructor
      · rintro (h | ⟨h, _⟩)
        · exact .inl h
        · exact .inr h
      · rintro (h | h)
        · exact .inl h
        · by_cases e : y = c
          · exact .inl e
          · exact .inr ⟨h, e⟩
    · simp only [List.mem_cons, ih]
      constructor
      · rintro (h | h | h)
        · exact .inr (.inl h)
        · exact .inl h
        · exact .inr (.inr h)
      · rintro (h | h | h)
        · exact .inr (.inl h)
        · exact .inl h
        · exact .inr (.inr h)

theorem rises_putL (c : Int × Int) {l : List (Int × Int)} (h : Rises l) : Rises (putL c l) := by
  induction l with
  | nil => exact List.pairwise_singleton _ _
  | cons x r ih =>
    have hx := List.pairwise_cons.1 h
    unfold putL
    split
    · rename_i hc
      refine List.pairwise_cons.2 ⟨fun y hy => ?_, h.filter _⟩
      simp only [List.mem_filter, decide_eq_true_eq] at hy
      rcases List.mem_cons.1 hy.1 with e | hyr
      · subst e
        rcases hc with e | hc
        · exact absurd e hy.2
        · exact hc
      · have h1 := hx.1 y hyr
        rcases hc with e | hc
        · subst e; exact h1
        · exact lessB_trans hc h1
    · rename_i hc
      refine List.pairwise_cons.2 ⟨fun y hy => ?_, ih hx.2⟩
      rw [mem_putL] at hy
      rcases hy with e | hy
      · subst e
        have h1 : x ≠ y := fun e => hc (.inl e)
        refine lessB_total (fun e => h1 e.symm) ?_
        rw [Bool.eq_false_iff]
        exact fun e => hc (.inr e)
      · exact hx.1 y hy

theorem length_putL_le (c : Int × Int) (l : List (Int × Int)) : (putL c l).length ≤ l.length + 1 := by
  induction l with
  | nil => simp [putL]
  | cons x r ih =>
    unfold putL
    split
    · simp only [List.length_cons]
      have := List.length_filter_le (fun y => decide (y ≠ c)) (x :: r)
      simp only [List.length_cons] at this
      omega
    · simp only [List.length_cons]; omega

/-- Two lists that rise and have the same cells are the same. -/
theorem rises_ext {l m : List (Int × Int)} (hl : Rises l) (hm : Rises m) (h : ∀ y, y ∈ l ↔ y ∈ m) : l = m := by
  induction l generalizing m with
  | nil =>
    cases m with
    | nil => rfl
    | cons b m => exact absurd ((h b).2 (List.mem_cons_self ..)) (by simp)
  | cons a l ih =>
    cases m with
    | nil => exact absurd ((h a).1 (List.mem_cons_self ..)) (by simp)
    | cons b m =>
      have ha := List.pairwise_cons.1 hl
      have hb := List.pairwise_cons.1 hm
      have e : a = b := by
        have h1 := (h a).1 (List.mem_cons_self ..)
        have h2 := (h b).2 (List.mem_cons_self ..)
        rcases List.mem_cons.1 h1 with e | h1
        · exact e
        · rcases List.mem_cons.1 h2 with e | h2
          · exact e.symm
          · have := lessB_asymm (hb.1 a h1)
            rw [ha.1 b h2] at this
            cases this
      subst e
      congr 1
      refine ih ha.2 hb.2 fun y => ?_
      have hy := h y
      simp only [List.mem_cons] at hy
      constructor
      · intro hyl
        rcases hy.1 (.inr hyl) with e | h'
        · exact absurd (ha.1 y hyl) (by rw [e, lessB_irrefl]; simp)
        · exact h'
      · intro hym
        rcases hy.2 (.inr hym) with e | h'
        · exact absurd (hb.1 y hym) (by rw [e, lessB_irrefl]; simp)
        · exact h'

/-- The set of a list's cells. -/
def setL (l : List (Int × Int)) : List (Int × Int) := l.foldl (fun s c => putL c s) []

theorem foldl_putL (l s : List (Int × Int)) (hs : Rises s) : Rises (l.foldl (fun s c => putL c s) s) ∧ ∀ y, y ∈ l.foldl (fun s c => putL c s) s ↔ y ∈ l ∨ y ∈ s := by
  induction l generalizing s with
  | nil => simp [hs]
  | cons c l ih =>
    obtain ⟨h1, h2⟩ := ih (putL c s) (rises_putL c hs)
    refine ⟨h1, fun y => ?_⟩
    rw [List.foldl_cons, h2 y, mem_putL, List.mem_cons]
    constructor
    · rintro (h | h | h)
      · exact .inl (.inr h)
      · exact .inl (.inl h)
      · exact .inr h
    · rintro ((h | h) | h)
      · exact .inr (.inl h)
      · exact .inl h
      · exact .inr (.inr h)
theorem rises_setL (l : List (Int × Int)) : Rises (setL l) := (foldl_putL l [] List.Pairwise.nil).1
theorem mem_setL (l : List (Int × Int)) (y : Int × Int) : y ∈ setL l ↔ y ∈ l := by rw [setL, (foldl_putL l [] List.Pairwise.nil).2 y]; simp
theorem length_foldl_putL (l s : List (Int × Int)) : (l.foldl (fun s c => putL c s) s).length ≤ l.length + s.length := by
  induction l generalizing s with
  | nil => simp
  | cons c l ih =>
    have h1 := ih (putL c s)
    have h2 := length_putL_le c s
    simp only [List.foldl_cons, List.length_cons]
    omega
theorem length_setL (l : List (Int × Int)) : (setL l).length ≤ l.length := by
  have := length_foldl_putL l []; simpa [setL] using this
theorem setL_snoc (l : List (Int × Int)) (c : Int × Int) : setL (l ++ [c]) = putL c (setL l) := by simp [setL, List.foldl_append]
theorem setL_of_rises {l : List (Int × Int)} (h : Rises l) : setL l = l := rises_ext (rises_setL l) h fun y => mem_setL l y

/-- A list without a cell. -/
def outL (c : Int × Int) (l : List (Int × Int)) : List (Int × Int) := l.filter fun y => decide (y ≠ c)

/-- one element at a place -/
theorem getD_mem {l : List (Int × Int)} {k : Nat} (h : k < l.length) : l.getD k (0, 0) ∈ l := by
  rw [List.getD_eq_getElem?_getD, List.getElem?_eq_getElem h]; exact List.getElem_mem h
theorem take_snoc {l : List (Int × Int)} {k : Nat} (h : k < l.length) : l.take (k + 1) = l.take k ++ [l.getD k (0, 0)] := by
  rw [List.take_succ_eq_append_getElem h, List.getD_eq_getElem?_getD, List.getElem?_eq_getElem h]; rfl
theorem drop_cons {l : List (Int × Int)} {k : Nat} (h : k < l.length) : l.drop k = l.getD k (0, 0) :: l.drop (k + 1) := by
  rw [List.drop_eq_getElem_cons h, List.getD_eq_getElem?_getD, List.getElem?_eq_getElem h]; rfl

def okAt (l : List (Int × Int)) (k : Nat) : Bool := inB (l.getD k (0, 0)) && (decide (k = 0) || decide (cmpP (l.getD (k - 1) (0, 0)) (l.getD k (0, 0)) < 0))
def rightB (l : List (Int × Int)) : Bool := decide (l.length ≤ 2000) && (List.range l.length).all (okAt l)

theorem rightB_long {l : List (Int × Int)} (h : 2000 < l.length) : rightB l = false := by simp [rightB]; omega
theorem rightB_no {l : List (Int × Int)} {k : Nat} (hk : k < l.length) (h : okAt l k = false) : rightB l = false := by
  rw [Bool.eq_false_iff]
  intro hr
  simp only [rightB, Bool.and_eq_true, List.all_eq_true, List.mem_range] at hr
  rw [hr.2 k hk] at h
  cases h
theorem rightB_yes {l : List (Int × Int)} (h0 : l.length ≤ 2000) (h : ∀ k, k < l.length → okAt l k = true) : rightB l = true := by
  simp only [rightB, Bool.and_eq_true, List.all_eq_true, List.mem_range]
  exact ⟨by simpa using h0, h⟩

theorem rises_of_steps {l : List (Int × Int)} (h : ∀ k, k + 1 < l.length → lessB (l.getD k (0, 0)) (l.getD (k + 1) (0, 0)) = true) : Rises l := by
  induction l with
  | nil => exact List.Pairwise.nil
  | cons a l ih =>
    have hl : Rises l := ih fun k hk => by have := h (k + 1) (by simp only [List.length_cons]; omega); simpa using this
    refine List.pairwise_cons.2 ⟨fun y hy => ?_, hl⟩
    cases l with
    | nil => cases hy
    | cons b l =>
      have hab : lessB a b = true := by have := h 0 (by simp only [List.length_cons]; omega); simpa using this
      rcases List.mem_cons.1 hy with e | hy
      · subst e; exact hab
      · exact lessB_trans hab ((List.pairwise_cons.1 hl).1 y hy)
theorem steps_of_rises {l : List (Int × Int)} (h : Rises l) : ∀ k, k + 1 < l.length → lessB (l.getD k (0, 0)) (l.getD (k + 1) (0, 0)) = true := fun k hk => by
  have := List.pairwise_iff_getElem.1 h k (k + 1) (by omega) hk (by omega)
  rw [List.getD_eq_getElem?_getD, List.getD_eq_getElem?_getD, List.getElem?_eq_getElem (by omega), List.getElem?_eq_getElem hk]
  exact this

/-- A set, in plain words. -/
theorem rightB_iff (l : List (Int × Int)) : rightB l = true ↔ l.length ≤ 2000 ∧ (∀ c ∈ l, inB c = true) ∧ Rises l := by
  constructor
  · intro h
    simp only [rightB, Bool.and_eq_true, List.all_eq_true, List.mem_range, okAt, decide_eq_true_eq, Bool.or_eq_true] at h
    refine ⟨h.1, fun c hc => ?_, rises_of_steps fun k hk => ?_⟩
    · obtain ⟨k, hk, rfl⟩ := List.getElem_of_mem hc
      have := (h.2 k hk).1
      rwa [List.getD_eq_getElem?_getD, List.getElem?_eq_getElem hk] at this
    · rcases (h.2 (k + 1) hk).2 with e | e
      · omega
      · rw [← cmpP_neg]; simpa using e
  · rintro ⟨h0, h1, h2⟩
    refine rightB_yes h0 fun k hk => ?_
    simp only [okAt, Bool.and_eq_true, Bool.or_eq_true, decide_eq_true_eq]
    refine ⟨h1 _ (getD_mem hk), ?_⟩
    rcases Nat.eq_zero_or_pos k with e | e
    · exact .inl e
    · obtain ⟨j, rfl⟩ : ∃ j, k = j + 1 := ⟨k - 1, by omega⟩
      right
      rw [cmpP_neg]
      simpa using steps_of_rises h2 j hk

end Go.Proofs.Ytikgnjcjbjafaaa.Cel
namespace Go.Proofs.Ytikgnjcjbjafaaa.Cel
open Go.RowKit Go.Sort


theorem isNaN_any (x : Int) (w : World) : Calls Try.prog 133 #[.int .i64 x] w fun e w' => e = .returned (.bool false) ∧ w = w' := by
  go_enter Try.func133, Try.ntmps133
  go_wp2
  all_goals go_ret
  all_goals exact ⟨by simp, rfl⟩

set_option maxHeartbeats 400000 in
theorem cmp_any (x y : Int) (w : World) : Calls Try.prog 118 #[.int .i64 x, .int .i64 y] w fun e w' => e = .returned (.int .i64 (cmpI x y)) ∧ w = w' := by
  rcases Int.lt_trichotomy x y with h | h | h
  · have e : cmpI x y = -1 := by unfold cmpI; rw [if_pos h]
    rw [e]; clear e
    go_enter Try.func118, Try.ntmps118
    go_wp2_with (go_at_call 133; refine (isNaN_any _ _).mono ?_; rintro e w' ⟨rfl, rfl⟩)
    go_ret
    exact ⟨rfl, rfl⟩
  · subst h
    have e : cmpI x x = 0 := by unfold cmpI; simp
    rw [e]; clear e
    go_enter Try.func118, Try.ntmps118
    go_wp2_with (go_at_call 133; refine (isNaN_any _ _).mono ?_; rintro e w' ⟨rfl, rfl⟩)
    go_ret
    exact ⟨rfl, rfl⟩
  · have e : cmpI x y = 1 := by unfold cmpI; rw [if_neg (by omega), if_pos h]
    rw [e]; clear e
    have h' : ¬ x < y := by omega
    go_enter Try.func118, Try.ntmps118
    go_wp2_with (go_at_call 133; refine (isNaN_any _ _).mono ?_; rintro e w' ⟨rfl, rfl⟩)
    go_ret
    exact ⟨rfl, rfl⟩

/-! ### cmp.Or, the method compare -/

theorem or_any (a b : Int) (w : World) (B : Nat) (h0 : w.cell? ⟨B, 0, none⟩ = some (.int .i64 a)) (h1 : w.cell? ⟨B, 1, none⟩ = some (.int .i64 b)) :
    Calls Try.prog 117 #[.slice (some ⟨B, 0, none⟩) 2 2] w fun e w' => e = .returned (.int .i64 (orI a b)) ∧ w = w' := by
  by_cases ha : a = 0
  · subst ha
    by_cases hb : b = 0
    · subst hb
      have e : orI 0 0 = 0 := by decide
      rw [e]; clear e
      go_enter Try.func117, Try.ntmps117
      go_wp2
      go_rounds 3
      all_goals go_ret
      all_goals exact ⟨rfl, rfl⟩
    · have e : orI 0 b = b := by unfold orI; simp
      rw [e]; clear e
      have hb' : (b == 0) = false := by simpa using hb
      have hb2 : (b != 0) = true := by simpa using hb
      clear hb
      go_enter Try.func117, Try.ntmps117
      go_wp2
      go_rounds 3
      all_goals go_ret
      all_goals exact ⟨rfl, rfl⟩
  · have e : orI a b = a := by unfold orI; simp [ha]
    rw [e]; clear e
    have ha' : (a == 0) = false := by simpa using ha
    have ha2 : (a != 0) = true := by simpa using ha
    clear ha
    go_enter Try.func117, Try.ntmps117
    go_wp2
    go_rounds 3
    all_goals go_ret
    all_goals exact ⟨rfl, rfl⟩


set_option maxHeartbeats 400000 in
theorem compare_any (p q : Int × Int) (w : World) :
    Calls Try.prog 91 #[.agg #[.int .i64 p.1, .int .i64 p.2], .agg #[.int .i64 q.1, .int .i64 q.2]] w fun e w' => e = .returned (.int .i64 (cmpP p q)) ∧ Below w.heap.size w w' := by
  obtain ⟨a, b⟩ := p
  obtain ⟨c, d⟩ := q
  simp only [cmpP]
  have hB : Below w.heap.size w ((w.alloc (.cells #[.int .i64 a, .int .i64 b] 122)).alloc (.cells #[.int .i64 c, .int .i64 d] 122)) := ((Below.refl _ _).alloc (Nat.le_refl _) _).alloc (by simp) _
  have k0 := cell_regrown (w := (w.alloc (.cells #[.int .i64 a, .int .i64 b] 122)).alloc (.cells #[.int .i64 c, .int .i64 d] 122)) (a := ⟨w.heap.size, 0, none⟩) (v := .int .i64 a) (by simp)
  have k1 := cell_regrown (w := (w.alloc (.cells #[.int .i64 a, .int .i64 b] 122)).alloc (.cells #[.int .i64 c, .int .i64 d] 122)) (a := ⟨w.heap.size, 1, none⟩) (v := .int .i64 b) (by simp)
  have k2 := cell_regrown (w := (w.alloc (.cells #[.int .i64 a, .int .i64 b] 122)).alloc (.cells #[.int .i64 c, .int .i64 d] 122)) (a := ⟨w.heap.size + 1, 0, none⟩) (v := .int .i64 c) (by simp)
  have k3 := cell_regrown (w := (w.alloc (.cells #[.int .i64 a, .int .i64 b] 122)).alloc (.cells #[.int .i64 c, .int .i64 d] 122)) (a := ⟨w.heap.size + 1, 1, none⟩) (v := .int .i64 d) (by simp)
  go_enter Try.func91, Try.ntmps91
  go_wp2
  refine Qt.below_tail 10 (by kernel_rfl) (by kernel_rfl) ?_
  generalize (w.alloc (.cells #[.int .i64 a, .int .i64 b] 122)).alloc (.cells #[.int .i64 c, .int .i64 d] 122) = W at *
  simp only [List.take_succ_cons, List.take_zero, List.drop_succ_cons, List.drop_zero]
  repeat (go_big_quiet_step (first | (go_at_call 118; exact Qt.at_same fun _ _ => cmp_any _ _ _)))
  refine wpQuiet_nil ?_
  intro w1 hb1
  go_wp2_with fail
  refine (or_any (cmpI b d) (cmpI a c) _ w1.heap.size (by simp) (by simp)).mono ?_
  rintro e w' ⟨rfl, rfl⟩
  go_wp2
  go_ret
  exact ⟨rfl, (hB.trans (hb1.mono hB.size)).alloc (Nat.le_trans hB.size hb1.size) _⟩

/-! ### bounds -/

theorem beyond_any (p : Int × Int) (w : World) :
    Calls Try.prog 88 #[.agg #[.int .i64 p.1, .int .i64 p.2]] w fun e w' => e = .returned (.bool (!inB p)) ∧ Below w.heap.size w w' := by
  obtain ⟨a, b⟩ := p
  generalize hr : inB (a, b) = r
  have HR := Lib.hid hr
  clear hr
  go_enter Try.func88, Try.ntmps88
  go_wp2
  all_goals go_ret
  all_goals refine ⟨?_, (Below.refl _ _).alloc (Nat.le_refl _) _⟩
  all_goals (refine Qt.ret_bool ?_; rw [← HR.out]; simp [inB]; omega)

theorem in_any (p : Int × Int) (w : World) :
    Calls Try.prog 57 #[.agg #[.int .i64 p.1, .int .i64 p.2]] w fun e w' => e = .returned (.bool (inB p)) ∧ Below w.heap.size w w' := by
  obtain ⟨a, b⟩ := p
  generalize hr : inB (a, b) = r
  have HR := Lib.hid hr
  clear hr
  go_enter Try.func57, Try.ntmps57
  go_wp2
  all_goals go_ret
  all_goals refine ⟨?_, (Below.refl _ _).alloc (Nat.le_refl _) _⟩
  all_goals (refine Qt.ret_bool ?_; rw [← HR.out]; simp [inB]; omega)


theorem less_any (p q : Int × Int) (w : World) :
    Calls Try.prog 74 #[.agg #[.int .i64 p.1, .int .i64 p.2], .agg #[.int .i64 q.1, .int .i64 q.2]] w fun e w' => e = .returned (.bool (lessB p q)) ∧ Below w.heap.size w w' := by
  obtain ⟨a, b⟩ := p
  obtain ⟨c, d⟩ := q
  generalize hr : lessB (a, b) (c, d) = r
  have HR := Lib.hid hr
  clear hr
  go_enter Try.func74, Try.ntmps74
  go_wp2
  all_goals go_ret
  all_goals refine ⟨?_, ((Below.refl _ _).alloc (Nat.le_refl _) _).alloc (by simp) _⟩
  all_goals (refine Qt.ret_bool ?_; rw [← HR.out]; simp [lessB] at *; omega)


theorem pick_any (c n : Int) (w : World) (h1 : -9223372036854775808 ≤ c) (h2 : c ≤ 9223372036854775807) (hn : 1 ≤ n) (hn2 : n ≤ 9223372036854775807) :
    Calls Try.prog 62 #[.int .i64 c, .int .i64 n] w fun e w' => e = .returned (.int .i64 (pickI c n)) ∧ w = w' := by
  generalize hr : pickI c n = r
  have HR := Lib.hid hr
  clear hr
  go_enter Try.func62, Try.ntmps62
  go_wp2
  all_goals go_ret
  all_goals refine ⟨?_, rfl⟩
  all_goals (refine Qt.ret_int ?_; rw [← HR.out]; unfold pickI)
  · rw [if_pos (by assumption), ← Int.neg_tmod, Int.tmod_eq_emod_of_nonneg (by omega)]
  · rw [if_neg (by omega)]

end Go.Proofs.Ytikgnjcjbjafaaa.Cel
namespace Go.Proofs.Ytikgnjcjbjafaaa.Cel
open Go.RowKit Go.Sort

/-- The slice at A of l.length cells (two numbers each) reads as l, below block B. -/
def Rd (w : World) (B : Nat) (A : Option Addr) (l : List (Int × Int)) : Prop :=
  ∀ j, j < l.length → ∃ b off, A = some ⟨b, off, none⟩ ∧ b < B ∧ w.cell? ⟨b, off + j * 2, none⟩ = some (.int .i64 (l.getD j (0, 0)).1) ∧ w.cell? ⟨b, off + j * 2 + 1, none⟩ = some (.int .i64 (l.getD j (0, 0)).2)

theorem Rd.below {w w' : World} {B B' : Nat} {A : Option Addr} {l : List (Int × Int)} (h : Rd w B A l) (hb : Below B' w w') (hB : B ≤ B') : Rd w' B A l := fun j hj => by
  obtain ⟨b, off, e, hlt, h0, h1⟩ := h j hj
  exact ⟨b, off, e, hlt, (hb.cell (p := ⟨b, off + j * 2, none⟩) (Nat.lt_of_lt_of_le hlt hB)).trans h0, (hb.cell (p := ⟨b, off + j * 2 + 1, none⟩) (Nat.lt_of_lt_of_le hlt hB)).trans h1⟩

theorem Rd.more {w : World} {B B' : Nat} {A : Option Addr} {l : List (Int × Int)} (h : Rd w B A l) (hB : B ≤ B') : Rd w B' A l := fun j hj => by
  obtain ⟨b, off, e, hlt, h0, h1⟩ := h j hj
  exact ⟨b, off, e, by omega, h0, h1⟩

theorem Rd.nil (w : World) (B : Nat) (A : Option Addr) : Rd w B A [] := fun j hj => absurd hj (Nat.not_lt_zero j)

/-- where the elements lie: one place for all. -/
theorem Rd.at_ {w : World} {B : Nat} {A : Option Addr} {l : List (Int × Int)} (h : Rd w B A l) (hn : 0 < l.length) :
    ∃ b off, A = some ⟨b, off, none⟩ ∧ b < B ∧ ∀ j, j < l.length → w.cell? ⟨b, off + j * 2, none⟩ = some (.int .i64 (l.getD j (0, 0)).1) ∧ w.cell? ⟨b, off + j * 2 + 1, none⟩ = some (.int .i64 (l.getD j (0, 0)).2) := by
  obtain ⟨b, off, e, hlt, _, _⟩ := h 0 hn
  refine ⟨b, off, e, hlt, fun j hj => ?_⟩
  obtain ⟨b', off', e', _, h0, h1⟩ := h j hj
  rw [e] at e'
  injection e' with e'
  injection e' with e1 e2
  subst e1 e2
  exact ⟨h0, h1⟩

theorem beyond_no (p : Int × Int) (h : inB p = true) (w : World) : Calls Try.prog 88 #[.agg #[.int .i64 p.1, .int .i64 p.2]] w fun e w' => e = .returned (.bool false) ∧ Below w.heap.size w w' := by
  have := beyond_any p w; rw [h] at this; exact this
theorem beyond_yes (p : Int × Int) (h : inB p = false) (w : World) : Calls Try.prog 88 #[.agg #[.int .i64 p.1, .int .i64 p.2]] w fun e w' => e = .returned (.bool true) ∧ Below w.heap.size w w' := by
  have := beyond_any p w; rw [h] at this; exact this

set_option maxHeartbeats 1000000 in
theorem right_any (A : Option Addr) (l : List (Int × Int)) (c : Nat) (w : World) (hR : Rd w w.heap.size A l) (hl : l.length ≤ 1000000) (hc : l.length ≤ c) :
    Calls Try.prog 110 #[.slice A l.length c] w fun e w' => e = .returned (.bool (rightB l)) ∧ Below w.heap.size w w' := by
  by_cases hlong : 2000 < l.length
  · rw [rightB_long hlong]
    have hz : (2000 : Int) < (l.length : Int) := by omega
    go_enter Try.func110, Try.ntmps110
    go_wp2
    go_ret
    exact ⟨rfl, Below.refl _ _⟩
  · have hz : ¬ (2000 : Int) < (l.length : Int) := by omega
    generalize hr : rightB l = r
    have HR := Lib.hid hr
    clear hr
    go_enter Try.func110, Try.ntmps110
    go_wp2
    go_loopw [10] (fun i wr => ∃ k : Nat, k ≤ l.length ∧ i = .int .i64 k ∧ Hid (∀ j, j < k → okAt l j = true) ∧ Below w.heap.size w wr) (fun i _ => l.length - (intOf i).toNat)
    case atStart => exact ⟨0, Nat.zero_le _, rfl, fun j hj => absurd hj (Nat.not_lt_zero j), Below.refl _ _⟩
    case round =>
      obtain ⟨k, hk, rfl, HK, hb⟩ := hrel
      by_cases hlt : k < l.length
      · have hltz : (k : Int) < (l.length : Int) := by omega
        obtain ⟨b, off, rfl, hbB, hcell⟩ := (hR.below hb (Nat.le_refl _)).at_ (by omega)
        have hsz := hb.size
        obtain ⟨⟨x, y⟩, hxy⟩ : ∃ p, p = l.getD k (0, 0) := ⟨_, rfl⟩
        have c0 := (hcell k hlt).1
        have c1 := (hcell k hlt).2
        rw [← hxy] at c0 c1
        simp only at c0 c1
        have HXY := Lib.hid hxy
        clear hxy
        by_cases hin : inB (x, y) = true
        · rcases Nat.eq_zero_or_pos k with hk0 | hk0
          · clear hcell
            have hkd : decide (0 < k) = false := by simp; omega
            have hok : okAt l k = true := by unfold okAt; rw [← HXY.out, hin, hk0]; rfl
            have HOK := Lib.hid hok
            clear hk0 hok
            go_wp2
            have k0 := Qt.cell_in (w := wr.alloc (.cells #[.int .i64 x, .int .i64 y] 32)) (a := ⟨wr.heap.size, 0, none⟩) (v := .int .i64 x) (by simp)
            have k1 := Qt.cell_in (w := wr.alloc (.cells #[.int .i64 x, .int .i64 y] 32)) (a := ⟨wr.heap.size, 1, none⟩) (v := .int .i64 y) (by simp)
            refine Qt.below_all (by kernel_rfl) (by kernel_rfl) ?_
            repeat (go_big_quiet_step (first | (go_at_call 88; exact Qt.at_call (beyond_no (x, y) hin))))
            refine wpQuiet_nil ?_
            intro w1 hb1
            go_wp2
            go_roundw
            case measure => simp [intOf]; omega
            case rel =>
              refine ⟨k + 1, by omega, by go_num, (show Hid _ from fun j hj => ?_), (hb.alloc hsz _).trans (hb1.mono (by simp; omega))⟩
              by_cases hjk : j = k
              · subst hjk; exact HOK.out
              · exact HK.out j (by omega)
          · obtain ⟨kp, rfl⟩ : ∃ kp, k = kp + 1 := ⟨k - 1, by omega⟩
            obtain ⟨⟨px, py⟩, hp⟩ : ∃ p, p = l.getD kp (0, 0) := ⟨_, rfl⟩
            have p0 := (hcell kp (by omega)).1
            have p1 := (hcell kp (by omega)).2
            rw [← hp] at p0 p1
            simp only at p0 p1
            have HP := Lib.hid hp
            clear hp hcell
            by_cases hcm : cmpP (px, py) (x, y) < 0
            · have hok : okAt l (kp + 1) = true := by unfold okAt; rw [← HXY.out, hin, Nat.add_sub_cancel, ← HP.out]; simpa using hcm
              have HOK := Lib.hid hok
              clear hok
              go_wp2
              have k0 := Qt.cell_in (w := wr.alloc (.cells #[.int .i64 x, .int .i64 y] 32)) (a := ⟨wr.heap.size, 0, none⟩) (v := .int .i64 x) (by simp)
              have k1 := Qt.cell_in (w := wr.alloc (.cells #[.int .i64 x, .int .i64 y] 32)) (a := ⟨wr.heap.size, 1, none⟩) (v := .int .i64 y) (by simp)
              have k2 := Qt.cell_in (w := wr.alloc (.cells #[.int .i64 x, .int .i64 y] 32)) (a := ⟨b, off + kp * 2, none⟩) (v := .int .i64 px) (by rw [World.cell?_alloc_lt _ _ _ (by exact Nat.lt_of_lt_of_le hbB hsz)]; exact p0)
              have k3 := Qt.cell_in (w := wr.alloc (.cells #[.int .i64 x, .int .i64 y] 32)) (a := ⟨b, off + kp * 2 + 1, none⟩) (v := .int .i64 py) (by rw [World.cell?_alloc_lt _ _ _ (by exact Nat.lt_of_lt_of_le hbB hsz)]; exact p1)
              refine Qt.below_all (by kernel_rfl) (by kernel_rfl) ?_
              repeat (go_big_quiet_step (first | (go_at_call 88; exact Qt.at_call (beyond_no (x, y) hin)) | (go_at_call 91; exact Qt.at_call (compare_any (px, py) (x, y)))))
              refine wpQuiet_nil ?_
              intro w1 hb1
              go_wp2
              go_roundw
              case measure => simp [intOf]; omega
              case rel =>
                refine ⟨kp + 1 + 1, by omega, by go_num, (show Hid _ from fun j hj => ?_), (hb.alloc hsz _).trans (hb1.mono (by simp; omega))⟩
                by_cases hjk : j = kp + 1
                · subst hjk; exact HOK.out
                · exact HK.out j (by omega)
            · have hok : okAt l (kp + 1) = false := by unfold okAt; rw [← HXY.out, hin, Nat.add_sub_cancel, ← HP.out]; simpa using hcm
              have HNO := Lib.hid (rightB_no hlt hok)
              clear hok
              go_wp2
              have k0 := Qt.cell_in (w := wr.alloc (.cells #[.int .i64 x, .int .i64 y] 32)) (a := ⟨wr.heap.size, 0, none⟩) (v := .int .i64 x) (by simp)
              have k1 := Qt.cell_in (w := wr.alloc (.cells #[.int .i64 x, .int .i64 y] 32)) (a := ⟨wr.heap.size, 1, none⟩) (v := .int .i64 y) (by simp)
              have k2 := Qt.cell_in (w := wr.alloc (.cells #[.int .i64 x, .int .i64 y] 32)) (a := ⟨b, off + kp * 2, none⟩) (v := .int .i64 px) (by rw [World.cell?_alloc_lt _ _ _ (by exact Nat.lt_of_lt_of_le hbB hsz)]; exact p0)
              have k3 := Qt.cell_in (w := wr.alloc (.cells #[.int .i64 x, .int .i64 y] 32)) (a := ⟨b, off + kp * 2 + 1, none⟩) (v := .int .i64 py) (by rw [World.cell?_alloc_lt _ _ _ (by exact Nat.lt_of_lt_of_le hbB hsz)]; exact p1)
              refine Qt.below_all (by kernel_rfl) (by kernel_rfl) ?_
              repeat (go_big_quiet_step (first | (go_at_call 88; exact Qt.at_call (beyond_no (x, y) hin)) | (go_at_call 91; exact Qt.at_call (compare_any (px, py) (x, y)))))
              refine wpQuiet_nil ?_
              intro w1 hb1
              go_wp2
              go_ret
              exact ⟨by rw [← HR.out, HNO.out]; rfl, (hb.alloc hsz _).trans (hb1.mono (by simp; omega))⟩
        · have hin' : inB (x, y) = false := by simpa using hin
          have hok : okAt l k = false := by unfold okAt; rw [← HXY.out, hin']; rfl
          have HNO := Lib.hid (rightB_no hlt hok)
          clear hok hcell hin
          go_wp2
          have k0 := Qt.cell_in (w := wr.alloc (.cells #[.int .i64 x, .int .i64 y] 32)) (a := ⟨wr.heap.size, 0, none⟩) (v := .int .i64 x) (by simp)
          have k1 := Qt.cell_in (w := wr.alloc (.cells #[.int .i64 x, .int .i64 y] 32)) (a := ⟨wr.heap.size, 1, none⟩) (v := .int .i64 y) (by simp)
          refine Qt.below_all (by kernel_rfl) (by kernel_rfl) ?_
          repeat (go_big_quiet_step (first | (go_at_call 88; exact Qt.at_call (beyond_yes (x, y) hin'))))
          refine wpQuiet_nil ?_
          intro w1 hb1
          go_wp2
          go_ret
          exact ⟨by rw [← HR.out, HNO.out]; rfl, (hb.alloc hsz _).trans (hb1.mono (by simp; omega))⟩
      · have hltz : ¬ (k : Int) < (l.length : Int) := by omega
        have hkl : k = l.length := by omega
        have e : rightB l = true := rightB_yes (by omega) fun j hj => HK.out j (by omega)
        have E := Lib.hid e
        clear e HK hkl
        go_wp2
        go_ret
        exact ⟨by rw [← HR.out, E.out]; rfl, hb⟩

end Go.Proofs.Ytikgnjcjbjafaaa.Cel
