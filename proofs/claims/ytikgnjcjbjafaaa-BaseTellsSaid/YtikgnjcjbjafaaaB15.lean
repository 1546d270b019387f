/-
  Texts that the claims of this seat share, part 15.
-/
import Derived.Test.YtikgnjcjbjafaaaB08
import Derived.Test.YtikgnjcjbjafaaaB12
import Derived.Test.YtikgnjcjbjafaaaB07
import Derived.Test.YtikgnjcjbjafaaaB14
import Derived.Maps.RangeWalk
import Derived.Maps.Views
import Derived.DeepKeys4
import Derived.Outline
import Derived.Deep.DeepFit
import Derived.Test.YtikgnjcjbjafaaaB01
import Derived.Test.YtikgnjcjbjafaaaB11
set_option linter.unusedVariables false
set_option linter.unusedSimpArgs false
namespace Go.Proofs.Ytikgnjcjbjafaaa.Cel
set_option linter.unusedVariables false
set_option linter.unusedSimpArgs false
open Go.RowKit Go.Sort

theorem refIn_yes (p : Int × Int) (h : inB p = true) (w : World) : Calls Try.prog 57 #[.agg #[.int .i64 p.1, .int .i64 p.2]] w fun e w' => e = .returned (.bool true) ∧ Below w.heap.size w w' := by
  have := in_any p w; rw [h] at this; exact this
theorem refIn_no (p : Int × Int) (h : inB p = false) (w : World) : Calls Try.prog 57 #[.agg #[.int .i64 p.1, .int .i64 p.2]] w fun e w' => e = .returned (.bool false) ∧ Below w.heap.size w w' := by
  have := in_any p w; rw [h] at this; exact this

set_option maxHeartbeats 1000000 in
set_option maxRecDepth 100000 in
theorem refRight_any (A : Option Addr) (l : List (Int × Int)) (c : Nat) (w : World) (hR : Rd w w.heap.size A l) (hl : l.length ≤ 1000000) (hc : l.length ≤ c) :
    Calls Try.prog 56 #[.slice A l.length c] w fun e w' => e = .returned (.bool (rightB l)) ∧ Below w.heap.size w w' := by
  generalize hr : rightB l = r
  have HR := Lib.hid hr
  clear hr
  go_enter Try.func56, Try.ntmps56
  go_wp2
  go_loopw [3] (fun i wr => ∃ k : Nat, k ≤ l.length ∧ i = .int .i64 k ∧ Hid (∀ j, j < k → okAt l j = true) ∧ Below w.heap.size w wr) (fun i _ => l.length - (intOf i).toNat)
  case atStart => exact ⟨0, Nat.zero_le _, rfl, fun j hj => absurd hj (Nat.not_lt_zero j), Below.refl _ _⟩
  case round =>
    obtain ⟨k, hk, rfl, HK, hb⟩ := hrel
    by_cases hlt : k < l.length
    · have hltz : (k : Int) < (l.length : Int) := by omega
      obtain ⟨b, off, rfl, hbB, hcell⟩ := hR.at_ (by omega)
      obtain ⟨⟨x, y⟩, hxy⟩ : ∃ p, p = l.getD k (0, 0) := ⟨_, rfl⟩
      have a0 := (hcell k hlt).1
      have a1 := (hcell k hlt).2
      rw [← hxy] at a0 a1
      simp only at a0 a1
      have k0 := Qt.cell_in (Qt.keep hb a0)
      have k1 := Qt.cell_in (Qt.keep hb a1)
      have HXY := Lib.hid hxy
      clear hxy a0 a1
      by_cases hin : inB (x, y) = true
      · rcases Nat.eq_zero_or_pos k with hk0 | hk0
        · clear hcell
          have hkd : decide (0 < k) = false := by simp; omega
          have hkd2 : decide ((0 : Int) < (k : Int)) = false := by simp; omega
          have HOK : Hid (okAt l k = true) := by show okAt l k = true; unfold okAt; rw [← HXY.out, hin, hk0]; rfl
          clear hk0
          go_wp2
          refine Qt.below_all (by kernel_rfl) (by kernel_rfl) ?_
          repeat (go_big_quiet_step (first | (go_at_call 57; exact Qt.at_call (refIn_yes (x, y) hin))))
          refine wpQuiet_nil ?_
          intro w1 hb1
          go_wp2
          go_roundw
          case measure => simp [intOf]; omega
          case rel =>
            refine ⟨k + 1, by omega, by go_num, (show Hid _ from fun j hj => ?_), Qt.more hb hb.size hb1⟩
            by_cases hjk : j = k
            · subst hjk; exact HOK.out
            · exact HK.out j (by omega)
        · obtain ⟨kp, rfl⟩ : ∃ kp, k = kp + 1 := ⟨k - 1, by omega⟩
          obtain ⟨⟨px, py⟩, hp⟩ : ∃ p, p = l.getD kp (0, 0) := ⟨_, rfl⟩
          have p0 := (hcell kp (by omega)).1
          have p1 := (hcell kp (by omega)).2
          rw [← hp] at p0 p1
          simp only at p0 p1
          have k2 := Qt.cell_in (Qt.keep hb p0)
          have k3 := Qt.cell_in (Qt.keep hb p1)
          have HP := Lib.hid hp
          clear hp hcell p0 p1
          cases hcm : lessB (px, py) (x, y)
          · have HNO : Hid (rightB l = false) := rightB_no hlt (by
              unfold okAt
              rw [← HXY.out, hin, Nat.add_sub_cancel, ← HP.out]
              have : ¬ cmpP (px, py) (x, y) < 0 := by rw [cmpP_neg, hcm]; exact Bool.false_ne_true
              simpa using this)
            go_wp2
            refine Qt.below_all (by kernel_rfl) (by kernel_rfl) ?_
            repeat (go_big_quiet_step (first | (go_at_call 57; exact Qt.at_call (refIn_yes (x, y) hin)) | (go_at_call 74; exact Qt.at_call (less_no (px, py) (x, y) hcm))))
            refine wpQuiet_nil ?_
            intro w1 hb1
            go_wp2
            go_ret
            exact ⟨by rw [← HR.out, HNO.out]; rfl, Qt.more hb hb.size hb1⟩
          · have HOK : Hid (okAt l (kp + 1) = true) := by
              show okAt l (kp + 1) = true
              unfold okAt
              rw [← HXY.out, hin, Nat.add_sub_cancel, ← HP.out]
              have : cmpP (px, py) (x, y) < 0 := by rw [cmpP_neg, hcm]
              simpa using this
            go_wp2
            refine Qt.below_all (by kernel_rfl) (by kernel_rfl) ?_
            repeat (go_big_quiet_step (first | (go_at_call 57; exact Qt.at_call (refIn_yes (x, y) hin)) | (go_at_call 74; exact Qt.at_call (less_yes (px, py) (x, y) hcm))))
            refine wpQuiet_nil ?_
            intro w1 hb1
            go_wp2
            go_roundw
            case measure => simp [intOf]; omega
            case rel =>
              refine ⟨kp + 1 + 1, by omega, by go_num, (show Hid _ from fun j hj => ?_), Qt.more hb hb.size hb1⟩
              by_cases hjk : j = kp + 1
              · subst hjk; exact HOK.out
              · exact HK.out j (by omega)
      · have hin' : inB (x, y) = false := by simpa using hin
        have HNO : Hid (rightB l = false) := rightB_no hlt (by unfold okAt; rw [← HXY.out, hin']; rfl)
        clear hcell hin
        go_wp2
        refine Qt.below_all (by kernel_rfl) (by kernel_rfl) ?_
        repeat (go_big_quiet_step (first | (go_at_call 57; exact Qt.at_call (refIn_no (x, y) hin'))))
        refine wpQuiet_nil ?_
        intro w1 hb1
        go_wp2
        go_ret
        exact ⟨by rw [← HR.out, HNO.out]; rfl, Qt.more hb hb.size hb1⟩
    · have hltz : ¬ (k : Int) < (l.length : Int) := by omega
      have hkl : k = l.length := by omega
      by_cases hlong : 2000 < l.length
      · have E := Lib.hid (rightB_long hlong)
        clear HK hkl
        go_wp2
        go_ret
        exact ⟨by rw [← HR.out, E.out]; simp; omega, hb⟩
      · have E : Hid (rightB l = true) := rightB_yes (by omega) fun j hj => HK.out j (by omega)
        clear HK hkl
        go_wp2
        go_ret
        exact ⟨by rw [← HR.out, E.out]; simp; omega, hb⟩

end Go.Proofs.Ytikgnjcjbjafaaa.Cel
namespace Go.Proofs.Ytikgnjcjbjafaaa.Cel

/-- whether p is a neighbour of c -/
def nbB (c p : Int × Int) : Bool := decide (-1 ≤ c.1 - p.1 ∧ c.1 - p.1 ≤ 1 ∧ -1 ≤ c.2 - p.2 ∧ c.2 - p.2 ≤ 1 ∧ c ≠ p)
def nbr (l : List (Int × Int)) (p : Int × Int) : Nat := l.countP fun c => nbB c p
def livesB (a : Bool) (n : Int) : Bool := decide (n = 3) || (a && decide (n = 2))
/-- alive behind a generation -/
def aliveB (l : List (Int × Int)) (p : Int × Int) : Bool := livesB (decide (p ∈ l)) (nbr l p)
/-- a cell and its neighbours, row by row -/
def nine (c : Int × Int) : List (Int × Int) :=
  [(c.1 - 1, c.2 - 1), (c.1, c.2 - 1), (c.1 + 1, c.2 - 1), (c.1 - 1, c.2), (c.1, c.2), (c.1 + 1, c.2), (c.1 - 1, c.2 + 1), (c.1, c.2 + 1), (c.1 + 1, c.2 + 1)]
def cand (l : List (Int × Int)) : List (Int × Int) := l.flatMap nine
def nextL (l : List (Int × Int)) : List (Int × Int) := setL ((cand l).filter fun p => aliveB l p)

theorem mem_nine (c p : Int × Int) : p ∈ nine c ↔ -1 ≤ c.1 - p.1 ∧ c.1 - p.1 ≤ 1 ∧ -1 ≤ c.2 - p.2 ∧ c.2 - p.2 ≤ 1 := by
  obtain ⟨a, b⟩ := c
  obtain ⟨x, y⟩ := p
  simp only [nine, List.mem_cons, List.not_mem_nil, or_false, Prod.mk.injEq]
  omega
theorem mem_cand (l : List (Int × Int)) (p : Int × Int) : p ∈ cand l ↔ ∃ c ∈ l, -1 ≤ c.1 - p.1 ∧ c.1 - p.1 ≤ 1 ∧ -1 ≤ c.2 - p.2 ∧ c.2 - p.2 ≤ 1 := by
  unfold cand
  rw [List.mem_flatMap]
  constructor
  · rintro ⟨c, hc, h⟩; exact ⟨c, hc, (mem_nine c p).1 h⟩
  · rintro ⟨c, hc, h⟩; exact ⟨c, hc, (mem_nine c p).2 h⟩
theorem alive_cand {l : List (Int × Int)} {p : Int × Int} (h : aliveB l p = true) : p ∈ cand l := by
  rw [mem_cand]
  by_cases hp : p ∈ l
  · exact ⟨p, hp, by omega⟩
  · have h3 : nbr l p = 3 := by
      simp only [aliveB, livesB, hp, decide_false, Bool.false_and, Bool.or_false, decide_eq_true_eq] at h
      omega
    have hpos : 0 < l.countP fun c => nbB c p := by unfold nbr at h3; omega
    obtain ⟨c, hc, hn⟩ := List.countP_pos_iff.1 hpos
    simp only [nbB, decide_eq_true_eq] at hn
    exact ⟨c, hc, by omega⟩
theorem mem_nextL (l : List (Int × Int)) (p : Int × Int) : p ∈ nextL l ↔ aliveB l p = true := by
  unfold nextL
  rw [mem_setL, List.mem_filter]
  exact ⟨fun h => h.2, fun h => ⟨alive_cand h, h⟩⟩
theorem rises_nextL (l : List (Int × Int)) : Rises (nextL l) := rises_setL _

/-! ### where a generation reaches -/

/-- a box that holds a list -/
def InBox (a b c d : Int) (l : List (Int × Int)) : Prop := ∀ p ∈ l, a ≤ p.1 ∧ p.1 ≤ b ∧ c ≤ p.2 ∧ p.2 ≤ d
theorem length_le_of_subset {α : Type} [DecidableEq α] : ∀ (l m : List α), l.Nodup → (∀ y ∈ l, y ∈ m) → l.length ≤ m.length
  | [], _, _, _ => Nat.zero_le _
  | x :: l, m, hn, h => by
    obtain ⟨h1, h2⟩ := List.nodup_cons.1 hn
    have hx : x ∈ m := h x (by simp)
    have := length_le_of_subset l (m.erase x) h2 fun y hy => by
      have hne : y ≠ x := fun e => h1 (e ▸ hy)
      exact (List.mem_erase_of_ne hne).2 (h y (by simp [hy]))
    rw [List.length_erase_of_mem hx] at this
    have hpos := List.length_pos_of_mem hx
    simp only [List.length_cons]
    omega
theorem rises_nodup {l : List (Int × Int)} (h : Rises l) : l.Nodup := by
  refine List.Pairwise.imp ?_ h
  intro p q hpq e
  rw [e, lessB_irrefl] at hpq
  cases hpq

/-- all cells of a box -/
def boxL (a c : Int) (w h : Nat) : List (Int × Int) := (List.range h).flatMap fun (j : Nat) => (List.range w).map fun (i : Nat) => (a + (i : Int), c + (j : Int))
theorem mem_boxL {a c : Int} {w h : Nat} {p : Int × Int} (h1 : a ≤ p.1 ∧ p.1 < a + w ∧ c ≤ p.2 ∧ p.2 < c + h) : p ∈ boxL a c w h := by
  unfold boxL
  rw [List.mem_flatMap]
  refine ⟨(p.2 - c).toNat, List.mem_range.2 (by omega), List.mem_map.2 ⟨(p.1 - a).toNat, List.mem_range.2 (by omega), ?_⟩⟩
  obtain ⟨x, y⟩ := p
  simp only at h1
  simp only [Prod.mk.injEq]
  omega
theorem length_boxL (a c : Int) (w h : Nat) : (boxL a c w h).length = h * w := by
  unfold boxL
  rw [List.length_flatMap]
  simp only [List.length_map, List.length_range]
  induction h with
  | zero => simp
  | succ h ih => rw [List.range_succ, List.map_append, List.sum_append, ih]; simp [Nat.succ_mul]
theorem box_len {a b c d : Int} {l : List (Int × Int)} (h : InBox a b c d l) (hs : Rises l) (w t : Nat) (hw : b < a + w) (ht : d < c + t) : l.length ≤ t * w := by
  rw [← length_boxL a c w t]
  refine length_le_of_subset _ _ (rises_nodup hs) fun p hp => mem_boxL ?_
  have := h p hp
  omega

end Go.Proofs.Ytikgnjcjbjafaaa.Cel
namespace Go.Proofs.Ytikgnjcjbjafaaa.Cel
open Go.RowKit Go.Sort

theorem fl_cell1 (l : List (Int × Int)) : ∀ u ∈ fl l, u.oneCell' = true := by
  intro u hu
  simp only [fl, List.mem_flatMap] at hu
  obtain ⟨c, _, hu⟩ := hu
  simp at hu
  rcases hu with rfl | rfl <;> rfl
theorem fl_drop (l : List (Int × Int)) (k : Nat) : fl (l.drop k) = (fl l).drop (k * 2) := by
  have h1 : fl l = fl (l.take k) ++ fl (l.drop k) := by rw [← fl_append, List.take_append_drop]
  by_cases hk : k ≤ l.length
  · conv => rhs; rw [h1]
    have h2 : (fl (l.take k)).drop (k * 2) = [] := List.drop_eq_nil_of_le (by rw [length_fl, List.length_take]; omega)
    rw [List.drop_append_of_le_length (by rw [length_fl, List.length_take]; omega), h2, List.nil_append]
  · rw [List.drop_eq_nil_of_le (by omega), List.drop_eq_nil_of_le (by rw [length_fl]; omega)]; rfl

/-- The cells from place k on, where Go's 's[k:]' looks for them. -/
theorem Row.tail {w : World} {B T g n cap : Nat} {l : List (Int × Int)} (h : Row w B T g n cap l) (k : Nat) : ∀ j u, (fl (l.drop k))[j]? = some u → w.cell? ((⟨g, k * 2, none⟩ : Addr).add j) = some u := by
  intro j u hu
  rw [fl_drop, List.getElem?_drop] at hu
  have hj : k * 2 + j < n * 2 := by
    have := (List.getElem?_eq_some_iff.1 hu).1
    rwa [length_fl, h.1] at this
  rw [Addr.add_lit, World.ownsRow.cellAt h.2 _ hj]
  exact hu

end Go.Proofs.Ytikgnjcjbjafaaa.Cel
namespace Go.Proofs.Ytikgnjcjbjafaaa.Cel
open Go.RowKit Go.Sort

theorem right_no {A : Option Addr} {l : List (Int × Int)} {c : Nat} {w : World} (hR : Rd w w.heap.size A l) (hl : l.length ≤ 1000000) (hc : l.length ≤ c) (h : rightB l = false) :
    Calls Try.prog 110 #[.slice A l.length c] w fun e w' => e = .returned (.bool false) ∧ Below w.heap.size w w' := by
  have := right_any A l c w hR hl hc; rw [h] at this; exact this

end Go.Proofs.Ytikgnjcjbjafaaa.Cel
namespace Go.Proofs.Ytikgnjcjbjafaaa.Cel
set_option linter.unusedVariables false
set_option linter.unusedSimpArgs false
open Go.RowKit Go.Sort
open Go.Maps (Keyed)

/-- an answer of a list and an error's number -/
def Ans (w : World) (r : Int × List (Int × Int)) (e : Ending) (w' : World) : Prop := ∃ v, e = .returned (.tuple #[v, .int .i64 r.1]) ∧ Reads w' v r.2 ∧ Below w.heap.size w w'

theorem Ans.nil {w w' : World} (n : Int) (hb : Below w.heap.size w w') : Ans w (n, []) (.returned (.tuple #[.slice none 0 0, .int .i64 n])) w' :=
  ⟨_, rfl, ⟨none, 0, rfl, Nat.le_refl _, Rd.nil _ _ _⟩, hb⟩
theorem Ans.after {w w1 w' : World} {r : Int × List (Int × Int)} {e : Ending} (h : Ans w1 r e w') (hb : Below w.heap.size w w1) : Ans w r e w' := by
  obtain ⟨v, he, hr, hb'⟩ := h
  exact ⟨v, he, hr, Qt.more hb hb.size hb'⟩

theorem lives_any (a : Bool) (n : Int) (w : World) : Calls Try.prog 120 #[.bool a, .int .i64 n] w fun e w' => e = .returned (.bool (livesB a n)) ∧ w = w' := by
  generalize hr : livesB a n = r
  have HR := Lib.hid hr
  clear hr
  go_enter Try.func120, Try.ntmps120
  go_wp2
  all_goals go_ret
  all_goals refine ⟨?_, rfl⟩
  all_goals (refine Qt.ret_bool ?_; rw [← HR.out]; simp_all [livesB])

end Go.Proofs.Ytikgnjcjbjafaaa.Cel
namespace Go.Proofs.Ytikgnjcjbjafaaa.Cel
open Go.RowKit Go.Sort

def shL (dx dy : Int) (l : List (Int × Int)) : List (Int × Int) := l.map fun c => (c.1 + dx, c.2 + dy)
theorem length_shL (dx dy : Int) (l : List (Int × Int)) : (shL dx dy l).length = l.length := List.length_map _
theorem inB_iff (p : Int × Int) : inB p = true ↔ -1099511627776 ≤ p.1 ∧ p.1 ≤ 1099511627776 ∧ -1099511627776 ≤ p.2 ∧ p.2 ≤ 1099511627776 := by simp [inB]

end Go.Proofs.Ytikgnjcjbjafaaa.Cel
namespace Go.Proofs.Ytikgnjcjbjafaaa.Cel
set_option linter.unusedVariables false
set_option linter.unusedSimpArgs false
open Go.RowKit Go.Sort

theorem push_one {w0 w2 w3 : World} {B T : Nat} {v v' : Value} {out : List (Int × Int)} {x y : Int} (hB : B ≤ w2.heap.size) (hb : Below B w0 w2) (hown : Own w2 B T v out) {o : Obj}
    (h3 : w3.ownsRow B T 2 v' (out.length + 1) (fl out ++ [.int .i64 x, .int .i64 y])) (hg : (w2.alloc o).grownBy w3 v.ownBlock) : Own w3 B T v' (out ++ [(x, y)]) ∧ Below B w0 w3 :=
  ⟨own_push h3, (hb.alloc hB _).grown hg (by simp; omega) (fun k e => (World.ownsRow.lt hown k e).1)⟩

end Go.Proofs.Ytikgnjcjbjafaaa.Cel
namespace Go.Proofs.Ytikgnjcjbjafaaa
set_option maxRecDepth 100000
set_option linter.unusedVariables false
set_option linter.unusedSimpArgs false
open Go.RowKit Go.Sort

set_option maxHeartbeats 4000000 in
theorem refIn7_any (e : Nat) (he : e ≤ 60) (c : Int × Int) (hx : I64 c.1) (hy : I64 c.2) (w : World) : Calls Try.prog 78 #[.int .i64 ((e : Int) + 1), cellV c] w fun r w' => r = .returned (.bool (insideB e c)) ∧ Below w.heap.size w w' := by
  obtain ⟨h1, h2⟩ := pow_bd7 he
  obtain ⟨x, y⟩ := c
  have hal := (Below.refl w.heap.size w).alloc (Nat.le_refl _) (.cells #[.int .i64 x, .int .i64 y] 32)
  have HA := Lib.hid hal
  have HC := clB_new (w := w) (x, y)
  have k0 := HC.c0
  have k1 := HC.c1
  simp only at k0 k1 hx hy
  unfold I64 at hx hy
  have hcase : (¬ -(2 ^ e) ≤ x ∧ insideB e (x, y) = false) ∨ (-(2 ^ e) ≤ x ∧ ¬ x < 2 ^ e ∧ insideB e (x, y) = false) ∨ (-(2 ^ e) ≤ x ∧ x < 2 ^ e ∧ ¬ -(2 ^ e) ≤ y ∧ insideB e (x, y) = false) ∨ (-(2 ^ e) ≤ x ∧ x < 2 ^ e ∧ -(2 ^ e) ≤ y ∧ ¬ y < 2 ^ e ∧ insideB e (x, y) = false) ∨ (-(2 ^ e) ≤ x ∧ x < 2 ^ e ∧ -(2 ^ e) ≤ y ∧ y < 2 ^ e ∧ insideB e (x, y) = true) := by
    unfold insideB
    simp only [decide_eq_false_iff_not, decide_eq_true_eq]
    generalize (2 : Int) ^ e = p at *
    omega
  clear hal HC
  rcases hcase with ⟨a1, a5⟩ | ⟨a1, a2, a5⟩ | ⟨a1, a2, a3, a5⟩ | ⟨a1, a2, a3, a4, a5⟩ | ⟨a1, a2, a3, a4, a5⟩
  all_goals
    rw [a5]
    clear a5
    go_enter Try.func78, Try.ntmps78
    go_wp2_with fail
    go_ret
    exact ⟨rfl, HA.out⟩

/-- a store in a box that is changed, and a box for what is told -/
structure E7At (w wr : World) (B : Option Addr) (m : List Nd) (d : Nat) (room : Int) : Prop where
  st : StB wr w.heap.size B m d room
  res : wr.heap[w.heap.size + 1]? = some (.cells #[.slice none 0 0, .int .i64 0] 27 (0, 0))
  bel : Below w.heap.size w wr
section
variable {w wr w' : World} {B A2 : Option Addr} {m pl : List Nd} {d c2 : Nat} {room : Int}
theorem E7At.below (h : E7At w wr B m d room) (hb : Below wr.heap.size wr w') : E7At w w' B m d room := ⟨h.st.below hb, (hb.block _ (lt_heap6 h.res)).trans h.res, Qt.more h.bel h.bel.size hb⟩
theorem E7At.s0 (h : E7At w wr B m d room) : wr.cell? ⟨w.heap.size, 0, none⟩ = some (.slice B m.length d) := h.st.s0
theorem E7At.s1 (h : E7At w wr B m d room) : wr.cell? ⟨w.heap.size, 1, none⟩ = some (.int .i64 room) := h.st.s1
theorem E7At.f0 (h : E7At w wr B m d room) : wr.frozen? ⟨w.heap.size, 0, none⟩ = false := h.st.f0
theorem E7At.f1 (h : E7At w wr B m d room) : wr.frozen? ⟨w.heap.size, 1, none⟩ = false := h.st.f1
theorem E7At.r0 (h : E7At w wr B m d room) : wr.cell? ⟨w.heap.size + 1, 0, none⟩ = some (.slice none 0 0) := by rw [Lib.cell_of_heap h.res]; rfl
theorem E7At.r1 (h : E7At w wr B m d room) : wr.cell? ⟨w.heap.size + 1, 1, none⟩ = some (.int .i64 0) := by rw [Lib.cell_of_heap h.res]; rfl
theorem E7At.free (h : E7At w wr B m d room) (j : Nat) : wr.frozen? ⟨w.heap.size + 1, j, none⟩ = false := Lib.frozen_of_heap h.res j
theorem E7At.size (h : E7At w wr B m d room) : w.heap.size + 2 ≤ wr.heap.size := lt_heap6 h.res
/-- a store is told -/
theorem E7At.told (h : E7At w wr B m d room) (hN : NowN wr A2 pl) (u v : Value) : ((wr.setCell ⟨w.heap.size + 1, 0, none⟩ u).setCell ⟨w.heap.size + 1, 1, none⟩ v).heap[w.heap.size + 1]? = some (.cells #[u, v] 27 (0, 0)) ∧ Below w.heap.size w ((wr.setCell ⟨w.heap.size + 1, 0, none⟩ u).setCell ⟨w.heap.size + 1, 1, none⟩ v) ∧ NowN ((wr.setCell ⟨w.heap.size + 1, 0, none⟩ u).setCell ⟨w.heap.size + 1, 1, none⟩ v) A2 pl := by
  have hr := h.res
  refine ⟨?_, (h.bel.setCell (by show _ ≤ _ + 1; omega) _).setCell (by show _ ≤ _ + 1; omega) _, (rdN_told hN hr).more (by simp [World.setCell])⟩
  simp [World.setCell, Array.getElem?_modify, hr]
/-- the box is changed -/
theorem E7At.put (h : E7At w wr B m d room) (hN : NowN wr A2 pl) (hc : pl.length ≤ c2) : E7At w ((wr.setCell ⟨w.heap.size, 0, none⟩ (.slice A2 pl.length c2)).setCell ⟨w.heap.size, 1, none⟩ (.int .i64 room)) A2 pl c2 room := by
  refine ⟨stB_put h.st.row hN hc, ?_, (h.bel.setCell (Nat.le_refl _) _).setCell (Nat.le_refl _) _⟩
  rw [Below.heap_setCell _ _ _ _ (by show w.heap.size + 1 ≠ w.heap.size; omega), Below.heap_setCell _ _ _ _ (by show w.heap.size + 1 ≠ w.heap.size; omega)]
  exact h.res
end
theorem e7_0 {w : World} {A : Option Addr} {l : List Nd} {c : Nat} (hR : RdN w w.heap.size A l) (hc : l.length ≤ c) (room : Int) : E7At w ((w.alloc (.cells #[.slice A l.length c, .int .i64 room] 27)).alloc (.cells #[.slice none 0 0, .int .i64 0] 27)) A l c room := by
  have hb := (Below.refl (w.alloc (.cells #[.slice A l.length c, .int .i64 room] 27)).heap.size (w.alloc (.cells #[.slice A l.length c, .int .i64 room] 27))).alloc (Nat.le_refl _) (.cells #[.slice none 0 0, .int .i64 0] 27)
  have h0 := (Below.refl w.heap.size w).alloc (Nat.le_refl _) (.cells #[.slice A l.length c, .int .i64 room] 27)
  exact ⟨(stB_new hR hc room).below hb, heap_new (by simp), Qt.more h0 h0.size hb⟩
theorem refPut7 {A : Option Addr} {l : List Nd} {c : Nat} {room : Int} (k : Kd) {w : World} (hR : RdN w w.heap.size A l) (hr : Right6 l room) (hc : l.length ≤ c) : Calls Try.prog 103 #[.agg #[.slice A l.length c, .int .i64 room], .agg #[.int .i64 k.1, .int .i64 k.2.1, .int .i64 k.2.2.1, .int .i64 k.2.2.2]] w (PutR (put6 l room k) room w) := by
  have := refPut6_any A l c room k w hR hr.small hc (right_bd hr)
  unfold storeV kidsV at this
  exact this

set_option maxHeartbeats 8000000 in
theorem refEmpty7_any (A : Option Addr) (l : List Nd) (c : Nat) (room : Int) (k : Nat) (w : World) (hR : RdN w w.heap.size A l) (hr : Right6 l room) (hc : l.length ≤ c) (hk : k ≤ 42) :
    Calls Try.prog 108 #[storeV A l.length c room, .int .i64 ((k : Nat) : Int)] w (PutR (emptyTo l room k) room w) := by
  have HE := Lib.hid (e7_0 hR hc room)
  obtain ⟨z, hz⟩ : ∃ z, z = emptyTo l room k := ⟨_, rfl⟩
  rw [← hz]
  have HZ := Lib.hid hz
  have HR := Lib.hid hr
  clear hz hr hR
  unfold storeV
  go_enter Try.func108, Try.ntmps108
  go_wp2_with fail
  generalize (w.alloc (.cells #[.slice A l.length c, .int .i64 room] 27)).alloc (.cells #[.slice none 0 0, .int .i64 0] 27) = wx at *
  go_loopw [7, 8] (fun p i wr => ∃ (j : Nat) (m : List Nd) (q : Int) (B : Option Addr) (d : Nat), j ≤ k ∧ p = .int .i64 q ∧ i = .int .i64 j ∧ Hid (E7At w wr B m d room ∧ emptyTo l room j = (m, q, 0))) (fun _ i _ => k - (intOf i).toNat)
  case atStart => exact ⟨0, l, 0, A, c, Nat.zero_le _, rfl, rfl, HE.out, rfl⟩
  case round =>
    obtain ⟨j, m, q, B, d, hj, rfl, rfl, HH⟩ := hrel
    obtain ⟨H, hem⟩ := HH.out
    have HEM := Lib.hid hem
    have hm6 : Right6 m room := by
      have := emptyTo_right HR.out j
      rw [hem] at this
      exact this
    have c0 := H.s0
    have c1 := H.s1
    by_cases hlt : j < k
    · have hltz : (j : Int) < (k : Int) := by omega
      have hcall := refPut7 (q, q, q, q) H.st.rd hm6 H.st.cap
      have hnext : emptyTo l room (j + 1) = put6 m room (q, q, q, q) := by rw [emptyTo, hem, if_pos rfl]
      obtain ⟨pp, hpp⟩ : ∃ pp, pp = put6 m room (q, q, q, q) := ⟨_, rfl⟩
      rw [← hpp] at hcall hnext
      have HNX := Lib.hid hnext
      have HB := Lib.hid H
      clear hpp hm6 hnext HH H hem
      go_wp2_with fail
      refine hcall.mono ?_
      rintro e w2 ⟨v, rfl, ⟨A2, c2, rfl, hc2, hR2⟩, hb2⟩
      obtain ⟨pl, pn, pe⟩ := pp
      simp only at hR2 hc2
      have hb3 := (Below.refl w2.heap.size w2).alloc (Nat.le_refl _) (.cells #[.slice A2 pl.length c2, .int .i64 room] 27)
      have HD := Lib.hid ((HB.out.below hb2).below hb3)
      have HN := stB_new hR2 hc2 room
      have n0 := HN.s0
      have n1 := HN.s1
      have HNR := Lib.hid HN.rd
      have g0 := HD.out.s0
      have g1 := HD.out.s1
      have f0 := HD.out.f0
      have f1 := HD.out.f1
      clear hcall hb2 hb3 hR2 HB c0 c1 HN
      by_cases hpe : pe = 0
      · subst hpe
        have HP := Lib.hid (HD.out.put HNR.out hc2)
        clear HD HNR
        go_wp2_with fail
        go_roundw
        case measure => simp [intOf]; omega
        case rel => exact ⟨j + 1, pl, pn, A2, c2, by omega, rfl, by go_num, HP.out, HNX.out⟩
      · have hstop := emptyTo_stop (l := l) (room := room) (j := j + 1) (by rw [HNX.out]; exact hpe) (k - (j + 1))
        have hpn : pn = 0 ∧ pl = m := by
          have h2 : put6 m room (q, q, q, q) = (pl, pn, pe) := by have := HNX.out; rwa [emptyTo, HEM.out, if_pos rfl] at this
          have h3 := put_err (l := m) (room := room) (k := (q, q, q, q)) (by rw [h2]; exact hpe)
          rw [h2] at h3
          injection h3 with h4 h5
          injection h5 with h5 _
          exact ⟨h5, h4⟩
        obtain ⟨rfl, rfl⟩ := hpn
        rw [show j + 1 + (k - (j + 1)) = k by omega, HNX.out] at hstop
        have hzz : z = (pl, 0, pe) := by rw [HZ.out, hstop]
        subst hzz
        have r0 := HD.out.r0
        have r1 := HD.out.r1
        have fr0 := HD.out.free 0
        have fr1 := HD.out.free 1
        have ht := HD.out.told HD.out.st.rd (.slice B pl.length d) (.int .i64 room)
        have hcap := HD.out.st.cap
        clear hstop HD HZ HNX HNR HEM
        go_wp2_with fail
        generalize w2.alloc (.cells #[.slice A2 pl.length c2, .int .i64 room] 27) = w3 at *
        generalize (w3.setCell ⟨w.heap.size + 1, 0, none⟩ (.slice B pl.length d)).setCell ⟨w.heap.size + 1, 1, none⟩ (.int .i64 room) = w9 at *
        clear r0 r1 fr0 fr1
        refine bodyPost_ret (results_cell3 rfl _ _ _ _ _ _ _ rfl ht.1 Try.underlying27 rfl (by kernel_rfl)) rfl ?_
        exact ⟨_, rfl, ⟨B, d, rfl, hcap, ht.2.2⟩, ht.2.1⟩
    · obtain rfl : j = k := by omega
      have hltz : ¬ (j : Int) < (j : Int) := by omega
      have hzz : z = (m, q, 0) := by rw [HZ.out, hem]
      subst hzz
      have r0 := H.r0
      have r1 := H.r1
      have fr0 := H.free 0
      have fr1 := H.free 1
      have ht := H.told H.st.rd (.slice B m.length d) (.int .i64 room)
      have hcap := H.st.cap
      clear HH HZ H HEM hem hm6
      go_wp2_with fail
      generalize (wr.setCell ⟨w.heap.size + 1, 0, none⟩ (.slice B m.length d)).setCell ⟨w.heap.size + 1, 1, none⟩ (.int .i64 room) = w9 at *
      clear r0 r1 fr0 fr1 c0 c1
      refine bodyPost_ret (results_cell3 rfl _ _ _ _ _ _ _ rfl ht.1 Try.underlying27 rfl (by kernel_rfl)) rfl ?_
      exact ⟨_, rfl, ⟨B, d, rfl, hcap, ht.2.2⟩, ht.2.1⟩
set_option maxHeartbeats 4000000 in
theorem refCorner_any (A : Option Addr) (S : List (Int × Int)) (c e : Nat) (w : World) (hR : RdC w w.heap.size A S) (hl : S.length ≤ 900000) (he : e ≤ 60) (hin : ∀ s ∈ S, insideB e s = true) :
    Calls Try.prog 80 #[.slice A S.length c, .int .i64 ((e : Int) + 1)] w fun r w' => ∃ v, r = .returned v ∧ OwnC w' w.heap.size v (S.map (inwardC e)) ∧ Below w.heap.size w w' := by
  obtain ⟨i0, hi, hz0, hz1, hz2⟩ := info_parts Cel.infoCell
  obtain ⟨hp1, hp2⟩ := pow_bd7 he
  have HIN := Lib.hid hin
  have HR := Lib.hid hR
  clear hin hR
  go_enter Try.func80, Try.ntmps80
  go_wp2_with fail
  go_loopw [6, 7] (fun v i wr => ∃ k : Nat, k ≤ S.length ∧ i = .int .i64 k ∧ Aside (OwnC wr w.heap.size v ((S.take k).map (inwardC e))) ∧ Below w.heap.size w wr) (fun _ i _ => S.length - (intOf i).toNat)
  case atStart => exact ⟨0, Nat.zero_le _, rfl, World.ownsRow_nil _ _ _ _, Below.refl _ _⟩
  case round =>
    obtain ⟨k, hk, rfl, HK, hb⟩ := hrel
    obtain ⟨A2, c2, rfl, hc2, -⟩ := Cel.Own.rd HK.out
    have hlen : ((S.take k).map (inwardC e)).length ≤ k := by rw [List.length_map, List.length_take]; omega
    by_cases hlt : k < S.length
    · have hltz : (k : Int) < (S.length : Int) := by omega
      obtain ⟨b, off, rfl, hbB, hcell⟩ := Cel.Rd.at_ HR.out (by omega)
      have hins := HIN.out _ (Cel.getD_mem hlt)
      obtain ⟨⟨x, y⟩, hxy⟩ : ∃ p, p = S.getD k (0, 0) := ⟨_, rfl⟩
      have a0 := (hcell k hlt).1
      have a1 := (hcell k hlt).2
      rw [← hxy] at a0 a1 hins
      unfold insideB at hins
      have hins := of_decide_eq_true hins
      simp only at a0 a1 hins
      have c0 := Qt.keep hb a0
      have c1 := Qt.keep hb a1
      have d0 := Qt.cell_in c0
      have d1 := Qt.cell_in c1
      have s1 : IntKind.i64.wrap (x + 2 ^ e) = x + 2 ^ e := by rw [IntKind.wrap_i64]; generalize (2 : Int) ^ e = p at *; omega
      have s2 : IntKind.i64.wrap (y + 2 ^ e) = y + 2 ^ e := by rw [IntKind.wrap_i64]; generalize (2 : Int) ^ e = p at *; omega
      have HXY := Lib.hid hxy
      have hnew : (S.take k).map (inwardC e) ++ [(x + 2 ^ e, y + 2 ^ e)] = (S.take (k + 1)).map (inwardC e) := by rw [Cel.take_snoc hlt, List.map_append, ← hxy]; rfl
      have HNW := Lib.hid hnew
      clear hxy a0 a1 hcell hins hnew
      generalize hn : ((S.take k).map (inwardC e)).length = n at *
      go_wp2_with fail
      refine Qt.region_late (v := .slice A2 n c2) 16 (by decide) (by kernel_rfl) (by kernel_rfl) rfl ⟨rfl, fun _ => rfl⟩ ?_
      simp only [List.take_succ_cons, List.take_zero, List.drop_succ_cons, List.drop_zero, Act.put, List.setIfInBounds_toArray, List.set_cons_succ, List.set_cons_zero]
      repeat (go_big_quiet_step (fail))
      refine wpQuiet_nil ?_
      intro w3 hb3
      have B3 := Qt.more hb hb.size hb3
      have hown := Cel.Own.below HK.out hb3
      have hsz3 : w.heap.size ≤ w3.heap.size := B3.size
      clear hb3 hb HK s1 s2
      go_wp2_with (at_builtin; refine wpList_append_own _ rfl (.tmp 17) (.tmp 33) 38 rfl w.heap.size 32 i0 (.agg #[.int .i64 0, .int .i64 0]) 2 16 Try.underlying38 hi hz0 hz1 hz2 rfl (by decide) _ _ _ rfl (World.ownsRow.alloc hown _) ⟨w3.heap.size, 0, none⟩ 1 1 [.int .i64 (x + 2 ^ e), .int .i64 (y + 2 ^ e)] rfl rfl Cel.one_new Cel.one_cell (by unfold maxLen; omega) (by omega) (by simp; omega) ?_; intro v4 w4 hown4 hgrow4 _)
      have HP := Lib.hid (Cel.push_one (v := .slice A2 n c2) hsz3 B3 hown hown4 hgrow4)
      rw [HNW.out] at HP
      clear hown4 hgrow4 hown d0 d1 c0 c1
      refine ⟨rfl, ?_⟩
      go_wp2_with fail
      go_roundw
      case measure => simp [intOf]; omega
      case rel => exact ⟨k + 1, by omega, by go_num, HP.out.1, HP.out.2⟩
    · have hltz : ¬ (k : Int) < (S.length : Int) := by omega
      obtain rfl : k = S.length := by omega
      have hown := HK.out
      rw [List.take_length] at hown
      rw [List.length_map] at hown
      have HO := Lib.hid hown
      clear hown HK
      rw [List.take_length] at *
      rw [List.length_map] at *
      go_wp2_with fail
      go_ret
      exact ⟨_, rfl, HO.out, hb⟩
end Go.Proofs.Ytikgnjcjbjafaaa
namespace Go.Proofs.Ytikgnjcjbjafaaa
set_option maxRecDepth 100000
set_option linter.unusedVariables false
set_option linter.unusedSimpArgs false

theorem agreeB_right {k : Nat} {c d d' : Int × Int} (h : Agree k d' d) : agreeB k c d' = agreeB k c d := by
  rw [Bool.eq_iff_iff, agree_iff, agree_iff]
  exact ⟨fun h' => h'.trans h, fun h' => h'.trans h.symm⟩
theorem any_set {e : Nat} {S T : List (Int × Int)} {c : Int × Int} {a : Bool} (hS : ∀ s ∈ S, insideB e s = true) (hT : ∀ s ∈ T, insideB e s = true) (hc : insideB e c = true) (hST : ∀ y, y ∈ S ↔ if y = c then a = true else y ∈ T) (d : Int × Int) :
    ((S.map (inwardC e)).any fun s => agreeB (e + 1) s d) = if agreeB (e + 1) (inwardC e c) d = true then a else (T.map (inwardC e)).any fun s => agreeB (e + 1) s d := by
  have hone : ∀ s, insideB e s = true → agreeB (e + 1) (inwardC e c) d = true → agreeB (e + 1) (inwardC e s) d = true → s = c := fun s hs h1 h2 => by
    have := agree_ext (inside_sq hs) (inside_sq hc) ((agree_iff.1 h2).trans (agree_iff.1 h1).symm)
    unfold inwardC at this
    injection this with e1 e2
    exact Prod.ext (by omega) (by omega)
  by_cases h : agreeB (e + 1) (inwardC e c) d = true
  · rw [if_pos h, Bool.eq_iff_iff, List.any_eq_true]
    constructor
    · rintro ⟨t, ht, ha⟩
      obtain ⟨s, hs, rfl⟩ := List.mem_map.1 ht
      have := (hST s).1 hs
      rwa [if_pos (hone s (hS s hs) h ha)] at this
    · intro ha
      exact ⟨_, List.mem_map_of_mem ((hST c).2 (by rw [if_pos rfl]; exact ha)), h⟩
  · rw [if_neg h, Bool.eq_iff_iff, List.any_eq_true, List.any_eq_true]
    constructor
    · rintro ⟨t, ht, ha⟩
      obtain ⟨s, hs, rfl⟩ := List.mem_map.1 ht
      have hne : ¬ s = c := fun q => by subst q; exact h ha
      have := (hST s).1 hs
      rw [if_neg hne] at this
      exact ⟨_, List.mem_map_of_mem this, ha⟩
    · rintro ⟨t, ht, ha⟩
      obtain ⟨s, hs, rfl⟩ := List.mem_map.1 ht
      have hne : ¬ s = c := fun q => by subst q; exact h ha
      exact ⟨_, List.mem_map_of_mem ((hST s).2 (by rw [if_neg hne]; exact hs)), ha⟩
section
variable {l m : List Nd} {room : Int} {e n p : Nat} {S T : List (Int × Int)} {c : Int × Int}
theorem Sq.lev7 (h : Sq l room e n S) : (ndAt l (n : Int)).1.toNat = e + 1 := by rw [ndAt_nat, h.is.lev]; omega
theorem setZ_yes (h : Sq l room e n S) (hc : insideB e c = true) (a : Bool) : setZ room l n c a = setC room (e + 1) l n (inwardC e c) a := by
  unfold setZ
  rw [if_pos h.has, h.lev7, Nat.add_sub_cancel, if_pos hc, Int.toNat_natCast]
theorem set7_yes (h : Sq l room e n S) (hc : insideB e c = true) (a : Bool) {m : List Nd} {p : Int} (hz : setC room (e + 1) l n (inwardC e c) a = (m, p, 0)) : set7 l room n c a = (m, p, 0) := by
  unfold set7 grown6
  rw [if_pos (right_iff.2 h.right), setZ_yes h hc, hz, if_pos rfl]
theorem Sq.set_fine (h : Sq l room e n S) (hc : insideB e c = true) (a : Bool) (hroom : ((l.length + (e + 1) : Nat) : Int) ≤ room) :
    ∃ (m : List Nd) (p : Nat), set7 l room n c a = (m, (p : Int), 0) ∧ Grows l m ∧ Right6 m room ∧ Is m (e + 1) p ∧ m.length ≤ l.length + (e + 1) ∧ ∀ d, Go.Proofs.Ytikgnjcjbjafaaa.alive m (e + 1) p d = if agreeB (e + 1) (inwardC e c) d = true then a else Go.Proofs.Ytikgnjcjbjafaaa.alive l (e + 1) n d := by
  obtain ⟨m, _, p, rfl, e1, g, r, is, len, al⟩ := set_ok (room := room) (e + 1) l n (inwardC e c) a (by have := h.low; omega) h.right h.is hroom
  exact ⟨m, p, set7_yes h hc a e1, g, r, is, len, al⟩
theorem set_mem (a : Bool) (y : Int × Int) : y ∈ (if a = true then Cel.putL c S else Cel.outL c S) ↔ if y = c then a = true else y ∈ S := by
  cases a with
  | true =>
    rw [if_pos rfl, Cel.mem_putL]
    by_cases h : y = c <;> simp [h]
  | false =>
    rw [if_neg (by decide)]
    unfold Cel.outL
    by_cases h : y = c <;> simp [h]
theorem set_right (hS : Cel.rightB S = true) (hc : Cel.inB c = true) (hl : S.length < 2000) (a : Bool) : Cel.rightB (if a = true then Cel.putL c S else Cel.outL c S) = true := by
  have h3 := (Cel.rightB_iff _).1 hS
  refine (Cel.rightB_iff _).2 ⟨?_, fun s hs => ?_, ?_⟩
  · cases a with
    | true => rw [if_pos rfl]; have := Cel.length_putL_le c S; omega
    | false => rw [if_neg (by decide)]; have : (Cel.outL c S).length ≤ S.length := List.length_filter_le _ _; omega
  · have := (set_mem a s).1 hs
    by_cases h : s = c
    · rw [h]; exact hc
    · rw [if_neg h] at this; exact h3.2.1 s this
  · cases a with
    | true => rw [if_pos rfl]; exact Cel.rises_putL _ h3.2.2
    | false => rw [if_neg (by decide)]; exact List.Pairwise.filter _ h3.2.2
theorem set_ins (hS : ∀ s ∈ S, insideB e s = true) (hc : insideB e c = true) (a : Bool) : ∀ s ∈ (if a = true then Cel.putL c S else Cel.outL c S), insideB e s = true := fun s hs => by
  have := (set_mem a s).1 hs
  by_cases h : s = c
  · rw [h]; exact hc
  · rw [if_neg h] at this; exact hS s this
/-- a cell is set -/
theorem Sq.put (h : Sq l room e n S) (hc : insideB e c = true) (hin : Cel.inB c = true) (hl : S.length < 2000) (a : Bool) (hroom : ((l.length + (e + 1) : Nat) : Int) ≤ room) :
    ∃ (m : List Nd) (p : Nat), set7 l room n c a = (m, (p : Int), 0) ∧ Grows l m ∧ Sq m room e p (if a = true then Cel.putL c S else Cel.outL c S) ∧ m.length ≤ l.length + (e + 1) := by
  obtain ⟨m, p, e1, g, r, is, len, al⟩ := h.set_fine hc a hroom
  refine ⟨m, p, e1, g, ⟨r, is, h.low, set_right h.set hin hl a, set_ins h.ins hc a, fun d => ?_⟩, len⟩
  rw [al d, any_set (set_ins h.ins hc a) h.ins hc (set_mem a) d, h.alive d]
end

/-! ### a node of four quarters that are there -/
theorem node_res {room : Int} {K : Nat} {l : List Nd} {h k : Nat} {q : Kd} {A : Nat → Int × Int → Bool} (hk : k + 1 ≤ 42) (hr : Right6 l room) (hK : h ≤ K) (he : ∃ e, Emp l h e)
    (hall : ∀ i, i < 4 → ∃ n : Nat, kd q i = (n : Int) ∧ Is l k n ∧ ∀ c, alive l k n c = A i c) (hroom : ((l.length + 1 : Nat) : Int) ≤ room) :
    Res room K l h (put6 l room q) (k + 1) (fun c => A (q7 k c) c) 1 := by
  have hlev : ∀ i, i < 4 → (ndAt l (kd q i)).1 = (k : Int) := fun i hi => by
    obtain ⟨n, en, isn, _⟩ := hall i hi
    rw [en, ndAt_nat]
    exact isn.lev
  have h0 : (ndAt l q.1).1 = (k : Int) := hlev 0 (by decide)
  have hfit : Fit4 l q := by
    refine ⟨fun i hi => ?_, by omega⟩
    obtain ⟨n, en, isn, _⟩ := hall i hi
    have h1 := hlev i hi
    have := isn.lt
    exact ⟨by omega, by omega, by rw [h1, h0]⟩
  rcases put_ok hr hfit with ⟨m', n', e', hp⟩ | ⟨_, hf, _⟩
  · obtain ⟨_, p2, p3, p4, _⟩ := hp.node hfit
    refine ⟨m', n', h, e', hp.grows, hp.right, ⟨p2, by rw [p4, h0]; omega⟩, fun c => ?_, Nat.le_refl _, hK, ?_, by have := hp.more; omega⟩
    · obtain ⟨n, en, isn, aln⟩ := hall (q7 k c) (q7_lt k c)
      show alive m' k (kidN m' n' (q7 k c)) c = _
      have : kidN m' n' (q7 k c) = n := by unfold kidN; rw [p3, en, Int.toNat_natCast]
      rw [this, alive_grows hr hp.grows c k n isn, aln c]
    · obtain ⟨e2, he2⟩ := he
      exact ⟨e2, emp_grows hp.grows _ _ he2⟩
  · omega

/-! ### a node grown -/
theorem div_zero {x P : Int} (h0 : 0 ≤ x) (h1 : x < P) : x / P = 0 := Int.ediv_eq_zero_of_lt h0 h1
theorem div_one {x P : Int} (hP : 0 < P) (h0 : P ≤ x) (h1 : x < P * 2) : x / P = 1 := by
  have e : x = (x - P) + P * 1 := by omega
  rw [e, Int.add_mul_ediv_left _ _ (by omega), div_zero (by omega) (by omega)]
  rfl
theorem grow_bits {e : Nat} {s : Int × Int} (hs : insideB e s = true) : q7 (e + 1) (inwardC (e + 1) s) = q7 e (inwardC e s) ∧ q7 e (inwardC (e + 1) s) = 3 - q7 e (inwardC e s) ∧ Agree e (inwardC (e + 1) s) (inwardC e s) := by
  have hin := inside_sq hs
  have e2 : (2 : Int) ^ (e + 1) = 2 ^ e * 2 := Int.pow_succ _ _
  have hu : inwardC (e + 1) s = ((inwardC e s).1 + 2 ^ e * 1, (inwardC e s).2 + 2 ^ e * 1) := by
    unfold inwardC
    rw [e2]
    exact Prod.ext (by simp only; omega) (by simp only; omega)
  refine ⟨?_, ?_, by rw [hu]; exact agree_shift _ _ _ _⟩
  all_goals
    rw [hu]
    unfold InSq at hin
    unfold q7
    rw [e2] at hin
    try rw [e2]
    simp only
    have hp := pow_pos7 e
    generalize (inwardC e s).1 = x at *
    generalize (inwardC e s).2 = y at *
    generalize (2 : Int) ^ e = P at *
    have key : ∀ z : Int, 0 ≤ z → z < P * 2 → (z / P = 0 ∧ (z + P * 1) / P = 1 ∧ (z + P * 1) / (P * 2) = 0) ∨ (z / P = 1 ∧ (z + P * 1) / P = 2 ∧ (z + P * 1) / (P * 2) = 1) := fun z h0 h1 => by
      have hz : (z + P * 1) / P = z / P + 1 := Int.add_mul_ediv_left _ _ (by omega)
      by_cases hlt : z < P
      · left
        rw [hz, div_zero h0 hlt, div_zero (by omega) (by omega)]
        exact ⟨rfl, rfl, rfl⟩
      · right
        rw [hz, div_one hp (by omega) h1, div_one (by omega) (by omega) (by omega)]
        exact ⟨rfl, rfl, rfl⟩
    obtain ⟨h1, h2, h3, h4⟩ := hin
    rcases key x h1 h2 with ⟨a1, a2, a3⟩ | ⟨a1, a2, a3⟩ <;> rcases key y h3 h4 with ⟨b1, b2, b3⟩ | ⟨b1, b2, b3⟩ <;> simp only [a1, a2, a3, b1, b2, b3] <;> decide
theorem grow_agree {e : Nat} {s : Int × Int} (hs : insideB e s = true) (c : Int × Int) : agreeB (e + 2) (inwardC (e + 1) s) c = true ↔ q7 e c = 3 - q7 (e + 1) c ∧ q7 e (inwardC e s) = q7 (e + 1) c ∧ Agree e (inwardC e s) c := by
  obtain ⟨h1, h2, h3⟩ := grow_bits hs
  rw [agree_iff, agree_succ, agree_succ, h1, h2]
  constructor
  · rintro ⟨a, b, d⟩
    exact ⟨by rw [← a]; exact b.symm, a, h3.symm.trans d⟩
  · rintro ⟨a, b, d⟩
    exact ⟨b, by rw [b]; exact a.symm, h3.trans d⟩
theorem growZ_yes {l : List Nd} {room : Int} {e n : Nat} {S : List (Int × Int)} (h : Sq l room e n S) (he : e + 1 ≤ 41) : growZ room l n = growC room l n e := by
  unfold growZ
  have h1 : ¬ (ndAt l (n : Int)).1 = 42 := by rw [ndAt_nat, h.is.lev]; omega
  rw [if_pos (by rw [h.has, decide_eq_true h1]; rfl), h.lev7, Int.toNat_natCast, Nat.add_sub_cancel]
theorem Sq.grow {l : List Nd} {room : Int} {e n : Nat} {S : List (Int × Int)} (h : Sq l room e n S) (he : e + 1 ≤ 41) {t : Nat} (hE : ∃ x, Emp l t x) (ht : t ≤ 42) (hroom : ((l.length + 5 + (max t e - t) : Nat) : Int) ≤ room) :
    ∃ (m : List Nd) (p : Nat), grow7 l room n = (m, (p : Int), 0) ∧ Grows l m ∧ Sq m room (e + 1) p S ∧ (∃ x, Emp m (max t e) x) ∧ m.length ≤ l.length + 5 + (max t e - t) := by
  have hr := h.right
  -- a dead node of the kids' level
  obtain ⟨l1, d, e1, g1, r1, em1, em1', len1⟩ : ∃ (l1 : List Nd) (d : Nat), emptyTo l room e = (l1, (d : Int), 0) ∧ Grows l l1 ∧ Right6 l1 room ∧ Emp l1 e d ∧ (∃ x, Emp l1 (max t e) x) ∧ l1.length ≤ l.length + (max t e - t) := by
    obtain ⟨x, hx⟩ := hE
    by_cases hte : e ≤ t
    · obtain ⟨d, hd⟩ := emp_below t x hx e hte
      exact ⟨l, d, empty_had hr e d (by omega) hd, Grows.refl l, hr, hd, ⟨x, by rw [Nat.max_eq_left hte]; exact hx⟩, by omega⟩
    · obtain ⟨m, n', e2, g, r, em, len⟩ := empty_from hr (i := t) (e := x) ht hx (e - t) (by omega) (by omega)
      rw [show t + (e - t) = e by omega] at e2 em
      exact ⟨m, n', e2, g, r, em, ⟨n', by rw [Nat.max_eq_right (by omega)]; exact em⟩, by omega⟩
  have hn1 := h.is.grows g1
  have hdis := emp_is r1 em1
  have hkd : ∀ i, i < 4 → kd (l.getD n deadN).2.1 i = ((kidN l n i : Nat) : Int) := fun i hi => kid_cast hr h.is hi
  obtain ⟨m, p, h', e3, R⟩ := four_res (room := room) (K := max t e) (l := l1) (h := max t e) (k := e + 1) (F := fun i l' => put6 l' room (growK (l.getD n deadN).2.1 (d : Int) i)) (A := fun i c => if q7 e c = 3 - i then Go.Proofs.Ytikgnjcjbjafaaa.alive l e (kidN l n i) c else false) (cost := fun _ => 1)
    (by omega) r1 (Nat.le_refl _) em1' (fun i hi l' h' g' r' lo hi' em' len' => by
      refine node_res (A := fun j c => if j = 3 - i then Go.Proofs.Ytikgnjcjbjafaaa.alive l e (kidN l n i) c else false) (by omega) r' hi' em' (fun j hj => ?_) (by
        have : ((List.range i).map fun _ => 1).sum ≤ 3 := by
          rcases (by omega : i = 0 ∨ i = 1 ∨ i = 2 ∨ i = 3) with rfl | rfl | rfl | rfl <;> decide
        omega)
      show ∃ n' : Nat, kd (kset ((d : Int), (d : Int), (d : Int), (d : Int)) (3 - i) (kd (l.getD n deadN).2.1 i)) j = (n' : Int) ∧ _
      rw [kd_kset _ _ (by omega) hj]
      by_cases hji : j = 3 - i
      · rw [if_pos hji]
        exact ⟨kidN l n i, hkd i hi, ((kid_is hr h.is hi).grows g1).grows g', fun c => by rw [if_pos hji, alive_grows hr (g1.trans g') c e _ (kid_is hr h.is hi)]⟩
      · rw [if_neg hji, kd_four _ j hj]
        exact ⟨d, rfl, hdis.grows g', fun c => by rw [if_neg hji]; exact emp_alive c e d (emp_grows g' _ _ em1)⟩) (by
      have : ((List.range 4).map fun _ => 1).sum = 4 := rfl
      omega)
  have hz : growC room l n e = (m, (p : Int), 0) := by
    unfold growC
    rw [e1, if_pos rfl]
    exact e3
  have hgr : grow7 l room n = (m, (p : Int), 0) := by
    unfold grow7 grown6
    rw [if_pos (right_iff.2 hr), growZ_yes h he, hz, if_pos rfl]
  have hh : h' = max t e := Nat.le_antisymm R.hi R.lo
  refine ⟨m, p, hgr, g1.trans R.grows, ⟨R.right, R.is, he, h.set, fun s hs => ?_, fun c => ?_⟩, by rw [← hh]; exact R.emp, ?_⟩
  · have := of_decide_eq_true (h.ins s hs)
    have e2 : (2 : Int) ^ (e + 1) = 2 ^ e * 2 := Int.pow_succ _ _
    have hp := pow_pos7 e
    unfold insideB
    rw [e2]
    generalize (2 : Int) ^ e = P at *
    exact decide_eq_true (by omega)
  · rw [R.alive c]
    have hq := q7_lt (e + 1) c
    obtain ⟨c', h1, h2, e4⟩ := kid_alive l e n hq c
    show (if q7 e c = 3 - q7 (e + 1) c then Go.Proofs.Ytikgnjcjbjafaaa.alive l e (kidN l n (q7 (e + 1) c)) c else false) = _
    rw [Bool.eq_iff_iff, List.any_eq_true]
    constructor
    · intro ha
      by_cases hqq : q7 e c = 3 - q7 (e + 1) c
      · rw [if_pos hqq, e4, h.alive c', List.any_eq_true] at ha
        obtain ⟨u, hu, hua⟩ := ha
        obtain ⟨s, hs, rfl⟩ := List.mem_map.1 hu
        obtain ⟨b1, b2⟩ := agree_succ.1 (agree_iff.1 hua)
        exact ⟨_, List.mem_map_of_mem hs, (grow_agree (h.ins s hs) c).2 ⟨hqq, b1.trans h1, b2.trans h2⟩⟩
      · rw [if_neg hqq] at ha
        cases ha
    · rintro ⟨u, hu, hua⟩
      obtain ⟨s, hs, rfl⟩ := List.mem_map.1 hu
      obtain ⟨b1, b2, b3⟩ := (grow_agree (h.ins s hs) c).1 hua
      rw [if_pos b1, e4, h.alive c', List.any_eq_true]
      exact ⟨_, List.mem_map_of_mem hs, agree_iff.2 (agree_succ.2 ⟨b2.trans h1.symm, b3.trans h2.symm⟩)⟩
  · have := R.len
    have hs : ((List.range 4).map fun _ : Nat => 1).sum = 4 := rfl
    omega
end Go.Proofs.Ytikgnjcjbjafaaa
