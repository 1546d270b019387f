/-
  CellsTells: sets, and what is made of them, are as the document says: the contracts, in the form that the walk wants.
-/
import Derived.Test.YtafoleafhkadiaaGd
import Derived.Test.YtafoleafhkadiaaGe
import Derived.Test.YtafoleafhkadiaaEf
import Derived.Test.YtafoleafhkadiaaLc
import Derived.Test.YtafoleafhkadiaaCq
import Derived.Test.YtafoleafhkadiaaCo
namespace Go.Proofs.Ytafoleafhkadiaa
open Go.RowKit Go.Sort

theorem of_give {A : Option Addr} {l m : List (Int × Int)} {n c : Nat} {k : Int} {w : World} (hr : ofR l = (k, m)) (hR : Now w A l) (hn : n = l.length) (hc : n ≤ c) (hl : n ≤ 300) :
    Calls Try.prog 14 #[.slice A n c] w (Gives w k m) := by
  subst hn
  refine (of_ans A l c w hR (by omega) hc).mono fun e w' h => ?_
  rw [hr] at h
  exact h.gives
theorem refOf_give {A : Option Addr} {l m : List (Int × Int)} {n c : Nat} {k : Int} {w : World} (hr : ofR l = (k, m)) (hR : Now w A l) (hn : n = l.length) (hc : n ≤ c) (hl : n ≤ 300) :
    Calls Try.prog 15 #[.slice A n c] w (Gives w k m) := by
  subst hn
  refine (refOf_any A l c w hR (by omega) hc).mono fun e w' h => ?_
  rw [hr] at h
  exact h.gives
theorem with_give {A : Option Addr} {l m : List (Int × Int)} {n c : Nat} {k x y : Int} {al : Bool} {w : World} (hr : withR l (x, y) al = (k, m)) (hR : Now w A l) (hn : n = l.length) (hc : n ≤ c) (hl : n ≤ 300) :
    Calls Try.prog 22 #[.slice A n c, .agg #[.int .i64 x, .int .i64 y], .bool al] w (Gives w k m) := by
  subst hn
  refine (with_ans A l c (x, y) al w hR hl hc).mono fun e w' h => ?_
  rw [hr] at h
  exact h.gives
theorem refWith_give {A : Option Addr} {l m : List (Int × Int)} {n c : Nat} {k x y : Int} {al : Bool} {w : World} (hr : withR l (x, y) al = (k, m)) (hR : Now w A l) (hn : n = l.length) (hc : n ≤ c) (hl : n ≤ 300) :
    Calls Try.prog 23 #[.slice A n c, .agg #[.int .i64 x, .int .i64 y], .bool al] w (Gives w k m) := by
  subst hn
  refine (refWith_any A l c (x, y) al w hR hl hc).mono fun e w' h => ?_
  rw [hr] at h
  exact h.gives
theorem shift_give {A : Option Addr} {l m : List (Int × Int)} {n c : Nat} {k dx dy : Int} {w : World} (hr : shiftR l dx dy = (k, m)) (hR : Now w A l) (hn : n = l.length) (hc : n ≤ c) (hl : n ≤ 300) (hdx : I64 dx) (hdy : I64 dy) :
    Calls Try.prog 26 #[.slice A n c, .int .i64 dx, .int .i64 dy] w (Gives w k m) := by
  subst hn
  refine (shift_ans A l c dx dy w hR hl hc hdx hdy).mono fun e w' h => ?_
  rw [hr] at h
  exact h.gives
theorem refShift_give {A : Option Addr} {l m : List (Int × Int)} {n c : Nat} {k dx dy : Int} {w : World} (hr : shiftR l dx dy = (k, m)) (hR : Now w A l) (hn : n = l.length) (hc : n ≤ c) (hl : n ≤ 300) (hdx : I64 dx) (hdy : I64 dy) :
    Calls Try.prog 27 #[.slice A n c, .int .i64 dx, .int .i64 dy] w (Gives w k m) := by
  subst hn
  refine (refShift_any A l c dx dy w hR (by omega) hc hdx hdy).mono fun e w' h => ?_
  rw [hr] at h
  exact h.gives
theorem shiftR_len1 (l : List (Int × Int)) (dx dy : Int) (h : l.length ≤ 2000) : (shiftR l dx dy).2.length ≤ 2000 := by
  unfold shiftR
  split
  · split
    · rw [length_shL]; exact h
    · exact Nat.zero_le _
  · exact Nat.zero_le _
theorem twoCell1 : TwoInts Try.prog 25 := two_struct Try.underlying25 rfl rfl Try.underlying3 (by kernel_rfl) (by kernel_rfl)
theorem right_give {A : Option Addr} {l : List (Int × Int)} {n c : Nat} {r : Bool} {w : World} (hr : rightB l = r) (hR : Now w A l) (hn : n = l.length) (hc : n ≤ c) (hl : n ≤ 300) :
    Calls Try.prog 17 #[.slice A n c] w fun e w' => e = .returned (.bool r) ∧ Below w.heap.size w w' := by
  subst hn hr
  exact right_any A l c w hR (by omega) hc
theorem refRight_give {A : Option Addr} {l : List (Int × Int)} {n c : Nat} {r : Bool} {w : World} (hr : rightB l = r) (hR : Now w A l) (hn : n = l.length) (hc : n ≤ c) (hl : n ≤ 300) :
    Calls Try.prog 18 #[.slice A n c] w fun e w' => e = .returned (.bool r) ∧ Below w.heap.size w w' := by
  subst hn hr
  exact refRight_any A l c w hR (by omega) hc
theorem has_give {A : Option Addr} {l : List (Int × Int)} {n c : Nat} {x y : Int} {r : Bool} {w : World} (hr : hasB l (x, y) = r) (hR : Now w A l) (hn : n = l.length) (hc : n ≤ c) (hl : n ≤ 300) :
    Calls Try.prog 24 #[.slice A n c, .agg #[.int .i64 x, .int .i64 y]] w fun e w' => e = .returned (.bool r) ∧ Below w.heap.size w w' := by
  subst hn hr
  exact has_any A l c (x, y) w hR (by omega) hc
theorem refHas_give {A : Option Addr} {l : List (Int × Int)} {n c : Nat} {x y : Int} {r : Bool} {w : World} (hr : hasB l (x, y) = r) (hR : Now w A l) (hn : n = l.length) (hc : n ≤ c) (hl : n ≤ 300) :
    Calls Try.prog 25 #[.slice A n c, .agg #[.int .i64 x, .int .i64 y]] w fun e w' => e = .returned (.bool r) ∧ Below w.heap.size w w' := by
  subst hn hr
  exact refHas_any A l c (x, y) w hR (by omega) hc

theorem withR_len (l : List (Int × Int)) (q : Int × Int) (al : Bool) (h : l.length ≤ 300) : (withR l q al).2.length ≤ 301 := by
  unfold withR
  split
  · split
    · cases al
      · have : (outL q l).length ≤ l.length := List.length_filter_le _ _
        simp only [Bool.false_eq_true, if_false]
        omega
      · have := length_putL_le q l
        simp only [if_true]
        omega
    · exact Nat.zero_le _
  · exact Nat.zero_le _

/-- what Box answers -/
def boxA (l : List (Int × Int)) : Value × Bool := if 0 < l.length ∧ rightB l = true then (boxV l, true) else (noBox, false)
theorem boxA_form (l : List (Int × Int)) : ∃ (x y a b : Int) (r : Bool), boxA l = (.agg #[.int .i64 x, .int .i64 y, .int .i64 a, .int .i64 b], r) := by
  unfold boxA
  split
  · exact ⟨_, _, _, _, _, rfl⟩
  · exact ⟨_, _, _, _, _, rfl⟩
theorem box_give {A : Option Addr} {l : List (Int × Int)} {n c : Nat} {v : Value} {r : Bool} {w : World} (hr : boxA l = (v, r)) (hR : Now w A l) (hn : n = l.length) (hc : n ≤ c) (hl : n ≤ 300) :
    Calls Try.prog 19 #[.slice A n c] w fun e w' => e = .returned (.tuple #[v, .bool r]) ∧ Below w.heap.size w w' := by
  subst hn
  unfold boxA at hr
  by_cases h0 : 0 < l.length
  · cases hb : rightB l
    · rw [if_neg (by rw [hb]; simp)] at hr
      cases hr
      exact box_bad A l c w hR (by omega) hc h0 hb
    · rw [if_pos ⟨h0, hb⟩] at hr
      cases hr
      exact box_any A l c w hR (by omega) hc h0 hb ((rightB_iff l).1 hb).2.1
  · rw [if_neg (fun h => h0 h.1)] at hr
    cases hr
    have : l.length = 0 := by omega
    rw [this]
    exact box_nil A c w
theorem refBox_give {A : Option Addr} {l : List (Int × Int)} {n c : Nat} {v : Value} {r : Bool} {w : World} (hr : boxA l = (v, r)) (hR : Now w A l) (hn : n = l.length) (hc : n ≤ c) (hl : n ≤ 300) :
    Calls Try.prog 20 #[.slice A n c] w fun e w' => e = .returned (.tuple #[v, .bool r]) ∧ Below w.heap.size w w' := by
  subst hn
  unfold boxA at hr
  by_cases h0 : 0 < l.length
  · cases hb : rightB l
    · rw [if_neg (by rw [hb]; simp)] at hr
      cases hr
      exact refBox_bad A l c w hR (by omega) hc h0 hb
    · rw [if_pos ⟨h0, hb⟩] at hr
      cases hr
      exact refBox_any A l c w hR hc h0 hb
  · rw [if_neg (fun h => h0 h.1)] at hr
    cases hr
    have : l.length = 0 := by omega
    rw [this]
    exact refBox_nil A c w

/-- one of the lists that the law goes through -/
def Item3 (B k : Nat) (w : World) : Prop := ∃ (A : Option Addr) (l : List (Int × Int)) (n c : Nat), w.cell? ⟨B, k, none⟩ = some (.slice A n c) ∧ n = l.length ∧ n ≤ c ∧ n ≤ 300 ∧ Now w A l
theorem Item3.below {B k : Nat} {w w' : World} (h : Item3 B k w) (hb : Below w.heap.size w w') : Item3 B k w' := by
  obtain ⟨A, l, n, c, h1, h2, h3, h4, h5⟩ := h
  exact ⟨A, l, n, c, Qt.keep hb h1, h2, h3, h4, h5.below hb⟩
theorem item3_two {w : World} {T : Nat} {A0 A1 : Option Addr} {n0 n1 c0 c1 : Nat} {l0 l1 : List (Int × Int)} (h0 : n0 = l0.length ∧ n0 ≤ c0 ∧ n0 ≤ 300 ∧ Now w A0 l0) (h1 : n1 = l1.length ∧ n1 ≤ c1 ∧ n1 ≤ 300 ∧ Now w A1 l1) :
    ∀ k, k < 2 → Item3 w.heap.size k (w.alloc (.cells #[.slice A0 n0 c0, .slice A1 n1 c1] T)) := fun k hk => by
  have hb : Below w.heap.size w (w.alloc (.cells #[.slice A0 n0 c0, .slice A1 n1 c1] T)) := (Below.refl _ w).alloc (Nat.le_refl _) _
  have hw := Whole.new w T #[.slice A0 n0 c0, .slice A1 n1 c1]
  have : k = 0 ∨ k = 1 := by omega
  rcases this with rfl | rfl
  · exact ⟨A0, l0, n0, c0, hw.cell 0, h0.1, h0.2.1, h0.2.2.1, h0.2.2.2.below hb⟩
  · exact ⟨A1, l1, n1, c1, hw.cell 1, h1.1, h1.2.1, h1.2.2.1, h1.2.2.2.below hb⟩
theorem Now.cell_at {w : World} {g : Nat} {l : List (Int × Int)} (h : Now w (some ⟨g, 0, none⟩) l) {j : Nat} (hj : j < l.length) :
    w.cell? ⟨g, j * 2, none⟩ = some (.int .i64 (l.getD j (0, 0)).1) ∧ w.cell? ⟨g, j * 2 + 1, none⟩ = some (.int .i64 (l.getD j (0, 0)).2) := by
  obtain ⟨b, off, e, h0, h1⟩ := h.el hj
  simp only [Option.some.injEq, Addr.mk.injEq, and_true] at e
  obtain ⟨rfl, rfl⟩ := e
  rw [Nat.zero_add] at h0 h1
  exact ⟨h0, h1⟩
theorem pick1_i64 (c n : Int) (hn : 1 ≤ n) (hn2 : n ≤ 9223372036854775807) : I64 (pickI c n) := by have := pickI_bd c n hn; exact ⟨by omega, by omega⟩

end Go.Proofs.Ytafoleafhkadiaa
