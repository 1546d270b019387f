/-
  Texts that the claims of this seat share, part 28.
-/
import Derived.Test.YtklccoodfhejbaaB21
import Derived.Test.YtklccoodfhejbaaB18
import Derived.Test.YtklccoodfhejbaaB16
import Derived.Test.YtklccoodfhejbaaB24
import Derived.Test.YtklccoodfhejbaaB27
import Derived.Test.YtklccoodfhejbaaB22
import Derived.Laws.ResultCell
import Derived.BigRegion
import Derived.Test.YtklccoodfhejbaaB13
import Derived.Test.YtklccoodfhejbaaB23
import Derived.Lib.AppendZerosOnto
import Derived.Laws.CopyRow
import Derived.Test.YtklccoodfhejbaaB01
import Derived.Test.YtklccoodfhejbaaB10
set_option linter.unusedVariables false
set_option linter.unusedSimpArgs false
namespace Go.Proofs.Ytklccoodfhejbaa
set_option maxRecDepth 100000
set_option linter.unusedVariables false
set_option linter.unusedSimpArgs false

theorem grown_far (room : Int) (jn : Nat) : ∀ (d t e n : Nat) (l : List Nd) (F : Pic), Sw l room e n F → e + 1 + d = 42 → 42 < jn + 3 →
    ((grownN room jn d t l n).2.2 = 40 ∧ room < ((l.length + d * 46 : Nat) : Int)) ∨ (grownN room jn d t l n).2.2 = 2
  | 0, t, e, n, l, F, h, hd, hj => by
    right
    rw [show grownN room jn 0 t l n = (l, 0, 2) from if_pos (.inr (by omega))]
  | d + 1, t, e, n, l, F, h, hd, hj => by
    have hg : grownN room jn (d + 1) t l n = andZ (growZ room l (n : Int)) (fun m p => grownN room jn d (t + 1) m p.toNat) := if_pos (.inr (by omega))
    rw [hg]
    rcases (h.grow (by omega)).s with ⟨h1, h2⟩ | ⟨m, p, e0, g, r, len, q⟩
    · left
      rw [and_no (by rw [h1]; decide)]
      exact ⟨h1, by omega⟩
    · rw [show growZ room l (n : Int) = (m, (p : Int), 0) from e0, and_yes rfl]
      simp only [Int.toNat_natCast]
      rcases grown_far room jn d (t + 1) (e + 1) p m F q (by omega) hj with ⟨h1, h2⟩ | h1
      · exact .inl ⟨h1, by omega⟩
      · exact .inr h1
def gl9 : List (Int × Int) := [(0, 0), (1, 1), (-1, 2), (0, 2), (1, 2)]
def gl94 : List (Int × Int) := [(1, 1), (2, 2), (0, 3), (1, 3), (2, 3)]
theorem gl_run : Cel.iterL 4 gl9 = gl94 := by decide +kernel
theorem gl_right : Cel.rightB gl9 = true := by decide +kernel
theorem gl_right4 : Cel.rightB gl94 = true := by decide +kernel
theorem gl_rises : Cel.Rises gl9 := ((Cel.rightB_iff _).1 gl_right).2.2
theorem gl_pic : runF 4 (picL gl9) = picL gl94 := by rw [run_pic 4 gl_rises, gl_run]
theorem gl_in : ¬ InP (2 ^ 1) (picL gl9) := fun h => by
  have := h (-1) 2 (by decide)
  exact absurd this (by decide)
theorem gl_in2 : InP (2 ^ 2) (picL gl9) := fun a b hn => decide_eq_false fun hm => by
  simp only [gl9, List.mem_cons, List.not_mem_nil, or_false, Prod.mk.injEq] at hm
  omega
theorem new_right9 : Right6 new6 9000 := right_iff.1 (by decide +kernel)
theorem aw9_make : ∃ (l : List Nd) (n : Nat), make7 new6 9000 gl9 4 = (l, (n : Int), 0) ∧ Sq l 9000 3 n gl9 ∧ l.length ≤ 26 := by
  obtain ⟨m, n, h1, _, h2, h3⟩ := make_ok (e := 3) new_right9 (by decide) gl_right (by decide +kernel) (by decide)
  exact ⟨m, n, h1, h2, h3⟩
section
variable {l : List Nd} {n : Nat}
theorem aw9_lev (h : Sq l 9000 3 n gl9) : levI l (n : Int) = 4 := lev_at (k := 4) h.is
theorem aw9_ok (h : Sq l 9000 3 n gl9) (z : Zn) : grownL l 9000 (n : Int) z = if z.2.2 = 0 then z else (l, 0, z.2.2) := by
  unfold grownL
  rw [if_pos (by rw [right_iff.2 h.right, aw9_lev h]; rfl)]
theorem gl_lev {e1 : Nat} (h1 : e1 ≤ 2) (h2 : e1 = 0 ∨ ¬ InP (2 ^ e1) (picL gl9)) : e1 ≤ 1 := by
  rcases (by omega : e1 ≤ 1 ∨ e1 = 2) with h | rfl
  · exact h
  · rcases h2 with h | h
    · omega
    · exact absurd gl_in2 h
theorem aw9_run (h : Sq l 9000 3 n gl9) (hl : l.length ≤ 26) : ∃ (m : List Nd) (p e' : Nat), run9 l 9000 (n : Int) 4 = (m, (p : Int), 0) ∧ Sq m 9000 (e' + 1) p gl94 := by
  have hb : Nq.bitsL 4 = [2] := by decide +kernel
  have hz : runZ 9000 l (n : Int) 4 = runTo 9000 [2] l (n : Int) := by unfold runZ; rw [if_pos (by decide), hb]
  have e0 : runTo 9000 [2] l (n : Int) = andZ (andZ (trimZ 9000 l (n : Int)) fun l1 n1 => andZ (grownZ 9000 2 l1 n1) fun l2 n2 => leapAtZ 9000 2 l2 n2) (fun l3 n3 => trimZ 9000 l3 n3) := by
    rw [← and_assoc9]
    show andZ _ _ = _
    congr 1
    funext l1 n1
    rw [← and_assoc9]
    rfl
  have hb := bit_done (e := 2) (jn := 2) (C := 4759) h.whole (by decide) (by decide) (fun e1 x h1 h2 hx => by
    have := gl_lev h1 h2
    have hx3 : x ≤ 3 := by omega
    rcases (by omega : x = 0 ∨ x = 1 ∨ x = 2 ∨ x = 3) with rfl | rfl | rfl | rfl <;> decide)
  have hr := hb.and (f := fun l3 n3 => trimZ 9000 l3 n3) (M := 3) (Q' := fun m p => ∃ e', Sw m 9000 (e' + 1) p (runF (2 ^ 2) (picL gl9))) (fun m p g r ⟨e', h1, h2⟩ => by
    rw [trimZ_is h2.sf.is]
    exact (trim_done 9000 e' p m _ h2 (by omega)).mono (by omega) fun m' p' _ _ ⟨e2, _, h3, _⟩ => ⟨e2, h3⟩)
  rcases hr with ⟨h1, h2⟩ | ⟨m, p, e1, g, r, len, e', hq⟩
  · exfalso
    omega
  · refine ⟨m, p, e', ?_, ?_⟩
    · unfold run9
      rw [aw9_ok h, hz, e0, e1, if_pos rfl]
    · rw [show (2 ^ 2 : Nat) = 4 from rfl, gl_pic] at hq
      exact hq.sq gl_right4
theorem aw9_leap (h : Sq l 9000 3 n gl9) (hl : l.length ≤ 26) : ∃ (m : List Nd) (p : Nat), leap9 l 9000 (n : Int) 2 = (m, (p : Int), 0) ∧ Sq m 9000 2 p gl94 := by
  have hz : leapZ 9000 l (n : Int) 2 = leapN 9000 2 2 l (n : Int) := by
    unfold leapZ
    rw [aw9_lev h, if_pos (by decide)]
    rfl
  rcases (leap_done 9000 2 2 n l (picL gl9) h.whole.sf (by decide)).s with ⟨h1, h2⟩ | ⟨m, p, e1, g, r, len, hq⟩
  · exfalso
    have : costN 2 ≤ 4759 := by decide
    omega
  · refine ⟨m, p, ?_, ?_⟩
    · unfold leap9
      rw [aw9_ok h, hz, show leapN 9000 2 2 l (n : Int) = _ from e1, if_pos rfl]
    · rw [show (2 ^ 2 : Nat) = 4 from rfl, gl_pic] at hq
      exact hq.sq gl_right4 (by decide +kernel) fun c _ => decide_eq_true_iff
theorem aw9_trim (h : Sq l 9000 3 n gl9) (hl : l.length ≤ 26) : ∃ (m : List Nd) (p : Nat), trim9 l 9000 (n : Int) = (m, (p : Int), 0) ∧ Right6 m 9000 ∧ Is m 3 p := by
  have hz : trimZ 9000 l (n : Int) = trimN 9000 2 l n := trimZ_is h.is
  rcases trim_done 9000 2 n l (picL gl9) h.whole (by decide) with ⟨h1, h2⟩ | ⟨m, p, e1, g, r, len, e', h3, h4, h5⟩
  · exfalso; omega
  · refine ⟨m, p, ?_, r, ?_⟩
    · unfold trim9
      rw [aw9_ok h, hz, e1, if_pos rfl]
    · have h6 : e' = 0 ∨ ¬ InP (2 ^ e') (picL gl9) := h5.imp id fun hd hp => hd (h4.sf.ringed fun c _ hc => by
        obtain ⟨a, b⟩ := c
        exact hp a b fun hn => by rw [in_iff.2 hn] at hc; cases hc)
      have h7 := gl_lev h3 h6
      rcases (by omega : e' = 0 ∨ e' = 1) with rfl | rfl
      · exact absurd h4.inp gl_in
      · exact h4.sf.is
theorem aw9_no (h : Sq l 9000 3 n gl9) : leap9 l 9000 (n : Int) 3 = (l, 0, 1) := by
  have hz : leapZ 9000 l (n : Int) 3 = (l, 0, 1) := by
    unfold leapZ
    rw [aw9_lev h, if_neg (by decide)]
  unfold leap9
  rw [aw9_ok h, hz, if_neg (show ¬ (1 : Int) = 0 by decide)]
theorem aw9_far (h : Sq l 9000 3 n gl9) (hl : l.length ≤ 26) : run9 l 9000 (n : Int) 2305843009213693952 = (l, 0, 2) := by
  have hb : Nq.bitsL 2305843009213693952 = [61] := by decide +kernel
  have hz : runZ 9000 l (n : Int) 2305843009213693952 = runTo 9000 [61] l (n : Int) := by unfold runZ; rw [if_pos (by decide), hb]
  have h2 : (runTo 9000 [61] l (n : Int)).2.2 = 2 := by
    show (andZ (trimZ 9000 l (n : Int)) _).2.2 = 2
    rw [trimZ_is h.is]
    rcases trim_done 9000 2 n l (picL gl9) h.whole (by decide) with ⟨h1, h2⟩ | ⟨m, p, e1, g, r, len, e', h3, h4, h5⟩
    · exfalso; omega
    · rw [e1, and_yes rfl]
      show (andZ (grownZ 9000 61 m (p : Int)) _).2.2 = 2
      rw [grownZ_is (d := 40 - e') h4.sf.is (by omega)]
      rcases grown_far 9000 61 (40 - e') 0 (e' + 1) p m _ h4 (by omega) (by decide) with ⟨h6, h7⟩ | h6
      · exfalso; omega
      · rw [and_no (by rw [h6]; decide)]
        exact h6
  unfold run9
  rw [aw9_ok h, hz, if_neg (by rw [h2]; decide), h2]
end
end Go.Proofs.Ytklccoodfhejbaa
namespace Go.Proofs.Ytklccoodfhejbaa.Cel
open Go.RowKit Go.Sort

/-- a block that is known whole -/
def Whole (w : World) (g T : Nat) (cs : Array Value) : Prop := w.heap[g]? = some (.cells cs T (0, 0))
section
variable {w w' : World} {g T : Nat} {cs : Array Value}
theorem Whole.lt (h : Whole w g T cs) : g < w.heap.size := by
  rcases Nat.lt_or_ge g w.heap.size with h' | h'
  · exact h'
  · unfold Whole at h; rw [Array.getElem?_eq_none h'] at h; cases h
theorem Whole.below (h : Whole w g T cs) (hb : Below w.heap.size w w') : Whole w' g T cs := (hb.block g h.lt).trans h
theorem Whole.cell (h : Whole w g T cs) (i : Nat) : w.cell? ⟨g, i, none⟩ = cs[i]? := cell_of_row w g i cs T (0, 0) h
theorem Whole.free (h : Whole w g T cs) (i : Nat) : w.frozen? ⟨g, i, none⟩ = false := frozen_of_row w g i cs T h
theorem Whole.new (w : World) (T : Nat) (cs : Array Value) : Whole (w.alloc (.cells cs T)) w.heap.size T cs := heap_alloc_new w _
end

/-- a Box's block: its cells, none frozen -/
theorem Whole.four {w : World} {g T : Nat} {a b c d : Value} (h : Whole w g T #[a, b, c, d]) :
    w.cell? ⟨g, 0, none⟩ = some a ∧ w.cell? ⟨g, 1, none⟩ = some b ∧ w.cell? ⟨g, 2, none⟩ = some c ∧ w.cell? ⟨g, 3, none⟩ = some d ∧
    w.frozen? ⟨g, 0, none⟩ = false ∧ w.frozen? ⟨g, 1, none⟩ = false ∧ w.frozen? ⟨g, 2, none⟩ = false ∧ w.frozen? ⟨g, 3, none⟩ = false :=
  ⟨h.cell 0, h.cell 1, h.cell 2, h.cell 3, h.free 0, h.free 1, h.free 2, h.free 3⟩

end Go.Proofs.Ytklccoodfhejbaa.Cel
namespace Go.Proofs.Ytklccoodfhejbaa.Cel
open Go.RowKit Go.Sort

/-! ### what the box is about -/
theorem Whole.far {w : World} {g T : Nat} {cs : Array Value} (h : Whole w g T cs) {p : Addr} (hp : g ≠ p.block) (u : Value) : Whole (w.setCell p u) g T cs := (Below.heap_setCell w p u g hp).trans h
end Go.Proofs.Ytklccoodfhejbaa.Cel
namespace Go.Proofs.Ytklccoodfhejbaa.Cel
open Go.RowKit Go.Sort

theorem rises_shL (x y : Int) {l : List (Int × Int)} (h : Rises l) : Rises (shL x y l) := by
  unfold shL Rises
  rw [List.pairwise_map]
  refine List.Pairwise.imp ?_ h
  intro p q hpq
  rw [lessB_iff] at *
  simp only
  omega
/-- A set near the middle. -/
def Near (l : List (Int × Int)) : Prop := l.length ≤ 60 ∧ Rises l ∧ ∀ p ∈ l, -8 ≤ p.1 ∧ p.1 ≤ 7 ∧ -8 ≤ p.2 ∧ p.2 ≤ 7
def Far (x : Int) : Prop := -1099511627000 ≤ x ∧ x ≤ 1099511627000
theorem Near.far {l : List (Int × Int)} (h : Near l) {x y : Int} (hx : Far x) (hy : Far y) : rightB (shL x y l) = true := by
  unfold Far at hx hy
  refine (rightB_iff _).2 ⟨?_, fun c hc => ?_, rises_shL x y h.2.1⟩
  · rw [length_shL]; exact Nat.le_trans h.1 (by decide)
  · obtain ⟨p, hp, rfl⟩ := List.mem_map.1 hc
    have := h.2.2 p hp
    rw [inB_iff]
    simp only
    omega
theorem Near.right {l : List (Int × Int)} (h : Near l) : rightB l = true := by
  have := h.far (x := 0) (y := 0) ⟨by decide, by decide⟩ ⟨by decide, by decide⟩
  have e : shL 0 0 l = l := by
    unfold shL
    conv => rhs; rw [← List.map_id l]
    refine List.map_congr_left fun c _ => ?_
    simp
  rwa [e] at this
/-- A slice whose cells read as a list, now. -/
def Now (w : World) (A : Option Addr) (l : List (Int × Int)) : Prop := Rd w w.heap.size A l
theorem Now.below {w w' : World} {A : Option Addr} {l : List (Int × Int)} (h : Now w A l) (hb : Below w.heap.size w w') : Now w' A l := (Rd.below h hb (Nat.le_refl _)).more hb.size

end Go.Proofs.Ytklccoodfhejbaa.Cel
namespace Go.Proofs.Ytklccoodfhejbaa.Cel
open Go.RowKit Go.Sort

/-- .. what comes out of it, as a list at a place of its own -/
def Fresh (w : World) (l : List (Int × Int)) (e : Ending) (w' : World) : Prop :=
  ∃ g, e = .returned (.tuple #[.slice (some ⟨g, 0, none⟩) l.length l.length, .int .i64 0]) ∧ Row w' w.heap.size 48 g l.length l.length l ∧ Below w.heap.size w w'

end Go.Proofs.Ytklccoodfhejbaa.Cel
namespace Go.Proofs.Ytklccoodfhejbaa.Cel
open Go.RowKit Go.Sort

theorem Fresh.now {w w' : World} {l : List (Int × Int)} {e : Ending} (h : Fresh w l e w') : ∃ g, e = .returned (.tuple #[.slice (some ⟨g, 0, none⟩) l.length l.length, .int .i64 0]) ∧ Hid (Now w' (some ⟨g, 0, none⟩) l) ∧ Below w.heap.size w w' := by
  obtain ⟨g, he, hr, hb⟩ := h
  exact ⟨g, he, hr.rd, hb⟩

end Go.Proofs.Ytklccoodfhejbaa.Cel
namespace Go.Proofs.Ytklccoodfhejbaa.Cel
open Go.RowKit Go.Sort

theorem append_none {w : World} {B : Nat} {v : Value} {out : List (Int × Int)} (c : Nat) (ho : Own w B 48 v out) :
    (Builtin.append_ #[42, 42] 42 #[v, .slice none 0 c]).run Try.prog w = .ok v w := by
  obtain ⟨i0, hi, hz0, hz1, hz2⟩ := info_parts infoCell
  rcases ho.2 with ⟨rfl, _⟩ | ⟨g, cap, cur, rfl, _, _, hnc, _⟩
  · simp [Builtin.append_, run_underlying Try.underlying42, sizeOf, typeInfo, hi, Builtin.lenOf, Builtin.firstCells]
  · simp [Builtin.append_, run_underlying Try.underlying42, sizeOf, typeInfo, hi, Builtin.lenOf, Builtin.firstCells, storeCells, hnc]

theorem fl_at {w : World} {b off : Nat} {m : List (Int × Int)} (h : ∀ j, j < m.length → w.cell? ⟨b, off + j * 2, none⟩ = some (.int .i64 (m.getD j (0, 0)).1) ∧ w.cell? ⟨b, off + j * 2 + 1, none⟩ = some (.int .i64 (m.getD j (0, 0)).2)) :
    ∀ j u, (fl m)[j]? = some u → w.cell? ((⟨b, off, none⟩ : Addr).add j) = some u := by
  intro j u hu
  rw [Addr.add_lit]
  have hj : j < m.length * 2 := by
    rcases Nat.lt_or_ge j (m.length * 2) with h1 | h1
    · exact h1
    · rw [List.getElem?_eq_none (by rw [length_fl]; exact h1)] at hu; cases hu
  obtain ⟨h0, h1⟩ := h (j / 2) (by omega)
  obtain ⟨f0, f1⟩ := fl_get m (j / 2) (by omega)
  by_cases hp : j % 2 = 0
  · have e : j = j / 2 * 2 := by omega
    rw [e] at hu ⊢
    rw [f0] at hu
    rw [← hu]
    exact h0
  · have e : j = j / 2 * 2 + 1 := by omega
    rw [e] at hu ⊢
    rw [f1] at hu
    rw [← hu, ← Nat.add_assoc]
    exact h1

theorem app_any {w : World} {B : Nat} {v : Value} {out m : List (Int × Int)} {A : Option Addr} (c : Nat) (hB : B ≤ w.heap.size) (ho : Own w B 48 v out) (hm : Now w A m) (hl : out.length + m.length ≤ 1000000) :
    ∃ v' w', (Builtin.append_ #[42, 42] 42 #[v, .slice A m.length c]).run Try.prog w = .ok v' w' ∧ Own w' B 48 v' (out ++ m) ∧ w.grownBy w' v.ownBlock := by
  obtain ⟨i0, hi, hz0, hz1, hz2⟩ := info_parts infoCell
  rcases Nat.eq_zero_or_pos m.length with h0 | h0
  · obtain rfl : m = [] := List.eq_nil_of_length_eq_zero h0
    cases A with
    | none => exact ⟨v, w, append_none c ho, by rw [List.append_nil]; exact ho, ⟨rfl, rfl, rfl, Nat.le_refl _, fun _ _ _ => rfl⟩⟩
    | some a =>
      obtain ⟨v', w', hr, h2, h3, _⟩ := run_append_own (P := Try.prog) (w := w) B 42 42 48 i0 (.agg #[.int .i64 0, .int .i64 0]) 2 16 Try.underlying42 hi hz0 hz1 hz2 rfl (by decide) v out.length (fl out) ho a 0 c [] rfl (fun j u h => by simp at h) (fun u h => by cases h) (by unfold maxLen; omega) (by omega) hB
      exact ⟨v', w', hr, by rw [List.append_nil] at h2 ⊢; exact h2, h3⟩
  · obtain ⟨b, off, rfl, _, hcell⟩ := Rd.at_ hm h0
    obtain ⟨v', w', hr, h2, h3, _⟩ := run_append_own (P := Try.prog) (w := w) B 42 42 48 i0 (.agg #[.int .i64 0, .int .i64 0]) 2 16 Try.underlying42 hi hz0 hz1 hz2 rfl (by decide) v out.length (fl out) ho ⟨b, off, none⟩ m.length c (fl m) (length_fl m) (fl_at hcell) (fl_cell1 m) (by unfold maxLen; omega) (by omega) hB
    refine ⟨v', w', hr, ?_, h3⟩
    unfold Own
    rw [fl_append, List.length_append]
    exact h2

theorem Now.drop {w : World} {b off : Nat} {l : List (Int × Int)} (h : Now w (some ⟨b, off, none⟩) l) {t : Nat} (ht : t < l.length) : Now w (some ⟨b, off + t * 2, none⟩) (l.drop t) := by
  intro j hj
  rw [List.length_drop] at hj
  obtain ⟨b', off', e, hlt, h0, h1⟩ := h (t + j) (by omega)
  simp only [Option.some.injEq, Addr.mk.injEq, and_true] at e
  obtain ⟨rfl, rfl⟩ := e
  have hg : (l.drop t).getD j (0, 0) = l.getD (t + j) (0, 0) := by rw [List.getD_eq_getElem?_getD, List.getD_eq_getElem?_getD, List.getElem?_drop]
  refine ⟨_, _, rfl, hlt, ?_, ?_⟩
  · rw [hg, ← h0]; congr 2; omega
  · rw [hg, ← h1]; congr 2; omega
theorem Now.take {w : World} {A : Option Addr} {l : List (Int × Int)} (h : Now w A l) (t : Nat) : Now w A (l.take t) := by
  intro j hj
  rw [List.length_take] at hj
  have hg : (l.take t).getD j (0, 0) = l.getD j (0, 0) := by rw [List.getD_eq_getElem?_getD, List.getD_eq_getElem?_getD, List.getElem?_take, if_pos (by omega)]
  rw [hg]
  exact h j (by omega)

/-! ### what the sets are -/
end Go.Proofs.Ytklccoodfhejbaa.Cel
namespace Go.Proofs.Ytklccoodfhejbaa
set_option maxRecDepth 100000
set_option linter.unusedVariables false
set_option linter.unusedSimpArgs false
open Go.RowKit Go.Sort

/-- What Flat and Of answer. -/
def FlR (L : List (Int × Int)) (w : World) (r : Ending) (w' : World) : Prop := ∃ A c, r = .returned (.slice A L.length c) ∧ L.length ≤ c ∧ RdC w' w'.heap.size A L ∧ Below w.heap.size w w'
/-- What is known in Flat: the boxes of the store, the place and the node. -/
structure FlAt (w wr : World) (A : Option Addr) (n c : Nat) (room : Int) (p : Int × Int) (lev : Int) (kk : Kd) (pp : Int) : Prop where
  st : wr.heap[w.heap.size]? = some (.cells #[.slice A n c, .int .i64 room] 26 (0, 0))
  cl : ClB wr (w.heap.size + 1) p
  nd : NR wr (w.heap.size + 2) lev kk pp
  bel : Below w.heap.size w wr
  sz : w.heap.size + 3 ≤ wr.heap.size
section
variable {w wr w' : World} {A : Option Addr} {n c : Nat} {room : Int} {p : Int × Int} {lev : Int} {kk : Kd} {pp : Int}
theorem FlAt.next (h : FlAt w wr A n c room p lev kk pp) (hb : Below (w.heap.size + 3) wr w') : FlAt w w' A n c room p lev kk pp :=
  ⟨(hb.block _ (by omega)).trans h.st, ⟨(hb.block _ (by omega)).trans h.cl.row⟩, (hb.block _ (by omega)).trans h.nd, ⟨hb.os.trans h.bel.os, hb.tape.trans h.bel.tape, hb.output.trans h.bel.output, Nat.le_trans h.bel.size hb.size, fun k hk => (hb.block k (by omega)).trans (h.bel.block k hk)⟩, Nat.le_trans h.sz hb.size⟩
theorem FlAt.s0 (h : FlAt w wr A n c room p lev kk pp) : wr.cell? ⟨w.heap.size, 0, none⟩ = some (.slice A n c) := by rw [Lib.cell_of_heap h.st]; rfl
theorem FlAt.s1 (h : FlAt w wr A n c room p lev kk pp) : wr.cell? ⟨w.heap.size, 1, none⟩ = some (.int .i64 room) := by rw [Lib.cell_of_heap h.st]; rfl
end
theorem flR_nil {w w' : World} (hb : Below w.heap.size w w') : FlR [] w (.returned (.slice none 0 0)) w' := ⟨none, 0, rfl, Nat.le_refl _, Cel.Rd.nil _ _ _, hb⟩
theorem flR_one {W : World} {b : Nat} {p : Int × Int} (hb : W.heap.size = b) : RdC (W.alloc (.cells #[.int .i64 p.1, .int .i64 p.2] 48)) (W.alloc (.cells #[.int .i64 p.1, .int .i64 p.2] 48)).heap.size (some ⟨b, 0, none⟩) [p] := fun j hj => by
  subst hb
  have h := heap_alloc_new W (.cells #[.int .i64 p.1, .int .i64 p.2] 48 (0, 0))
  obtain rfl : j = 0 := by simp at hj; omega
  exact ⟨_, _, rfl, by simp, by rw [Lib.cell_of_heap h]; rfl, by rw [Lib.cell_of_heap h]; rfl⟩
/-- what Flat answers, at a level -/
def FlatAt (l : List Nd) (room0 : Int) (k : Nat) : Prop := ∀ (A : Option Addr) (c : Nat) (room : Int) (n : Nat) (p : Int × Int) (w : World), Is l k n → RdN w w.heap.size A l → (flat l k n p).length ≤ 900000 →
    -1152921504606846976 ≤ p.1 ∧ p.1 + 2 ^ k ≤ 1152921504606846976 ∧ -1152921504606846976 ≤ p.2 ∧ p.2 + 2 ^ k ≤ 1152921504606846976 →
    Calls Try.prog 53 #[storeV A l.length c room, .int .i64 (n : Nat), cellV p] w (FlR (flat l k n p) w)
set_option maxHeartbeats 16000000 in
theorem flat_any {room0 : Int} (l : List Nd) (hr : Right6 l room0) : ∀ k, k ≤ 42 → FlatAt l room0 k := by
  intro k
  induction k with
  | zero =>
    intro _ A c room n p w hn hR hlen hpb
    obtain ⟨b0, off, rfl, hbB, hcell⟩ := hR.at_ (by have := hr.two; omega)
    obtain ⟨x0, x1, x2, x3, x4, x5⟩ := hcell n hn.lt
    obtain ⟨px, py⟩ := p
    have hn2 := hn.zero hr
    have hlev : (l.getD n deadN).1 = 0 := hn.lev
    have hpop : (l.getD n deadN).2.2 = if n = 1 then 1 else 0 := by
      rcases (by omega : n = 0 ∨ n = 1) with h | h
      · rw [h, hr.dead]; rfl
      · rw [h, hr.live]; rfl
    rw [hlev] at x0
    rw [hpop] at x5
    have hnz : (n : Int) < (l.length : Int) := by have := hn.lt; omega
    have hal1 := (Below.refl w.heap.size w).alloc (Nat.le_refl _) (.cells #[.slice (some ⟨b0, off, none⟩) l.length c, .int .i64 room] 26)
    have hal2 := hal1.alloc hal1.size (.cells #[.int .i64 px, .int .i64 py] 48)
    have y0 := Qt.keep hal2 x0
    have y1 := Qt.keep hal2 x1
    have y2 := Qt.keep hal2 x2
    have y3 := Qt.keep hal2 x3
    have y4 := Qt.keep hal2 x4
    have y5 := Qt.keep hal2 x5
    generalize (l.getD n deadN) = x at *
    obtain ⟨lv, kk, pp⟩ := x
    dsimp only at y1 y2 y3 y4
    have hf : flat l 0 n (px, py) = if n = 1 then [(px, py)] else [] := rfl
    rw [hf]
    have s0 : ∀ o, ((w.alloc (.cells #[.slice (some ⟨b0, off, none⟩) l.length c, .int .i64 room] 26)).alloc o).cell? ⟨w.heap.size, 0, none⟩ = some (.slice (some ⟨b0, off, none⟩) l.length c) := fun o => by rw [Lib.cell_of_heap (heap_old (heap_new rfl))]; rfl
    unfold storeV cellV
    by_cases hn1 : n = 1
    · rw [if_pos hn1] at y5 ⊢
      have s0 := s0 (.cells #[.int .i64 px, .int .i64 py] 48)
      have hs1 : (w.alloc (.cells #[.slice (some ⟨b0, off, none⟩) l.length c, .int .i64 room] 26)).heap.size = w.heap.size + 1 := by simp
      have hs2 : ((w.alloc (.cells #[.slice (some ⟨b0, off, none⟩) l.length c, .int .i64 room] 26)).alloc (.cells #[.int .i64 px, .int .i64 py] 48)).heap.size = w.heap.size + 1 + 1 := by simp
      have c0 : ∀ o, (((w.alloc (.cells #[.slice (some ⟨b0, off, none⟩) l.length c, .int .i64 room] 26)).alloc (.cells #[.int .i64 px, .int .i64 py] 48)).alloc o).cell? ⟨w.heap.size + 1, 0, none⟩ = some (.int .i64 px) := fun o => by rw [Lib.cell_of_heap (heap_old (heap_new hs1))]; rfl
      have c1 : ∀ o, (((w.alloc (.cells #[.slice (some ⟨b0, off, none⟩) l.length c, .int .i64 room] 26)).alloc (.cells #[.int .i64 px, .int .i64 py] 48)).alloc o).cell? ⟨w.heap.size + 1, 1, none⟩ = some (.int .i64 py) := fun o => by rw [Lib.cell_of_heap (heap_old (heap_new hs1))]; rfl
      have hnd : NR (((w.alloc (.cells #[.slice (some ⟨b0, off, none⟩) l.length c, .int .i64 room] 26)).alloc (.cells #[.int .i64 px, .int .i64 py] 48)).alloc (.cells #[.int .i64 0, .int .i64 kk.1, .int .i64 kk.2.1, .int .i64 kk.2.2.1, .int .i64 kk.2.2.2, .int .i64 1] 35)) (w.heap.size + 1 + 1) 0 kk 1 := heap_new hs2
      have l0 := hnd.lev_
      have p5 := hnd.pop_
      have hal3 := hal2.alloc hal2.size (.cells #[.int .i64 0, .int .i64 kk.1, .int .i64 kk.2.1, .int .i64 kk.2.2.1, .int .i64 kk.2.2.2, .int .i64 1] 35)
      have HB := Lib.hid (hal3.alloc hal3.size (.cells #[.int .i64 px, .int .i64 py] 48))
      clear hcell x0 x1 x2 x3 x4 x5 hal1 hal2 hal3 hR hnd hs1 hs2 hf hpop hn hn1 hlev hlen hpb
      go_enter Try.func53, Try.ntmps53
      go_wp2_with fail
      go_ret
      exact ⟨_, 1, rfl, Nat.le_refl _, flR_one (p := (px, py)) (by simp), HB.out⟩
    · rw [if_neg hn1] at y5 ⊢
      have hal3 := hal2.alloc hal2.size (.cells #[.int .i64 0, .int .i64 kk.1, .int .i64 kk.2.1, .int .i64 kk.2.2.1, .int .i64 kk.2.2.2, .int .i64 0] 35)
      have hs2 : ((w.alloc (.cells #[.slice (some ⟨b0, off, none⟩) l.length c, .int .i64 room] 26)).alloc (.cells #[.int .i64 px, .int .i64 py] 48)).heap.size = w.heap.size + 1 + 1 := by simp
      have hnd : NR (((w.alloc (.cells #[.slice (some ⟨b0, off, none⟩) l.length c, .int .i64 room] 26)).alloc (.cells #[.int .i64 px, .int .i64 py] 48)).alloc (.cells #[.int .i64 0, .int .i64 kk.1, .int .i64 kk.2.1, .int .i64 kk.2.2.1, .int .i64 kk.2.2.2, .int .i64 0] 35)) (w.heap.size + 1 + 1) 0 kk 0 := heap_new hs2
      have p5 := hnd.pop_
      have HB := Lib.hid hal3
      have s0 := s0 (.cells #[.int .i64 px, .int .i64 py] 48)
      clear hcell x0 x1 x2 x3 x4 x5 hal1 hal2 hal3 hR hnd hs2 hf hpop hn hlev hlen hpb
      go_enter Try.func53, Try.ntmps53
      go_wp2_with fail
      go_ret
      exact flR_nil HB.out
  | succ k ih =>
    intro hk A c room n p w hn hR hlen hpb
    have HRR := Lib.hid hR
    obtain ⟨b0, off, rfl, hbB, hcell⟩ := hR.at_ (by have := hr.two; omega)
    obtain ⟨x0, x1, x2, x3, x4, x5⟩ := hcell n hn.lt
    rw [hn.lev, show ((k + 1 : Nat) : Int) = (k : Int) + 1 by omega] at x0
    obtain ⟨px, py⟩ := p
    dsimp only at hpb
    have hal1 := (Below.refl w.heap.size w).alloc (Nat.le_refl _) (.cells #[.slice (some ⟨b0, off, none⟩) l.length c, .int .i64 room] 26)
    have hal2 := hal1.alloc hal1.size (.cells #[.int .i64 px, .int .i64 py] 48)
    have y0 := Qt.keep hal2 x0
    have y1 := Qt.keep hal2 x1
    have y2 := Qt.keep hal2 x2
    have y3 := Qt.keep hal2 x3
    have y4 := Qt.keep hal2 x4
    have y5 := Qt.keep hal2 x5
    have hkid : ∀ i, i < 4 → kd (l.getD n deadN).2.1 i = ((kidN l n i : Nat) : Int) ∧ Is l k (kidN l n i) := fun i hi => ⟨kid_cast hr hn hi, kid_is hr hn hi⟩
    have hflat0 : (l.getD n deadN).2.2 = 0 → flat l (k + 1) n (px, py) = [] := flat_dead hr _ hn
    have hall := flatTo_all l k n (px, py)
    obtain ⟨⟨lv, kk, pp⟩, hnode⟩ : ∃ x, x = l.getD n deadN := ⟨_, rfl⟩
    rw [← hnode] at y1 y2 y3 y4 y5 hkid hflat0
    dsimp only at y1 y2 y3 y4 y5 hkid hflat0
    have hnz : (n : Int) < (l.length : Int) := by have := hn.lt; omega
    have hs1 : (w.alloc (.cells #[.slice (some ⟨b0, off, none⟩) l.length c, .int .i64 room] 26)).heap.size = w.heap.size + 1 := by simp
    have hs2 : ((w.alloc (.cells #[.slice (some ⟨b0, off, none⟩) l.length c, .int .i64 room] 26)).alloc (.cells #[.int .i64 px, .int .i64 py] 48)).heap.size = w.heap.size + 1 + 1 := by simp
    have hal3 := hal2.alloc hal2.size (.cells #[.int .i64 ((k : Int) + 1), .int .i64 kk.1, .int .i64 kk.2.1, .int .i64 kk.2.2.1, .int .i64 kk.2.2.2, .int .i64 pp] 35)
    have HF0 := Lib.hid (show FlAt w (((w.alloc (.cells #[.slice (some ⟨b0, off, none⟩) l.length c, .int .i64 room] 26)).alloc (.cells #[.int .i64 px, .int .i64 py] 48)).alloc (.cells #[.int .i64 ((k : Int) + 1), .int .i64 kk.1, .int .i64 kk.2.1, .int .i64 kk.2.2.1, .int .i64 kk.2.2.2, .int .i64 pp] 35)) (some ⟨b0, off, none⟩) l.length c room (px, py) ((k : Int) + 1) kk pp from
      ⟨heap_old (heap_old (heap_new rfl)), ⟨heap_old (heap_new hs1)⟩, heap_new hs2, hal3, by simp⟩)
    have s0 : ((w.alloc (.cells #[.slice (some ⟨b0, off, none⟩) l.length c, .int .i64 room] 26)).alloc (.cells #[.int .i64 px, .int .i64 py] 48)).cell? ⟨w.heap.size, 0, none⟩ = some (.slice (some ⟨b0, off, none⟩) l.length c) := by rw [Lib.cell_of_heap (heap_old (heap_new rfl))]; rfl
    have l0 := HF0.out.nd.lev_
    have p5 := HF0.out.nd.pop_
    obtain ⟨hp1, hp2⟩ := pow_bd7 (e := k) (by omega)
    have HIH := Lib.hid (ih (by omega))
    have HKID := Lib.hid hkid
    have HALL := Lib.hid hall
    have HLEN := Lib.hid hlen
    have HPB := Lib.hid hpb
    unfold storeV cellV
    by_cases hp0 : pp = 0
    · subst hp0
      have hf := hflat0 rfl
      rw [hf]
      clear hcell x0 x1 x2 x3 x4 x5 hnode hkid hflat0 hall hal1 hal2 hal3 hR ih hs1 hs2 hpb hlen
      go_enter Try.func53, Try.ntmps53
      go_wp2_with fail
      go_ret
      exact flR_nil HF0.out.bel
    · have hp1' : (pp == 0) = false := beq_eq_false_iff_ne.2 hp0
      have hk1 : (((k : Int) + 1) == 0) = false := beq_eq_false_iff_ne.2 (by omega)
      have hk2 : ¬ (k : Int) + 1 = 0 := by omega
      obtain ⟨FL, hFL⟩ : ∃ FL, FL = flat l (k + 1) n (px, py) := ⟨_, rfl⟩
      rw [← hFL]
      have HFL := Lib.hid hFL
      have hadd : (k : Int) + 1 - 1 = (k : Int) := by omega
      have hwk : IntKind.i64.wrap ((k : Int)) = (k : Int) := by rw [IntKind.wrap_i64]; omega
      clear hcell x0 x1 x2 x3 x4 x5 hnode hkid hflat0 hall hal1 hal2 hal3 hR ih hs1 hs2 hFL hpb hlen
      go_enter Try.func53, Try.ntmps53
      go_wp2_with fail
      clear y0 y1 y2 y3 y4 y5 l0 p5 s0
      generalize (((w.alloc (.cells #[.slice (some ⟨b0, off, none⟩) l.length c, .int .i64 room] 26)).alloc (.cells #[.int .i64 px, .int .i64 py] 48)).alloc (.cells #[.int .i64 ((k : Int) + 1), .int .i64 kk.1, .int .i64 kk.2.1, .int .i64 kk.2.2.1, .int .i64 kk.2.2.2, .int .i64 pp] 35)) = w2 at *
      go_loopw [9, 10] (fun v i wr => ∃ j : Nat, j ≤ 4 ∧ i = .int .i64 j ∧ Hid (FlAt w wr (some ⟨b0, off, none⟩) l.length c room (px, py) ((k : Int) + 1) kk pp ∧ OwnC wr (w.heap.size + 3) v (flatTo l k n (px, py) j))) (fun _ i _ => 4 - (intOf i).toNat)
      case atStart => exact ⟨0, by omega, rfl, HF0.out, World.ownsRow_nil _ _ _ _⟩
      case round =>
        obtain ⟨j, hj, rfl, HH⟩ := hrel
        obtain ⟨A1, c1, rfl, hc1, hR1⟩ := Cel.Own.rd HH.out.2
        by_cases hlt : j < 4
        · have hkj := HKID.out j hlt
          have hpb := HPB.out
          have e2 : (2 : Int) ^ (k + 1) = 2 ^ k * 2 := Int.pow_succ ..
          rw [e2] at hpb
          have hbox : -1152921504606846976 ≤ (corner7 k (px, py) j).1 ∧ (corner7 k (px, py) j).1 + 2 ^ k ≤ 1152921504606846976 ∧ -1152921504606846976 ≤ (corner7 k (px, py) j).2 ∧ (corner7 k (px, py) j).2 + 2 ^ k ≤ 1152921504606846976 := by
            unfold corner7
            rcases (by omega : j = 0 ∨ j = 1 ∨ j = 2 ∨ j = 3) with rfl | rfl | rfl | rfl <;> simp <;> omega
          have hl1 := flatTo_len l k n (px, py) (j + 1) 4 (by omega)
          have hl2 : (flatTo l k n (px, py) (j + 1)).length = (flatTo l k n (px, py) j).length + (flat l k (kidN l n j) (corner7 k (px, py) j)).length := List.length_append ..
          rw [HALL.out] at hl1
          have hl3 := HLEN.out
          have hlen2 : (flatTo l k n (px, py) j).length + (flat l k (kidN l n j) (corner7 k (px, py) j)).length ≤ 1000000 := by omega
          have hcall := fun W (hW : Below wr.heap.size wr W) => HIH.out (some ⟨b0, off, none⟩) c room (kidN l n j) (corner7 k (px, py) j) W hkj.2 ((HRR.out.below (Qt.more HH.out.1.bel HH.out.1.bel.size hW) (Nat.le_refl _)).more (Qt.more HH.out.1.bel HH.out.1.bel.size hW).size) (by omega) hbox
          have hstep : flatTo l k n (px, py) j ++ flat l k (kidN l n j) (corner7 k (px, py) j) = flatTo l k n (px, py) (j + 1) := rfl
          have HD := Lib.hid HH.out.1
          have hsz := HH.out.1.sz
          have hown := HH.out.2
          have hC0 := Qt.more (Below.refl (w.heap.size + 3) wr) hsz (below_drew wr)
          have hst : ∀ W, Below (w.heap.size + 3) wr W → W.cell? ⟨w.heap.size, 0, none⟩ = some (.slice (some ⟨b0, off, none⟩) l.length c) ∧ W.cell? ⟨w.heap.size, 1, none⟩ = some (.int .i64 room) ∧ W.cell? ⟨w.heap.size + 2, 1 + j, none⟩ = some (.int .i64 (kd kk j)) ∧ W.cell? ⟨w.heap.size + 1, 0, none⟩ = some (.int .i64 px) ∧ W.cell? ⟨w.heap.size + 1, 1, none⟩ = some (.int .i64 py) := fun W hW => ⟨(HD.out.next hW).s0, (HD.out.next hW).s1, (HD.out.next hW).nd.kid hlt, (HD.out.next hW).cl.c0, (HD.out.next hW).cl.c1⟩
          rw [← hkj.1] at hcall
          have hwp : IntKind.i64.wrap (2 ^ k) = 2 ^ k ∧ IntKind.i64.wrap px = px ∧ IntKind.i64.wrap py = py ∧ IntKind.i64.wrap (px + 2 ^ k) = px + 2 ^ k ∧ IntKind.i64.wrap (py + 2 ^ k) = py + 2 ^ k := by
            rw [IntKind.wrap_i64, IntKind.wrap_i64, IntKind.wrap_i64, IntKind.wrap_i64, IntKind.wrap_i64]
            generalize (2 : Int) ^ k = q at *
            omega
          obtain ⟨hw1, hw2, hw3, hw4, hw5⟩ := hwp
          have hw0 : IntKind.i64.wrap 0 = 0 := by decide
          have hcc : corner7 k (px, py) j = (px + ((j % 2 : Nat) : Int) * 2 ^ k, py + ((j / 2 : Nat) : Int) * 2 ^ k) := rfl
          have HST := Lib.hid hstep
          clear hstep hl1 hl2 hl3 hbox hpb hkj hR1 HH e2
          obtain ⟨acc, hacc⟩ : ∃ acc, acc = flatTo l k n (px, py) j := ⟨_, rfl⟩
          obtain ⟨F, hFF⟩ : ∃ F, F = flat l k (kidN l n j) (corner7 k (px, py) j) := ⟨_, rfl⟩
          rw [← hacc] at hown hlen2 hc1 HST ⊢
          rw [← hFF] at hcall hlen2 HST
          rw [hcc] at hcall
          unfold storeV cellV at hcall
          clear hacc hFF hcc
          rcases (by omega : j = 0 ∨ j = 1 ∨ j = 2 ∨ j = 3) with rfl | rfl | rfl | rfl
          · have h1 : kd kk 0 = kk.1 := rfl
            have hcall := fun W hW => hcall W hW
            rw [h1] at hcall hst
            have hst : ∀ W, Below (w.heap.size + 3) wr W → W.cell? ⟨w.heap.size, 0, none⟩ = some (.slice (some ⟨b0, off, none⟩) l.length c) ∧ W.cell? ⟨w.heap.size, 1, none⟩ = some (.int .i64 room) ∧ W.cell? ⟨w.heap.size + 2, 1, none⟩ = some (.int .i64 (kk.1)) ∧ W.cell? ⟨w.heap.size + 1, 0, none⟩ = some (.int .i64 px) ∧ W.cell? ⟨w.heap.size + 1, 1, none⟩ = some (.int .i64 py) := hst
            simp only [Nat.reduceMod, Nat.reduceDiv, Nat.zero_mod, Nat.zero_div, Int.natCast_zero, Int.natCast_one, Int.cast_ofNat_Int, Int.zero_mul, Int.one_mul, Int.add_zero] at hcall
            go_wp2_with fail
            refine region_calm_to (fun W => Below (w.heap.size + 3) wr W) (fun (a0 a9 : Act) (w9 : World) => ∃ (A8 : Option Addr) (c8 : Nat) (v9 : Value), a9 = ((((((((((((((((((((((((a0.put (some 32) (.slice A1 acc.length c1)).put (some 33) (.agg #[.slice (some ⟨b0, off, none⟩) l.length c, .int .i64 room])).put (some 34) (.int .i64 0)).put (some 35) (.pointer (some ⟨w.heap.size + 2, 1, none⟩))).put (some 36) (.pointer (some ⟨w.heap.size + 2, 1, none⟩))).put (some 37) (.int .i64 kk.1)).put (some 38) (.pointer (some ⟨w.heap.size + 1, 0, none⟩))).put (some 39) (.int .i64 px)).put (some 40) (.int .i64 0)).put (some 41) (.int .i64 0)).put (some 42) (.int .i64 (2 ^ k))).put (some 43) (.int .i64 0)).put (some 44) (.int .i64 px)).put (some 45) (.pointer (some ⟨w.heap.size + 1, 1, none⟩))).put (some 46) (.int .i64 py)).put (some 47) (.int .i64 0)).put (some 48) (.int .i64 0)).put (some 49) (.int .i64 (2 ^ k))).put (some 50) (.int .i64 0)).put (some 51) (.int .i64 py)).put (some 52) (.agg #[.int .i64 px, .int .i64 py])).put (some 53) (.slice A8 F.length c8)).put (some 54) (v9)).put (some 9) (v9)) ∧ (OwnC w9 (w.heap.size + 3) v9 (acc ++ F) ∧ Below (w.heap.size + 3) wr w9)) (.calm 0 (.calm 1 (.calm 2 (.calm 3 (.calm 4 (.calm 5 (.calm 6 (.calm 7 (.calm 8 (.calm 9 (.calm 10 (.calm 11 (.calm 12 (.calm 13 (.calm 14 (.calm 15 (.calm 16 (.calm 17 (.calm 18 (.calm 19 (.calm 20 (.only 21 (.only 22 (.calm 23 .done)))))))))))))))))))))))) (by kernel_rfl) (by kernel_rfl) (by kernel_rfl) (by rfl) hC0 ?_ ?_
            · skip
              refine ⟨_, _, (.slice A1 acc.length c1), rfl, rfl, ⟨rfl, fun W hW => by first | exact ⟨rfl, rfl⟩ | (simp only [Act.eval, execOp]; go_simp; try exact ⟨rfl, rfl⟩)⟩, ?_⟩
              simp only [Act.put, List.getElem_toArray, List.getElem_cons_zero, List.getElem_cons_succ, List.setIfInBounds_toArray, List.set_cons_succ, List.set_cons_zero]
              refine ⟨_, _, (.agg #[.slice (some ⟨b0, off, none⟩) l.length c, .int .i64 room]), rfl, rfl, ⟨rfl, fun W hW => by have s0 := (hst W hW).1; have s1 := (hst W hW).2.1; simp only [execOp]; go_simp; done⟩, ?_⟩
              simp only [Act.put, List.getElem_toArray, List.getElem_cons_zero, List.getElem_cons_succ, List.setIfInBounds_toArray, List.set_cons_succ, List.set_cons_zero]
              refine ⟨_, _, (.int .i64 0), rfl, rfl, ⟨rfl, fun W hW => by first | exact ⟨rfl, rfl⟩ | (simp only [Act.eval, execOp]; go_simp; try exact ⟨rfl, rfl⟩)⟩, ?_⟩
              simp only [Act.put, List.getElem_toArray, List.getElem_cons_zero, List.getElem_cons_succ, List.setIfInBounds_toArray, List.set_cons_succ, List.set_cons_zero]
              refine ⟨_, _, (.pointer (some ⟨w.heap.size + 2, 1, none⟩)), rfl, rfl, ⟨rfl, fun W hW => by first | exact ⟨rfl, rfl⟩ | (simp only [Act.eval, execOp]; go_simp; try exact ⟨rfl, rfl⟩)⟩, ?_⟩
              simp only [Act.put, List.getElem_toArray, List.getElem_cons_zero, List.getElem_cons_succ, List.setIfInBounds_toArray, List.set_cons_succ, List.set_cons_zero]
              refine ⟨_, _, (.pointer (some ⟨w.heap.size + 2, 1, none⟩)), rfl, rfl, ⟨rfl, fun W hW => by first | exact ⟨rfl, rfl⟩ | (simp only [Act.eval, execOp]; go_simp; try exact ⟨rfl, rfl⟩)⟩, ?_⟩
              simp only [Act.put, List.getElem_toArray, List.getElem_cons_zero, List.getElem_cons_succ, List.setIfInBounds_toArray, List.set_cons_succ, List.set_cons_zero]
              refine ⟨_, _, (.int .i64 kk.1), rfl, rfl, ⟨rfl, fun W hW => by have s0 := (hst W hW).2.2.1; simp only [execOp]; go_simp; done⟩, ?_⟩
              simp only [Act.put, List.getElem_toArray, List.getElem_cons_zero, List.getElem_cons_succ, List.setIfInBounds_toArray, List.set_cons_succ, List.set_cons_zero]
              refine ⟨_, _, (.pointer (some ⟨w.heap.size + 1, 0, none⟩)), rfl, rfl, ⟨rfl, fun W hW => by first | exact ⟨rfl, rfl⟩ | (simp only [Act.eval, execOp]; go_simp; try exact ⟨rfl, rfl⟩)⟩, ?_⟩
              simp only [Act.put, List.getElem_toArray, List.getElem_cons_zero, List.getElem_cons_succ, List.setIfInBounds_toArray, List.set_cons_succ, List.set_cons_zero]
              refine ⟨_, _, (.int .i64 px), rfl, rfl, ⟨rfl, fun W hW => by have s0 := (hst W hW).2.2.2.1; simp only [execOp]; go_simp; done⟩, ?_⟩
              simp only [Act.put, List.getElem_toArray, List.getElem_cons_zero, List.getElem_cons_succ, List.setIfInBounds_toArray, List.set_cons_succ, List.set_cons_zero]
              refine ⟨_, _, (.int .i64 0), rfl, rfl, ⟨rfl, fun W hW => by first | exact ⟨rfl, rfl⟩ | (simp only [Act.eval, execOp]; go_simp; try exact ⟨rfl, rfl⟩)⟩, ?_⟩
              simp only [Act.put, List.getElem_toArray, List.getElem_cons_zero, List.getElem_cons_succ, List.setIfInBounds_toArray, List.set_cons_succ, List.set_cons_zero]
              refine ⟨_, _, (.int .i64 0), rfl, rfl, ⟨rfl, fun W hW => by first | exact ⟨rfl, rfl⟩ | (simp only [Act.eval, execOp]; go_simp; try exact ⟨rfl, rfl⟩)⟩, ?_⟩
              simp only [Act.put, List.getElem_toArray, List.getElem_cons_zero, List.getElem_cons_succ, List.setIfInBounds_toArray, List.set_cons_succ, List.set_cons_zero]
              refine ⟨_, _, (.int .i64 (2 ^ k)), rfl, rfl, ⟨rfl, fun W hW => by first | exact ⟨rfl, rfl⟩ | (simp only [Act.eval, execOp]; go_simp; try exact ⟨rfl, rfl⟩)⟩, ?_⟩
              simp only [Act.put, List.getElem_toArray, List.getElem_cons_zero, List.getElem_cons_succ, List.setIfInBounds_toArray, List.set_cons_succ, List.set_cons_zero]
              refine ⟨_, _, (.int .i64 0), rfl, rfl, ⟨rfl, fun W hW => by first | exact ⟨rfl, rfl⟩ | (simp only [Act.eval, execOp]; go_simp; try exact ⟨rfl, rfl⟩)⟩, ?_⟩
              simp only [Act.put, List.getElem_toArray, List.getElem_cons_zero, List.getElem_cons_succ, List.setIfInBounds_toArray, List.set_cons_succ, List.set_cons_zero]
              refine ⟨_, _, (.int .i64 px), rfl, rfl, ⟨rfl, fun W hW => by first | exact ⟨rfl, rfl⟩ | (simp only [Act.eval, execOp]; go_simp; try exact ⟨rfl, rfl⟩)⟩, ?_⟩
              simp only [Act.put, List.getElem_toArray, List.getElem_cons_zero, List.getElem_cons_succ, List.setIfInBounds_toArray, List.set_cons_succ, List.set_cons_zero]
              refine ⟨_, _, (.pointer (some ⟨w.heap.size + 1, 1, none⟩)), rfl, rfl, ⟨rfl, fun W hW => by first | exact ⟨rfl, rfl⟩ | (simp only [Act.eval, execOp]; go_simp; try exact ⟨rfl, rfl⟩)⟩, ?_⟩
              simp only [Act.put, List.getElem_toArray, List.getElem_cons_zero, List.getElem_cons_succ, List.setIfInBounds_toArray, List.set_cons_succ, List.set_cons_zero]
              refine ⟨_, _, (.int .i64 py), rfl, rfl, ⟨rfl, fun W hW => by have s0 := (hst W hW).2.2.2.2; simp only [execOp]; go_simp; done⟩, ?_⟩
              simp only [Act.put, List.getElem_toArray, List.getElem_cons_zero, List.getElem_cons_succ, List.setIfInBounds_toArray, List.set_cons_succ, List.set_cons_zero]
              refine ⟨_, _, (.int .i64 0), rfl, rfl, ⟨rfl, fun W hW => by first | exact ⟨rfl, rfl⟩ | (simp only [Act.eval, execOp]; go_simp; try exact ⟨rfl, rfl⟩)⟩, ?_⟩
              simp only [Act.put, List.getElem_toArray, List.getElem_cons_zero, List.getElem_cons_succ, List.setIfInBounds_toArray, List.set_cons_succ, List.set_cons_zero]
              refine ⟨_, _, (.int .i64 0), rfl, rfl, ⟨rfl, fun W hW => by first | exact ⟨rfl, rfl⟩ | (simp only [Act.eval, execOp]; go_simp; try exact ⟨rfl, rfl⟩)⟩, ?_⟩
              simp only [Act.put, List.getElem_toArray, List.getElem_cons_zero, List.getElem_cons_succ, List.setIfInBounds_toArray, List.set_cons_succ, List.set_cons_zero]
              refine ⟨_, _, (.int .i64 (2 ^ k)), rfl, rfl, ⟨rfl, fun W hW => by first | exact ⟨rfl, rfl⟩ | (simp only [Act.eval, execOp]; go_simp; try exact ⟨rfl, rfl⟩)⟩, ?_⟩
              simp only [Act.put, List.getElem_toArray, List.getElem_cons_zero, List.getElem_cons_succ, List.setIfInBounds_toArray, List.set_cons_succ, List.set_cons_zero]
              refine ⟨_, _, (.int .i64 0), rfl, rfl, ⟨rfl, fun W hW => by first | exact ⟨rfl, rfl⟩ | (simp only [Act.eval, execOp]; go_simp; try exact ⟨rfl, rfl⟩)⟩, ?_⟩
              simp only [Act.put, List.getElem_toArray, List.getElem_cons_zero, List.getElem_cons_succ, List.setIfInBounds_toArray, List.set_cons_succ, List.set_cons_zero]
              refine ⟨_, _, (.int .i64 py), rfl, rfl, ⟨rfl, fun W hW => by first | exact ⟨rfl, rfl⟩ | (simp only [Act.eval, execOp]; go_simp; try exact ⟨rfl, rfl⟩)⟩, ?_⟩
              simp only [Act.put, List.getElem_toArray, List.getElem_cons_zero, List.getElem_cons_succ, List.setIfInBounds_toArray, List.set_cons_succ, List.set_cons_zero]
              refine ⟨_, _, (.agg #[.int .i64 px, .int .i64 py]), rfl, rfl, ⟨rfl, fun W hW => by first | exact ⟨rfl, rfl⟩ | (simp only [Act.eval, execOp]; go_simp; try exact ⟨rfl, rfl⟩)⟩, ?_⟩
              simp only [Act.put, List.getElem_toArray, List.getElem_cons_zero, List.getElem_cons_succ, List.setIfInBounds_toArray, List.set_cons_succ, List.set_cons_zero]
              refine ⟨_, rfl, ?_⟩
              go_wp2_with fail
              refine (hcall _ (below_drew wr)).mono ?_
              rintro r w8 ⟨A8, c8, rfl, hc8, hR8, hb8⟩
              have hC := Qt.more hC0 (Nat.le_trans hsz hC0.size) hb8
              go_wp2_with fail
              refine ⟨rfl, hC, ?_⟩
              refine ⟨_, rfl, ?_⟩
              obtain ⟨v9, w9, hrun, hown9, hg9⟩ := Cel.app_any c8 (Nat.le_trans hsz hC.size) (Cel.Own.below (Cel.Own.below hown (below_drew wr)) hb8) hR8 hlen2
              have hC9 := hC.grown hg9 (Nat.le_trans hsz hC.size) (fun r e => (World.ownsRow.lt hown r e).1)
              refine Lib.wpList_append_run _ rfl (.tmp 32) (.tmp 53) 42 42 rfl _ _ rfl rfl _ _ hrun ?_
              refine ⟨rfl, hC9, ?_⟩
              refine ⟨_, _, v9, rfl, rfl, ⟨rfl, fun W hW => by first | exact ⟨rfl, rfl⟩ | (simp only [Act.eval, execOp]; go_simp; try exact ⟨rfl, rfl⟩)⟩, ?_⟩
              simp only [Act.put, List.getElem_toArray, List.getElem_cons_zero, List.getElem_cons_succ, List.setIfInBounds_toArray, List.set_cons_succ, List.set_cons_zero]
              refine ⟨A8, c8, v9, ?_, hown9, hC9⟩
              first | rfl | simp only [Act.put, List.getElem_toArray, List.getElem_cons_zero, List.getElem_cons_succ, List.setIfInBounds_toArray, List.set_cons_succ, List.set_cons_zero]
            rintro a9 w9 ⟨A8, c8, v9, rfl, hown9, hb9⟩
            simp only [Act.put, List.setIfInBounds_toArray, List.set_cons_succ, List.set_cons_zero]
            have HN := Lib.hid (HD.out.next hb9)
            have HO := Lib.hid hown9
            clear hcall hst hw1 hw2 hw3 hw4 hw5 hown9 hb9 hC0 HD hown hsz
            go_wp2_with fail
            go_roundw
            case measure => simp [intOf]
            case rel => exact ⟨1, by omega, by go_num, HN.out, by rw [← HST.out]; exact HO.out⟩
          · have h1 : kd kk 1 = kk.2.1 := rfl
            have hcall := fun W hW => hcall W hW
            rw [h1] at hcall hst
            have hst : ∀ W, Below (w.heap.size + 3) wr W → W.cell? ⟨w.heap.size, 0, none⟩ = some (.slice (some ⟨b0, off, none⟩) l.length c) ∧ W.cell? ⟨w.heap.size, 1, none⟩ = some (.int .i64 room) ∧ W.cell? ⟨w.heap.size + 2, 2, none⟩ = some (.int .i64 (kk.2.1)) ∧ W.cell? ⟨w.heap.size + 1, 0, none⟩ = some (.int .i64 px) ∧ W.cell? ⟨w.heap.size + 1, 1, none⟩ = some (.int .i64 py) := hst
            simp only [Nat.reduceMod, Nat.reduceDiv, Nat.zero_mod, Nat.zero_div, Int.natCast_zero, Int.natCast_one, Int.cast_ofNat_Int, Int.zero_mul, Int.one_mul, Int.add_zero] at hcall
            go_wp2_with fail
            refine region_calm_to (fun W => Below (w.heap.size + 3) wr W) (fun (a0 a9 : Act) (w9 : World) => ∃ (A8 : Option Addr) (c8 : Nat) (v9 : Value), a9 = ((((((((((((((((((((((((a0.put (some 32) (.slice A1 acc.length c1)).put (some 33) (.agg #[.slice (some ⟨b0, off, none⟩) l.length c, .int .i64 room])).put (some 34) (.int .i64 1)).put (some 35) (.pointer (some ⟨w.heap.size + 2, 1, none⟩))).put (some 36) (.pointer (some ⟨w.heap.size + 2, 2, none⟩))).put (some 37) (.int .i64 kk.2.1)).put (some 38) (.pointer (some ⟨w.heap.size + 1, 0, none⟩))).put (some 39) (.int .i64 px)).put (some 40) (.int .i64 1)).put (some 41) (.int .i64 1)).put (some 42) (.int .i64 (2 ^ k))).put (some 43) (.int .i64 (2 ^ k))).put (some 44) (.int .i64 (px + 2 ^ k))).put (some 45) (.pointer (some ⟨w.heap.size + 1, 1, none⟩))).put (some 46) (.int .i64 py)).put (some 47) (.int .i64 1)).put (some 48) (.int .i64 0)).put (some 49) (.int .i64 (2 ^ k))).put (some 50) (.int .i64 0)).put (some 51) (.int .i64 py)).put (some 52) (.agg #[.int .i64 (px + 2 ^ k), .int .i64 py])).put (some 53) (.slice A8 F.length c8)).put (some 54) (v9)).put (some 9) (v9)) ∧ (OwnC w9 (w.heap.size + 3) v9 (acc ++ F) ∧ Below (w.heap.size + 3) wr w9)) (.calm 0 (.calm 1 (.calm 2 (.calm 3 (.calm 4 (.calm 5 (.calm 6 (.calm 7 (.calm 8 (.calm 9 (.calm 10 (.calm 11 (.calm 12 (.calm 13 (.calm 14 (.calm 15 (.calm 16 (.calm 17 (.calm 18 (.calm 19 (.calm 20 (.only 21 (.only 22 (.calm 23 .done)))))))))))))))))))))))) (by kernel_rfl) (by kernel_rfl) (by kernel_rfl) (by rfl) hC0 ?_ ?_
            · skip
              refine ⟨_, _, (.slice A1 acc.length c1), rfl, rfl, ⟨rfl, fun W hW => by first | exact ⟨rfl, rfl⟩ | (simp only [Act.eval, execOp]; go_simp; try exact ⟨rfl, rfl⟩)⟩, ?_⟩
              simp only [Act.put, List.getElem_toArray, List.getElem_cons_zero, List.getElem_cons_succ, List.setIfInBounds_toArray, List.set_cons_succ, List.set_cons_zero]
              refine ⟨_, _, (.agg #[.slice (some ⟨b0, off, none⟩) l.length c, .int .i64 room]), rfl, rfl, ⟨rfl, fun W hW => by have s0 := (hst W hW).1; have s1 := (hst W hW).2.1; simp only [execOp]; go_simp; done⟩, ?_⟩
              simp only [Act.put, List.getElem_toArray, List.getElem_cons_zero, List.getElem_cons_succ, List.setIfInBounds_toArray, List.set_cons_succ, List.set_cons_zero]
              refine ⟨_, _, (.int .i64 1), rfl, rfl, ⟨rfl, fun W hW => by first | exact ⟨rfl, rfl⟩ | (simp only [Act.eval, execOp]; go_simp; try exact ⟨rfl, rfl⟩)⟩, ?_⟩
              simp only [Act.put, List.getElem_toArray, List.getElem_cons_zero, List.getElem_cons_succ, List.setIfInBounds_toArray, List.set_cons_succ, List.set_cons_zero]
              refine ⟨_, _, (.pointer (some ⟨w.heap.size + 2, 1, none⟩)), rfl, rfl, ⟨rfl, fun W hW => by first | exact ⟨rfl, rfl⟩ | (simp only [Act.eval, execOp]; go_simp; try exact ⟨rfl, rfl⟩)⟩, ?_⟩
              simp only [Act.put, List.getElem_toArray, List.getElem_cons_zero, List.getElem_cons_succ, List.setIfInBounds_toArray, List.set_cons_succ, List.set_cons_zero]
              refine ⟨_, _, (.pointer (some ⟨w.heap.size + 2, 2, none⟩)), rfl, rfl, ⟨rfl, fun W hW => by first | exact ⟨rfl, rfl⟩ | (simp only [Act.eval, execOp]; go_simp; try exact ⟨rfl, rfl⟩)⟩, ?_⟩
              simp only [Act.put, List.getElem_toArray, List.getElem_cons_zero, List.getElem_cons_succ, List.setIfInBounds_toArray, List.set_cons_succ, List.set_cons_zero]
              refine ⟨_, _, (.int .i64 kk.2.1), rfl, rfl, ⟨rfl, fun W hW => by have s0 := (hst W hW).2.2.1; simp only [execOp]; go_simp; done⟩, ?_⟩
              simp only [Act.put, List.getElem_toArray, List.getElem_cons_zero, List.getElem_cons_succ, List.setIfInBounds_toArray, List.set_cons_succ, List.set_cons_zero]
              refine ⟨_, _, (.pointer (some ⟨w.heap.size + 1, 0, none⟩)), rfl, rfl, ⟨rfl, fun W hW => by first | exact ⟨rfl, rfl⟩ | (simp only [Act.eval, execOp]; go_simp; try exact ⟨rfl, rfl⟩)⟩, ?_⟩
              simp only [Act.put, List.getElem_toArray, List.getElem_cons_zero, List.getElem_cons_succ, List.setIfInBounds_toArray, List.set_cons_succ, List.set_cons_zero]
              refine ⟨_, _, (.int .i64 px), rfl, rfl, ⟨rfl, fun W hW => by have s0 := (hst W hW).2.2.2.1; simp only [execOp]; go_simp; done⟩, ?_⟩
              simp only [Act.put, List.getElem_toArray, List.getElem_cons_zero, List.getElem_cons_succ, List.setIfInBounds_toArray, List.set_cons_succ, List.set_cons_zero]
              refine ⟨_, _, (.int .i64 1), rfl, rfl, ⟨rfl, fun W hW => by first | exact ⟨rfl, rfl⟩ | (simp only [Act.eval, execOp]; go_simp; try exact ⟨rfl, rfl⟩)⟩, ?_⟩
              simp only [Act.put, List.getElem_toArray, List.getElem_cons_zero, List.getElem_cons_succ, List.setIfInBounds_toArray, List.set_cons_succ, List.set_cons_zero]
              refine ⟨_, _, (.int .i64 1), rfl, rfl, ⟨rfl, fun W hW => by first | exact ⟨rfl, rfl⟩ | (simp only [Act.eval, execOp]; go_simp; try exact ⟨rfl, rfl⟩)⟩, ?_⟩
              simp only [Act.put, List.getElem_toArray, List.getElem_cons_zero, List.getElem_cons_succ, List.setIfInBounds_toArray, List.set_cons_succ, List.set_cons_zero]
              refine ⟨_, _, (.int .i64 (2 ^ k)), rfl, rfl, ⟨rfl, fun W hW => by first | exact ⟨rfl, rfl⟩ | (simp only [Act.eval, execOp]; go_simp; try exact ⟨rfl, rfl⟩)⟩, ?_⟩
              simp only [Act.put, List.getElem_toArray, List.getElem_cons_zero, List.getElem_cons_succ, List.setIfInBounds_toArray, List.set_cons_succ, List.set_cons_zero]
              refine ⟨_, _, (.int .i64 (2 ^ k)), rfl, rfl, ⟨rfl, fun W hW => by first | exact ⟨rfl, rfl⟩ | (simp only [Act.eval, execOp]; go_simp; try exact ⟨rfl, rfl⟩)⟩, ?_⟩
              simp only [Act.put, List.getElem_toArray, List.getElem_cons_zero, List.getElem_cons_succ, List.setIfInBounds_toArray, List.set_cons_succ, List.set_cons_zero]
              refine ⟨_, _, (.int .i64 (px + 2 ^ k)), rfl, rfl, ⟨rfl, fun W hW => by first | exact ⟨rfl, rfl⟩ | (simp only [Act.eval, execOp]; go_simp; try exact ⟨rfl, rfl⟩)⟩, ?_⟩
              simp only [Act.put, List.getElem_toArray, List.getElem_cons_zero, List.getElem_cons_succ, List.setIfInBounds_toArray, List.set_cons_succ, List.set_cons_zero]
              refine ⟨_, _, (.pointer (some ⟨w.heap.size + 1, 1, none⟩)), rfl, rfl, ⟨rfl, fun W hW => by first | exact ⟨rfl, rfl⟩ | (simp only [Act.eval, execOp]; go_simp; try exact ⟨rfl, rfl⟩)⟩, ?_⟩
              simp only [Act.put, List.getElem_toArray, List.getElem_cons_zero, List.getElem_cons_succ, List.setIfInBounds_toArray, List.set_cons_succ, List.set_cons_zero]
              refine ⟨_, _, (.int .i64 py), rfl, rfl, ⟨rfl, fun W hW => by have s0 := (hst W hW).2.2.2.2; simp only [execOp]; go_simp; done⟩, ?_⟩
              simp only [Act.put, List.getElem_toArray, List.getElem_cons_zero, List.getElem_cons_succ, List.setIfInBounds_toArray, List.set_cons_succ, List.set_cons_zero]
              refine ⟨_, _, (.int .i64 1), rfl, rfl, ⟨rfl, fun W hW => by first | exact ⟨rfl, rfl⟩ | (simp only [Act.eval, execOp]; go_simp; try exact ⟨rfl, rfl⟩)⟩, ?_⟩
              simp only [Act.put, List.getElem_toArray, List.getElem_cons_zero, List.getElem_cons_succ, List.setIfInBounds_toArray, List.set_cons_succ, List.set_cons_zero]
              refine ⟨_, _, (.int .i64 0), rfl, rfl, ⟨rfl, fun W hW => by first | exact ⟨rfl, rfl⟩ | (simp only [Act.eval, execOp]; go_simp; try exact ⟨rfl, rfl⟩)⟩, ?_⟩
              simp only [Act.put, List.getElem_toArray, List.getElem_cons_zero, List.getElem_cons_succ, List.setIfInBounds_toArray, List.set_cons_succ, List.set_cons_zero]
              refine ⟨_, _, (.int .i64 (2 ^ k)), rfl, rfl, ⟨rfl, fun W hW => by first | exact ⟨rfl, rfl⟩ | (simp only [Act.eval, execOp]; go_simp; try exact ⟨rfl, rfl⟩)⟩, ?_⟩
              simp only [Act.put, List.getElem_toArray, List.getElem_cons_zero, List.getElem_cons_succ, List.setIfInBounds_toArray, List.set_cons_succ, List.set_cons_zero]
              refine ⟨_, _, (.int .i64 0), rfl, rfl, ⟨rfl, fun W hW => by first | exact ⟨rfl, rfl⟩ | (simp only [Act.eval, execOp]; go_simp; try exact ⟨rfl, rfl⟩)⟩, ?_⟩
              simp only [Act.put, List.getElem_toArray, List.getElem_cons_zero, List.getElem_cons_succ, List.setIfInBounds_toArray, List.set_cons_succ, List.set_cons_zero]
              refine ⟨_, _, (.int .i64 py), rfl, rfl, ⟨rfl, fun W hW => by first | exact ⟨rfl, rfl⟩ | (simp only [Act.eval, execOp]; go_simp; try exact ⟨rfl, rfl⟩)⟩, ?_⟩
              simp only [Act.put, List.getElem_toArray, List.getElem_cons_zero, List.getElem_cons_succ, List.setIfInBounds_toArray, List.set_cons_succ, List.set_cons_zero]
              refine ⟨_, _, (.agg #[.int .i64 (px + 2 ^ k), .int .i64 py]), rfl, rfl, ⟨rfl, fun W hW => by first | exact ⟨rfl, rfl⟩ | (simp only [Act.eval, execOp]; go_simp; try exact ⟨rfl, rfl⟩)⟩, ?_⟩
              simp only [Act.put, List.getElem_toArray, List.getElem_cons_zero, List.getElem_cons_succ, List.setIfInBounds_toArray, List.set_cons_succ, List.set_cons_zero]
              refine ⟨_, rfl, ?_⟩
              go_wp2_with fail
              refine (hcall _ (below_drew wr)).mono ?_
              rintro r w8 ⟨A8, c8, rfl, hc8, hR8, hb8⟩
              have hC := Qt.more hC0 (Nat.le_trans hsz hC0.size) hb8
              go_wp2_with fail
              refine ⟨rfl, hC, ?_⟩
              refine ⟨_, rfl, ?_⟩
              obtain ⟨v9, w9, hrun, hown9, hg9⟩ := Cel.app_any c8 (Nat.le_trans hsz hC.size) (Cel.Own.below (Cel.Own.below hown (below_drew wr)) hb8) hR8 hlen2
              have hC9 := hC.grown hg9 (Nat.le_trans hsz hC.size) (fun r e => (World.ownsRow.lt hown r e).1)
              refine Lib.wpList_append_run _ rfl (.tmp 32) (.tmp 53) 42 42 rfl _ _ rfl rfl _ _ hrun ?_
              refine ⟨rfl, hC9, ?_⟩
              refine ⟨_, _, v9, rfl, rfl, ⟨rfl, fun W hW => by first | exact ⟨rfl, rfl⟩ | (simp only [Act.eval, execOp]; go_simp; try exact ⟨rfl, rfl⟩)⟩, ?_⟩
              simp only [Act.put, List.getElem_toArray, List.getElem_cons_zero, List.getElem_cons_succ, List.setIfInBounds_toArray, List.set_cons_succ, List.set_cons_zero]
              refine ⟨A8, c8, v9, ?_, hown9, hC9⟩
              first | rfl | simp only [Act.put, List.getElem_toArray, List.getElem_cons_zero, List.getElem_cons_succ, List.setIfInBounds_toArray, List.set_cons_succ, List.set_cons_zero]
            rintro a9 w9 ⟨A8, c8, v9, rfl, hown9, hb9⟩
            simp only [Act.put, List.setIfInBounds_toArray, List.set_cons_succ, List.set_cons_zero]
            have HN := Lib.hid (HD.out.next hb9)
            have HO := Lib.hid hown9
            clear hcall hst hw1 hw2 hw3 hw4 hw5 hown9 hb9 hC0 HD hown hsz
            go_wp2_with fail
            go_roundw
            case measure => simp [intOf]
            case rel => exact ⟨2, by omega, by go_num, HN.out, by rw [← HST.out]; exact HO.out⟩
          · have h1 : kd kk 2 = kk.2.2.1 := rfl
            have hcall := fun W hW => hcall W hW
            rw [h1] at hcall hst
            have hst : ∀ W, Below (w.heap.size + 3) wr W → W.cell? ⟨w.heap.size, 0, none⟩ = some (.slice (some ⟨b0, off, none⟩) l.length c) ∧ W.cell? ⟨w.heap.size, 1, none⟩ = some (.int .i64 room) ∧ W.cell? ⟨w.heap.size + 2, 3, none⟩ = some (.int .i64 (kk.2.2.1)) ∧ W.cell? ⟨w.heap.size + 1, 0, none⟩ = some (.int .i64 px) ∧ W.cell? ⟨w.heap.size + 1, 1, none⟩ = some (.int .i64 py) := hst
            simp only [Nat.reduceMod, Nat.reduceDiv, Nat.zero_mod, Nat.zero_div, Int.natCast_zero, Int.natCast_one, Int.cast_ofNat_Int, Int.zero_mul, Int.one_mul, Int.add_zero] at hcall
            go_wp2_with fail
            refine region_calm_to (fun W => Below (w.heap.size + 3) wr W) (fun (a0 a9 : Act) (w9 : World) => ∃ (A8 : Option Addr) (c8 : Nat) (v9 : Value), a9 = ((((((((((((((((((((((((a0.put (some 32) (.slice A1 acc.length c1)).put (some 33) (.agg #[.slice (some ⟨b0, off, none⟩) l.length c, .int .i64 room])).put (some 34) (.int .i64 2)).put (some 35) (.pointer (some ⟨w.heap.size + 2, 1, none⟩))).put (some 36) (.pointer (some ⟨w.heap.size + 2, 3, none⟩))).put (some 37) (.int .i64 kk.2.2.1)).put (some 38) (.pointer (some ⟨w.heap.size + 1, 0, none⟩))).put (some 39) (.int .i64 px)).put (some 40) (.int .i64 2)).put (some 41) (.int .i64 0)).put (some 42) (.int .i64 (2 ^ k))).put (some 43) (.int .i64 0)).put (some 44) (.int .i64 px)).put (some 45) (.pointer (some ⟨w.heap.size + 1, 1, none⟩))).put (some 46) (.int .i64 py)).put (some 47) (.int .i64 2)).put (some 48) (.int .i64 1)).put (some 49) (.int .i64 (2 ^ k))).put (some 50) (.int .i64 (2 ^ k))).put (some 51) (.int .i64 (py + 2 ^ k))).put (some 52) (.agg #[.int .i64 px, .int .i64 (py + 2 ^ k)])).put (some 53) (.slice A8 F.length c8)).put (some 54) (v9)).put (some 9) (v9)) ∧ (OwnC w9 (w.heap.size + 3) v9 (acc ++ F) ∧ Below (w.heap.size + 3) wr w9)) (.calm 0 (.calm 1 (.calm 2 (.calm 3 (.calm 4 (.calm 5 (.calm 6 (.calm 7 (.calm 8 (.calm 9 (.calm 10 (.calm 11 (.calm 12 (.calm 13 (.calm 14 (.calm 15 (.calm 16 (.calm 17 (.calm 18 (.calm 19 (.calm 20 (.only 21 (.only 22 (.calm 23 .done)))))))))))))))))))))))) (by kernel_rfl) (by kernel_rfl) (by kernel_rfl) (by rfl) hC0 ?_ ?_
            · skip
              refine ⟨_, _, (.slice A1 acc.length c1), rfl, rfl, ⟨rfl, fun W hW => by first | exact ⟨rfl, rfl⟩ | (simp only [Act.eval, execOp]; go_simp; try exact ⟨rfl, rfl⟩)⟩, ?_⟩
              simp only [Act.put, List.getElem_toArray, List.getElem_cons_zero, List.getElem_cons_succ, List.setIfInBounds_toArray, List.set_cons_succ, List.set_cons_zero]
              refine ⟨_, _, (.agg #[.slice (some ⟨b0, off, none⟩) l.length c, .int .i64 room]), rfl, rfl, ⟨rfl, fun W hW => by have s0 := (hst W hW).1; have s1 := (hst W hW).2.1; simp only [execOp]; go_simp; done⟩, ?_⟩
              simp only [Act.put, List.getElem_toArray, List.getElem_cons_zero, List.getElem_cons_succ, List.setIfInBounds_toArray, List.set_cons_succ, List.set_cons_zero]
              refine ⟨_, _, (.int .i64 2), rfl, rfl, ⟨rfl, fun W hW => by first | exact ⟨rfl, rfl⟩ | (simp only [Act.eval, execOp]; go_simp; try exact ⟨rfl, rfl⟩)⟩, ?_⟩
              simp only [Act.put, List.getElem_toArray, List.getElem_cons_zero, List.getElem_cons_succ, List.setIfInBounds_toArray, List.set_cons_succ, List.set_cons_zero]
              refine ⟨_, _, (.pointer (some ⟨w.heap.size + 2, 1, none⟩)), rfl, rfl, ⟨rfl, fun W hW => by first | exact ⟨rfl, rfl⟩ | (simp only [Act.eval, execOp]; go_simp; try exact ⟨rfl, rfl⟩)⟩, ?_⟩
              simp only [Act.put, List.getElem_toArray, List.getElem_cons_zero, List.getElem_cons_succ, List.setIfInBounds_toArray, List.set_cons_succ, List.set_cons_zero]
              refine ⟨_, _, (.pointer (some ⟨w.heap.size + 2, 3, none⟩)), rfl, rfl, ⟨rfl, fun W hW => by first | exact ⟨rfl, rfl⟩ | (simp only [Act.eval, execOp]; go_simp; try exact ⟨rfl, rfl⟩)⟩, ?_⟩
              simp only [Act.put, List.getElem_toArray, List.getElem_cons_zero, List.getElem_cons_succ, List.setIfInBounds_toArray, List.set_cons_succ, List.set_cons_zero]
              refine ⟨_, _, (.int .i64 kk.2.2.1), rfl, rfl, ⟨rfl, fun W hW => by have s0 := (hst W hW).2.2.1; simp only [execOp]; go_simp; done⟩, ?_⟩
              simp only [Act.put, List.getElem_toArray, List.getElem_cons_zero, List.getElem_cons_succ, List.setIfInBounds_toArray, List.set_cons_succ, List.set_cons_zero]
              refine ⟨_, _, (.pointer (some ⟨w.heap.size + 1, 0, none⟩)), rfl, rfl, ⟨rfl, fun W hW => by first | exact ⟨rfl, rfl⟩ | (simp only [Act.eval, execOp]; go_simp; try exact ⟨rfl, rfl⟩)⟩, ?_⟩
              simp only [Act.put, List.getElem_toArray, List.getElem_cons_zero, List.getElem_cons_succ, List.setIfInBounds_toArray, List.set_cons_succ, List.set_cons_zero]
              refine ⟨_, _, (.int .i64 px), rfl, rfl, ⟨rfl, fun W hW => by have s0 := (hst W hW).2.2.2.1; simp only [execOp]; go_simp; done⟩, ?_⟩
              simp only [Act.put, List.getElem_toArray, List.getElem_cons_zero, List.getElem_cons_succ, List.setIfInBounds_toArray, List.set_cons_succ, List.set_cons_zero]
              refine ⟨_, _, (.int .i64 2), rfl, rfl, ⟨rfl, fun W hW => by first | exact ⟨rfl, rfl⟩ | (simp only [Act.eval, execOp]; go_simp; try exact ⟨rfl, rfl⟩)⟩, ?_⟩
              simp only [Act.put, List.getElem_toArray, List.getElem_cons_zero, List.getElem_cons_succ, List.setIfInBounds_toArray, List.set_cons_succ, List.set_cons_zero]
              refine ⟨_, _, (.int .i64 0), rfl, rfl, ⟨rfl, fun W hW => by first | exact ⟨rfl, rfl⟩ | (simp only [Act.eval, execOp]; go_simp; try exact ⟨rfl, rfl⟩)⟩, ?_⟩
              simp only [Act.put, List.getElem_toArray, List.getElem_cons_zero, List.getElem_cons_succ, List.setIfInBounds_toArray, List.set_cons_succ, List.set_cons_zero]
              refine ⟨_, _, (.int .i64 (2 ^ k)), rfl, rfl, ⟨rfl, fun W hW => by first | exact ⟨rfl, rfl⟩ | (simp only [Act.eval, execOp]; go_simp; try exact ⟨rfl, rfl⟩)⟩, ?_⟩
              simp only [Act.put, List.getElem_toArray, List.getElem_cons_zero, List.getElem_cons_succ, List.setIfInBounds_toArray, List.set_cons_succ, List.set_cons_zero]
              refine ⟨_, _, (.int .i64 0), rfl, rfl, ⟨rfl, fun W hW => by first | exact ⟨rfl, rfl⟩ | (simp only [Act.eval, execOp]; go_simp; try exact ⟨rfl, rfl⟩)⟩, ?_⟩
              simp only [Act.put, List.getElem_toArray, List.getElem_cons_zero, List.getElem_cons_succ, List.setIfInBounds_toArray, List.set_cons_succ, List.set_cons_zero]
              refine ⟨_, _, (.int .i64 px), rfl, rfl, ⟨rfl, fun W hW => by first | exact ⟨rfl, rfl⟩ | (simp only [Act.eval, execOp]; go_simp; try exact ⟨rfl, rfl⟩)⟩, ?_⟩
              simp only [Act.put, List.getElem_toArray, List.getElem_cons_zero, List.getElem_cons_succ, List.setIfInBounds_toArray, List.set_cons_succ, List.set_cons_zero]
              refine ⟨_, _, (.pointer (some ⟨w.heap.size + 1, 1, none⟩)), rfl, rfl, ⟨rfl, fun W hW => by first | exact ⟨rfl, rfl⟩ | (simp only [Act.eval, execOp]; go_simp; try exact ⟨rfl, rfl⟩)⟩, ?_⟩
              simp only [Act.put, List.getElem_toArray, List.getElem_cons_zero, List.getElem_cons_succ, List.setIfInBounds_toArray, List.set_cons_succ, List.set_cons_zero]
              refine ⟨_, _, (.int .i64 py), rfl, rfl, ⟨rfl, fun W hW => by have s0 := (hst W hW).2.2.2.2; simp only [execOp]; go_simp; done⟩, ?_⟩
              simp only [Act.put, List.getElem_toArray, List.getElem_cons_zero, List.getElem_cons_succ, List.setIfInBounds_toArray, List.set_cons_succ, List.set_cons_zero]
              refine ⟨_, _, (.int .i64 2), rfl, rfl, ⟨rfl, fun W hW => by first | exact ⟨rfl, rfl⟩ | (simp only [Act.eval, execOp]; go_simp; try exact ⟨rfl, rfl⟩)⟩, ?_⟩
              simp only [Act.put, List.getElem_toArray, List.getElem_cons_zero, List.getElem_cons_succ, List.setIfInBounds_toArray, List.set_cons_succ, List.set_cons_zero]
              refine ⟨_, _, (.int .i64 1), rfl, rfl, ⟨rfl, fun W hW => by first | exact ⟨rfl, rfl⟩ | (simp only [Act.eval, execOp]; go_simp; try exact ⟨rfl, rfl⟩)⟩, ?_⟩
              simp only [Act.put, List.getElem_toArray, List.getElem_cons_zero, List.getElem_cons_succ, List.setIfInBounds_toArray, List.set_cons_succ, List.set_cons_zero]
              refine ⟨_, _, (.int .i64 (2 ^ k)), rfl, rfl, ⟨rfl, fun W hW => by first | exact ⟨rfl, rfl⟩ | (simp only [Act.eval, execOp]; go_simp; try exact ⟨rfl, rfl⟩)⟩, ?_⟩
              simp only [Act.put, List.getElem_toArray, List.getElem_cons_zero, List.getElem_cons_succ, List.setIfInBounds_toArray, List.set_cons_succ, List.set_cons_zero]
              refine ⟨_, _, (.int .i64 (2 ^ k)), rfl, rfl, ⟨rfl, fun W hW => by first | exact ⟨rfl, rfl⟩ | (simp only [Act.eval, execOp]; go_simp; try exact ⟨rfl, rfl⟩)⟩, ?_⟩
              simp only [Act.put, List.getElem_toArray, List.getElem_cons_zero, List.getElem_cons_succ, List.setIfInBounds_toArray, List.set_cons_succ, List.set_cons_zero]
              refine ⟨_, _, (.int .i64 (py + 2 ^ k)), rfl, rfl, ⟨rfl, fun W hW => by first | exact ⟨rfl, rfl⟩ | (simp only [Act.eval, execOp]; go_simp; try exact ⟨rfl, rfl⟩)⟩, ?_⟩
              simp only [Act.put, List.getElem_toArray, List.getElem_cons_zero, List.getElem_cons_succ, List.setIfInBounds_toArray, List.set_cons_succ, List.set_cons_zero]
              refine ⟨_, _, (.agg #[.int .i64 px, .int .i64 (py + 2 ^ k)]), rfl, rfl, ⟨rfl, fun W hW => by first | exact ⟨rfl, rfl⟩ | (simp only [Act.eval, execOp]; go_simp; try exact ⟨rfl, rfl⟩)⟩, ?_⟩
              simp only [Act.put, List.getElem_toArray, List.getElem_cons_zero, List.getElem_cons_succ, List.setIfInBounds_toArray, List.set_cons_succ, List.set_cons_zero]
              refine ⟨_, rfl, ?_⟩
              go_wp2_with fail
              refine (hcall _ (below_drew wr)).mono ?_
              rintro r w8 ⟨A8, c8, rfl, hc8, hR8, hb8⟩
              have hC := Qt.more hC0 (Nat.le_trans hsz hC0.size) hb8
              go_wp2_with fail
              refine ⟨rfl, hC, ?_⟩
              refine ⟨_, rfl, ?_⟩
              obtain ⟨v9, w9, hrun, hown9, hg9⟩ := Cel.app_any c8 (Nat.le_trans hsz hC.size) (Cel.Own.below (Cel.Own.below hown (below_drew wr)) hb8) hR8 hlen2
              have hC9 := hC.grown hg9 (Nat.le_trans hsz hC.size) (fun r e => (World.ownsRow.lt hown r e).1)
              refine Lib.wpList_append_run _ rfl (.tmp 32) (.tmp 53) 42 42 rfl _ _ rfl rfl _ _ hrun ?_
              refine ⟨rfl, hC9, ?_⟩
              refine ⟨_, _, v9, rfl, rfl, ⟨rfl, fun W hW => by first | exact ⟨rfl, rfl⟩ | (simp only [Act.eval, execOp]; go_simp; try exact ⟨rfl, rfl⟩)⟩, ?_⟩
              simp only [Act.put, List.getElem_toArray, List.getElem_cons_zero, List.getElem_cons_succ, List.setIfInBounds_toArray, List.set_cons_succ, List.set_cons_zero]
              refine ⟨A8, c8, v9, ?_, hown9, hC9⟩
              first | rfl | simp only [Act.put, List.getElem_toArray, List.getElem_cons_zero, List.getElem_cons_succ, List.setIfInBounds_toArray, List.set_cons_succ, List.set_cons_zero]
            rintro a9 w9 ⟨A8, c8, v9, rfl, hown9, hb9⟩
            simp only [Act.put, List.setIfInBounds_toArray, List.set_cons_succ, List.set_cons_zero]
            have HN := Lib.hid (HD.out.next hb9)
            have HO := Lib.hid hown9
            clear hcall hst hw1 hw2 hw3 hw4 hw5 hown9 hb9 hC0 HD hown hsz
            go_wp2_with fail
            go_roundw
            case measure => simp [intOf]
            case rel => exact ⟨3, by omega, by go_num, HN.out, by rw [← HST.out]; exact HO.out⟩
          · have h1 : kd kk 3 = kk.2.2.2 := rfl
            have hcall := fun W hW => hcall W hW
            rw [h1] at hcall hst
            have hst : ∀ W, Below (w.heap.size + 3) wr W → W.cell? ⟨w.heap.size, 0, none⟩ = some (.slice (some ⟨b0, off, none⟩) l.length c) ∧ W.cell? ⟨w.heap.size, 1, none⟩ = some (.int .i64 room) ∧ W.cell? ⟨w.heap.size + 2, 4, none⟩ = some (.int .i64 (kk.2.2.2)) ∧ W.cell? ⟨w.heap.size + 1, 0, none⟩ = some (.int .i64 px) ∧ W.cell? ⟨w.heap.size + 1, 1, none⟩ = some (.int .i64 py) := hst
            simp only [Nat.reduceMod, Nat.reduceDiv, Nat.zero_mod, Nat.zero_div, Int.natCast_zero, Int.natCast_one, Int.cast_ofNat_Int, Int.zero_mul, Int.one_mul, Int.add_zero] at hcall
            go_wp2_with fail
            refine region_calm_to (fun W => Below (w.heap.size + 3) wr W) (fun (a0 a9 : Act) (w9 : World) => ∃ (A8 : Option Addr) (c8 : Nat) (v9 : Value), a9 = ((((((((((((((((((((((((a0.put (some 32) (.slice A1 acc.length c1)).put (some 33) (.agg #[.slice (some ⟨b0, off, none⟩) l.length c, .int .i64 room])).put (some 34) (.int .i64 3)).put (some 35) (.pointer (some ⟨w.heap.size + 2, 1, none⟩))).put (some 36) (.pointer (some ⟨w.heap.size + 2, 4, none⟩))).put (some 37) (.int .i64 kk.2.2.2)).put (some 38) (.pointer (some ⟨w.heap.size + 1, 0, none⟩))).put (some 39) (.int .i64 px)).put (some 40) (.int .i64 3)).put (some 41) (.int .i64 1)).put (some 42) (.int .i64 (2 ^ k))).put (some 43) (.int .i64 (2 ^ k))).put (some 44) (.int .i64 (px + 2 ^ k))).put (some 45) (.pointer (some ⟨w.heap.size + 1, 1, none⟩))).put (some 46) (.int .i64 py)).put (some 47) (.int .i64 3)).put (some 48) (.int .i64 1)).put (some 49) (.int .i64 (2 ^ k))).put (some 50) (.int .i64 (2 ^ k))).put (some 51) (.int .i64 (py + 2 ^ k))).put (some 52) (.agg #[.int .i64 (px + 2 ^ k), .int .i64 (py + 2 ^ k)])).put (some 53) (.slice A8 F.length c8)).put (some 54) (v9)).put (some 9) (v9)) ∧ (OwnC w9 (w.heap.size + 3) v9 (acc ++ F) ∧ Below (w.heap.size + 3) wr w9)) (.calm 0 (.calm 1 (.calm 2 (.calm 3 (.calm 4 (.calm 5 (.calm 6 (.calm 7 (.calm 8 (.calm 9 (.calm 10 (.calm 11 (.calm 12 (.calm 13 (.calm 14 (.calm 15 (.calm 16 (.calm 17 (.calm 18 (.calm 19 (.calm 20 (.only 21 (.only 22 (.calm 23 .done)))))))))))))))))))))))) (by kernel_rfl) (by kernel_rfl) (by kernel_rfl) (by rfl) hC0 ?_ ?_
            · skip
              refine ⟨_, _, (.slice A1 acc.length c1), rfl, rfl, ⟨rfl, fun W hW => by first | exact ⟨rfl, rfl⟩ | (simp only [Act.eval, execOp]; go_simp; try exact ⟨rfl, rfl⟩)⟩, ?_⟩
              simp only [Act.put, List.getElem_toArray, List.getElem_cons_zero, List.getElem_cons_succ, List.setIfInBounds_toArray, List.set_cons_succ, List.set_cons_zero]
              refine ⟨_, _, (.agg #[.slice (some ⟨b0, off, none⟩) l.length c, .int .i64 room]), rfl, rfl, ⟨rfl, fun W hW => by have s0 := (hst W hW).1; have s1 := (hst W hW).2.1; simp only [execOp]; go_simp; done⟩, ?_⟩
              simp only [Act.put, List.getElem_toArray, List.getElem_cons_zero, List.getElem_cons_succ, List.setIfInBounds_toArray, List.set_cons_succ, List.set_cons_zero]
              refine ⟨_, _, (.int .i64 3), rfl, rfl, ⟨rfl, fun W hW => by first | exact ⟨rfl, rfl⟩ | (simp only [Act.eval, execOp]; go_simp; try exact ⟨rfl, rfl⟩)⟩, ?_⟩
              simp only [Act.put, List.getElem_toArray, List.getElem_cons_zero, List.getElem_cons_succ, List.setIfInBounds_toArray, List.set_cons_succ, List.set_cons_zero]
              refine ⟨_, _, (.pointer (some ⟨w.heap.size + 2, 1, none⟩)), rfl, rfl, ⟨rfl, fun W hW => by first | exact ⟨rfl, rfl⟩ | (simp only [Act.eval, execOp]; go_simp; try exact ⟨rfl, rfl⟩)⟩, ?_⟩
              simp only [Act.put, List.getElem_toArray, List.getElem_cons_zero, List.getElem_cons_succ, List.setIfInBounds_toArray, List.set_cons_succ, List.set_cons_zero]
              refine ⟨_, _, (.pointer (some ⟨w.heap.size + 2, 4, none⟩)), rfl, rfl, ⟨rfl, fun W hW => by first | exact ⟨rfl, rfl⟩ | (simp only [Act.eval, execOp]; go_simp; try exact ⟨rfl, rfl⟩)⟩, ?_⟩
              simp only [Act.put, List.getElem_toArray, List.getElem_cons_zero, List.getElem_cons_succ, List.setIfInBounds_toArray, List.set_cons_succ, List.set_cons_zero]
              refine ⟨_, _, (.int .i64 kk.2.2.2), rfl, rfl, ⟨rfl, fun W hW => by have s0 := (hst W hW).2.2.1; simp only [execOp]; go_simp; done⟩, ?_⟩
              simp only [Act.put, List.getElem_toArray, List.getElem_cons_zero, List.getElem_cons_succ, List.setIfInBounds_toArray, List.set_cons_succ, List.set_cons_zero]
              refine ⟨_, _, (.pointer (some ⟨w.heap.size + 1, 0, none⟩)), rfl, rfl, ⟨rfl, fun W hW => by first | exact ⟨rfl, rfl⟩ | (simp only [Act.eval, execOp]; go_simp; try exact ⟨rfl, rfl⟩)⟩, ?_⟩
              simp only [Act.put, List.getElem_toArray, List.getElem_cons_zero, List.getElem_cons_succ, List.setIfInBounds_toArray, List.set_cons_succ, List.set_cons_zero]
              refine ⟨_, _, (.int .i64 px), rfl, rfl, ⟨rfl, fun W hW => by have s0 := (hst W hW).2.2.2.1; simp only [execOp]; go_simp; done⟩, ?_⟩
              simp only [Act.put, List.getElem_toArray, List.getElem_cons_zero, List.getElem_cons_succ, List.setIfInBounds_toArray, List.set_cons_succ, List.set_cons_zero]
              refine ⟨_, _, (.int .i64 3), rfl, rfl, ⟨rfl, fun W hW => by first | exact ⟨rfl, rfl⟩ | (simp only [Act.eval, execOp]; go_simp; try exact ⟨rfl, rfl⟩)⟩, ?_⟩
              simp only [Act.put, List.getElem_toArray, List.getElem_cons_zero, List.getElem_cons_succ, List.setIfInBounds_toArray, List.set_cons_succ, List.set_cons_zero]
              refine ⟨_, _, (.int .i64 1), rfl, rfl, ⟨rfl, fun W hW => by first | exact ⟨rfl, rfl⟩ | (simp only [Act.eval, execOp]; go_simp; try exact ⟨rfl, rfl⟩)⟩, ?_⟩
              simp only [Act.put, List.getElem_toArray, List.getElem_cons_zero, List.getElem_cons_succ, List.setIfInBounds_toArray, List.set_cons_succ, List.set_cons_zero]
              refine ⟨_, _, (.int .i64 (2 ^ k)), rfl, rfl, ⟨rfl, fun W hW => by first | exact ⟨rfl, rfl⟩ | (simp only [Act.eval, execOp]; go_simp; try exact ⟨rfl, rfl⟩)⟩, ?_⟩
              simp only [Act.put, List.getElem_toArray, List.getElem_cons_zero, List.getElem_cons_succ, List.setIfInBounds_toArray, List.set_cons_succ, List.set_cons_zero]
              refine ⟨_, _, (.int .i64 (2 ^ k)), rfl, rfl, ⟨rfl, fun W hW => by first | exact ⟨rfl, rfl⟩ | (simp only [Act.eval, execOp]; go_simp; try exact ⟨rfl, rfl⟩)⟩, ?_⟩
              simp only [Act.put, List.getElem_toArray, List.getElem_cons_zero, List.getElem_cons_succ, List.setIfInBounds_toArray, List.set_cons_succ, List.set_cons_zero]
              refine ⟨_, _, (.int .i64 (px + 2 ^ k)), rfl, rfl, ⟨rfl, fun W hW => by first | exact ⟨rfl, rfl⟩ | (simp only [Act.eval, execOp]; go_simp; try exact ⟨rfl, rfl⟩)⟩, ?_⟩
              simp only [Act.put, List.getElem_toArray, List.getElem_cons_zero, List.getElem_cons_succ, List.setIfInBounds_toArray, List.set_cons_succ, List.set_cons_zero]
              refine ⟨_, _, (.pointer (some ⟨w.heap.size + 1, 1, none⟩)), rfl, rfl, ⟨rfl, fun W hW => by first | exact ⟨rfl, rfl⟩ | (simp only [Act.eval, execOp]; go_simp; try exact ⟨rfl, rfl⟩)⟩, ?_⟩
              simp only [Act.put, List.getElem_toArray, List.getElem_cons_zero, List.getElem_cons_succ, List.setIfInBounds_toArray, List.set_cons_succ, List.set_cons_zero]
              refine ⟨_, _, (.int .i64 py), rfl, rfl, ⟨rfl, fun W hW => by have s0 := (hst W hW).2.2.2.2; simp only [execOp]; go_simp; done⟩, ?_⟩
              simp only [Act.put, List.getElem_toArray, List.getElem_cons_zero, List.getElem_cons_succ, List.setIfInBounds_toArray, List.set_cons_succ, List.set_cons_zero]
              refine ⟨_, _, (.int .i64 3), rfl, rfl, ⟨rfl, fun W hW => by first | exact ⟨rfl, rfl⟩ | (simp only [Act.eval, execOp]; go_simp; try exact ⟨rfl, rfl⟩)⟩, ?_⟩
              simp only [Act.put, List.getElem_toArray, List.getElem_cons_zero, List.getElem_cons_succ, List.setIfInBounds_toArray, List.set_cons_succ, List.set_cons_zero]
              refine ⟨_, _, (.int .i64 1), rfl, rfl, ⟨rfl, fun W hW => by first | exact ⟨rfl, rfl⟩ | (simp only [Act.eval, execOp]; go_simp; try exact ⟨rfl, rfl⟩)⟩, ?_⟩
              simp only [Act.put, List.getElem_toArray, List.getElem_cons_zero, List.getElem_cons_succ, List.setIfInBounds_toArray, List.set_cons_succ, List.set_cons_zero]
              refine ⟨_, _, (.int .i64 (2 ^ k)), rfl, rfl, ⟨rfl, fun W hW => by first | exact ⟨rfl, rfl⟩ | (simp only [Act.eval, execOp]; go_simp; try exact ⟨rfl, rfl⟩)⟩, ?_⟩
              simp only [Act.put, List.getElem_toArray, List.getElem_cons_zero, List.getElem_cons_succ, List.setIfInBounds_toArray, List.set_cons_succ, List.set_cons_zero]
              refine ⟨_, _, (.int .i64 (2 ^ k)), rfl, rfl, ⟨rfl, fun W hW => by first | exact ⟨rfl, rfl⟩ | (simp only [Act.eval, execOp]; go_simp; try exact ⟨rfl, rfl⟩)⟩, ?_⟩
              simp only [Act.put, List.getElem_toArray, List.getElem_cons_zero, List.getElem_cons_succ, List.setIfInBounds_toArray, List.set_cons_succ, List.set_cons_zero]
              refine ⟨_, _, (.int .i64 (py + 2 ^ k)), rfl, rfl, ⟨rfl, fun W hW => by first | exact ⟨rfl, rfl⟩ | (simp only [Act.eval, execOp]; go_simp; try exact ⟨rfl, rfl⟩)⟩, ?_⟩
              simp only [Act.put, List.getElem_toArray, List.getElem_cons_zero, List.getElem_cons_succ, List.setIfInBounds_toArray, List.set_cons_succ, List.set_cons_zero]
              refine ⟨_, _, (.agg #[.int .i64 (px + 2 ^ k), .int .i64 (py + 2 ^ k)]), rfl, rfl, ⟨rfl, fun W hW => by first | exact ⟨rfl, rfl⟩ | (simp only [Act.eval, execOp]; go_simp; try exact ⟨rfl, rfl⟩)⟩, ?_⟩
              simp only [Act.put, List.getElem_toArray, List.getElem_cons_zero, List.getElem_cons_succ, List.setIfInBounds_toArray, List.set_cons_succ, List.set_cons_zero]
              refine ⟨_, rfl, ?_⟩
              go_wp2_with fail
              refine (hcall _ (below_drew wr)).mono ?_
              rintro r w8 ⟨A8, c8, rfl, hc8, hR8, hb8⟩
              have hC := Qt.more hC0 (Nat.le_trans hsz hC0.size) hb8
              go_wp2_with fail
              refine ⟨rfl, hC, ?_⟩
              refine ⟨_, rfl, ?_⟩
              obtain ⟨v9, w9, hrun, hown9, hg9⟩ := Cel.app_any c8 (Nat.le_trans hsz hC.size) (Cel.Own.below (Cel.Own.below hown (below_drew wr)) hb8) hR8 hlen2
              have hC9 := hC.grown hg9 (Nat.le_trans hsz hC.size) (fun r e => (World.ownsRow.lt hown r e).1)
              refine Lib.wpList_append_run _ rfl (.tmp 32) (.tmp 53) 42 42 rfl _ _ rfl rfl _ _ hrun ?_
              refine ⟨rfl, hC9, ?_⟩
              refine ⟨_, _, v9, rfl, rfl, ⟨rfl, fun W hW => by first | exact ⟨rfl, rfl⟩ | (simp only [Act.eval, execOp]; go_simp; try exact ⟨rfl, rfl⟩)⟩, ?_⟩
              simp only [Act.put, List.getElem_toArray, List.getElem_cons_zero, List.getElem_cons_succ, List.setIfInBounds_toArray, List.set_cons_succ, List.set_cons_zero]
              refine ⟨A8, c8, v9, ?_, hown9, hC9⟩
              first | rfl | simp only [Act.put, List.getElem_toArray, List.getElem_cons_zero, List.getElem_cons_succ, List.setIfInBounds_toArray, List.set_cons_succ, List.set_cons_zero]
            rintro a9 w9 ⟨A8, c8, v9, rfl, hown9, hb9⟩
            simp only [Act.put, List.setIfInBounds_toArray, List.set_cons_succ, List.set_cons_zero]
            have HN := Lib.hid (HD.out.next hb9)
            have HO := Lib.hid hown9
            clear hcall hst hw1 hw2 hw3 hw4 hw5 hown9 hb9 hC0 HD hown hsz
            go_wp2_with fail
            go_roundw
            case measure => simp [intOf]
            case rel => exact ⟨4, by omega, by go_num, HN.out, by rw [← HST.out]; exact HO.out⟩
        · obtain rfl : j = 4 := by omega
          have hltz : ¬ ((4 : Nat) : Int) < 4 := by decide
          have hR1 := hR1
          rw [HALL.out, ← HFL.out] at hR1 hc1 ⊢
          have HRR1 := Lib.hid hR1
          have HBL := Lib.hid HH.out.1.bel
          clear HH hR1
          go_wp2_with fail
          go_ret
          exact ⟨A1, c1, rfl, hc1, HRR1.out, HBL.out⟩
theorem refFlat_any {room0 : Int} (l : List Nd) (hr : Right6 l room0) (k : Nat) (hk : k ≤ 42) : FlatAt l room0 k := flat_any l hr k hk
set_option maxHeartbeats 4000000 in
theorem refOf7_any {room0 : Int} (l : List Nd) (hr : Right6 l room0) (A : Option Addr) (c : Nat) (room : Int) (e n : Nat) (w : World) (he : e ≤ 41) (hn : Is l (e + 1) n) (hR : RdN w w.heap.size A l) (hlen : (about7 l e n).length ≤ 900000) :
    Calls Try.prog 23 #[storeV A l.length c room, .int .i64 (n : Nat)] w (FlR (about7 l e n) w) := by
  obtain ⟨hp1, hp2⟩ := pow_bd7 (e := e) (by omega)
  have hp3 : (2 : Int) ^ e ≤ 2199023255552 := pow_le7 (f := 41) he
  have e2 : (2 : Int) ^ (e + 1) = 2 ^ e * 2 := Int.pow_succ ..
  obtain ⟨b0, off, rfl, hbB, hcell⟩ := hR.at_ (by have := hr.two; omega)
  have x0 := (hcell n hn.lt).1
  rw [hn.lev, show ((e + 1 : Nat) : Int) = (e : Int) + 1 by omega] at x0
  have hal1 := (Below.refl w.heap.size w).alloc (Nat.le_refl _) (.cells #[.slice (some ⟨b0, off, none⟩) l.length c, .int .i64 room] 26)
  have y0 := Qt.keep hal1 x0
  have hrow : (w.alloc (.cells #[.slice (some ⟨b0, off, none⟩) l.length c, .int .i64 room] 26)).heap[w.heap.size]? = some (.cells #[.slice (some ⟨b0, off, none⟩) l.length c, .int .i64 room] 26 (0, 0)) := heap_new rfl
  have s0 : (w.alloc (.cells #[.slice (some ⟨b0, off, none⟩) l.length c, .int .i64 room] 26)).cell? ⟨w.heap.size, 0, none⟩ = some (.slice (some ⟨b0, off, none⟩) l.length c) := by rw [Lib.cell_of_heap hrow]; rfl
  have s1 : (w.alloc (.cells #[.slice (some ⟨b0, off, none⟩) l.length c, .int .i64 room] 26)).cell? ⟨w.heap.size, 1, none⟩ = some (.int .i64 room) := by rw [Lib.cell_of_heap hrow]; rfl
  have hnz : (n : Int) < (l.length : Int) := by have := hn.lt; omega
  have hcall := refFlat_any l hr (e + 1) (by omega) (some ⟨b0, off, none⟩) c room n (-(2 ^ e), -(2 ^ e)) _ hn ((hR.below hal1 (Nat.le_refl _)).more hal1.size) hlen (by dsimp only; rw [e2]; generalize (2 : Int) ^ e = q at *; omega)
  rw [show flat l (e + 1) n (-(2 ^ e), -(2 ^ e)) = about7 l e n from rfl] at hcall
  have hneg : IntKind.i64.wrap (-(2 ^ e)) = -(2 ^ e) := by rw [IntKind.wrap_i64]; generalize (2 : Int) ^ e = q at *; omega
  have hwk : IntKind.i64.wrap ((e : Int)) = (e : Int) := by rw [IntKind.wrap_i64]; omega
  have hadd : (e : Int) + 1 - 1 = (e : Int) := by omega
  have HB := Lib.hid hal1
  unfold storeV cellV at hcall
  unfold storeV
  generalize about7 l e n = F at *
  clear hcell x0 hal1 hrow hR e2 hp3 hlen
  go_enter Try.func23, Try.ntmps23
  go_wp2_with fail
  refine hcall.mono ?_
  rintro r w8 ⟨A8, c8, rfl, hc8, hR8, hb8⟩
  have HR8 := Lib.hid hR8
  have HB8 := Lib.hid (Qt.more HB.out HB.out.size hb8)
  clear hcall hR8 hb8 HB
  go_wp2_with fail
  go_ret
  exact ⟨A8, c8, rfl, hc8, HR8.out, HB8.out⟩
end Go.Proofs.Ytklccoodfhejbaa
