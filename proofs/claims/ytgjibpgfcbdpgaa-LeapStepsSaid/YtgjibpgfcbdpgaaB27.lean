/-
  Texts that the claims of this seat share, part 27.
-/
import Derived.Test.YtgjibpgfcbdpgaaB21
import Derived.Test.YtgjibpgfcbdpgaaB22
import Derived.Test.YtgjibpgfcbdpgaaB14
import Derived.Test.YtgjibpgfcbdpgaaB13
import Derived.Test.YtgjibpgfcbdpgaaB23
import Derived.Test.YtgjibpgfcbdpgaaB26
import Derived.Laws.ResultCell
import Derived.BigRegion
import Derived.Test.YtgjibpgfcbdpgaaB10
import Derived.Test.YtgjibpgfcbdpgaaB05
import Derived.Lib.AppendZerosOnto
import Derived.Laws.CopyRow
import Derived.Test.YtgjibpgfcbdpgaaB01
set_option linter.unusedVariables false
set_option linter.unusedSimpArgs false
namespace Go.Proofs.Ytgjibpgfcbdpgaa
set_option maxRecDepth 100000
set_option linter.unusedVariables false
set_option linter.unusedSimpArgs false

theorem grown_far (room : Int) (jn : Nat) : ∀ (d t e n : Nat) (l : List Nd) (F : Pic), Sw l room e n F → e + 1 + d = 42 → 42 < jn + 3 →
    ((grownN room jn d t l n).2.2 = 40 ∧ room < ((l.length + d * 46 : Nat) : Int)) ∨ (grownN room jn d t l n).2.2 = 2
  | 0, t, e, n, l, F, h, hd, hj => by
    right
    rw [show grownN room jn 0 t l n = (l, 0, 2) from if_pos (.inr (by omega))]
  | d + 1, t, e, n, l, F, h, hd, hj => by
    have hg : grownN room jn (d + 1) t l n = andZ (growZ room l (n : Int)) (fun m p => grownN room jn d (t + 1) m p.toNat) := if_pos (.inr (by omega))
    rw [hg]
    rcases (h.grow (by omega)).s with ⟨h1, h2⟩ | ⟨m, p, e0, g, r, len, q⟩
    · left
      rw [and_no (by rw [h1]; decide)]
      exact ⟨h1, by omega⟩
    · rw [show growZ room l (n : Int) = (m, (p : Int), 0) from e0, and_yes rfl]
      simp only [Int.toNat_natCast]
      rcases grown_far room jn d (t + 1) (e + 1) p m F q (by omega) hj with ⟨h1, h2⟩ | h1
      · exact .inl ⟨h1, by omega⟩
      · exact .inr h1
def gl9 : List (Int × Int) := [(0, 0), (1, 1), (-1, 2), (0, 2), (1, 2)]
def gl94 : List (Int × Int) := [(1, 1), (2, 2), (0, 3), (1, 3), (2, 3)]
theorem gl_run : Cel.iterL 4 gl9 = gl94 := by decide +kernel
theorem gl_right : Cel.rightB gl9 = true := by decide +kernel
theorem gl_right4 : Cel.rightB gl94 = true := by decide +kernel
theorem gl_rises : Cel.Rises gl9 := ((Cel.rightB_iff _).1 gl_right).2.2
theorem gl_pic : runF 4 (picL gl9) = picL gl94 := by rw [run_pic 4 gl_rises, gl_run]
theorem gl_in : ¬ InP (2 ^ 1) (picL gl9) := fun h => by
  have := h (-1) 2 (by decide)
  exact absurd this (by decide)
theorem gl_in2 : InP (2 ^ 2) (picL gl9) := fun a b hn => decide_eq_false fun hm => by
  simp only [gl9, List.mem_cons, List.not_mem_nil, or_false, Prod.mk.injEq] at hm
  omega
theorem new_right9 : Right6 new6 9000 := right_iff.1 (by decide +kernel)
theorem aw9_make : ∃ (l : List Nd) (n : Nat), make7 new6 9000 gl9 4 = (l, (n : Int), 0) ∧ Sq l 9000 3 n gl9 ∧ l.length ≤ 26 := by
  obtain ⟨m, n, h1, _, h2, h3⟩ := make_ok (e := 3) new_right9 (by decide) gl_right (by decide +kernel) (by decide)
  exact ⟨m, n, h1, h2, h3⟩
section
variable {l : List Nd} {n : Nat}
theorem aw9_lev (h : Sq l 9000 3 n gl9) : levI l (n : Int) = 4 := lev_at (k := 4) h.is
theorem aw9_ok (h : Sq l 9000 3 n gl9) (z : Zn) : grownL l 9000 (n : Int) z = if z.2.2 = 0 then z else (l, 0, z.2.2) := by
  unfold grownL
  rw [if_pos (by rw [right_iff.2 h.right, aw9_lev h]; rfl)]
theorem gl_lev {e1 : Nat} (h1 : e1 ≤ 2) (h2 : e1 = 0 ∨ ¬ InP (2 ^ e1) (picL gl9)) : e1 ≤ 1 := by
  rcases (by omega : e1 ≤ 1 ∨ e1 = 2) with h | rfl
  · exact h
  · rcases h2 with h | h
    · omega
    · exact absurd gl_in2 h
theorem aw9_run (h : Sq l 9000 3 n gl9) (hl : l.length ≤ 26) : ∃ (m : List Nd) (p e' : Nat), run9 l 9000 (n : Int) 4 = (m, (p : Int), 0) ∧ Sq m 9000 (e' + 1) p gl94 := by
  have hb : Nq.bitsL 4 = [2] := by decide +kernel
  have hz : runZ 9000 l (n : Int) 4 = runTo 9000 [2] l (n : Int) := by unfold runZ; rw [if_pos (by decide), hb]
  have e0 : runTo 9000 [2] l (n : Int) = andZ (andZ (trimZ 9000 l (n : Int)) fun l1 n1 => andZ (grownZ 9000 2 l1 n1) fun l2 n2 => leapAtZ 9000 2 l2 n2) (fun l3 n3 => trimZ 9000 l3 n3) := by
    rw [← and_assoc9]
    show andZ _ _ = _
    congr 1
    funext l1 n1
    rw [← and_assoc9]
    rfl
  have hb := bit_done (e := 2) (jn := 2) (C := 4759) h.whole (by decide) (by decide) (fun e1 x h1 h2 hx => by
    have := gl_lev h1 h2
    have hx3 : x ≤ 3 := by omega
    rcases (by omega : x = 0 ∨ x = 1 ∨ x = 2 ∨ x = 3) with rfl | rfl | rfl | rfl <;> decide)
  have hr := hb.and (f := fun l3 n3 => trimZ 9000 l3 n3) (M := 3) (Q' := fun m p => ∃ e', Sw m 9000 (e' + 1) p (runF (2 ^ 2) (picL gl9))) (fun m p g r ⟨e', h1, h2⟩ => by
    rw [trimZ_is h2.sf.is]
    exact (trim_done 9000 e' p m _ h2 (by omega)).mono (by omega) fun m' p' _ _ ⟨e2, _, h3, _⟩ => ⟨e2, h3⟩)
  rcases hr with ⟨h1, h2⟩ | ⟨m, p, e1, g, r, len, e', hq⟩
  · exfalso
    omega
  · refine ⟨m, p, e', ?_, ?_⟩
    · unfold run9
      rw [aw9_ok h, hz, e0, e1, if_pos rfl]
    · rw [show (2 ^ 2 : Nat) = 4 from rfl, gl_pic] at hq
      exact hq.sq gl_right4
theorem aw9_leap (h : Sq l 9000 3 n gl9) (hl : l.length ≤ 26) : ∃ (m : List Nd) (p : Nat), leap9 l 9000 (n : Int) 2 = (m, (p : Int), 0) ∧ Sq m 9000 2 p gl94 := by
  have hz : leapZ 9000 l (n : Int) 2 = leapN 9000 2 2 l (n : Int) := by
    unfold leapZ
    rw [aw9_lev h, if_pos (by decide)]
    rfl
  rcases (leap_done 9000 2 2 n l (picL gl9) h.whole.sf (by decide)).s with ⟨h1, h2⟩ | ⟨m, p, e1, g, r, len, hq⟩
  · exfalso
    have : costN 2 ≤ 4759 := by decide
    omega
  · refine ⟨m, p, ?_, ?_⟩
    · unfold leap9
      rw [aw9_ok h, hz, show leapN 9000 2 2 l (n : Int) = _ from e1, if_pos rfl]
    · rw [show (2 ^ 2 : Nat) = 4 from rfl, gl_pic] at hq
      exact hq.sq gl_right4 (by decide +kernel) fun c _ => decide_eq_true_iff
theorem aw9_trim (h : Sq l 9000 3 n gl9) (hl : l.length ≤ 26) : ∃ (m : List Nd) (p : Nat), trim9 l 9000 (n : Int) = (m, (p : Int), 0) ∧ Right6 m 9000 ∧ Is m 3 p := by
  have hz : trimZ 9000 l (n : Int) = trimN 9000 2 l n := trimZ_is h.is
  rcases trim_done 9000 2 n l (picL gl9) h.whole (by decide) with ⟨h1, h2⟩ | ⟨m, p, e1, g, r, len, e', h3, h4, h5⟩
  · exfalso; omega
  · refine ⟨m, p, ?_, r, ?_⟩
    · unfold trim9
      rw [aw9_ok h, hz, e1, if_pos rfl]
    · have h6 : e' = 0 ∨ ¬ InP (2 ^ e') (picL gl9) := h5.imp id fun hd hp => hd (h4.sf.ringed fun c _ hc => by
        obtain ⟨a, b⟩ := c
        exact hp a b fun hn => by rw [in_iff.2 hn] at hc; cases hc)
      have h7 := gl_lev h3 h6
      rcases (by omega : e' = 0 ∨ e' = 1) with rfl | rfl
      · exact absurd h4.inp gl_in
      · exact h4.sf.is
theorem aw9_no (h : Sq l 9000 3 n gl9) : leap9 l 9000 (n : Int) 3 = (l, 0, 1) := by
  have hz : leapZ 9000 l (n : Int) 3 = (l, 0, 1) := by
    unfold leapZ
    rw [aw9_lev h, if_neg (by decide)]
  unfold leap9
  rw [aw9_ok h, hz, if_neg (show ¬ (1 : Int) = 0 by decide)]
theorem aw9_far (h : Sq l 9000 3 n gl9) (hl : l.length ≤ 26) : run9 l 9000 (n : Int) 2305843009213693952 = (l, 0, 2) := by
  have hb : Nq.bitsL 2305843009213693952 = [61] := by decide +kernel
  have hz : runZ 9000 l (n : Int) 2305843009213693952 = runTo 9000 [61] l (n : Int) := by unfold runZ; rw [if_pos (by decide), hb]
  have h2 : (runTo 9000 [61] l (n : Int)).2.2 = 2 := by
    show (andZ (trimZ 9000 l (n : Int)) _).2.2 = 2
    rw [trimZ_is h.is]
    rcases trim_done 9000 2 n l (picL gl9) h.whole (by decide) with ⟨h1, h2⟩ | ⟨m, p, e1, g, r, len, e', h3, h4, h5⟩
    · exfalso; omega
    · rw [e1, and_yes rfl]
      show (andZ (grownZ 9000 61 m (p : Int)) _).2.2 = 2
      rw [grownZ_is (d := 40 - e') h4.sf.is (by omega)]
      rcases grown_far 9000 61 (40 - e') 0 (e' + 1) p m _ h4 (by omega) (by decide) with ⟨h6, h7⟩ | h6
      · exfalso; omega
      · rw [and_no (by rw [h6]; decide)]
        exact h6
  unfold run9
  rw [aw9_ok h, hz, if_neg (by rw [h2]; decide), h2]
end
end Go.Proofs.Ytgjibpgfcbdpgaa
namespace Go.Proofs.Ytgjibpgfcbdpgaa.Cel
open Go.RowKit Go.Sort

/-- a block that is known whole -/
def Whole (w : World) (g T : Nat) (cs : Array Value) : Prop := w.heap[g]? = some (.cells cs T (0, 0))
section
variable {w w' : World} {g T : Nat} {cs : Array Value}
theorem Whole.lt (h : Whole w g T cs) : g < w.heap.size := by
  rcases Nat.lt_or_ge g w.heap.size with h' | h'
  · exact h'
  · unfold Whole at h; rw [Array.getElem?_eq_none h'] at h; cases h
theorem Whole.below (h : Whole w g T cs) (hb : Below w.heap.size w w') : Whole w' g T cs := (hb.block g h.lt).trans h
theorem Whole.cell (h : Whole w g T cs) (i : Nat) : w.cell? ⟨g, i, none⟩ = cs[i]? := cell_of_row w g i cs T (0, 0) h
theorem Whole.free (h : Whole w g T cs) (i : Nat) : w.frozen? ⟨g, i, none⟩ = false := frozen_of_row w g i cs T h
theorem Whole.new (w : World) (T : Nat) (cs : Array Value) : Whole (w.alloc (.cells cs T)) w.heap.size T cs := heap_alloc_new w _
end

/-- a Box's block: its cells, none frozen -/
theorem Whole.four {w : World} {g T : Nat} {a b c d : Value} (h : Whole w g T #[a, b, c, d]) :
    w.cell? ⟨g, 0, none⟩ = some a ∧ w.cell? ⟨g, 1, none⟩ = some b ∧ w.cell? ⟨g, 2, none⟩ = some c ∧ w.cell? ⟨g, 3, none⟩ = some d ∧
    w.frozen? ⟨g, 0, none⟩ = false ∧ w.frozen? ⟨g, 1, none⟩ = false ∧ w.frozen? ⟨g, 2, none⟩ = false ∧ w.frozen? ⟨g, 3, none⟩ = false :=
  ⟨h.cell 0, h.cell 1, h.cell 2, h.cell 3, h.free 0, h.free 1, h.free 2, h.free 3⟩

end Go.Proofs.Ytgjibpgfcbdpgaa.Cel
namespace Go.Proofs.Ytgjibpgfcbdpgaa.Cel
open Go.RowKit Go.Sort

/-! ### what the box is about -/
theorem Whole.far {w : World} {g T : Nat} {cs : Array Value} (h : Whole w g T cs) {p : Addr} (hp : g ≠ p.block) (u : Value) : Whole (w.setCell p u) g T cs := (Below.heap_setCell w p u g hp).trans h
end Go.Proofs.Ytgjibpgfcbdpgaa.Cel
namespace Go.Proofs.Ytgjibpgfcbdpgaa.Cel
open Go.RowKit Go.Sort

theorem rises_shL (x y : Int) {l : List (Int × Int)} (h : Rises l) : Rises (shL x y l) := by
  unfold shL Rises
  rw [List.pairwise_map]
  refine List.Pairwise.imp ?_ h
  intro p q hpq
  rw [lessB_iff] at *
  simp only
  omega
/-- A set near the middle. -/
def Near (l : List (Int × Int)) : Prop := l.length ≤ 60 ∧ Rises l ∧ ∀ p ∈ l, -8 ≤ p.1 ∧ p.1 ≤ 7 ∧ -8 ≤ p.2 ∧ p.2 ≤ 7
def Far (x : Int) : Prop := -1099511627000 ≤ x ∧ x ≤ 1099511627000
theorem Near.far {l : List (Int × Int)} (h : Near l) {x y : Int} (hx : Far x) (hy : Far y) : rightB (shL x y l) = true := by
  unfold Far at hx hy
  refine (rightB_iff _).2 ⟨?_, fun c hc => ?_, rises_shL x y h.2.1⟩
  · rw [length_shL]; exact Nat.le_trans h.1 (by decide)
  · obtain ⟨p, hp, rfl⟩ := List.mem_map.1 hc
    have := h.2.2 p hp
    rw [inB_iff]
    simp only
    omega
theorem Near.right {l : List (Int × Int)} (h : Near l) : rightB l = true := by
  have := h.far (x := 0) (y := 0) ⟨by decide, by decide⟩ ⟨by decide, by decide⟩
  have e : shL 0 0 l = l := by
    unfold shL
    conv => rhs; rw [← List.map_id l]
    refine List.map_congr_left fun c _ => ?_
    simp
  rwa [e] at this
/-- A slice whose cells read as a list, now. -/
def Now (w : World) (A : Option Addr) (l : List (Int × Int)) : Prop := Rd w w.heap.size A l
theorem Now.below {w w' : World} {A : Option Addr} {l : List (Int × Int)} (h : Now w A l) (hb : Below w.heap.size w w') : Now w' A l := (Rd.below h hb (Nat.le_refl _)).more hb.size

end Go.Proofs.Ytgjibpgfcbdpgaa.Cel
namespace Go.Proofs.Ytgjibpgfcbdpgaa.Cel
open Go.RowKit Go.Sort

/-- .. what comes out of it, as a list at a place of its own -/
def Fresh (w : World) (l : List (Int × Int)) (e : Ending) (w' : World) : Prop :=
  ∃ g, e = .returned (.tuple #[.slice (some ⟨g, 0, none⟩) l.length l.length, .int .i64 0]) ∧ Row w' w.heap.size 48 g l.length l.length l ∧ Below w.heap.size w w'

end Go.Proofs.Ytgjibpgfcbdpgaa.Cel
namespace Go.Proofs.Ytgjibpgfcbdpgaa.Cel
open Go.RowKit Go.Sort

theorem Fresh.now {w w' : World} {l : List (Int × Int)} {e : Ending} (h : Fresh w l e w') : ∃ g, e = .returned (.tuple #[.slice (some ⟨g, 0, none⟩) l.length l.length, .int .i64 0]) ∧ Hid (Now w' (some ⟨g, 0, none⟩) l) ∧ Below w.heap.size w w' := by
  obtain ⟨g, he, hr, hb⟩ := h
  exact ⟨g, he, hr.rd, hb⟩

end Go.Proofs.Ytgjibpgfcbdpgaa.Cel
namespace Go.Proofs.Ytgjibpgfcbdpgaa.Cel
open Go.RowKit Go.Sort

theorem append_none {w : World} {B : Nat} {v : Value} {out : List (Int × Int)} (c : Nat) (ho : Own w B 48 v out) :
    (Builtin.append_ #[42, 42] 42 #[v, .slice none 0 c]).run Try.prog w = .ok v w := by
  obtain ⟨i0, hi, hz0, hz1, hz2⟩ := info_parts infoCell
  rcases ho.2 with ⟨rfl, _⟩ | ⟨g, cap, cur, rfl, _, _, hnc, _⟩
  · simp [Builtin.append_, run_underlying Try.underlying42, sizeOf, typeInfo, hi, Builtin.lenOf, Builtin.firstCells]
  · simp [Builtin.append_, run_underlying Try.underlying42, sizeOf, typeInfo, hi, Builtin.lenOf, Builtin.firstCells, storeCells, hnc]

theorem fl_at {w : World} {b off : Nat} {m : List (Int × Int)} (h : ∀ j, j < m.length → w.cell? ⟨b, off + j * 2, none⟩ = some (.int .i64 (m.getD j (0, 0)).1) ∧ w.cell? ⟨b, off + j * 2 + 1, none⟩ = some (.int .i64 (m.getD j (0, 0)).2)) :
    ∀ j u, (fl m)[j]? = some u → w.cell? ((⟨b, off, none⟩ : Addr).add j) = some u := by
  intro j u hu
  rw [Addr.add_lit]
  have hj : j < m.length * 2 := by
    rcases Nat.lt_or_ge j (m.length * 2) with h1 | h1
    · exact h1
    · rw [List.getElem?_eq_none (by rw [length_fl]; exact h1)] at hu; cases hu
  obtain ⟨h0, h1⟩ := h (j / 2) (by omega)
  obtain ⟨f0, f1⟩ := fl_get m (j / 2) (by omega)
  by_cases hp : j % 2 = 0
  · have e : j = j / 2 * 2 := by omega
    rw [e] at hu ⊢
    rw [f0] at hu
    rw [← hu]
    exact h0
  · have e : j = j / 2 * 2 + 1 := by omega
    rw [e] at hu ⊢
    rw [f1] at hu
    rw [← hu, ← Nat.add_assoc]
    exact h1

theorem app_any {w : World} {B : Nat} {v : Value} {out m : List (Int × Int)} {A : Option Addr} (c : Nat) (hB : B ≤ w.heap.size) (ho : Own w B 48 v out) (hm : Now w A m) (hl : out.length + m.length ≤ 1000000) :
    ∃ v' w', (Builtin.append_ #[42, 42] 42 #[v, .slice A m.length c]).run Try.prog w = .ok v' w' ∧ Own w' B 48 v' (out ++ m) ∧ w.grownBy w' v.ownBlock := by
  obtain ⟨i0, hi, hz0, hz1, hz2⟩ := info_parts infoCell
  rcases Nat.eq_zero_or_pos m.length with h0 | h0
  · obtain rfl : m = [] := List.eq_nil_of_length_eq_zero h0
    cases A with
    | none => exact ⟨v, w, append_none c ho, by rw [List.append_nil]; exact ho, ⟨rfl, rfl, rfl, Nat.le_refl _, fun _ _ _ => rfl⟩⟩
    | some a =>
      obtain ⟨v', w', hr, h2, h3, _⟩ := run_append_own (P := Try.prog) (w := w) B 42 42 48 i0 (.agg #[.int .i64 0, .int .i64 0]) 2 16 Try.underlying42 hi hz0 hz1 hz2 rfl (by decide) v out.length (fl out) ho a 0 c [] rfl (fun j u h => by simp at h) (fun u h => by cases h) (by unfold maxLen; omega) (by omega) hB
      exact ⟨v', w', hr, by rw [List.append_nil] at h2 ⊢; exact h2, h3⟩
  · obtain ⟨b, off, rfl, _, hcell⟩ := Rd.at_ hm h0
    obtain ⟨v', w', hr, h2, h3, _⟩ := run_append_own (P := Try.prog) (w := w) B 42 42 48 i0 (.agg #[.int .i64 0, .int .i64 0]) 2 16 Try.underlying42 hi hz0 hz1 hz2 rfl (by decide) v out.length (fl out) ho ⟨b, off, none⟩ m.length c (fl m) (length_fl m) (fl_at hcell) (fl_cell1 m) (by unfold maxLen; omega) (by omega) hB
    refine ⟨v', w', hr, ?_, h3⟩
    unfold Own
    rw [fl_append, List.length_append]
    exact h2

theorem Now.drop {w : World} {b off : Nat} {l : List (Int × Int)} (h : Now w (some ⟨b, off, none⟩) l) {t : Nat} (ht : t < l.length) : Now w (some ⟨b, off + t * 2, none⟩) (l.drop t) := by
  intro j hj
  rw [List.length_drop] at hj
  obtain ⟨b', off', e, hlt, h0, h1⟩ := h (t + j) (by omega)
  simp only [Option.some.injEq, Addr.mk.injEq, and_true] at e
  obtain ⟨rfl, rfl⟩ := e
  have hg : (l.drop t).getD j (0, 0) = l.getD (t + j) (0, 0) := by rw [List.getD_eq_getElem?_getD, List.getD_eq_getElem?_getD, List.getElem?_drop]
  refine ⟨_, _, rfl, hlt, ?_, ?_⟩
  · rw [hg, ← h0]; congr 2; omega
  · rw [hg, ← h1]; congr 2; omega
theorem Now.take {w : World} {A : Option Addr} {l : List (Int × Int)} (h : Now w A l) (t : Nat) : Now w A (l.take t) := by
  intro j hj
  rw [List.length_take] at hj
  have hg : (l.take t).getD j (0, 0) = l.getD j (0, 0) := by rw [List.getD_eq_getElem?_getD, List.getD_eq_getElem?_getD, List.getElem?_take, if_pos (by omega)]
  rw [hg]
  exact h j (by omega)

/-! ### what the sets are -/
end Go.Proofs.Ytgjibpgfcbdpgaa.Cel
