/-
  Texts that the claims of this seat share, part 5.
-/
import Derived.Test.YtklccoodfhejbaaProg
import Derived.WalkKit
import Derived.WalkSpells
import Derived.WalkLawsBesides
import Derived.Lib.QuietBelow
import Derived.Lib.Hide
import Derived.BigQuiet
import Derived.StillTailTactics
import Derived.LoopN
import Derived.Handy
import Derived.Test.YtklccoodfhejbaaB00
import Derived.Test.YtklccoodfhejbaaB04
import Derived.Deep.LoopGhost
set_option linter.unusedVariables false
set_option linter.unusedSimpArgs false
namespace Go.Proofs.Ytklccoodfhejbaa.Cel
open Go.RowKit Go.Sort


/-! ### cmp.Or, the method compare -/

/-! ### bounds -/

theorem in_any (p : Int × Int) (w : World) :
    Calls Try.prog 52 #[.agg #[.int .i64 p.1, .int .i64 p.2]] w fun e w' => e = .returned (.bool (inB p)) ∧ Below w.heap.size w w' := by
  obtain ⟨a, b⟩ := p
  generalize hr : inB (a, b) = r
  have HR := Lib.hid hr
  clear hr
  go_enter Try.func52, Try.ntmps52
  go_wp2
  all_goals go_ret
  all_goals refine ⟨?_, (Below.refl _ _).alloc (Nat.le_refl _) _⟩
  all_goals (refine Qt.ret_bool ?_; rw [← HR.out]; simp [inB]; omega)


theorem less_any (p q : Int × Int) (w : World) :
    Calls Try.prog 54 #[.agg #[.int .i64 p.1, .int .i64 p.2], .agg #[.int .i64 q.1, .int .i64 q.2]] w fun e w' => e = .returned (.bool (lessB p q)) ∧ Below w.heap.size w w' := by
  obtain ⟨a, b⟩ := p
  obtain ⟨c, d⟩ := q
  generalize hr : lessB (a, b) (c, d) = r
  have HR := Lib.hid hr
  clear hr
  go_enter Try.func54, Try.ntmps54
  go_wp2
  all_goals go_ret
  all_goals refine ⟨?_, ((Below.refl _ _).alloc (Nat.le_refl _) _).alloc (by simp) _⟩
  all_goals (refine Qt.ret_bool ?_; rw [← HR.out]; simp [lessB] at *; omega)


end Go.Proofs.Ytklccoodfhejbaa.Cel
namespace Go.Proofs.Ytklccoodfhejbaa.Cel
open Go.RowKit Go.Sort

/-- The slice at A of l.length cells (two numbers each) reads as l, below block B. -/
def Rd (w : World) (B : Nat) (A : Option Addr) (l : List (Int × Int)) : Prop :=
  ∀ j, j < l.length → ∃ b off, A = some ⟨b, off, none⟩ ∧ b < B ∧ w.cell? ⟨b, off + j * 2, none⟩ = some (.int .i64 (l.getD j (0, 0)).1) ∧ w.cell? ⟨b, off + j * 2 + 1, none⟩ = some (.int .i64 (l.getD j (0, 0)).2)

theorem Rd.below {w w' : World} {B B' : Nat} {A : Option Addr} {l : List (Int × Int)} (h : Rd w B A l) (hb : Below B' w w') (hB : B ≤ B') : Rd w' B A l := fun j hj => by
  obtain ⟨b, off, e, hlt, h0, h1⟩ := h j hj
  exact ⟨b, off, e, hlt, (hb.cell (p := ⟨b, off + j * 2, none⟩) (Nat.lt_of_lt_of_le hlt hB)).trans h0, (hb.cell (p := ⟨b, off + j * 2 + 1, none⟩) (Nat.lt_of_lt_of_le hlt hB)).trans h1⟩

theorem Rd.more {w : World} {B B' : Nat} {A : Option Addr} {l : List (Int × Int)} (h : Rd w B A l) (hB : B ≤ B') : Rd w B' A l := fun j hj => by
  obtain ⟨b, off, e, hlt, h0, h1⟩ := h j hj
  exact ⟨b, off, e, by omega, h0, h1⟩

theorem Rd.nil (w : World) (B : Nat) (A : Option Addr) : Rd w B A [] := fun j hj => absurd hj (Nat.not_lt_zero j)

/-- where the elements lie: one place for all. -/
theorem Rd.at_ {w : World} {B : Nat} {A : Option Addr} {l : List (Int × Int)} (h : Rd w B A l) (hn : 0 < l.length) :
    ∃ b off, A = some ⟨b, off, none⟩ ∧ b < B ∧ ∀ j, j < l.length → w.cell? ⟨b, off + j * 2, none⟩ = some (.int .i64 (l.getD j (0, 0)).1) ∧ w.cell? ⟨b, off + j * 2 + 1, none⟩ = some (.int .i64 (l.getD j (0, 0)).2) := by
  obtain ⟨b, off, e, hlt, _, _⟩ := h 0 hn
  refine ⟨b, off, e, hlt, fun j hj => ?_⟩
  obtain ⟨b', off', e', _, h0, h1⟩ := h j hj
  rw [e] at e'
  injection e' with e'
  injection e' with e1 e2
  subst e1 e2
  exact ⟨h0, h1⟩

end Go.Proofs.Ytklccoodfhejbaa.Cel
namespace Go.Proofs.Ytklccoodfhejbaa.Cel
open Go.RowKit Go.Sort

/-- the cells' own cells -/
def fl (l : List (Int × Int)) : List Value := l.flatMap fun c => [.int .i64 c.1, .int .i64 c.2]
theorem fl_append (l m : List (Int × Int)) : fl (l ++ m) = fl l ++ fl m := by simp [fl]
theorem length_fl (l : List (Int × Int)) : (fl l).length = l.length * 2 := by
  induction l with
  | nil => rfl
  | cons x l ih => simp only [fl, List.flatMap_cons, List.length_append, List.length_cons, List.length_nil] at ih ⊢; omega
theorem fl_get (l : List (Int × Int)) (j : Nat) (h : j < l.length) : (fl l)[j * 2]? = some (.int .i64 (l.getD j (0, 0)).1) ∧ (fl l)[j * 2 + 1]? = some (.int .i64 (l.getD j (0, 0)).2) := by
  induction l generalizing j with
  | nil => exact absurd h (Nat.not_lt_zero j)
  | cons x l ih =>
    cases j with
    | zero => simp [fl]
    | succ j =>
      have := ih j (by simpa using h)
      have e1 : (j + 1) * 2 = j * 2 + 1 + 1 := by omega
      have e2 : fl (x :: l) = .int .i64 x.1 :: .int .i64 x.2 :: fl l := rfl
      rw [e1, e2]
      simpa using this

/-- A slice of the call's own that holds l: as the laws on append say it. -/
def Own (w : World) (B T : Nat) (v : Value) (l : List (Int × Int)) : Prop := w.ownsRow B T 2 v l.length (fl l)

theorem Own.rd {w : World} {B T : Nat} {v : Value} {l : List (Int × Int)} (h : Own w B T v l) : ∃ A c, v = .slice A l.length c ∧ l.length ≤ c ∧ Rd w w.heap.size A l := by
  rcases h.2 with ⟨hv, hn⟩ | ⟨g, cap, cur, hv, hB, hg, hn, hm, hs, ht⟩
  · have : l = [] := List.eq_nil_of_length_eq_zero hn
    subst this
    exact ⟨none, 0, hv, Nat.le_refl _, Rd.nil _ _ _⟩
  · refine ⟨some ⟨g, 0, none⟩, cap, hv, hn, fun j hj => ?_⟩
    subst hv
    have hlt : g < w.heap.size := by
      rcases Nat.lt_or_ge g w.heap.size with h | h
      · exact h
      · rw [Array.getElem?_eq_none h] at hg; cases hg
    have hf := fl_get l j hj
    refine ⟨g, 0, rfl, hlt, ?_, ?_⟩
    · rw [Nat.zero_add]; exact (World.ownsRow.cellAt h (j * 2) (by omega)).trans hf.1
    · rw [Nat.zero_add]; exact (World.ownsRow.cellAt h (j * 2 + 1) (by omega)).trans hf.2

theorem Own.below {w w' : World} {B T : Nat} {v : Value} {l : List (Int × Int)} (h : Own w B T v l) (hb : Below w.heap.size w w') : Own w' B T v l := by
  refine ⟨h.1, ?_⟩
  rcases h.2 with h | ⟨g, cap, cur, hv, hB, hg, hn, hm, hs, ht⟩
  · exact .inl h
  · refine .inr ⟨g, cap, cur, hv, hB, ?_, hn, hm, hs, ht⟩
    rw [hb.block g ?_]
    · exact hg
    · rcases Nat.lt_or_ge g w.heap.size with h | h
      · exact h
      · rw [Array.getElem?_eq_none h] at hg; cases hg

theorem Own.mono {w : World} {B B' T : Nat} {v : Value} {l : List (Int × Int)} (h : Own w B T v l) (hB : B' ≤ B) : Own w B' T v l := by
  refine ⟨h.1, ?_⟩
  rcases h.2 with h | ⟨g, cap, cur, hv, hg, r⟩
  · exact .inl h
  · exact .inr ⟨g, cap, cur, hv, Nat.le_trans hB hg, r⟩

theorem own_push {w : World} {B T : Nat} {v : Value} {out : List (Int × Int)} {x y : Int} (h : w.ownsRow B T 2 v (out.length + 1) (fl out ++ [.int .i64 x, .int .i64 y])) : Own w B T v (out ++ [(x, y)]) := by
  unfold Own
  rw [fl_append, List.length_append]
  exact h

/-- A cell of a block that is not the row's. -/
theorem grown_cell {w w' : World} {row : Option Nat} {a : Addr} {v : Value} (hg : w.grownBy w' row) (h : w.cell? a = some v) (hne : some a.block ≠ row) : w'.cell? a = some v :=
  (World.cell?_of_block (w := w) (hg.block a.block (block_lt_of_cell h) hne)).trans h

theorem one_new {w : World} {T : Nat} {x y : Int} : ∀ j u, ([.int .i64 x, .int .i64 y] : List Value)[j]? = some u → (w.alloc (.cells #[.int .i64 x, .int .i64 y] T)).cell? ((⟨w.heap.size, 0, none⟩ : Addr).add j) = some u := by
  intro j u hj
  match j, hj with
  | 0, hj => simp at hj; subst hj; simp [Addr.add]
  | 1, hj => simp at hj; subst hj; simp [Addr.add]
theorem one_cell {x y : Int} : ∀ u ∈ ([.int .i64 x, .int .i64 y] : List Value), u.oneCell' = true := by
  intro u hu
  simp at hu
  rcases hu with rfl | rfl <;> rfl

/-- What an append of one cell leaves: the row, a box beside it, what is below. -/
theorem pushed {w0 w2 w3 : World} {T : Nat} {v v' : Value} {out : List (Int × Int)} {x y cx cy : Int} (hb : Below w0.heap.size w0 w2) (hsz : w0.heap.size < w2.heap.size) (hcx : w2.cell? ⟨w0.heap.size, 0, none⟩ = some (.int .i64 cx)) (hcy : w2.cell? ⟨w0.heap.size, 1, none⟩ = some (.int .i64 cy))
    (hown : Own w2 (w0.heap.size + 1) T v out) {o : Obj} (h3 : w3.ownsRow (w0.heap.size + 1) T 2 v' (out.length + 1) (fl out ++ [.int .i64 x, .int .i64 y])) (hg : (w2.alloc o).grownBy w3 v.ownBlock) :
    Own w3 (w0.heap.size + 1) T v' (out ++ [(x, y)]) ∧ w3.cell? ⟨w0.heap.size, 0, none⟩ = some (.int .i64 cx) ∧ w3.cell? ⟨w0.heap.size, 1, none⟩ = some (.int .i64 cy) ∧ Below w0.heap.size w0 w3 ∧ w0.heap.size < w3.heap.size := by
  have hne : some w0.heap.size ≠ v.ownBlock := fun e => by
    have := (World.ownsRow.lt hown _ e.symm).1; omega
  have hal : ∀ a u, w2.cell? a = some u → (w2.alloc o).cell? a = some u := fun a u h => (World.cell?_alloc_lt _ _ _ (block_lt_of_cell h)).trans h
  refine ⟨own_push h3, grown_cell hg (hal _ _ hcx) hne, grown_cell hg (hal _ _ hcy) hne, ((hb.alloc (Nat.le_of_lt hsz) _).grown hg (by simp; omega) (fun k e => ?_)), ?_⟩
  · have := (World.ownsRow.lt hown k e).1; omega
  · have h1 := hg.size; simp at h1; omega

theorem infoCell : (Try.prog.info? 48).map (fun i => (i.zero, i.size, i.bytes)) = some (some (.agg #[.int .i64 0, .int .i64 0]), 2, 16) := by kernel_rfl
theorem less_yes (p q : Int × Int) (h : lessB p q = true) (w : World) : Calls Try.prog 54 #[.agg #[.int .i64 p.1, .int .i64 p.2], .agg #[.int .i64 q.1, .int .i64 q.2]] w fun e w' => e = .returned (.bool true) ∧ Below w.heap.size w w' := by
  have := less_any p q w; rw [h] at this; exact this
theorem less_no (p q : Int × Int) (h : lessB p q = false) (w : World) : Calls Try.prog 54 #[.agg #[.int .i64 p.1, .int .i64 p.2], .agg #[.int .i64 q.1, .int .i64 q.2]] w fun e w' => e = .returned (.bool false) ∧ Below w.heap.size w w' := by
  have := less_any p q w; rw [h] at this; exact this

/-- what Put has gathered, and what is still to come, make the whole -/
def putAt (c : Int × Int) (done : Bool) (out rest : List (Int × Int)) : List (Int × Int) := out ++ (if done then outL c rest else putL c rest)

set_option maxHeartbeats 1000000 in
set_option maxRecDepth 100000 in
theorem put_any (A : Option Addr) (l : List (Int × Int)) (cp : Nat) (c : Int × Int) (w : World) (hR : Rd w w.heap.size A l) (hl : l.length ≤ 1000000) (hc : l.length ≤ cp) :
    Calls Try.prog 24 #[.slice A l.length cp, .agg #[.int .i64 c.1, .int .i64 c.2]] w fun e w' => ∃ v, e = .returned v ∧ Own w' w.heap.size 48 v (putL c l) ∧ Below w.heap.size w w' := by
  obtain ⟨cx, cy⟩ := c
  obtain ⟨i0, hi, hz0, hz1, hz2⟩ := info_parts infoCell
  go_enter Try.func24, Try.ntmps24
  go_wp2
  go_loopw [5, 6, 7] (fun v d i wr => ∃ (k : Nat) (done : Bool) (out : List (Int × Int)), k ≤ l.length ∧ i = .int .i64 k ∧ d = .bool done ∧ Hid (putAt (cx, cy) done out (l.drop k) = putL (cx, cy) l) ∧ out.length ≤ k + 1 ∧ Hid (done = false → out.length ≤ k) ∧ Own wr (w.heap.size + 1) 48 v out ∧
      wr.cell? ⟨w.heap.size, 0, none⟩ = some (.int .i64 cx) ∧ wr.cell? ⟨w.heap.size, 1, none⟩ = some (.int .i64 cy) ∧ Below w.heap.size w wr ∧ w.heap.size < wr.heap.size) (fun _ _ i _ => l.length - (intOf i).toNat)
  case atStart => exact ⟨0, false, [], Nat.zero_le _, rfl, rfl, rfl, by simp, fun _ => by simp, World.ownsRow_nil _ _ _ _, by simp, by simp, (Below.refl _ _).alloc (Nat.le_refl _) _, by simp⟩
  case round =>
    obtain ⟨k, done, out, hk, rfl, rfl, HP, hol, HO2, hown, hcx, hcy, hb, hsz⟩ := hrel
    by_cases hlt : k < l.length
    · have hltz : (k : Int) < (l.length : Int) := by omega
      obtain ⟨b, off, rfl, hbB, hcell⟩ := hR.at_ (by omega)
      obtain ⟨⟨x, y⟩, hxy⟩ : ∃ p, p = l.getD k (0, 0) := ⟨_, rfl⟩
      have a0 := (hcell k hlt).1
      have a1 := (hcell k hlt).2
      rw [← hxy] at a0 a1
      simp only at a0 a1
      have c0 := Qt.keep hb a0
      have c1 := Qt.keep hb a1
      have HXY := Lib.hid hxy
      have HD := Lib.hid (drop_cons hlt)
      clear hxy hcell
      have k0 := Qt.cell_in hcx
      have k1 := Qt.cell_in hcy
      have k2 := Qt.cell_in c0
      have k3 := Qt.cell_in c1
      have hcase : (x = cx ∧ y = cy) ∨ (x = cx ∧ ¬ y = cy) ∨ ¬ x = cx := by
        by_cases h1 : x = cx <;> by_cases h2 : y = cy <;> simp [h1, h2]
      cases done with
      | true =>
        go_wp2
        refine Qt.below_all (by kernel_rfl) (by kernel_rfl) ?_
        repeat (go_big_quiet_step (fail))
        refine wpQuiet_nil ?_
        intro w1 hb1
        have d0 := Qt.cell_in (Qt.keep hb1 hcx)
        have d1 := Qt.cell_in (Qt.keep hb1 hcy)
        have d2 := Qt.cell_in (Qt.keep hb1 c0)
        have d3 := Qt.cell_in (Qt.keep hb1 c1)
        clear k0 k1 k2 k3
        rcases hcase with ⟨rfl, rfl⟩ | ⟨rfl, hy⟩ | hx
        · go_wp2
          refine Qt.below_all (by kernel_rfl) (by kernel_rfl) ?_
          repeat (go_big_quiet_step (fail))
          refine wpQuiet_nil ?_
          intro w2 hb2
          have HB : Below wr.heap.size wr w2 := Qt.more hb1 hb1.size hb2
          clear d0 d1 d2 d3
          go_wp2
          go_roundw
          case measure => simp [intOf]; omega
          case rel =>
            refine ⟨k + 1, true, out, by omega, by go_num, rfl, ?_, by omega, (fun h => by cases h), hown.below HB, Qt.keep HB hcx, Qt.keep HB hcy, Qt.more hb (Nat.le_of_lt hsz) HB, Nat.lt_of_lt_of_le hsz HB.size⟩
            show _ = _
            rw [← HP.out, HD.out, ← HXY.out]
            simp [putAt, outL]
        all_goals
          go_wp2
          refine Qt.below_all (by kernel_rfl) (by kernel_rfl) ?_
          repeat (go_big_quiet_step (fail))
          refine wpQuiet_nil ?_
          intro w2 hb2
          have HB : Below wr.heap.size wr w2 := Qt.more hb1 hb1.size hb2
          have e2 := Qt.keep HB c0
          have e3 := Qt.keep HB c1
          clear d0 d1 d2 d3
          have hs2 := HB.size
          go_wp2_with (at_builtin; refine wpList_append_own _ rfl (.tmp 42) (.tmp 47) 42 rfl (w.heap.size + 1) 48 i0 (.agg #[.int .i64 0, .int .i64 0]) 2 16 Try.underlying42 hi hz0 hz1 hz2 rfl (by decide) _ _ _ rfl (World.ownsRow.alloc (hown.below HB) _) ⟨w2.heap.size, 0, none⟩ 1 1 [.int .i64 x, .int .i64 y] rfl rfl one_new one_cell (by unfold maxLen; omega) (by omega) (by simp; omega) ?_; intro v3 w3 hown3 hgrow _)
          have P := pushed (Qt.more hb (Nat.le_of_lt hsz) HB) (Nat.lt_of_lt_of_le hsz HB.size) (Qt.keep HB hcx) (Qt.keep HB hcy) (hown.below HB) hown3 hgrow
          clear hown3 hgrow hown hcx hcy e2 e3
          go_wp2
          go_roundw
          case measure => simp [intOf]; omega
          case rel =>
            refine ⟨k + 1, true, out ++ [(x, y)], by omega, by go_num, rfl, ?_, by simp; omega, (fun h => by cases h), P.1, P.2.1, P.2.2.1, P.2.2.2.1, P.2.2.2.2⟩
            show _ = _
            rw [← HP.out, HD.out, ← HXY.out]
            simp [putAt, outL, *]
      | false =>
        rcases hcase with ⟨rfl, rfl⟩ | hne
        · go_wp2
          refine Qt.below_all (by kernel_rfl) (by kernel_rfl) ?_
          repeat (go_big_quiet_step (fail))
          refine wpQuiet_nil ?_
          intro w1 hb1
          have b0 := Qt.keep hb1 hcx
          have b1 := Qt.keep hb1 hcy
          have hs1 := hb1.size
          have HB1 : Below w.heap.size w w1 := Qt.more hb (Nat.le_of_lt hsz) hb1
          clear k0 k1 k2 k3
          go_wp2_with (at_builtin; refine wpList_append_own _ rfl (.tmp 32) (.tmp 34) 42 rfl (w.heap.size + 1) 48 i0 (.agg #[.int .i64 0, .int .i64 0]) 2 16 Try.underlying42 hi hz0 hz1 hz2 rfl (by decide) _ _ _ rfl (World.ownsRow.alloc (hown.below hb1) _) ⟨w1.heap.size, 0, none⟩ 1 1 [.int .i64 x, .int .i64 y] rfl rfl one_new one_cell (by unfold maxLen; omega) (by omega) (by simp; omega) ?_; intro v3 w3 hown3 hgrow3 _)
          have P := pushed HB1 (Nat.lt_of_lt_of_le hsz hb1.size) b0 b1 (hown.below hb1) hown3 hgrow3
          obtain ⟨P0, P1, P2, P3, P4⟩ := P
          have d0 := Qt.cell_in P1
          have d1 := Qt.cell_in P2
          have d2 := Qt.cell_in (Qt.keep P3 a0)
          have d3 := Qt.cell_in (Qt.keep P3 a1)
          clear hown3 hgrow3 hown hcx hcy b0 b1 hb1 HB1 hs1
          go_wp2
          refine Qt.below_all (by kernel_rfl) (by kernel_rfl) ?_
          repeat (go_big_quiet_step (fail))
          refine wpQuiet_nil ?_
          intro w4 hb4
          go_wp2
          go_roundw
          case measure => simp [intOf]; omega
          case rel =>
            refine ⟨k + 1, true, out ++ [(x, y)], by omega, by go_num, rfl, ?_, by simp; omega, (fun h => by cases h), P0.below hb4, Qt.keep hb4 P1, Qt.keep hb4 P2, Qt.more P3 (Nat.le_of_lt P4) hb4, Nat.lt_of_lt_of_le P4 hb4.size⟩
            show _ = _
            rw [← HP.out, HD.out, ← HXY.out]
            simp [putAt, putL, outL]
        · cases hls : lessB (cx, cy) (x, y) with
          | true =>
            rcases hne with ⟨rfl, hy⟩ | hx
            · go_wp2
              refine Qt.below_all (by kernel_rfl) (by kernel_rfl) ?_
              repeat (go_big_quiet_step (first | (go_at_call 54; exact Qt.at_call (less_yes (x, cy) (x, y) hls))))
              refine wpQuiet_nil ?_
              intro w1 hb1
              have b0 := Qt.keep hb1 hcx
              have b1 := Qt.keep hb1 hcy
              have hs1 := hb1.size
              have HB1 : Below w.heap.size w w1 := Qt.more hb (Nat.le_of_lt hsz) hb1
              have HL := Lib.hid hls
              clear k0 k1 k2 k3 hls
              go_wp2_with (at_builtin; refine wpList_append_own _ rfl (.tmp 32) (.tmp 34) 42 rfl (w.heap.size + 1) 48 i0 (.agg #[.int .i64 0, .int .i64 0]) 2 16 Try.underlying42 hi hz0 hz1 hz2 rfl (by decide) _ _ _ rfl (World.ownsRow.alloc (hown.below hb1) _) ⟨w1.heap.size, 0, none⟩ 1 1 [.int .i64 x, .int .i64 cy] rfl rfl one_new one_cell (by unfold maxLen; omega) (by omega) (by simp; omega) ?_; intro v3 w3 hown3 hgrow3 _)
              have P := pushed HB1 (Nat.lt_of_lt_of_le hsz hb1.size) b0 b1 (hown.below hb1) hown3 hgrow3
              obtain ⟨P0, P1, P2, P3, P4⟩ := P
              have d0 := Qt.cell_in P1
              have d1 := Qt.cell_in P2
              have d2 := Qt.cell_in (Qt.keep P3 a0)
              have d3 := Qt.cell_in (Qt.keep P3 a1)
              clear hown3 hgrow3 hown hcx hcy b0 b1 hb1 HB1 hs1
              go_wp2
              refine Qt.below_all (by kernel_rfl) (by kernel_rfl) ?_
              repeat (go_big_quiet_step (fail))
              refine wpQuiet_nil ?_
              intro w4 hb4
              have hs4 := hb4.size
              have e2 := Qt.keep (Qt.more P3 (Nat.le_of_lt P4) hb4) a0
              have e3 := Qt.keep (Qt.more P3 (Nat.le_of_lt P4) hb4) a1
              clear d0 d1 d2 d3
              have hl1 : (out ++ [(x, cy)]).length ≤ 1000002 := by simp; omega
              go_wp2_with (at_builtin; refine wpList_append_own _ rfl (.tmp 42) (.tmp 47) 42 rfl (w.heap.size + 1) 48 i0 (.agg #[.int .i64 0, .int .i64 0]) 2 16 Try.underlying42 hi hz0 hz1 hz2 rfl (by decide) _ _ _ rfl (World.ownsRow.alloc (P0.below hb4) _) ⟨w4.heap.size, 0, none⟩ 1 1 [.int .i64 x, .int .i64 y] rfl rfl one_new one_cell (by unfold maxLen; omega) (by omega) (by simp; omega) ?_; intro v5 w5 hown5 hgrow5 _)
              have R := pushed (Qt.more P3 (Nat.le_of_lt P4) hb4) (Nat.lt_of_lt_of_le P4 hs4) (Qt.keep hb4 P1) (Qt.keep hb4 P2) (P0.below hb4) hown5 hgrow5
              clear hown5 hgrow5 P0 P1 P2 P3 P4 hb4 e2 e3
              go_wp2
              go_roundw
              case measure => simp [intOf]; omega
              case rel =>
                refine ⟨k + 1, true, (out ++ [(x, cy)]) ++ [(x, y)], by omega, by go_num, rfl, ?_, by have := HO2.out trivial; simp; omega, (fun h => by cases h), R.1, R.2.1, R.2.2.1, R.2.2.2.1, R.2.2.2.2⟩
                show _ = _
                rw [← HP.out, HD.out, ← HXY.out]
                simp [putAt, putL, outL, HL.out, *]
            · go_wp2
              refine Qt.below_all (by kernel_rfl) (by kernel_rfl) ?_
              repeat (go_big_quiet_step (first | (go_at_call 54; exact Qt.at_call (less_yes (cx, cy) (x, y) hls))))
              refine wpQuiet_nil ?_
              intro w1 hb1
              have b0 := Qt.keep hb1 hcx
              have b1 := Qt.keep hb1 hcy
              have hs1 := hb1.size
              have HB1 : Below w.heap.size w w1 := Qt.more hb (Nat.le_of_lt hsz) hb1
              have HL := Lib.hid hls
              clear k0 k1 k2 k3 hls
              go_wp2_with (at_builtin; refine wpList_append_own _ rfl (.tmp 32) (.tmp 34) 42 rfl (w.heap.size + 1) 48 i0 (.agg #[.int .i64 0, .int .i64 0]) 2 16 Try.underlying42 hi hz0 hz1 hz2 rfl (by decide) _ _ _ rfl (World.ownsRow.alloc (hown.below hb1) _) ⟨w1.heap.size, 0, none⟩ 1 1 [.int .i64 cx, .int .i64 cy] rfl rfl one_new one_cell (by unfold maxLen; omega) (by omega) (by simp; omega) ?_; intro v3 w3 hown3 hgrow3 _)
              have P := pushed HB1 (Nat.lt_of_lt_of_le hsz hb1.size) b0 b1 (hown.below hb1) hown3 hgrow3
              obtain ⟨P0, P1, P2, P3, P4⟩ := P
              have d0 := Qt.cell_in P1
              have d1 := Qt.cell_in P2
              have d2 := Qt.cell_in (Qt.keep P3 a0)
              have d3 := Qt.cell_in (Qt.keep P3 a1)
              clear hown3 hgrow3 hown hcx hcy b0 b1 hb1 HB1 hs1
              go_wp2
              refine Qt.below_all (by kernel_rfl) (by kernel_rfl) ?_
              repeat (go_big_quiet_step (fail))
              refine wpQuiet_nil ?_
              intro w4 hb4
              have hs4 := hb4.size
              have e2 := Qt.keep (Qt.more P3 (Nat.le_of_lt P4) hb4) a0
              have e3 := Qt.keep (Qt.more P3 (Nat.le_of_lt P4) hb4) a1
              clear d0 d1 d2 d3
              have hl1 : (out ++ [(cx, cy)]).length ≤ 1000002 := by simp; omega
              go_wp2_with (at_builtin; refine wpList_append_own _ rfl (.tmp 42) (.tmp 47) 42 rfl (w.heap.size + 1) 48 i0 (.agg #[.int .i64 0, .int .i64 0]) 2 16 Try.underlying42 hi hz0 hz1 hz2 rfl (by decide) _ _ _ rfl (World.ownsRow.alloc (P0.below hb4) _) ⟨w4.heap.size, 0, none⟩ 1 1 [.int .i64 x, .int .i64 y] rfl rfl one_new one_cell (by unfold maxLen; omega) (by omega) (by simp; omega) ?_; intro v5 w5 hown5 hgrow5 _)
              have R := pushed (Qt.more P3 (Nat.le_of_lt P4) hb4) (Nat.lt_of_lt_of_le P4 hs4) (Qt.keep hb4 P1) (Qt.keep hb4 P2) (P0.below hb4) hown5 hgrow5
              clear hown5 hgrow5 P0 P1 P2 P3 P4 hb4 e2 e3
              go_wp2
              go_roundw
              case measure => simp [intOf]; omega
              case rel =>
                refine ⟨k + 1, true, (out ++ [(cx, cy)]) ++ [(x, y)], by omega, by go_num, rfl, ?_, by have := HO2.out trivial; simp; omega, (fun h => by cases h), R.1, R.2.1, R.2.2.1, R.2.2.2.1, R.2.2.2.2⟩
                show _ = _
                rw [← HP.out, HD.out, ← HXY.out]
                simp [putAt, putL, outL, HL.out, *]
          | false =>
            rcases hne with ⟨rfl, hy⟩ | hx
            · go_wp2
              refine Qt.below_all (by kernel_rfl) (by kernel_rfl) ?_
              repeat (go_big_quiet_step (first | (go_at_call 54; exact Qt.at_call (less_no (x, cy) (x, y) hls))))
              refine wpQuiet_nil ?_
              intro w1 hb1
              have hs1 := hb1.size
              have d0 := Qt.cell_in (Qt.keep hb1 hcx)
              have d1 := Qt.cell_in (Qt.keep hb1 hcy)
              have d2 := Qt.cell_in (Qt.keep hb1 c0)
              have d3 := Qt.cell_in (Qt.keep hb1 c1)
              have HL := Lib.hid hls
              clear k0 k1 k2 k3 hls
              go_wp2
              refine Qt.below_all (by kernel_rfl) (by kernel_rfl) ?_
              repeat (go_big_quiet_step (fail))
              refine wpQuiet_nil ?_
              intro w4 hb4
              have HB : Below wr.heap.size wr w4 := Qt.more hb1 hb1.size hb4
              have hs4 := HB.size
              have e2 := Qt.keep HB c0
              have e3 := Qt.keep HB c1
              clear d0 d1 d2 d3
              go_wp2_with (at_builtin; refine wpList_append_own _ rfl (.tmp 42) (.tmp 47) 42 rfl (w.heap.size + 1) 48 i0 (.agg #[.int .i64 0, .int .i64 0]) 2 16 Try.underlying42 hi hz0 hz1 hz2 rfl (by decide) _ _ _ rfl (World.ownsRow.alloc (hown.below HB) _) ⟨w4.heap.size, 0, none⟩ 1 1 [.int .i64 x, .int .i64 y] rfl rfl one_new one_cell (by unfold maxLen; omega) (by omega) (by simp; omega) ?_; intro v5 w5 hown5 hgrow5 _)
              have R := pushed (Qt.more hb (Nat.le_of_lt hsz) HB) (Nat.lt_of_lt_of_le hsz hs4) (Qt.keep HB hcx) (Qt.keep HB hcy) (hown.below HB) hown5 hgrow5
              clear hown5 hgrow5 hown hcx hcy hb1 hb4 HB e2 e3
              go_wp2
              go_roundw
              case measure => simp [intOf]; omega
              case rel =>
                refine ⟨k + 1, false, out ++ [(x, y)], by omega, by go_num, rfl, ?_, by simp; omega, (fun _ => by have := HO2.out trivial; simp; omega), R.1, R.2.1, R.2.2.1, R.2.2.2.1, R.2.2.2.2⟩
                show _ = _
                rw [← HP.out, HD.out, ← HXY.out]
                simp [putAt, putL, outL, HL.out, *]
            · go_wp2
              refine Qt.below_all (by kernel_rfl) (by kernel_rfl) ?_
              repeat (go_big_quiet_step (first | (go_at_call 54; exact Qt.at_call (less_no (cx, cy) (x, y) hls))))
              refine wpQuiet_nil ?_
              intro w1 hb1
              have hs1 := hb1.size
              have d0 := Qt.cell_in (Qt.keep hb1 hcx)
              have d1 := Qt.cell_in (Qt.keep hb1 hcy)
              have d2 := Qt.cell_in (Qt.keep hb1 c0)
              have d3 := Qt.cell_in (Qt.keep hb1 c1)
              have HL := Lib.hid hls
              clear k0 k1 k2 k3 hls
              go_wp2
              refine Qt.below_all (by kernel_rfl) (by kernel_rfl) ?_
              repeat (go_big_quiet_step (fail))
              refine wpQuiet_nil ?_
              intro w4 hb4
              have HB : Below wr.heap.size wr w4 := Qt.more hb1 hb1.size hb4
              have hs4 := HB.size
              have e2 := Qt.keep HB c0
              have e3 := Qt.keep HB c1
              clear d0 d1 d2 d3
              go_wp2_with (at_builtin; refine wpList_append_own _ rfl (.tmp 42) (.tmp 47) 42 rfl (w.heap.size + 1) 48 i0 (.agg #[.int .i64 0, .int .i64 0]) 2 16 Try.underlying42 hi hz0 hz1 hz2 rfl (by decide) _ _ _ rfl (World.ownsRow.alloc (hown.below HB) _) ⟨w4.heap.size, 0, none⟩ 1 1 [.int .i64 x, .int .i64 y] rfl rfl one_new one_cell (by unfold maxLen; omega) (by omega) (by simp; omega) ?_; intro v5 w5 hown5 hgrow5 _)
              have R := pushed (Qt.more hb (Nat.le_of_lt hsz) HB) (Nat.lt_of_lt_of_le hsz hs4) (Qt.keep HB hcx) (Qt.keep HB hcy) (hown.below HB) hown5 hgrow5
              clear hown5 hgrow5 hown hcx hcy hb1 hb4 HB e2 e3
              go_wp2
              go_roundw
              case measure => simp [intOf]; omega
              case rel =>
                refine ⟨k + 1, false, out ++ [(x, y)], by omega, by go_num, rfl, ?_, by simp; omega, (fun _ => by have := HO2.out trivial; simp; omega), R.1, R.2.1, R.2.2.1, R.2.2.2.1, R.2.2.2.2⟩
                show _ = _
                rw [← HP.out, HD.out, ← HXY.out]
                simp [putAt, putL, outL, HL.out, *]
    · have hltz : ¬ (k : Int) < (l.length : Int) := by omega
      have hkl : l.drop k = [] := List.drop_eq_nil_of_le (by omega)
      have HKL := Lib.hid hkl
      clear hkl
      cases done with
      | true =>
        go_wp2
        go_ret
        refine ⟨_, rfl, ?_, hb⟩
        rw [← HP.out, HKL.out]
        simpa [putAt, outL] using hown.mono (Nat.le_succ _)
      | false =>
        go_wp2_with (at_builtin; refine wpList_append_own _ rfl (.tmp 51) (.tmp 53) 42 rfl (w.heap.size + 1) 48 i0 (.agg #[.int .i64 0, .int .i64 0]) 2 16 Try.underlying42 hi hz0 hz1 hz2 rfl (by decide) _ _ _ rfl (World.ownsRow.alloc hown _) ⟨wr.heap.size, 0, none⟩ 1 1 [.int .i64 cx, .int .i64 cy] rfl rfl one_new one_cell (by unfold maxLen; omega) (by omega) (by simp; omega) ?_; intro v3 w3 hown3 hgrow3 _)
        have P := pushed hb hsz hcx hcy hown hown3 hgrow3
        clear hown3 hgrow3
        go_wp2
        go_ret
        refine ⟨_, rfl, ?_, P.2.2.2.1⟩
        rw [← HP.out, HKL.out]
        simpa [putAt, putL] using P.1.mono (Nat.le_succ _)

end Go.Proofs.Ytklccoodfhejbaa.Cel
namespace Go.Proofs.Ytklccoodfhejbaa.Cel
open Go.RowKit Go.Sort

/-- A row of n cells at the head of block g, of the call's own. -/
def Row (w : World) (B T g n cap : Nat) (l : List (Int × Int)) : Prop := l.length = n ∧ w.ownsRow B T 2 (.slice (some ⟨g, 0, none⟩) n cap) n (fl l)

section
variable {w w' : World} {B T g n cap : Nat} {l : List (Int × Int)}
theorem Row.own (h : Row w B T g n cap l) : Own w B T (.slice (some ⟨g, 0, none⟩) l.length cap) l := by
  obtain ⟨h1, h2⟩ := h
  subst h1
  exact h2
theorem Row.below (h : Row w B T g n cap l) (hb : Below w.heap.size w w') : Row w' B T g n cap l := by
  obtain ⟨h1, h2⟩ := h
  subst h1
  exact ⟨rfl, Own.below (l := l) h2 hb⟩
theorem Row.lt (h : Row w B T g n cap l) : B ≤ g ∧ g < w.heap.size := World.ownsRow.lt h.2 g rfl
theorem Row.cell (h : Row w B T g n cap l) {j : Nat} (hj : j < n) : w.cell? ⟨g, j * 2, none⟩ = some (.int .i64 (l.getD j (0, 0)).1) ∧ w.cell? ⟨g, j * 2 + 1, none⟩ = some (.int .i64 (l.getD j (0, 0)).2) := by
  have hf := fl_get l j (by rw [h.1]; exact hj)
  exact ⟨(World.ownsRow.cellAt h.2 (j * 2) (by omega)).trans hf.1, (World.ownsRow.cellAt h.2 (j * 2 + 1) (by omega)).trans hf.2⟩
theorem Row.free (h : Row w B T g n cap l) (j : Nat) : w.frozen? ⟨g, j, none⟩ = false := World.ownsRow.frozenAt h.2 j

theorem fl_set (l : List (Int × Int)) (i : Nat) (x y : Int) : fl (l.set i (x, y)) = ((fl l).set (i * 2) (.int .i64 x)).set (i * 2 + 1) (.int .i64 y) := by
  induction l generalizing i with
  | nil => rfl
  | cons p l ih =>
    cases i with
    | zero => rfl
    | succ i =>
      have e1 : (i + 1) * 2 = i * 2 + 1 + 1 := by omega
      have e2 : ∀ (q : Int × Int) (m : List (Int × Int)), fl (q :: m) = .int .i64 q.1 :: .int .i64 q.2 :: fl m := fun _ _ => rfl
      rw [List.set_cons_succ, e2, e2, ih, e1]
      rfl

theorem Row.store (h : Row w B T g n cap l) (i : Nat) (x y : Int) : Row ((w.setCell ⟨g, i * 2, none⟩ (.int .i64 x)).setCell ⟨g, i * 2 + 1, none⟩ (.int .i64 y)) B T g n cap (l.set i (x, y)) := by
  refine ⟨by rw [List.length_set]; exact h.1, ?_⟩
  rw [fl_set]
  exact (World.ownsRow.stored (World.ownsRow.stored h.2 (i * 2) (.int .i64 x)).1 (i * 2 + 1) (.int .i64 y)).1

theorem Row.rd (h : Row w B T g n cap l) : Rd w w.heap.size (some ⟨g, 0, none⟩) l := fun j hj => by
  have := h.cell (j := j) (by rw [← h.1]; exact hj)
  exact ⟨g, 0, rfl, h.lt.2, by rw [Nat.zero_add]; exact this.1, by rw [Nat.zero_add]; exact this.2⟩
end

theorem fl_replicate (n : Nat) : (madeCells #[.int .i64 0, .int .i64 0] (n * 2)).toList = fl (List.replicate n (0, 0)) := by
  apply List.ext_getElem?
  intro j
  by_cases hj : j < n * 2
  · have hl : j / 2 < (List.replicate n ((0 : Int), (0 : Int))).length := by simp; omega
    have hf := fl_get _ (j / 2) hl
    have hg : (List.replicate n ((0 : Int), (0 : Int))).getD (j / 2) (0, 0) = (0, 0) := by
      rw [List.getD_eq_getElem?_getD, List.getElem?_replicate]; split <;> rfl
    rw [hg] at hf
    have hm : (madeCells #[.int .i64 0, .int .i64 0] (n * 2)).toList[j]? = some (.int .i64 0) := by
      have : j % 2 = 0 ∨ j % 2 = 1 := by omega
      rcases this with h | h <;> simp [madeCells, hj, h]
    rw [hm]
    have h2 : j = j / 2 * 2 ∨ j = j / 2 * 2 + 1 := by omega
    rcases h2 with h | h
    · rw [h]; exact hf.1.symm
    · rw [h]; exact hf.2.symm
  · rw [List.getElem?_eq_none (by simp [size_madeCells]; omega), List.getElem?_eq_none (by rw [length_fl]; simp; omega)]

theorem Row.made (w : World) (B T n : Nat) (hB : B ≤ w.heap.size) (hn : n ≤ 1000000) : Row (w.alloc (.cells (madeCells #[.int .i64 0, .int .i64 0] (n * 2)) T)) B T w.heap.size n n (List.replicate n (0, 0)) := by
  refine ⟨List.length_replicate, ?_⟩
  rw [← fl_replicate]
  exact World.ownsRow_lit w _ n hB (by unfold maxLen; omega) (size_madeCells _ _)

/-- the first k are told, the others are noughts -/
def filled (l : List (Int × Int)) (k : Nat) : List (Int × Int) := l.take k ++ List.replicate (l.length - k) (0, 0)
theorem filled_step {l : List (Int × Int)} {k : Nat} (h : k < l.length) : (filled l k).set k (l.getD k (0, 0)) = filled l (k + 1) := by
  unfold filled
  obtain ⟨m, hm⟩ : ∃ m, l.length - k = m + 1 := ⟨l.length - k - 1, by omega⟩
  have hm2 : l.length - (k + 1) = m := by omega
  have hl : (l.take k).length = k := by simp; omega
  rw [take_snoc h, hm, hm2, List.replicate_succ, List.set_append_right _ _ (by omega), hl, Nat.sub_self, List.set_cons_zero, List.append_assoc]
  rfl

end Go.Proofs.Ytklccoodfhejbaa.Cel
namespace Go.Proofs.Ytklccoodfhejbaa
set_option maxRecDepth 100000
set_option linter.unusedVariables false
set_option linter.unusedSimpArgs false
open Go.RowKit Go.Sort

abbrev OwnC (w : World) (B : Nat) (v : Value) (l : List (Int × Int)) : Prop := Cel.Own w B 48 v l
abbrev RdC (w : World) (B : Nat) (A : Option Addr) (l : List (Int × Int)) : Prop := Cel.Rd w B A l
/-- where a slice's cells are, behind an append -/
theorem append_where {w w' : World} {B : Nat} {v v' : Value} {out : List (Int × Int)} {a : Addr} {x y : Int} (ho : OwnC w B v out) (hl : out.length ≤ 999999) (hn : ∀ j u, ([.int .i64 x, .int .i64 y] : List Value)[j]? = some u → w.cell? (a.add j) = some u)
    (hr : (Builtin.append_ #[42, 42] 42 #[v, .slice (some a) 1 1]).run Try.prog w = .ok v' w') : v'.ownBlock = v.ownBlock ∨ v'.ownBlock = some w.heap.size := by
  obtain ⟨i0, hi, hz0, hz1, hz2⟩ := info_parts Cel.infoCell
  rcases ho.2 with ⟨rfl, h0⟩ | ⟨g, cap, cur, rfl, hb, hh, hnc, hcap, hsz, htake⟩
  · have hx := run_append_nil (P := Try.prog) w 42 42 48 i0 (.agg #[.int .i64 0, .int .i64 0]) Try.underlying42 hi hz0 a 1 1 [.int .i64 x, .int .i64 y] (by rw [hz1]; rfl) hn (by decide) (by decide) (by rw [hz2]; decide)
    rw [hr] at hx
    injection hx with hx _
    rw [hx]
    exact .inr rfl
  · by_cases hroom : out.length + 1 ≤ cap
    · have hx := run_append_room (P := Try.prog) w 42 42 48 i0 Try.underlying42 hi g out.length cap cur hh a 1 1 [.int .i64 x, .int .i64 y] (by rw [hz1]; rfl) hn Cel.one_cell hroom (by rw [hz1, hsz]; show out.length * 2 + 2 ≤ _; omega)
      rw [hr] at hx
      injection hx with hx _
      rw [hx]
      exact .inl rfl
    · have hx := run_append_grow (P := Try.prog) w 42 42 48 i0 (.agg #[.int .i64 0, .int .i64 0]) Try.underlying42 hi hz0 ⟨g, 0, none⟩ out.length cap (Cel.fl out) (by rw [hz1]; exact Cel.length_fl out) (World.ownsRow.cells ho (g := g) rfl) a 1 1 [.int .i64 x, .int .i64 y] (by rw [hz1]; rfl) hn (by omega) (by omega) (growslice_fits (by omega) (by rw [hz2]; omega))
      rw [hr] at hx
      injection hx with hx _
      rw [hx]
      exact .inr rfl
theorem pushC_any {w : World} {B : Nat} {v : Value} {out : List (Int × Int)} (c : Int × Int) (hB : B ≤ w.heap.size) (ho : OwnC w B v out) (hl : out.length ≤ 999999) :
    ∃ v' w', (Builtin.append_ #[42, 42] 42 #[v, .slice (some ⟨w.heap.size, 0, none⟩) 1 1]).run Try.prog (w.alloc (.cells #[.int .i64 c.1, .int .i64 c.2] 48)) = .ok v' w' ∧ OwnC w' B v' (out ++ [c]) ∧ (w.alloc (.cells #[.int .i64 c.1, .int .i64 c.2] 48)).grownBy w' v.ownBlock ∧ Below B w w' ∧ (v'.ownBlock = v.ownBlock ∨ v'.ownBlock = some (w.heap.size + 1)) := by
  obtain ⟨i0, hi, hz0, hz1, hz2⟩ := info_parts Cel.infoCell
  have ho' : OwnC (w.alloc (.cells #[.int .i64 c.1, .int .i64 c.2] 48)) B v out := World.ownsRow.alloc ho _
  obtain ⟨v', w', hr, h2, h3, _⟩ := run_append_own (P := Try.prog) (w := w.alloc (.cells #[.int .i64 c.1, .int .i64 c.2] 48)) B 42 42 48 i0 (.agg #[.int .i64 0, .int .i64 0]) 2 16 Try.underlying42 hi hz0 hz1 hz2 rfl (by decide) v out.length (Cel.fl out) ho' ⟨w.heap.size, 0, none⟩ 1 1 [.int .i64 c.1, .int .i64 c.2] rfl Cel.one_new Cel.one_cell (by unfold maxLen; omega) (by omega) (by simp; omega)
  have hwh := append_where ho' hl Cel.one_new hr
  have hsz : (w.alloc (.cells #[.int .i64 c.1, .int .i64 c.2] 48)).heap.size = w.heap.size + 1 := by simp
  rw [hsz] at hwh
  exact ⟨v', w', hr, Cel.own_push h2, h3, Below.grown ((Below.refl _ _).alloc hB _) h3 (by simp; omega) (fun k e => (World.ownsRow.lt ho' k e).1), hwh⟩
theorem own_heap {w w' : World} {B T n k : Nat} {v : Value} {xs : List Value} (h : w.ownsRow B T n v k xs) (hk : ∀ g cur, v.ownBlock = some g → w.heap[g]? = some (.cells cur T (0, 0)) → w'.heap[g]? = some (.cells cur T (0, 0))) : w'.ownsRow B T n v k xs := by
  refine ⟨h.1, ?_⟩
  rcases h.2 with ⟨rfl, h0⟩ | ⟨g, cap, cur, rfl, hb, hh, r⟩
  · exact .inl ⟨rfl, h0⟩
  · exact .inr ⟨g, cap, cur, rfl, hb, hk g cur rfl hh, r⟩
theorem ownC_kp {w w' : World} {B : Nat} {v : Value} {l : List (Int × Int)} (h : OwnC w B v l) (hk : Kp w w') : OwnC w' B v l := own_heap h fun g cur _ hh => hk _ _ _ _ hh ⟨.inl (by decide), by decide⟩
/-- four slices of cells in a box, each in a block of its own -/
structure QsB (B : Nat) (w : World) (qb : Nat) (vs : Nat → Value) (S : Nat → List (Int × Int)) : Prop where
  row : w.heap[qb]? = some (.cells #[vs 0, vs 1, vs 2, vs 3] 107 (0, 0))
  own : ∀ i, i < 4 → OwnC w B (vs i) (S i)
  apart : ∀ i j, i < 4 → j < 4 → i ≠ j → (vs j).ownBlock = none ∨ (vs j).ownBlock ≠ (vs i).ownBlock
section
variable {B : Nat} {w w' : World} {qb : Nat} {vs : Nat → Value} {S : Nat → List (Int × Int)}
theorem QsB.below (h : QsB B w qb vs S) (hb : Below w.heap.size w w') : QsB B w' qb vs S := ⟨(hb.block _ (lt_heap6 h.row)).trans h.row, fun i hi => Cel.Own.below (h.own i hi) hb, h.apart⟩
theorem QsB.kp (h : QsB B w qb vs S) (hk : Kp w w') : QsB B w' qb vs S := ⟨hk _ _ _ _ h.row ⟨.inl (by decide), by decide⟩, fun i hi => ownC_kp (h.own i hi) hk, h.apart⟩
theorem QsB.c (h : QsB B w qb vs S) {i : Nat} (hi : i < 4) : w.cell? ⟨qb, i, none⟩ = some (vs i) := by
  rcases (by omega : i = 0 ∨ i = 1 ∨ i = 2 ∨ i = 3) with rfl | rfl | rfl | rfl <;> (rw [Lib.cell_of_heap h.row]; rfl)
theorem QsB.f (h : QsB B w qb vs S) (i : Nat) : w.frozen? ⟨qb, i, none⟩ = false := Lib.frozen_of_heap h.row i
/-- a cell is put to one of them -/
theorem QsB.push {w1 : World} {v' : Value} {o : Obj} {c : Int × Int} (h : QsB B w qb vs S) {i : Nat} (hi : i < 4) (ho : OwnC w1 B v' (S i ++ [c])) (hg : (w.alloc o).grownBy w1 (vs i).ownBlock) (hw : v'.ownBlock = (vs i).ownBlock ∨ v'.ownBlock = some (w.heap.size + 1)) :
    w1.heap[qb]? = some (.cells #[vs 0, vs 1, vs 2, vs 3] 107 (0, 0)) ∧ QsB B (w1.setCell ⟨qb, i, none⟩ v') qb (fun j => if j = i then v' else vs j) (fun j => if j = i then S i ++ [c] else S j) := by
  have hqlt := lt_heap6 h.row
  have hsz : (w.alloc o).heap.size = w.heap.size + 1 := by simp
  have hqi : ∀ j, j < 4 → (vs j).ownBlock ≠ some qb := fun j hj e => by
    rcases (h.own j hj).2 with ⟨e1, h0⟩ | ⟨g, cap, cur, e1, hb, hh, r⟩
    · rw [e1] at e; cases e
    · rw [e1] at e
      have e' : some g = some qb := e
      injection e' with e'
      subst e'
      rw [h.row] at hh
      injection hh with hh
      injection hh with _ hh _
      exact absurd hh (by decide)
  have hrow1 : w1.heap[qb]? = some (.cells #[vs 0, vs 1, vs 2, vs 3] 107 (0, 0)) := by
    rw [hg.block qb (by omega) (fun e => hqi i hi e.symm), Lib.alloc_old _ _ _ hqlt]
    exact h.row
  have hvq : v'.ownBlock ≠ some qb := by
    rcases hw with e | e
    · rw [e]; exact hqi i hi
    · rw [e]; intro h1; injection h1 with h1; omega
  refine ⟨hrow1, ?_, fun j hj => ?_, fun j k hj hk hjk => ?_⟩
  · rcases (by omega : i = 0 ∨ i = 1 ∨ i = 2 ∨ i = 3) with rfl | rfl | rfl | rfl <;> simp [World.setCell, Array.getElem?_modify, hrow1]
  · by_cases hji : j = i
    · subst hji
      simp only [if_true]
      exact World.ownsRow.kept ho (but_set _ _) (.inr hvq)
    · simp only [if_neg hji]
      refine World.ownsRow.kept ?_ (but_set _ _) (.inr (hqi j hj))
      exact World.ownsRow.kept (World.ownsRow.alloc (h.own j hj) _) hg (h.apart i j hi hj (fun e => hji e.symm))
  · have hold : ∀ m, m < 4 → ∀ q, (vs m).ownBlock = some q → q < w.heap.size := fun m hm q e => (World.ownsRow.lt (h.own m hm) q e).2
    by_cases hki : k = i
    · subst hki
      simp only [if_true]
      rw [if_neg hjk]
      rcases hw with e | e
      · rw [e]; exact h.apart j k hj hk hjk
      · rw [e]
        exact .inr fun e2 => by have := hold j hj _ e2.symm; omega
    · simp only [if_neg hki]
      by_cases hji : j = i
      · subst hji
        simp only [if_true]
        rcases hw with e | e
        · rw [e]; exact h.apart j k hj hk hjk
        · rw [e]
          exact .inr fun e2 => by have := hold k hk _ e2; omega
      · rw [if_neg hji]
        exact h.apart j k hj hk hjk
end
end Go.Proofs.Ytklccoodfhejbaa
