/-
  Texts that the claims of this seat share, part 5.
-/
import Derived.Test.YtgjibpgfcbdpgaaB04
import Derived.Test.YtgjibpgfcbdpgaaB00
import Derived.Test.YtgjibpgfcbdpgaaB01
set_option linter.unusedVariables false
set_option linter.unusedSimpArgs false
namespace Go.Proofs.Ytgjibpgfcbdpgaa.Cel
open Go.RowKit Go.Sort

/-- the cells' own cells -/
def fl (l : List (Int × Int)) : List Value := l.flatMap fun c => [.int .i64 c.1, .int .i64 c.2]
theorem fl_append (l m : List (Int × Int)) : fl (l ++ m) = fl l ++ fl m := by simp [fl]
theorem length_fl (l : List (Int × Int)) : (fl l).length = l.length * 2 := by
  induction l with
  | nil => rfl
  | cons x l ih => simp only [fl, List.flatMap_cons, List.length_append, List.length_cons, List.length_nil] at ih ⊢; omega
theorem fl_get (l : List (Int × Int)) (j : Nat) (h : j < l.length) : (fl l)[j * 2]? = some (.int .i64 (l.getD j (0, 0)).1) ∧ (fl l)[j * 2 + 1]? = some (.int .i64 (l.getD j (0, 0)).2) := by
  induction l generalizing j with
  | nil => exact absurd h (Nat.not_lt_zero j)
  | cons x l ih =>
    cases j with
    | zero => simp [fl]
    | succ j =>
      have := ih j (by simpa using h)
      have e1 : (j + 1) * 2 = j * 2 + 1 + 1 := by omega
      have e2 : fl (x :: l) = .int .i64 x.1 :: .int .i64 x.2 :: fl l := rfl
      rw [e1, e2]
      simpa using this

/-- A slice of the call's own that holds l: as the laws on append say it. -/
def Own (w : World) (B T : Nat) (v : Value) (l : List (Int × Int)) : Prop := w.ownsRow B T 2 v l.length (fl l)

theorem Own.rd {w : World} {B T : Nat} {v : Value} {l : List (Int × Int)} (h : Own w B T v l) : ∃ A c, v = .slice A l.length c ∧ l.length ≤ c ∧ Rd w w.heap.size A l := by
  rcases h.2 with ⟨hv, hn⟩ | ⟨g, cap, cur, hv, hB, hg, hn, hm, hs, ht⟩
  · have : l = [] := List.eq_nil_of_length_eq_zero hn
    subst this
    exact ⟨none, 0, hv, Nat.le_refl _, Rd.nil _ _ _⟩
  · refine ⟨some ⟨g, 0, none⟩, cap, hv, hn, fun j hj => ?_⟩
    subst hv
    have hlt : g < w.heap.size := by
      rcases Nat.lt_or_ge g w.heap.size with h | h
      · exact h
      · rw [Array.getElem?_eq_none h] at hg; cases hg
    have hf := fl_get l j hj
    refine ⟨g, 0, rfl, hlt, ?_, ?_⟩
    · rw [Nat.zero_add]; exact (World.ownsRow.cellAt h (j * 2) (by omega)).trans hf.1
    · rw [Nat.zero_add]; exact (World.ownsRow.cellAt h (j * 2 + 1) (by omega)).trans hf.2

theorem Own.below {w w' : World} {B T : Nat} {v : Value} {l : List (Int × Int)} (h : Own w B T v l) (hb : Below w.heap.size w w') : Own w' B T v l := by
  refine ⟨h.1, ?_⟩
  rcases h.2 with h | ⟨g, cap, cur, hv, hB, hg, hn, hm, hs, ht⟩
  · exact .inl h
  · refine .inr ⟨g, cap, cur, hv, hB, ?_, hn, hm, hs, ht⟩
    rw [hb.block g ?_]
    · exact hg
    · rcases Nat.lt_or_ge g w.heap.size with h | h
      · exact h
      · rw [Array.getElem?_eq_none h] at hg; cases hg

theorem Own.mono {w : World} {B B' T : Nat} {v : Value} {l : List (Int × Int)} (h : Own w B T v l) (hB : B' ≤ B) : Own w B' T v l := by
  refine ⟨h.1, ?_⟩
  rcases h.2 with h | ⟨g, cap, cur, hv, hg, r⟩
  · exact .inl h
  · exact .inr ⟨g, cap, cur, hv, Nat.le_trans hB hg, r⟩

theorem own_push {w : World} {B T : Nat} {v : Value} {out : List (Int × Int)} {x y : Int} (h : w.ownsRow B T 2 v (out.length + 1) (fl out ++ [.int .i64 x, .int .i64 y])) : Own w B T v (out ++ [(x, y)]) := by
  unfold Own
  rw [fl_append, List.length_append]
  exact h

/-- A cell of a block that is not the row's. -/
theorem grown_cell {w w' : World} {row : Option Nat} {a : Addr} {v : Value} (hg : w.grownBy w' row) (h : w.cell? a = some v) (hne : some a.block ≠ row) : w'.cell? a = some v :=
  (World.cell?_of_block (w := w) (hg.block a.block (block_lt_of_cell h) hne)).trans h

theorem one_new {w : World} {T : Nat} {x y : Int} : ∀ j u, ([.int .i64 x, .int .i64 y] : List Value)[j]? = some u → (w.alloc (.cells #[.int .i64 x, .int .i64 y] T)).cell? ((⟨w.heap.size, 0, none⟩ : Addr).add j) = some u := by
  intro j u hj
  match j, hj with
  | 0, hj => simp at hj; subst hj; simp [Addr.add]
  | 1, hj => simp at hj; subst hj; simp [Addr.add]
theorem one_cell {x y : Int} : ∀ u ∈ ([.int .i64 x, .int .i64 y] : List Value), u.oneCell' = true := by
  intro u hu
  simp at hu
  rcases hu with rfl | rfl <;> rfl

/-- What an append of one cell leaves: the row, a box beside it, what is below. -/
theorem pushed {w0 w2 w3 : World} {T : Nat} {v v' : Value} {out : List (Int × Int)} {x y cx cy : Int} (hb : Below w0.heap.size w0 w2) (hsz : w0.heap.size < w2.heap.size) (hcx : w2.cell? ⟨w0.heap.size, 0, none⟩ = some (.int .i64 cx)) (hcy : w2.cell? ⟨w0.heap.size, 1, none⟩ = some (.int .i64 cy))
    (hown : Own w2 (w0.heap.size + 1) T v out) {o : Obj} (h3 : w3.ownsRow (w0.heap.size + 1) T 2 v' (out.length + 1) (fl out ++ [.int .i64 x, .int .i64 y])) (hg : (w2.alloc o).grownBy w3 v.ownBlock) :
    Own w3 (w0.heap.size + 1) T v' (out ++ [(x, y)]) ∧ w3.cell? ⟨w0.heap.size, 0, none⟩ = some (.int .i64 cx) ∧ w3.cell? ⟨w0.heap.size, 1, none⟩ = some (.int .i64 cy) ∧ Below w0.heap.size w0 w3 ∧ w0.heap.size < w3.heap.size := by
  have hne : some w0.heap.size ≠ v.ownBlock := fun e => by
    have := (World.ownsRow.lt hown _ e.symm).1; omega
  have hal : ∀ a u, w2.cell? a = some u → (w2.alloc o).cell? a = some u := fun a u h => (World.cell?_alloc_lt _ _ _ (block_lt_of_cell h)).trans h
  refine ⟨own_push h3, grown_cell hg (hal _ _ hcx) hne, grown_cell hg (hal _ _ hcy) hne, ((hb.alloc (Nat.le_of_lt hsz) _).grown hg (by simp; omega) (fun k e => ?_)), ?_⟩
  · have := (World.ownsRow.lt hown k e).1; omega
  · have h1 := hg.size; simp at h1; omega

theorem infoCell : (Try.prog.info? 48).map (fun i => (i.zero, i.size, i.bytes)) = some (some (.agg #[.int .i64 0, .int .i64 0]), 2, 16) := by kernel_rfl
theorem less_yes (p q : Int × Int) (h : lessB p q = true) (w : World) : Calls Try.prog 54 #[.agg #[.int .i64 p.1, .int .i64 p.2], .agg #[.int .i64 q.1, .int .i64 q.2]] w fun e w' => e = .returned (.bool true) ∧ Below w.heap.size w w' := by
  have := less_any p q w; rw [h] at this; exact this
theorem less_no (p q : Int × Int) (h : lessB p q = false) (w : World) : Calls Try.prog 54 #[.agg #[.int .i64 p.1, .int .i64 p.2], .agg #[.int .i64 q.1, .int .i64 q.2]] w fun e w' => e = .returned (.bool false) ∧ Below w.heap.size w w' := by
  have := less_any p q w; rw [h] at this; exact this

/-- what Put has gathered, and what is still to come, make the whole -/
def putAt (c : Int × Int) (done : Bool) (out rest : List (Int × Int)) : List (Int × Int) := out ++ (if done then outL c rest else putL c rest)

set_option maxHeartbeats 1000000 in
set_option maxRecDepth 100000 in
theorem put_any (A : Option Addr) (l : List (Int × Int)) (cp : Nat) (c : Int × Int) (w : World) (hR : Rd w w.heap.size A l) (hl : l.length ≤ 1000000) (hc : l.length ≤ cp) :
    Calls Try.prog 24 #[.slice A l.length cp, .agg #[.int .i64 c.1, .int .i64 c.2]] w fun e w' => ∃ v, e = .returned v ∧ Own w' w.heap.size 48 v (putL c l) ∧ Below w.heap.size w w' := by
  obtain ⟨cx, cy⟩ := c
  obtain ⟨i0, hi, hz0, hz1, hz2⟩ := info_parts infoCell
  go_enter Try.func24, Try.ntmps24
  go_wp2
  go_loopw [5, 6, 7] (fun v d i wr => ∃ (k : Nat) (done : Bool) (out : List (Int × Int)), k ≤ l.length ∧ i = .int .i64 k ∧ d = .bool done ∧ Hid (putAt (cx, cy) done out (l.drop k) = putL (cx, cy) l) ∧ out.length ≤ k + 1 ∧ Hid (done = false → out.length ≤ k) ∧ Own wr (w.heap.size + 1) 48 v out ∧
      wr.cell? ⟨w.heap.size, 0, none⟩ = some (.int .i64 cx) ∧ wr.cell? ⟨w.heap.size, 1, none⟩ = some (.int .i64 cy) ∧ Below w.heap.size w wr ∧ w.heap.size < wr.heap.size) (fun _ _ i _ => l.length - (intOf i).toNat)
  case atStart => exact ⟨0, false, [], Nat.zero_le _, rfl, rfl, rfl, by simp, fun _ => by simp, World.ownsRow_nil _ _ _ _, by simp, by simp, (Below.refl _ _).alloc (Nat.le_refl _) _, by simp⟩
  case round =>
    obtain ⟨k, done, out, hk, rfl, rfl, HP, hol, HO2, hown, hcx, hcy, hb, hsz⟩ := hrel
    by_cases hlt : k < l.length
    · have hltz : (k : Int) < (l.length : Int) := by omega
      obtain ⟨b, off, rfl, hbB, hcell⟩ := hR.at_ (by omega)
      obtain ⟨⟨x, y⟩, hxy⟩ : ∃ p, p = l.getD k (0, 0) := ⟨_, rfl⟩
      have a0 := (hcell k hlt).1
      have a1 := (hcell k hlt).2
      rw [← hxy] at a0 a1
      simp only at a0 a1
      have c0 := Qt.keep hb a0
      have c1 := Qt.keep hb a1
      have HXY := Lib.hid hxy
      have HD := Lib.hid (drop_cons hlt)
      clear hxy hcell
      have k0 := Qt.cell_in hcx
      have k1 := Qt.cell_in hcy
      have k2 := Qt.cell_in c0
      have k3 := Qt.cell_in c1
      have hcase : (x = cx ∧ y = cy) ∨ (x = cx ∧ ¬ y = cy) ∨ ¬ x = cx := by
        by_cases h1 : x = cx <;> by_cases h2 : y = cy <;> simp [h1, h2]
      cases done with
      | true =>
        go_wp2
        refine Qt.below_all (by kernel_rfl) (by kernel_rfl) ?_
        repeat (go_big_quiet_step (fail))
        refine wpQuiet_nil ?_
        intro w1 hb1
        have d0 := Qt.cell_in (Qt.keep hb1 hcx)
        have d1 := Qt.cell_in (Qt.keep hb1 hcy)
        have d2 := Qt.cell_in (Qt.keep hb1 c0)
        have d3 := Qt.cell_in (Qt.keep hb1 c1)
        clear k0 k1 k2 k3
        rcases hcase with ⟨rfl, rfl⟩ | ⟨rfl, hy⟩ | hx
        · go_wp2
          refine Qt.below_all (by kernel_rfl) (by kernel_rfl) ?_
          repeat (go_big_quiet_step (fail))
          refine wpQuiet_nil ?_
          intro w2 hb2
          have HB : Below wr.heap.size wr w2 := Qt.more hb1 hb1.size hb2
          clear d0 d1 d2 d3
          go_wp2
          go_roundw
          case measure => simp [intOf]; omega
          case rel =>
            refine ⟨k + 1, true, out, by omega, by go_num, rfl, ?_, by omega, (fun h => by cases h), hown.below HB, Qt.keep HB hcx, Qt.keep HB hcy, Qt.more hb (Nat.le_of_lt hsz) HB, Nat.lt_of_lt_of_le hsz HB.size⟩
            show _ = _
            rw [← HP.out, HD.out, ← HXY.out]
            simp [putAt, outL]
        all_goals
          go_wp2
          refine Qt.below_all (by kernel_rfl) (by kernel_rfl) ?_
          repeat (go_big_quiet_step (fail))
          refine wpQuiet_nil ?_
          intro w2 hb2
          have HB : Below wr.heap.size wr w2 := Qt.more hb1 hb1.size hb2
          have e2 := Qt.keep HB c0
          have e3 := Qt.keep HB c1
          clear d0 d1 d2 d3
          have hs2 := HB.size
          go_wp2_with (at_builtin; refine wpList_append_own _ rfl (.tmp 42) (.tmp 47) 42 rfl (w.heap.size + 1) 48 i0 (.agg #[.int .i64 0, .int .i64 0]) 2 16 Try.underlying42 hi hz0 hz1 hz2 rfl (by decide) _ _ _ rfl (World.ownsRow.alloc (hown.below HB) _) ⟨w2.heap.size, 0, none⟩ 1 1 [.int .i64 x, .int .i64 y] rfl rfl one_new one_cell (by unfold maxLen; omega) (by omega) (by simp; omega) ?_; intro v3 w3 hown3 hgrow _)
          have P := pushed (Qt.more hb (Nat.le_of_lt hsz) HB) (Nat.lt_of_lt_of_le hsz HB.size) (Qt.keep HB hcx) (Qt.keep HB hcy) (hown.below HB) hown3 hgrow
          clear hown3 hgrow hown hcx hcy e2 e3
          go_wp2
          go_roundw
          case measure => simp [intOf]; omega
          case rel =>
            refine ⟨k + 1, true, out ++ [(x, y)], by omega, by go_num, rfl, ?_, by simp; omega, (fun h => by cases h), P.1, P.2.1, P.2.2.1, P.2.2.2.1, P.2.2.2.2⟩
            show _ = _
            rw [← HP.out, HD.out, ← HXY.out]
            simp [putAt, outL, *]
      | false =>
        rcases hcase with ⟨rfl, rfl⟩ | hne
        · go_wp2
          refine Qt.below_all (by kernel_rfl) (by kernel_rfl) ?_
          repeat (go_big_quiet_step (fail))
          refine wpQuiet_nil ?_
          intro w1 hb1
          have b0 := Qt.keep hb1 hcx
          have b1 := Qt.keep hb1 hcy
          have hs1 := hb1.size
          have HB1 : Below w.heap.size w w1 := Qt.more hb (Nat.le_of_lt hsz) hb1
          clear k0 k1 k2 k3
          go_wp2_with (at_builtin; refine wpList_append_own _ rfl (.tmp 32) (.tmp 34) 42 rfl (w.heap.size + 1) 48 i0 (.agg #[.int .i64 0, .int .i64 0]) 2 16 Try.underlying42 hi hz0 hz1 hz2 rfl (by decide) _ _ _ rfl (World.ownsRow.alloc (hown.below hb1) _) ⟨w1.heap.size, 0, none⟩ 1 1 [.int .i64 x, .int .i64 y] rfl rfl one_new one_cell (by unfold maxLen; omega) (by omega) (by simp; omega) ?_; intro v3 w3 hown3 hgrow3 _)
          have P := pushed HB1 (Nat.lt_of_lt_of_le hsz hb1.size) b0 b1 (hown.below hb1) hown3 hgrow3
          obtain ⟨P0, P1, P2, P3, P4⟩ := P
          have d0 := Qt.cell_in P1
          have d1 := Qt.cell_in P2
          have d2 := Qt.cell_in (Qt.keep P3 a0)
          have d3 := Qt.cell_in (Qt.keep P3 a1)
          clear hown3 hgrow3 hown hcx hcy b0 b1 hb1 HB1 hs1
          go_wp2
          refine Qt.below_all (by kernel_rfl) (by kernel_rfl) ?_
          repeat (go_big_quiet_step (fail))
          refine wpQuiet_nil ?_
          intro w4 hb4
          go_wp2
          go_roundw
          case measure => simp [intOf]; omega
          case rel =>
            refine ⟨k + 1, true, out ++ [(x, y)], by omega, by go_num, rfl, ?_, by simp; omega, (fun h => by cases h), P0.below hb4, Qt.keep hb4 P1, Qt.keep hb4 P2, Qt.more P3 (Nat.le_of_lt P4) hb4, Nat.lt_of_lt_of_le P4 hb4.size⟩
            show _ = _
            rw [← HP.out, HD.out, ← HXY.out]
            simp [putAt, putL, outL]
        · cases hls : lessB (cx, cy) (x, y) with
          | true =>
            rcases hne with ⟨rfl, hy⟩ | hx
            · go_wp2
              refine Qt.below_all (by kernel_rfl) (by kernel_rfl) ?_
              repeat (go_big_quiet_step (first | (go_at_call 54; exact Qt.at_call (less_yes (x, cy) (x, y) hls))))
              refine wpQuiet_nil ?_
              intro w1 hb1
              have b0 := Qt.keep hb1 hcx
              have b1 := Qt.keep hb1 hcy
              have hs1 := hb1.size
              have HB1 : Below w.heap.size w w1 := Qt.more hb (Nat.le_of_lt hsz) hb1
              have HL := Lib.hid hls
              clear k0 k1 k2 k3 hls
              go_wp2_with (at_builtin; refine wpList_append_own _ rfl (.tmp 32) (.tmp 34) 42 rfl (w.heap.size + 1) 48 i0 (.agg #[.int .i64 0, .int .i64 0]) 2 16 Try.underlying42 hi hz0 hz1 hz2 rfl (by decide) _ _ _ rfl (World.ownsRow.alloc (hown.below hb1) _) ⟨w1.heap.size, 0, none⟩ 1 1 [.int .i64 x, .int .i64 cy] rfl rfl one_new one_cell (by unfold maxLen; omega) (by omega) (by simp; omega) ?_; intro v3 w3 hown3 hgrow3 _)
              have P := pushed HB1 (Nat.lt_of_lt_of_le hsz hb1.size) b0 b1 (hown.below hb1) hown3 hgrow3
              obtain ⟨P0, P1, P2, P3, P4⟩ := P
              have d0 := Qt.cell_in P1
              have d1 := Qt.cell_in P2
              have d2 := Qt.cell_in (Qt.keep P3 a0)
              have d3 := Qt.cell_in (Qt.keep P3 a1)
              clear hown3 hgrow3 hown hcx hcy b0 b1 hb1 HB1 hs1
              go_wp2
              refine Qt.below_all (by kernel_rfl) (by kernel_rfl) ?_
              repeat (go_big_quiet_step (fail))
              refine wpQuiet_nil ?_
              intro w4 hb4
              have hs4 := hb4.size
              have e2 := Qt.keep (Qt.more P3 (Nat.le_of_lt P4) hb4) a0
              have e3 := Qt.keep (Qt.more P3 (Nat.le_of_lt P4) hb4) a1
              clear d0 d1 d2 d3
              have hl1 : (out ++ [(x, cy)]).length ≤ 1000002 := by simp; omega
              go_wp2_with (at_builtin; refine wpList_append_own _ rfl (.tmp 42) (.tmp 47) 42 rfl (w.heap.size + 1) 48 i0 (.agg #[.int .i64 0, .int .i64 0]) 2 16 Try.underlying42 hi hz0 hz1 hz2 rfl (by decide) _ _ _ rfl (World.ownsRow.alloc (P0.below hb4) _) ⟨w4.heap.size, 0, none⟩ 1 1 [.int .i64 x, .int .i64 y] rfl rfl one_new one_cell (by unfold maxLen; omega) (by omega) (by simp; omega) ?_; intro v5 w5 hown5 hgrow5 _)
              have R := pushed (Qt.more P3 (Nat.le_of_lt P4) hb4) (Nat.lt_of_lt_of_le P4 hs4) (Qt.keep hb4 P1) (Qt.keep hb4 P2) (P0.below hb4) hown5 hgrow5
              clear hown5 hgrow5 P0 P1 P2 P3 P4 hb4 e2 e3
              go_wp2
              go_roundw
              case measure => simp [intOf]; omega
              case rel =>
                refine ⟨k + 1, true, (out ++ [(x, cy)]) ++ [(x, y)], by omega, by go_num, rfl, ?_, by have := HO2.out trivial; simp; omega, (fun h => by cases h), R.1, R.2.1, R.2.2.1, R.2.2.2.1, R.2.2.2.2⟩
                show _ = _
                rw [← HP.out, HD.out, ← HXY.out]
                simp [putAt, putL, outL, HL.out, *]
            · go_wp2
              refine Qt.below_all (by kernel_rfl) (by kernel_rfl) ?_
              repeat (go_big_quiet_step (first | (go_at_call 54; exact Qt.at_call (less_yes (cx, cy) (x, y) hls))))
              refine wpQuiet_nil ?_
              intro w1 hb1
              have b0 := Qt.keep hb1 hcx
              have b1 := Qt.keep hb1 hcy
              have hs1 := hb1.size
              have HB1 : Below w.heap.size w w1 := Qt.more hb (Nat.le_of_lt hsz) hb1
              have HL := Lib.hid hls
              clear k0 k1 k2 k3 hls
              go_wp2_with (at_builtin; refine wpList_append_own _ rfl (.tmp 32) (.tmp 34) 42 rfl (w.heap.size + 1) 48 i0 (.agg #[.int .i64 0, .int .i64 0]) 2 16 Try.underlying42 hi hz0 hz1 hz2 rfl (by decide) _ _ _ rfl (World.ownsRow.alloc (hown.below hb1) _) ⟨w1.heap.size, 0, none⟩ 1 1 [.int .i64 cx, .int .i64 cy] rfl rfl one_new one_cell (by unfold maxLen; omega) (by omega) (by simp; omega) ?_; intro v3 w3 hown3 hgrow3 _)
              have P := pushed HB1 (Nat.lt_of_lt_of_le hsz hb1.size) b0 b1 (hown.below hb1) hown3 hgrow3
              obtain ⟨P0, P1, P2, P3, P4⟩ := P
              have d0 := Qt.cell_in P1
              have d1 := Qt.cell_in P2
              have d2 := Qt.cell_in (Qt.keep P3 a0)
              have d3 := Qt.cell_in (Qt.keep P3 a1)
              clear hown3 hgrow3 hown hcx hcy b0 b1 hb1 HB1 hs1
              go_wp2
              refine Qt.below_all (by kernel_rfl) (by kernel_rfl) ?_
              repeat (go_big_quiet_step (fail))
              refine wpQuiet_nil ?_
              intro w4 hb4
              have hs4 := hb4.size
              have e2 := Qt.keep (Qt.more P3 (Nat.le_of_lt P4) hb4) a0
              have e3 := Qt.keep (Qt.more P3 (Nat.le_of_lt P4) hb4) a1
              clear d0 d1 d2 d3
              have hl1 : (out ++ [(cx, cy)]).length ≤ 1000002 := by simp; omega
              go_wp2_with (at_builtin; refine wpList_append_own _ rfl (.tmp 42) (.tmp 47) 42 rfl (w.heap.size + 1) 48 i0 (.agg #[.int .i64 0, .int .i64 0]) 2 16 Try.underlying42 hi hz0 hz1 hz2 rfl (by decide) _ _ _ rfl (World.ownsRow.alloc (P0.below hb4) _) ⟨w4.heap.size, 0, none⟩ 1 1 [.int .i64 x, .int .i64 y] rfl rfl one_new one_cell (by unfold maxLen; omega) (by omega) (by simp; omega) ?_; intro v5 w5 hown5 hgrow5 _)
              have R := pushed (Qt.more P3 (Nat.le_of_lt P4) hb4) (Nat.lt_of_lt_of_le P4 hs4) (Qt.keep hb4 P1) (Qt.keep hb4 P2) (P0.below hb4) hown5 hgrow5
              clear hown5 hgrow5 P0 P1 P2 P3 P4 hb4 e2 e3
              go_wp2
              go_roundw
              case measure => simp [intOf]; omega
              case rel =>
                refine ⟨k + 1, true, (out ++ [(cx, cy)]) ++ [(x, y)], by omega, by go_num, rfl, ?_, by have := HO2.out trivial; simp; omega, (fun h => by cases h), R.1, R.2.1, R.2.2.1, R.2.2.2.1, R.2.2.2.2⟩
                show _ = _
                rw [← HP.out, HD.out, ← HXY.out]
                simp [putAt, putL, outL, HL.out, *]
          | false =>
            rcases hne with ⟨rfl, hy⟩ | hx
            · go_wp2
              refine Qt.below_all (by kernel_rfl) (by kernel_rfl) ?_
              repeat (go_big_quiet_step (first | (go_at_call 54; exact Qt.at_call (less_no (x, cy) (x, y) hls))))
              refine wpQuiet_nil ?_
              intro w1 hb1
              have hs1 := hb1.size
              have d0 := Qt.cell_in (Qt.keep hb1 hcx)
              have d1 := Qt.cell_in (Qt.keep hb1 hcy)
              have d2 := Qt.cell_in (Qt.keep hb1 c0)
              have d3 := Qt.cell_in (Qt.keep hb1 c1)
              have HL := Lib.hid hls
              clear k0 k1 k2 k3 hls
              go_wp2
              refine Qt.below_all (by kernel_rfl) (by kernel_rfl) ?_
              repeat (go_big_quiet_step (fail))
              refine wpQuiet_nil ?_
              intro w4 hb4
              have HB : Below wr.heap.size wr w4 := Qt.more hb1 hb1.size hb4
              have hs4 := HB.size
              have e2 := Qt.keep HB c0
              have e3 := Qt.keep HB c1
              clear d0 d1 d2 d3
              go_wp2_with (at_builtin; refine wpList_append_own _ rfl (.tmp 42) (.tmp 47) 42 rfl (w.heap.size + 1) 48 i0 (.agg #[.int .i64 0, .int .i64 0]) 2 16 Try.underlying42 hi hz0 hz1 hz2 rfl (by decide) _ _ _ rfl (World.ownsRow.alloc (hown.below HB) _) ⟨w4.heap.size, 0, none⟩ 1 1 [.int .i64 x, .int .i64 y] rfl rfl one_new one_cell (by unfold maxLen; omega) (by omega) (by simp; omega) ?_; intro v5 w5 hown5 hgrow5 _)
              have R := pushed (Qt.more hb (Nat.le_of_lt hsz) HB) (Nat.lt_of_lt_of_le hsz hs4) (Qt.keep HB hcx) (Qt.keep HB hcy) (hown.below HB) hown5 hgrow5
              clear hown5 hgrow5 hown hcx hcy hb1 hb4 HB e2 e3
              go_wp2
              go_roundw
              case measure => simp [intOf]; omega
              case rel =>
                refine ⟨k + 1, false, out ++ [(x, y)], by omega, by go_num, rfl, ?_, by simp; omega, (fun _ => by have := HO2.out trivial; simp; omega), R.1, R.2.1, R.2.2.1, R.2.2.2.1, R.2.2.2.2⟩
                show _ = _
                rw [← HP.out, HD.out, ← HXY.out]
                simp [putAt, putL, outL, HL.out, *]
            · go_wp2
              refine Qt.below_all (by kernel_rfl) (by kernel_rfl) ?_
              repeat (go_big_quiet_step (first | (go_at_call 54; exact Qt.at_call (less_no (cx, cy) (x, y) hls))))
              refine wpQuiet_nil ?_
              intro w1 hb1
              have hs1 := hb1.size
              have d0 := Qt.cell_in (Qt.keep hb1 hcx)
              have d1 := Qt.cell_in (Qt.keep hb1 hcy)
              have d2 := Qt.cell_in (Qt.keep hb1 c0)
              have d3 := Qt.cell_in (Qt.keep hb1 c1)
              have HL := Lib.hid hls
              clear k0 k1 k2 k3 hls
              go_wp2
              refine Qt.below_all (by kernel_rfl) (by kernel_rfl) ?_
              repeat (go_big_quiet_step (fail))
              refine wpQuiet_nil ?_
              intro w4 hb4
              have HB : Below wr.heap.size wr w4 := Qt.more hb1 hb1.size hb4
              have hs4 := HB.size
              have e2 := Qt.keep HB c0
              have e3 := Qt.keep HB c1
              clear d0 d1 d2 d3
              go_wp2_with (at_builtin; refine wpList_append_own _ rfl (.tmp 42) (.tmp 47) 42 rfl (w.heap.size + 1) 48 i0 (.agg #[.int .i64 0, .int .i64 0]) 2 16 Try.underlying42 hi hz0 hz1 hz2 rfl (by decide) _ _ _ rfl (World.ownsRow.alloc (hown.below HB) _) ⟨w4.heap.size, 0, none⟩ 1 1 [.int .i64 x, .int .i64 y] rfl rfl one_new one_cell (by unfold maxLen; omega) (by omega) (by simp; omega) ?_; intro v5 w5 hown5 hgrow5 _)
              have R := pushed (Qt.more hb (Nat.le_of_lt hsz) HB) (Nat.lt_of_lt_of_le hsz hs4) (Qt.keep HB hcx) (Qt.keep HB hcy) (hown.below HB) hown5 hgrow5
              clear hown5 hgrow5 hown hcx hcy hb1 hb4 HB e2 e3
              go_wp2
              go_roundw
              case measure => simp [intOf]; omega
              case rel =>
                refine ⟨k + 1, false, out ++ [(x, y)], by omega, by go_num, rfl, ?_, by simp; omega, (fun _ => by have := HO2.out trivial; simp; omega), R.1, R.2.1, R.2.2.1, R.2.2.2.1, R.2.2.2.2⟩
                show _ = _
                rw [← HP.out, HD.out, ← HXY.out]
                simp [putAt, putL, outL, HL.out, *]
    · have hltz : ¬ (k : Int) < (l.length : Int) := by omega
      have hkl : l.drop k = [] := List.drop_eq_nil_of_le (by omega)
      have HKL := Lib.hid hkl
      clear hkl
      cases done with
      | true =>
        go_wp2
        go_ret
        refine ⟨_, rfl, ?_, hb⟩
        rw [← HP.out, HKL.out]
        simpa [putAt, outL] using hown.mono (Nat.le_succ _)
      | false =>
        go_wp2_with (at_builtin; refine wpList_append_own _ rfl (.tmp 51) (.tmp 53) 42 rfl (w.heap.size + 1) 48 i0 (.agg #[.int .i64 0, .int .i64 0]) 2 16 Try.underlying42 hi hz0 hz1 hz2 rfl (by decide) _ _ _ rfl (World.ownsRow.alloc hown _) ⟨wr.heap.size, 0, none⟩ 1 1 [.int .i64 cx, .int .i64 cy] rfl rfl one_new one_cell (by unfold maxLen; omega) (by omega) (by simp; omega) ?_; intro v3 w3 hown3 hgrow3 _)
        have P := pushed hb hsz hcx hcy hown hown3 hgrow3
        clear hown3 hgrow3
        go_wp2
        go_ret
        refine ⟨_, rfl, ?_, P.2.2.2.1⟩
        rw [← HP.out, HKL.out]
        simpa [putAt, putL] using P.1.mono (Nat.le_succ _)

end Go.Proofs.Ytgjibpgfcbdpgaa.Cel
namespace Go.Proofs.Ytgjibpgfcbdpgaa.Cel
open Go.RowKit Go.Sort

/-- A row of n cells at the head of block g, of the call's own. -/
def Row (w : World) (B T g n cap : Nat) (l : List (Int × Int)) : Prop := l.length = n ∧ w.ownsRow B T 2 (.slice (some ⟨g, 0, none⟩) n cap) n (fl l)

section
variable {w w' : World} {B T g n cap : Nat} {l : List (Int × Int)}
theorem Row.own (h : Row w B T g n cap l) : Own w B T (.slice (some ⟨g, 0, none⟩) l.length cap) l := by
  obtain ⟨h1, h2⟩ := h
  subst h1
  exact h2
theorem Row.below (h : Row w B T g n cap l) (hb : Below w.heap.size w w') : Row w' B T g n cap l := by
  obtain ⟨h1, h2⟩ := h
  subst h1
  exact ⟨rfl, Own.below (l := l) h2 hb⟩
theorem Row.lt (h : Row w B T g n cap l) : B ≤ g ∧ g < w.heap.size := World.ownsRow.lt h.2 g rfl
theorem Row.cell (h : Row w B T g n cap l) {j : Nat} (hj : j < n) : w.cell? ⟨g, j * 2, none⟩ = some (.int .i64 (l.getD j (0, 0)).1) ∧ w.cell? ⟨g, j * 2 + 1, none⟩ = some (.int .i64 (l.getD j (0, 0)).2) := by
  have hf := fl_get l j (by rw [h.1]; exact hj)
  exact ⟨(World.ownsRow.cellAt h.2 (j * 2) (by omega)).trans hf.1, (World.ownsRow.cellAt h.2 (j * 2 + 1) (by omega)).trans hf.2⟩
theorem Row.free (h : Row w B T g n cap l) (j : Nat) : w.frozen? ⟨g, j, none⟩ = false := World.ownsRow.frozenAt h.2 j

theorem fl_set (l : List (Int × Int)) (i : Nat) (x y : Int) : fl (l.set i (x, y)) = ((fl l).set (i * 2) (.int .i64 x)).set (i * 2 + 1) (.int .i64 y) := by
  induction l generalizing i with
  | nil => rfl
  | cons p l ih =>
    cases i with
    | zero => rfl
    | succ i =>
      have e1 : (i + 1) * 2 = i * 2 + 1 + 1 := by omega
      have e2 : ∀ (q : Int × Int) (m : List (Int × Int)), fl (q :: m) = .int .i64 q.1 :: .int .i64 q.2 :: fl m := fun _ _ => rfl
      rw [List.set_cons_succ, e2, e2, ih, e1]
      rfl

theorem Row.store (h : Row w B T g n cap l) (i : Nat) (x y : Int) : Row ((w.setCell ⟨g, i * 2, none⟩ (.int .i64 x)).setCell ⟨g, i * 2 + 1, none⟩ (.int .i64 y)) B T g n cap (l.set i (x, y)) := by
  refine ⟨by rw [List.length_set]; exact h.1, ?_⟩
  rw [fl_set]
  exact (World.ownsRow.stored (World.ownsRow.stored h.2 (i * 2) (.int .i64 x)).1 (i * 2 + 1) (.int .i64 y)).1

theorem Row.rd (h : Row w B T g n cap l) : Rd w w.heap.size (some ⟨g, 0, none⟩) l := fun j hj => by
  have := h.cell (j := j) (by rw [← h.1]; exact hj)
  exact ⟨g, 0, rfl, h.lt.2, by rw [Nat.zero_add]; exact this.1, by rw [Nat.zero_add]; exact this.2⟩
end

theorem fl_replicate (n : Nat) : (madeCells #[.int .i64 0, .int .i64 0] (n * 2)).toList = fl (List.replicate n (0, 0)) := by
  apply List.ext_getElem?
  intro j
  by_cases hj : j < n * 2
  · have hl : j / 2 < (List.replicate n ((0 : Int), (0 : Int))).length := by simp; omega
    have hf := fl_get _ (j / 2) hl
    have hg : (List.replicate n ((0 : Int), (0 : Int))).getD (j / 2) (0, 0) = (0, 0) := by
      rw [List.getD_eq_getElem?_getD, List.getElem?_replicate]; split <;> rfl
    rw [hg] at hf
    have hm : (madeCells #[.int .i64 0, .int .i64 0] (n * 2)).toList[j]? = some (.int .i64 0) := by
      have : j % 2 = 0 ∨ j % 2 = 1 := by omega
      rcases this with h | h <;> simp [madeCells, hj, h]
    rw [hm]
    have h2 : j = j / 2 * 2 ∨ j = j / 2 * 2 + 1 := by omega
    rcases h2 with h | h
    · rw [h]; exact hf.1.symm
    · rw [h]; exact hf.2.symm
  · rw [List.getElem?_eq_none (by simp [size_madeCells]; omega), List.getElem?_eq_none (by rw [length_fl]; simp; omega)]

theorem Row.made (w : World) (B T n : Nat) (hB : B ≤ w.heap.size) (hn : n ≤ 1000000) : Row (w.alloc (.cells (madeCells #[.int .i64 0, .int .i64 0] (n * 2)) T)) B T w.heap.size n n (List.replicate n (0, 0)) := by
  refine ⟨List.length_replicate, ?_⟩
  rw [← fl_replicate]
  exact World.ownsRow_lit w _ n hB (by unfold maxLen; omega) (size_madeCells _ _)

/-- the first k are told, the others are noughts -/
def filled (l : List (Int × Int)) (k : Nat) : List (Int × Int) := l.take k ++ List.replicate (l.length - k) (0, 0)
theorem filled_step {l : List (Int × Int)} {k : Nat} (h : k < l.length) : (filled l k).set k (l.getD k (0, 0)) = filled l (k + 1) := by
  unfold filled
  obtain ⟨m, hm⟩ : ∃ m, l.length - k = m + 1 := ⟨l.length - k - 1, by omega⟩
  have hm2 : l.length - (k + 1) = m := by omega
  have hl : (l.take k).length = k := by simp; omega
  rw [take_snoc h, hm, hm2, List.replicate_succ, List.set_append_right _ _ (by omega), hl, Nat.sub_self, List.set_cons_zero, List.append_assoc]
  rfl

end Go.Proofs.Ytgjibpgfcbdpgaa.Cel
namespace Go.Proofs.Ytgjibpgfcbdpgaa
set_option maxRecDepth 100000
set_option linter.unusedVariables false
set_option linter.unusedSimpArgs false
open Go.RowKit Go.Sort

abbrev OwnC (w : World) (B : Nat) (v : Value) (l : List (Int × Int)) : Prop := Cel.Own w B 48 v l
abbrev RdC (w : World) (B : Nat) (A : Option Addr) (l : List (Int × Int)) : Prop := Cel.Rd w B A l
/-- where a slice's cells are, behind an append -/
theorem append_where {w w' : World} {B : Nat} {v v' : Value} {out : List (Int × Int)} {a : Addr} {x y : Int} (ho : OwnC w B v out) (hl : out.length ≤ 999999) (hn : ∀ j u, ([.int .i64 x, .int .i64 y] : List Value)[j]? = some u → w.cell? (a.add j) = some u)
    (hr : (Builtin.append_ #[42, 42] 42 #[v, .slice (some a) 1 1]).run Try.prog w = .ok v' w') : v'.ownBlock = v.ownBlock ∨ v'.ownBlock = some w.heap.size := by
  obtain ⟨i0, hi, hz0, hz1, hz2⟩ := info_parts Cel.infoCell
  rcases ho.2 with ⟨rfl, h0⟩ | ⟨g, cap, cur, rfl, hb, hh, hnc, hcap, hsz, htake⟩
  · have hx := run_append_nil (P := Try.prog) w 42 42 48 i0 (.agg #[.int .i64 0, .int .i64 0]) Try.underlying42 hi hz0 a 1 1 [.int .i64 x, .int .i64 y] (by rw [hz1]; rfl) hn (by decide) (by decide) (by rw [hz2]; decide)
    rw [hr] at hx
    injection hx with hx _
    rw [hx]
    exact .inr rfl
  · by_cases hroom : out.length + 1 ≤ cap
    · have hx := run_append_room (P := Try.prog) w 42 42 48 i0 Try.underlying42 hi g out.length cap cur hh a 1 1 [.int .i64 x, .int .i64 y] (by rw [hz1]; rfl) hn Cel.one_cell hroom (by rw [hz1, hsz]; show out.length * 2 + 2 ≤ _; omega)
      rw [hr] at hx
      injection hx with hx _
      rw [hx]
      exact .inl rfl
    · have hx := run_append_grow (P := Try.prog) w 42 42 48 i0 (.agg #[.int .i64 0, .int .i64 0]) Try.underlying42 hi hz0 ⟨g, 0, none⟩ out.length cap (Cel.fl out) (by rw [hz1]; exact Cel.length_fl out) (World.ownsRow.cells ho (g := g) rfl) a 1 1 [.int .i64 x, .int .i64 y] (by rw [hz1]; rfl) hn (by omega) (by omega) (growslice_fits (by omega) (by rw [hz2]; omega))
      rw [hr] at hx
      injection hx with hx _
      rw [hx]
      exact .inr rfl
theorem pushC_any {w : World} {B : Nat} {v : Value} {out : List (Int × Int)} (c : Int × Int) (hB : B ≤ w.heap.size) (ho : OwnC w B v out) (hl : out.length ≤ 999999) :
    ∃ v' w', (Builtin.append_ #[42, 42] 42 #[v, .slice (some ⟨w.heap.size, 0, none⟩) 1 1]).run Try.prog (w.alloc (.cells #[.int .i64 c.1, .int .i64 c.2] 48)) = .ok v' w' ∧ OwnC w' B v' (out ++ [c]) ∧ (w.alloc (.cells #[.int .i64 c.1, .int .i64 c.2] 48)).grownBy w' v.ownBlock ∧ Below B w w' ∧ (v'.ownBlock = v.ownBlock ∨ v'.ownBlock = some (w.heap.size + 1)) := by
  obtain ⟨i0, hi, hz0, hz1, hz2⟩ := info_parts Cel.infoCell
  have ho' : OwnC (w.alloc (.cells #[.int .i64 c.1, .int .i64 c.2] 48)) B v out := World.ownsRow.alloc ho _
  obtain ⟨v', w', hr, h2, h3, _⟩ := run_append_own (P := Try.prog) (w := w.alloc (.cells #[.int .i64 c.1, .int .i64 c.2] 48)) B 42 42 48 i0 (.agg #[.int .i64 0, .int .i64 0]) 2 16 Try.underlying42 hi hz0 hz1 hz2 rfl (by decide) v out.length (Cel.fl out) ho' ⟨w.heap.size, 0, none⟩ 1 1 [.int .i64 c.1, .int .i64 c.2] rfl Cel.one_new Cel.one_cell (by unfold maxLen; omega) (by omega) (by simp; omega)
  have hwh := append_where ho' hl Cel.one_new hr
  have hsz : (w.alloc (.cells #[.int .i64 c.1, .int .i64 c.2] 48)).heap.size = w.heap.size + 1 := by simp
  rw [hsz] at hwh
  exact ⟨v', w', hr, Cel.own_push h2, h3, Below.grown ((Below.refl _ _).alloc hB _) h3 (by simp; omega) (fun k e => (World.ownsRow.lt ho' k e).1), hwh⟩
theorem own_heap {w w' : World} {B T n k : Nat} {v : Value} {xs : List Value} (h : w.ownsRow B T n v k xs) (hk : ∀ g cur, v.ownBlock = some g → w.heap[g]? = some (.cells cur T (0, 0)) → w'.heap[g]? = some (.cells cur T (0, 0))) : w'.ownsRow B T n v k xs := by
  refine ⟨h.1, ?_⟩
  rcases h.2 with ⟨rfl, h0⟩ | ⟨g, cap, cur, rfl, hb, hh, r⟩
  · exact .inl ⟨rfl, h0⟩
  · exact .inr ⟨g, cap, cur, rfl, hb, hk g cur rfl hh, r⟩
theorem ownC_kp {w w' : World} {B : Nat} {v : Value} {l : List (Int × Int)} (h : OwnC w B v l) (hk : Kp w w') : OwnC w' B v l := own_heap h fun g cur _ hh => hk _ _ _ _ hh ⟨.inl (by decide), by decide⟩
/-- four slices of cells in a box, each in a block of its own -/
structure QsB (B : Nat) (w : World) (qb : Nat) (vs : Nat → Value) (S : Nat → List (Int × Int)) : Prop where
  row : w.heap[qb]? = some (.cells #[vs 0, vs 1, vs 2, vs 3] 107 (0, 0))
  own : ∀ i, i < 4 → OwnC w B (vs i) (S i)
  apart : ∀ i j, i < 4 → j < 4 → i ≠ j → (vs j).ownBlock = none ∨ (vs j).ownBlock ≠ (vs i).ownBlock
section
variable {B : Nat} {w w' : World} {qb : Nat} {vs : Nat → Value} {S : Nat → List (Int × Int)}
theorem QsB.below (h : QsB B w qb vs S) (hb : Below w.heap.size w w') : QsB B w' qb vs S := ⟨(hb.block _ (lt_heap6 h.row)).trans h.row, fun i hi => Cel.Own.below (h.own i hi) hb, h.apart⟩
theorem QsB.kp (h : QsB B w qb vs S) (hk : Kp w w') : QsB B w' qb vs S := ⟨hk _ _ _ _ h.row ⟨.inl (by decide), by decide⟩, fun i hi => ownC_kp (h.own i hi) hk, h.apart⟩
theorem QsB.c (h : QsB B w qb vs S) {i : Nat} (hi : i < 4) : w.cell? ⟨qb, i, none⟩ = some (vs i) := by
  rcases (by omega : i = 0 ∨ i = 1 ∨ i = 2 ∨ i = 3) with rfl | rfl | rfl | rfl <;> (rw [Lib.cell_of_heap h.row]; rfl)
theorem QsB.f (h : QsB B w qb vs S) (i : Nat) : w.frozen? ⟨qb, i, none⟩ = false := Lib.frozen_of_heap h.row i
/-- a cell is put to one of them -/
theorem QsB.push {w1 : World} {v' : Value} {o : Obj} {c : Int × Int} (h : QsB B w qb vs S) {i : Nat} (hi : i < 4) (ho : OwnC w1 B v' (S i ++ [c])) (hg : (w.alloc o).grownBy w1 (vs i).ownBlock) (hw : v'.ownBlock = (vs i).ownBlock ∨ v'.ownBlock = some (w.heap.size + 1)) :
    w1.heap[qb]? = some (.cells #[vs 0, vs 1, vs 2, vs 3] 107 (0, 0)) ∧ QsB B (w1.setCell ⟨qb, i, none⟩ v') qb (fun j => if j = i then v' else vs j) (fun j => if j = i then S i ++ [c] else S j) := by
  have hqlt := lt_heap6 h.row
  have hsz : (w.alloc o).heap.size = w.heap.size + 1 := by simp
  have hqi : ∀ j, j < 4 → (vs j).ownBlock ≠ some qb := fun j hj e => by
    rcases (h.own j hj).2 with ⟨e1, h0⟩ | ⟨g, cap, cur, e1, hb, hh, r⟩
    · rw [e1] at e; cases e
    · rw [e1] at e
      have e' : some g = some qb := e
      injection e' with e'
      subst e'
      rw [h.row] at hh
      injection hh with hh
      injection hh with _ hh _
      exact absurd hh (by decide)
  have hrow1 : w1.heap[qb]? = some (.cells #[vs 0, vs 1, vs 2, vs 3] 107 (0, 0)) := by
    rw [hg.block qb (by omega) (fun e => hqi i hi e.symm), Lib.alloc_old _ _ _ hqlt]
    exact h.row
  have hvq : v'.ownBlock ≠ some qb := by
    rcases hw with e | e
    · rw [e]; exact hqi i hi
    · rw [e]; intro h1; injection h1 with h1; omega
  refine ⟨hrow1, ?_, fun j hj => ?_, fun j k hj hk hjk => ?_⟩
  · rcases (by omega : i = 0 ∨ i = 1 ∨ i = 2 ∨ i = 3) with rfl | rfl | rfl | rfl <;> simp [World.setCell, Array.getElem?_modify, hrow1]
  · by_cases hji : j = i
    · subst hji
      simp only [if_true]
      exact World.ownsRow.kept ho (but_set _ _) (.inr hvq)
    · simp only [if_neg hji]
      refine World.ownsRow.kept ?_ (but_set _ _) (.inr (hqi j hj))
      exact World.ownsRow.kept (World.ownsRow.alloc (h.own j hj) _) hg (h.apart i j hi hj (fun e => hji e.symm))
  · have hold : ∀ m, m < 4 → ∀ q, (vs m).ownBlock = some q → q < w.heap.size := fun m hm q e => (World.ownsRow.lt (h.own m hm) q e).2
    by_cases hki : k = i
    · subst hki
      simp only [if_true]
      rw [if_neg hjk]
      rcases hw with e | e
      · rw [e]; exact h.apart j k hj hk hjk
      · rw [e]
        exact .inr fun e2 => by have := hold j hj _ e2.symm; omega
    · simp only [if_neg hki]
      by_cases hji : j = i
      · subst hji
        simp only [if_true]
        rcases hw with e | e
        · rw [e]; exact h.apart j k hj hk hjk
        · rw [e]
          exact .inr fun e2 => by have := hold k hk _ e2; omega
      · rw [if_neg hji]
        exact h.apart j k hj hk hjk
end
end Go.Proofs.Ytgjibpgfcbdpgaa
namespace Go.Proofs.Ytgjibpgfcbdpgaa
set_option maxRecDepth 100000
set_option linter.unusedVariables false
set_option linter.unusedSimpArgs false

theorem emptyTo_right7 {l : List Nd} {room : Int} (h : Right6 l room) : ∀ j, Right6 (emptyTo l room j).1 room
  | 0 => h
  | j + 1 => by
    have ih := emptyTo_right7 h j
    unfold emptyTo
    split
    · exact put_right ih _
    · exact ih
theorem build_right {room : Int} : ∀ (k : Nat) (l : List Nd) (S : List (Int × Int)), Right6 l room → Right6 (buildC room k l S).1 room
  | 0, l, S, h => by
    unfold buildC
    split <;> exact h
  | k + 1, l, S, h => by
    unfold buildC
    split
    · exact emptyTo_right7 h _
    · exact four_right (fun i l' _ h' => build_right k l' _ h') h
theorem put_grows7 {l : List Nd} {R : Int} (h : Right6 l R) (k : Kd) : Grows l (put6 l R k).1 := (put_grows h k).1
/-! ### a cell is set -/
def setC (room : Int) : Nat → List Nd → Nat → Int × Int → Bool → List Nd × Int × Int
  | 0, l, _, _, a => (l, if a = true then 1 else 0, 0)
  | k + 1, l, n, c, a => if (setC room k l (kidN l n (q7 k c)) c a).2.2 = 0 then put6 (setC room k l (kidN l n (q7 k c)) c a).1 room (kset (l.getD n deadN).2.1 (q7 k c) (setC room k l (kidN l n (q7 k c)) c a).2.1) else ((setC room k l (kidN l n (q7 k c)) c a).1, 0, (setC room k l (kidN l n (q7 k c)) c a).2.2)
theorem kset_lev {l : List Nd} {room : Int} {k n : Nat} (hr : Right6 l room) (h : Is l (k + 1) n) {m : List Nd} (g : Grows l m) {i p : Nat} (hi : i < 4) (hp : Is m k p) (hk : k + 1 ≤ 42) : Fit4 m (kset (l.getD n deadN).2.1 i (p : Int)) := by
  have hall : ∀ j, j < 4 → ∃ q : Nat, kd (kset (l.getD n deadN).2.1 i (p : Int)) j = (q : Int) ∧ Is m k q := by
    intro j hj
    rw [kd_kset _ _ hi hj]
    by_cases hji : j = i
    · rw [if_pos hji]; exact ⟨p, rfl, hp⟩
    · rw [if_neg hji]; exact ⟨kidN l n j, kid_cast hr h hj, (kid_is hr h hj).grows g⟩
  obtain ⟨q0, e0, i0⟩ := hall 0 (by decide)
  have e0' : (kset (l.getD n deadN).2.1 i (p : Int)).1 = (q0 : Int) := e0
  have hl0 : (ndAt m (kset (l.getD n deadN).2.1 i (p : Int)).1).1 = (k : Int) := by rw [e0', ndAt_nat]; exact i0.lev
  refine ⟨fun j hj => ?_, by omega⟩
  obtain ⟨q, e, iq⟩ := hall j hj
  rw [e, hl0]
  exact ⟨by omega, by have := iq.lt; omega, by rw [ndAt_nat]; exact iq.lev⟩
/-- a node with a cell, or without it -/
theorem set_ok {room : Int} : ∀ (k : Nat) (l : List Nd) (n : Nat) (c : Int × Int) (a : Bool), k ≤ 42 → Right6 l room → Is l k n → ((l.length + k : Nat) : Int) ≤ room →
    ∃ m p : _, ∃ p' : Nat, p = (p' : Int) ∧ setC room k l n c a = (m, p, 0) ∧ Grows l m ∧ Right6 m room ∧ Is m k p' ∧ m.length ≤ l.length + k ∧ ∀ d, alive m k p' d = if agreeB k c d = true then a else alive l k n d
  | 0, l, n, c, a, hk, hr, hn, hroom => by
    cases a with
    | true => exact ⟨l, 1, 1, rfl, rfl, Grows.refl l, hr, ⟨by have := hr.two; omega, by rw [hr.live]; rfl⟩, by omega, fun d => rfl⟩
    | false => exact ⟨l, 0, 0, rfl, rfl, Grows.refl l, hr, ⟨by have := hr.two; omega, by rw [hr.dead]; rfl⟩, by omega, fun d => rfl⟩
  | k + 1, l, n, c, a, hk, hr, hn, hroom => by
    have hq := q7_lt k c
    obtain ⟨m, p, p', rfl, e, g, r, is, len, al⟩ := set_ok k l (kidN l n (q7 k c)) c a (by omega) hr (kid_is hr hn hq) (by omega)
    have hfit := kset_lev hr hn g hq is hk
    have e2 : setC room (k + 1) l n c a = put6 m room (kset (l.getD n deadN).2.1 (q7 k c) (p' : Int)) := by
      show (if (setC room k l (kidN l n (q7 k c)) c a).2.2 = 0 then _ else _) = _
      rw [e, if_pos rfl]
    rcases put_ok r hfit with ⟨m', n', e', hp⟩ | ⟨_, hf, _⟩
    · obtain ⟨_, p2, p3, p4, _⟩ := hp.node hfit
      have hlev : Is m' (k + 1) n' := by
        refine ⟨p2, ?_⟩
        have h0 := (hfit.kid 0 (by decide)).2.2
        rw [p4]
        have hall : (ndAt m (kset (l.getD n deadN).2.1 (q7 k c) (p' : Int)).1).1 = (k : Int) := by
          have := kd_kset (l.getD n deadN).2.1 (p' : Int) hq (j := 0) (by decide)
          have e0 : (kset (l.getD n deadN).2.1 (q7 k c) (p' : Int)).1 = if 0 = q7 k c then (p' : Int) else kd (l.getD n deadN).2.1 0 := this
          rw [e0]
          split
          · rw [ndAt_nat]; exact is.lev
          · rw [kid_cast hr hn (by decide), ndAt_nat]; exact ((kid_is hr hn (by decide)).grows g).lev
        rw [hall]
        omega
      refine ⟨m', (n' : Int), n', rfl, by rw [e2, e'], g.trans hp.grows, hp.right, hlev, by have := hp.more; omega, fun d => ?_⟩
      have hd := q7_lt k d
      have hkid : kidN m' n' (q7 k d) = if q7 k d = q7 k c then p' else kidN l n (q7 k d) := by
        unfold kidN
        rw [p3, kd_kset _ _ hq hd]
        by_cases h : q7 k d = q7 k c
        · rw [if_pos h, if_pos h, Int.toNat_natCast]
        · rw [if_neg h, if_neg h]
      show alive m' k (kidN m' n' (q7 k d)) d = _
      rw [hkid]
      by_cases h : q7 k d = q7 k c
      · rw [if_pos h, alive_grows r hp.grows d k p' is, al d]
        have e3 : agreeB (k + 1) c d = agreeB k c d := by
          rw [Bool.eq_iff_iff, agree_iff, agree_iff, agree_succ]
          exact ⟨fun h' => h'.2, fun h' => ⟨h.symm, h'⟩⟩
        rw [e3]
        split
        · rfl
        · show _ = alive l k (kidN l n (q7 k d)) d
          rw [h]
      · rw [if_neg h, alive_grows hr (g.trans hp.grows) d k _ (kid_is hr hn hd)]
        have e3 : agreeB (k + 1) c d = false := by
          rw [← Bool.not_eq_true, agree_iff, agree_succ]
          exact fun h' => h h'.1.symm
        rw [e3]
        rfl
    · omega

/-! ### a node grown -/
/-- the quarters of a grown node's quarter -/
def growK (x : Kd) (d : Int) (i : Nat) : Kd := kset (d, d, d, d) (3 - i) (kd x i)
def growC (room : Int) (l : List Nd) (n : Nat) (e : Nat) : List Nd × Int × Int :=
  if (emptyTo l room e).2.2 = 0 then four room (fun i l' => put6 l' room (growK (l.getD n deadN).2.1 (emptyTo l room e).2.1 i)) (emptyTo l room e).1 else ((emptyTo l room e).1, 0, (emptyTo l room e).2.2)
end Go.Proofs.Ytgjibpgfcbdpgaa
namespace Go.Proofs.Ytgjibpgfcbdpgaa.Qt
open Go Go.Sort Go.RowKit

inductive Scc where
  | done : Scc
  | calm : Nat → Scc → Scc
  | only : Nat → Scc → Scc
  | two : Nat → Nat → Scc → Scc → Scc
  | three : Nat → Nat → Nat → Scc → Scc → Scc → Scc
def Scc.len : Scc → Nat
  | .done => 0
  | .calm _ s => s.len + 1
  | .only _ s => s.len + 1
  | .two _ _ s _ => s.len + 1
  | .three _ _ _ s _ _ => s.len + 1

section
variable {P : Program} {ops : Array Oper} {md : Region.Mode} {C : World → Prop}

/-- In every world of the class it leaves the world as it is, and yields v. -/
def CalmV (P : Program) (ops : Array Oper) (C : World → Prop) (o : Oper) (v : Value) (a : Act) : Prop :=
  Region.wanted o (yielded ops a.tmps) = true ∧ ∀ W, C W → Oper.quietUpon P (fun w' => w' = W) W v ((execOp a.eval o).run P W)

theorem CalmV.op {i : Nat} {oi : Oper} {v : Value} {a : Act} (hi : ops[i]? = some oi) (hp : CalmV P ops C oi v a) {K : Act → World → Prop} {Q : Exit → Act → World → Prop} {w : World} (hw : C w) (h : K (a.put oi.dst v) w) : wpOp P ops Q i K a w := by
  unfold wpOp
  simp only [hi, hp.1, if_true]
  left
  refine Oper.wp_of_quiet (C := fun w' => w' = w) (K := fun a' => a' = a.put oi.dst v) rfl (fun a' w' hw' ha' => ?_) ⟨v, fun W hW => ?_, rfl⟩
  · subst hw' ha'
    exact h
  · subst hW
    exact hp.2 W hw

theorem wpOp_keep {j : Nat} {oi oj : Oper} {v : Value} (R : Act → Prop) (hj : ops[j]? = some oj) (hap : oi.apart ops oj = true) (hsi : ∀ cs b, oi.op ≠ .select cs b) (hsj : ∀ cs b, oj.op ≠ .select cs b) {K : Act → World → Prop} {Kf : Act → World → Prop} {a : Act} {w : World}
    (keep : ∀ (a : Act) u, R a → R (a.put oj.dst u)) (hd : ∀ (a : Act) ds, R a → R { a with defers := ds })
    (hp : R a) (h : wpOp P ops (Qn Kf) j K (a.put oi.dst v) w) : wpOp P ops (Qn Kf) j (fun a' w' => R a' ∧ K (a'.put oi.dst v) w') a w := by
  obtain ⟨h1, h2, h3⟩ := Oper.apart_spec hap
  unfold wpOp at *
  simp only [hj] at *
  rw [wanted_put oj a oi.dst v h1] at h
  split
  · rename_i hw
    simp only [hw, if_true] at h
    rcases h with h | h
    · left
      unfold Oper.wp at *
      rw [execOp_put oj hsj a oi.dst v h1] at h
      exact upon_put (R := R) (fun a u => Act.put_comm a v u h2) keep hd hp _ h
    · exact (no_letsOut h.2).elim
  · rename_i hw
    simp only [hw] at h
    exact ⟨keep _ _ hp, by rw [← Act.put_comm a v undef h2]; exact h⟩

/-- whatever order is picked; each world is one of the class -/
def wpAnyC (P : Program) (md : Region.Mode) (ops : Array Oper) (C : World → Prop) (Kf : Act → World → Prop) : Nat → Array Bool → Act → World → Prop
  | 0, listed, a, w => Region.ready md ops listed = [] ∧ Kf a w
  | f + 1, listed, a, w => Region.ready md ops listed ≠ [] ∧ ∀ i ∈ Region.ready md ops listed, wpOp P ops (Qn fun _ _ => False) i (fun a' w' => C w' ∧ wpAnyC P md ops C Kf f (listed.setIfInBounds i true) a' w') a w

theorem any_of_C {Kf : Act → World → Prop} (f : Nat) : ∀ listed a w, wpAnyC P md ops C Kf f listed a w → wpAny P md ops (Qn Kf) f listed a w := by
  induction f with
  | zero => intro listed a w h; exact ⟨h.1, rfl, h.2⟩
  | succ f ih => intro listed a w h; exact ⟨fun h0 => absurd h0 h.1, fun i hi => wpOp_qn (fun a' w' h' => ih _ a' w' h'.2) (h.2 i hi)⟩

theorem calm_first {Kf : Act → World → Prop} {i : Nat} {oi : Oper} {v : Value} (hi : ops[i]? = some oi) (hsel : ∀ (j : Nat) (o : Oper) cs b, ops[j]? = some o → o.op ≠ .select cs b) (f : Nat) :
    ∀ (listed : Array Bool) (a : Act) (w : World), C w →
      (∀ j oj, ops[j]? = some oj → j ≠ i → listed.getD j true = false → (∀ e ∈ oj.after, Region.binds md e = true → e.on ≠ i) → oi.apart ops oj = true) →
      i ∈ Region.ready md ops listed → CalmV P ops C oi v a →
      wpAnyC P md ops C Kf f (listed.setIfInBounds i true) (a.put oi.dst v) w → wpAnyC P md ops C Kf (f + 1) listed a w := by
  induction f with
  | zero =>
    intro listed a w hC _ hr hp H
    refine ⟨fun h => (by rw [h] at hr; cases hr), fun j hj => ?_⟩
    by_cases hji : j = i
    · subst hji; exact hp.op hi hC ⟨hC, H⟩
    · have := ready_mono hj hji
      rw [H.1] at this
      cases this
  | succ f ih =>
    intro listed a w hC hfree hr hp H
    refine ⟨fun h => (by rw [h] at hr; cases hr), fun j hj => ?_⟩
    by_cases hji : j = i
    · subst hji; exact hp.op hi hC ⟨hC, H⟩
    · obtain ⟨hjun, oj, hoj, hall⟩ := mem_ready.1 hj
      have hun := (mem_ready.1 hr).1
      have hnot : ∀ e ∈ oj.after, Region.binds md e = true → e.on ≠ i := fun e he hb heq => by
        have h1 := hall e he hb
        rw [heq, getD_both hun] at h1
        cases h1
      have hap := hfree j oj hoj hji hjun hnot
      obtain ⟨h1, h2, h3⟩ := Oper.apart_spec hap
      have keep : ∀ (a : Act) u, CalmV P ops C oi v a → CalmV P ops C oi v (a.put oj.dst u) := fun a u hp => by
        unfold CalmV at *
        rw [execOp_put oi (fun cs b => hsel i oi cs b hi) a oj.dst u h3, wanted_put oi a oj.dst u h3]
        exact hp
      refine wpOp_mono (fun a' w' h3 => ⟨h3.2.1, ih (listed.setIfInBounds j true) a' w' h3.2.1 (fun k ok hk hki hku hno => hfree k ok hk hki ?_ hno) (ready_mono hr (Ne.symm hji)) h3.1 ?_⟩)
        (wpOp_keep (CalmV P ops C oi v) hoj hap (fun cs b => hsel i oi cs b hi) (fun cs b => hsel j oj cs b hoj) keep (fun _ _ h => h) hp (H.2 j (ready_mono hj hji)))
      · by_cases hjk : j = k
        · subst hjk; exact hjun
        · rwa [getD_set_ne true hjk] at hku
      · rw [Array.setIfInBounds_comm _ _ hji]; exact h3.2.2

def treeCB (md : Region.Mode) (ops : Array Oper) : Scc → Array Bool → Bool
  | .done, listed => (Region.ready md ops listed).isEmpty
  | .calm k s, listed => (Region.ready md ops listed).contains k && Region.free md ops listed k && treeCB md ops s (listed.setIfInBounds k true)
  | .only k s, listed => decide (Region.ready md ops listed = [k]) && treeCB md ops s (listed.setIfInBounds k true)
  | .two j k s t, listed => decide (Region.ready md ops listed = [j, k]) && decide (s.len = t.len) && treeCB md ops s (listed.setIfInBounds j true) && treeCB md ops t (listed.setIfInBounds k true)
  | .three i j k r s t, listed => decide (Region.ready md ops listed = [i, j, k]) && decide (r.len = s.len) && decide (r.len = t.len) && treeCB md ops r (listed.setIfInBounds i true) && treeCB md ops s (listed.setIfInBounds j true) && treeCB md ops t (listed.setIfInBounds k true)
def treeCW (P : Program) (ops : Array Oper) (C : World → Prop) (Kf : Act → World → Prop) : Scc → Act → World → Prop
  | .done, a, w => Kf a w
  | .calm k s, a, w => ∃ (o : Oper) (d : Option Tmp) (v : Value), ops[k]? = some o ∧ o.dst = d ∧ CalmV P ops C o v a ∧ treeCW P ops C Kf s (a.put d v) w
  | .only k s, a, w => ∃ o : Oper, ops[k]? = some o ∧ wpList P ops (Qn fun a w => C w ∧ treeCW P ops C Kf s a w) [o] a w
  | .two j k s t, a, w => (∃ o : Oper, ops[j]? = some o ∧ wpList P ops (Qn fun a w => C w ∧ treeCW P ops C Kf s a w) [o] a w) ∧ ∃ o : Oper, ops[k]? = some o ∧ wpList P ops (Qn fun a w => C w ∧ treeCW P ops C Kf t a w) [o] a w
  | .three i j k r s t, a, w => (∃ o : Oper, ops[i]? = some o ∧ wpList P ops (Qn fun a w => C w ∧ treeCW P ops C Kf r a w) [o] a w) ∧ (∃ o : Oper, ops[j]? = some o ∧ wpList P ops (Qn fun a w => C w ∧ treeCW P ops C Kf s a w) [o] a w) ∧ ∃ o : Oper, ops[k]? = some o ∧ wpList P ops (Qn fun a w => C w ∧ treeCW P ops C Kf t a w) [o] a w

theorem op_of_list {Kf : Act → World → Prop} {k : Nat} {o : Oper} {s : Scc} {listed : Array Bool} {a : Act} {w : World} {n : Nat} (ho : ops[k]? = some o) (h : wpList P ops (Qn fun a w => C w ∧ treeCW P ops C Kf s a w) [o] a w)
    (ih : ∀ a' w', C w' → treeCW P ops C Kf s a' w' → wpAnyC P md ops C Kf n (listed.setIfInBounds k true) a' w') :
    wpOp P ops (Qn fun _ _ => False) k (fun a' w' => C w' ∧ wpAnyC P md ops C Kf n (listed.setIfInBounds k true) a' w') a w := by
  have hw : wpOp P ops (Qn fun a w => C w ∧ treeCW P ops C Kf s a w) k (wpList P ops (Qn fun a w => C w ∧ treeCW P ops C Kf s a w) []) a w := by unfold wpOp; simp only [ho]; exact h
  exact wpOp_qn (fun a' w' h' => ⟨h'.2.1, ih a' w' h'.2.1 h'.2.2⟩) hw

theorem any_treeC {Kf : Act → World → Prop} (hsel : Region.noSelect ops = true) (s : Scc) :
    ∀ (listed : Array Bool) (a : Act) (w : World), C w → treeCB md ops s listed = true → treeCW P ops C Kf s a w → wpAnyC P md ops C Kf s.len listed a w := by
  induction s with
  | done =>
    intro listed a w _ hB h
    exact ⟨by simpa [treeCB] using hB, h⟩
  | calm k s ih =>
    intro listed a w hC hB h
    obtain ⟨o, d, v, ho, hd, hp, hrest⟩ := h
    subst hd
    simp only [treeCB, Bool.and_eq_true] at hB
    exact calm_first ho (Region.noSelect_spec hsel) _ listed a w hC (Region.free_spec ho hB.1.2) (by simpa using hB.1.1) hp (ih _ _ _ hC hB.2 hrest)
  | only k s ih =>
    intro listed a w hC hB h
    obtain ⟨o, ho, h⟩ := h
    simp only [treeCB, Bool.and_eq_true, decide_eq_true_eq] at hB
    refine ⟨fun h1 => (by rw [hB.1] at h1; cases h1), fun i hi => ?_⟩
    rw [hB.1] at hi
    obtain rfl : i = k := by simpa using hi
    exact op_of_list ho h (fun a' w' hc ht => ih _ a' w' hc hB.2 ht)
  | two j k s t ihs iht =>
    intro listed a w hC hB h
    obtain ⟨⟨o, ho, h1⟩, ⟨o', ho', h2⟩⟩ := h
    simp only [treeCB, Bool.and_eq_true, decide_eq_true_eq] at hB
    obtain ⟨⟨⟨hr, hl⟩, hs⟩, ht⟩ := hB
    refine ⟨fun h1 => (by rw [hr] at h1; cases h1), fun i hi => ?_⟩
    rw [hr] at hi
    simp only [List.mem_cons, List.not_mem_nil, or_false] at hi
    rcases hi with rfl | rfl
    · exact op_of_list ho h1 (fun a' w' hc h' => ihs _ a' w' hc hs h')
    · exact op_of_list ho' h2 (fun a' w' hc h' => by have := iht _ a' w' hc ht h'; rwa [← hl] at this)
  | three p j k r s t ihr ihs iht =>
    intro listed a w hC hB h
    obtain ⟨⟨o0, ho0, h0⟩, ⟨o, ho, h1⟩, ⟨o', ho', h2⟩⟩ := h
    simp only [treeCB, Bool.and_eq_true, decide_eq_true_eq] at hB
    obtain ⟨⟨⟨⟨⟨hr, hl⟩, hl2⟩, h3⟩, hs⟩, ht⟩ := hB
    refine ⟨fun h1 => (by rw [hr] at h1; cases h1), fun i hi => ?_⟩
    rw [hr] at hi
    simp only [List.mem_cons, List.not_mem_nil, or_false] at hi
    rcases hi with rfl | rfl | rfl
    · exact op_of_list ho0 h0 (fun a' w' hc h' => ihr _ a' w' hc h3 h')
    · exact op_of_list ho h1 (fun a' w' hc h' => by have := ihs _ a' w' hc hs h'; rwa [← hl] at this)
    · exact op_of_list ho' h2 (fun a' w' hc h' => by have := iht _ a' w' hc ht h'; rwa [← hl2] at this)

/-- A region that draws its order, by a script with calm operations, to what is known at its end. -/
theorem region_calm {id : Nat} {Q : Exit → Act → World → Prop} {a : Act} {w : World} {l : List Oper} (C : World → Prop) (R : Act → World → Prop) (s : Scc) (hm : P.follows .mixedOrders = true) (hsel : Region.noSelect l.toArray = true)
    (hB : treeCB .any l.toArray s (Array.replicate l.toArray.size false) = true) (hlen : s.len = l.length) (hC : C w.drew)
    (h : treeCW P l.toArray C R s a w.drew) (hQ : ∀ a' w', R a' w' → Q .normal a' w') : (Code.region id l.toArray true).wp P Q a w := by
  refine wp_region_any hm ?_
  have := any_of_C _ _ _ _ (any_treeC (P := P) (md := .any) (Kf := R) hsel s _ a w.drew hC hB h)
  rw [hlen] at this
  have e := any_qn hQ _ _ _ _ this
  simpa using e
end
end Go.Proofs.Ytgjibpgfcbdpgaa.Qt
namespace Go.Proofs.Ytgjibpgfcbdpgaa
set_option linter.unusedVariables false
open Go.RowKit Go.Sort

theorem below_drew (w : World) : Below w.heap.size w w.drew := ⟨rfl, rfl, rfl, Nat.le_refl _, fun k _ => rfl⟩
/-- A region that draws its order, by a script with calm operations, to what is known at its end. -/
theorem region_calm_to {P : Program} {id : Nat} {Q : Exit → Act → World → Prop} {a : Act} {w : World} {l : List Oper} (C : World → Prop) (R : Act → Act → World → Prop) (s : Qt.Scc) (hm : P.follows .mixedOrders = true) (hsel : Region.noSelect l.toArray = true)
    (hB : Qt.treeCB .any l.toArray s (Array.replicate l.toArray.size false) = true) (hlen : s.len = l.length) (hC : C w.drew)
    (h : Qt.treeCW P l.toArray C (R a) s a w.drew) (hQ : ∀ a' w', R a a' w' → Q .normal a' w') : (Code.region id l.toArray true).wp P Q a w :=
  Qt.region_calm C (R a) s hm hsel hB hlen hC h hQ
end Go.Proofs.Ytgjibpgfcbdpgaa
namespace Go.Proofs.Ytgjibpgfcbdpgaa
set_option maxRecDepth 100000
set_option linter.unusedVariables false
set_option linter.unusedSimpArgs false
open Go.RowKit Go.Sort

/-- an int in a box -/
def LR (w : World) (b : Nat) (x : Int) : Prop := w.heap[b]? = some (.cells #[.int .i64 x] 3 (0, 0))
theorem LR.kp {w w' : World} {b : Nat} {x : Int} (h : LR w b x) (hk : Kp w w') : LR w' b x := hk _ _ _ _ h ⟨.inl (by decide), by decide⟩
theorem LR.c {w : World} {b : Nat} {x : Int} (h : LR w b x) : w.cell? ⟨b, 0, none⟩ = some (.int .i64 x) := by rw [Lib.cell_of_heap h]; rfl
theorem LR.below {w w' : World} {b : Nat} {x : Int} (h : LR w b x) (hb : Below w.heap.size w w') : LR w' b x := (hb.block _ (lt_heap6 h)).trans h
theorem MR.below {w w' : World} {b g : Nat} (h : MR w b g) (hb : Below w.heap.size w w') : MR w' b g := (hb.block _ (lt_heap6 h)).trans h
/-- What is known in the loop over cells. -/
structure DrAt (w wr : World) (g : Nat) (k : Nat) (S : List (Int × Int)) (j : Nat) (vs : Nat → Value) : Prop where
  mkr : MR wr w.heap.size g
  lev : LR wr (w.heap.size + 1) ((k : Int) + 1)
  qs : QsB (w.heap.size + 3) wr (w.heap.size + 1 + 1) vs (fun i => (S.take j).filter fun c => decide (q7 k c = i))
  bel : Below w.heap.size w wr
  size : w.heap.size + 3 ≤ wr.heap.size
theorem DrAt.below {w wr w' : World} {g k j : Nat} {S : List (Int × Int)} {vs : Nat → Value} (h : DrAt w wr g k S j vs) (hb : Below wr.heap.size wr w') : DrAt w w' g k S j vs :=
  ⟨h.mkr.below hb, h.lev.below hb, h.qs.below hb, Qt.more h.bel h.bel.size hb, Nat.le_trans h.size hb.size⟩
theorem filter_next {k : Nat} {S : List (Int × Int)} {j : Nat} (hj : j < S.length) (i : Nat) : (S.take (j + 1)).filter (fun c => decide (q7 k c = i)) = if i = q7 k (S.getD j (0, 0)) then (S.take j).filter (fun c => decide (q7 k c = i)) ++ [S.getD j (0, 0)] else (S.take j).filter fun c => decide (q7 k c = i) := by
  rw [List.take_succ_eq_append_getElem hj, List.filter_append, List.getD_eq_getElem?_getD, List.getElem?_eq_getElem hj]
  simp only [Option.getD_some, List.filter_cons, List.filter_nil]
  by_cases h : i = q7 k S[j]
  · rw [if_pos h, if_pos (by rw [decide_eq_true_eq]; exact h.symm)]
  · rw [if_neg h, if_neg (by rw [decide_eq_true_eq]; exact fun e => h e.symm), List.append_nil]
theorem DrAt.pushed {w w6 w4 : World} {g k j : Nat} {S : List (Int × Int)} {vs : Nat → Value} {v' : Value} {o : Obj} (h : DrAt w w6 g k S j vs) (hj : j < S.length) {q : Nat} (hq : q = q7 k (S.getD j (0, 0))) {c : Int × Int} (hc : c = S.getD j (0, 0))
    (ho : OwnC w4 (w.heap.size + 3) v' ((S.take j).filter (fun c => decide (q7 k c = q)) ++ [c])) (hg : (w6.alloc o).grownBy w4 (vs q).ownBlock) (hw : v'.ownBlock = (vs q).ownBlock ∨ v'.ownBlock = some (w6.heap.size + 1)) :
    w4.heap[w.heap.size + 1 + 1]? = some (.cells #[vs 0, vs 1, vs 2, vs 3] 107 (0, 0)) ∧ DrAt w (w4.setCell ⟨w.heap.size + 1 + 1, q, none⟩ v') g k S (j + 1) (fun i => if i = q then v' else vs i) := by
  have hq4 : q < 4 := by rw [hq]; exact q7_lt k _
  obtain ⟨h1, h2⟩ := h.qs.push hq4 ho hg hw
  have hS : (fun i => (S.take (j + 1)).filter fun c => decide (q7 k c = i)) = fun i => if i = q then (S.take j).filter (fun c => decide (q7 k c = q)) ++ [c] else (S.take j).filter fun c => decide (q7 k c = i) := by
    funext i
    rw [filter_next hj i, ← hq, hc]
    by_cases hi : i = q
    · rw [if_pos hi, if_pos hi, hi]
    · rw [if_neg hi, if_neg hi]
  have hlow : ∀ {i T : Nat} {cs : Array Value}, i < w.heap.size + 1 + 1 → w6.heap[i]? = some (.cells cs T (0, 0)) → (w4.setCell ⟨w.heap.size + 1 + 1, q, none⟩ v').heap[i]? = some (.cells cs T (0, 0)) := by
    intro i T cs hi he
    have hlt := lt_heap6 he
    rw [Below.heap_setCell _ _ _ _ (by show i ≠ w.heap.size + 1 + 1; omega), hg.block i (by simp; omega) (fun e => by have := (World.ownsRow.lt (h.qs.own q hq4) i e.symm).1; omega), Lib.alloc_old _ _ _ hlt]
    exact he
  have hsz := h.size
  have hgs := hg.size
  simp at hgs
  refine ⟨h1, ⟨hlow (by omega) h.mkr, hlow (by omega) h.lev, by rw [hS]; exact h2, ?_, ?_⟩⟩
  · refine ((h.bel.alloc h.bel.size o).grown hg (by simp; omega) (fun r e => ?_)).setCell (by show w.heap.size ≤ w.heap.size + 1 + 1; omega) _
    have := (World.ownsRow.lt (h.qs.own q hq4) r e).1
    omega
  · simp [World.setCell]
    omega

end Go.Proofs.Ytgjibpgfcbdpgaa
