/-
  The document's own functions of layer 1, as the laws use them: Put.
-/
import Derived.Test.YtafoleafhkadiaaCb
namespace Go.Proofs.Ytafoleafhkadiaa
open Go.RowKit Go.Sort

/-- the cells' own cells -/
def fl (l : List (Int × Int)) : List Value := l.flatMap fun c => [.int .i64 c.1, .int .i64 c.2]
theorem fl_append (l m : List (Int × Int)) : fl (l ++ m) = fl l ++ fl m := by simp [fl]
theorem length_fl (l : List (Int × Int)) : (fl l).length = l.length * 2 := by
  induction l with
  | nil => rfl
  | cons x l ih => simp only [fl, List.flatMap_cons, List.length_append, List.length_cons, List.length_nil] at ih ⊢; omega
theorem fl_get (l : List (Int × Int)) (j : Nat) (h : j < l.length) : (fl l)[j * 2]? = some (.int .i64 (l.getD j (0, 0)).1) ∧ (fl l)[j * 2 + 1]? = some (.int .i64 (l.getD j (0, 0)).2) := by
  induction l generalizing j with
  | nil => exact absurd h (Nat.not_lt_zero j)
  | cons x l ih =>
    cases j with
    | zero => simp [fl]
    | succ j =>
      have := ih j (by simpa using h)
      have e1 : (j + 1) * 2 = j * 2 + 1 + 1 := by omega
      have e2 : fl (x :: l) = .int .i64 x.1 :: .int .i64 x.2 :: fl l := rfl
      rw [e1, e2]
      simpa using this

/-- A slice of the call's own that holds l: as the laws on append say it. -/
def Own (w : World) (B T : Nat) (v : Value) (l : List (Int × Int)) : Prop := w.ownsRow B T 2 v l.length (fl l)

theorem Own.rd {w : World} {B T : Nat} {v : Value} {l : List (Int × Int)} (h : Own w B T v l) : ∃ A c, v = .slice A l.length c ∧ l.length ≤ c ∧ Rd w w.heap.size A l := by
  rcases h.2 with ⟨hv, hn⟩ | ⟨g, cap, cur, hv, hB, hg, hn, hm, hs, ht⟩
  · have : l = [] := List.eq_nil_of_length_eq_zero hn
    subst this
    exact ⟨none, 0, hv, Nat.le_refl _, Rd.nil _ _ _⟩
  · refine ⟨some ⟨g, 0, none⟩, cap, hv, hn, fun j hj => ?_⟩
    subst hv
    have hlt : g < w.heap.size := by
      rcases Nat.lt_or_ge g w.heap.size with h | h
      · exact h
      · rw [Array.getElem?_eq_none h] at hg; cases hg
    have hf := fl_get l j hj
    refine ⟨g, 0, rfl, hlt, ?_, ?_⟩
    · rw [Nat.zero_add]; exact (World.ownsRow.cellAt h (j * 2) (by omega)).trans hf.1
    · rw [Nat.zero_add]; exact (World.ownsRow.cellAt h (j * 2 + 1) (by omega)).trans hf.2

theorem Own.below {w w' : World} {B T : Nat} {v : Value} {l : List (Int × Int)} (h : Own w B T v l) (hb : Below w.heap.size w w') : Own w' B T v l := by
  refine ⟨h.1, ?_⟩
  rcases h.2 with h | ⟨g, cap, cur, hv, hB, hg, hn, hm, hs, ht⟩
  · exact .inl h
  · refine .inr ⟨g, cap, cur, hv, hB, ?_, hn, hm, hs, ht⟩
    rw [hb.block g ?_]
    · exact hg
    · rcases Nat.lt_or_ge g w.heap.size with h | h
      · exact h
      · rw [Array.getElem?_eq_none h] at hg; cases hg

theorem Own.mono {w : World} {B B' T : Nat} {v : Value} {l : List (Int × Int)} (h : Own w B T v l) (hB : B' ≤ B) : Own w B' T v l := by
  refine ⟨h.1, ?_⟩
  rcases h.2 with h | ⟨g, cap, cur, hv, hg, r⟩
  · exact .inl h
  · exact .inr ⟨g, cap, cur, hv, Nat.le_trans hB hg, r⟩

theorem own_push {w : World} {B T : Nat} {v : Value} {out : List (Int × Int)} {x y : Int} (h : w.ownsRow B T 2 v (out.length + 1) (fl out ++ [.int .i64 x, .int .i64 y])) : Own w B T v (out ++ [(x, y)]) := by
  unfold Own
  rw [fl_append, List.length_append]
  exact h

/-- A cell of a block that is not the row's. -/
theorem grown_cell {w w' : World} {row : Option Nat} {a : Addr} {v : Value} (hg : w.grownBy w' row) (h : w.cell? a = some v) (hne : some a.block ≠ row) : w'.cell? a = some v :=
  (World.cell?_of_block (w := w) (hg.block a.block (block_lt_of_cell h) hne)).trans h

theorem one_new {w : World} {T : Nat} {x y : Int} : ∀ j u, ([.int .i64 x, .int .i64 y] : List Value)[j]? = some u → (w.alloc (.cells #[.int .i64 x, .int .i64 y] T)).cell? ((⟨w.heap.size, 0, none⟩ : Addr).add j) = some u := by
  intro j u hj
  match j, hj with
  | 0, hj => simp at hj; subst hj; simp [Addr.add]
  | 1, hj => simp at hj; subst hj; simp [Addr.add]
theorem one_cell {x y : Int} : ∀ u ∈ ([.int .i64 x, .int .i64 y] : List Value), u.oneCell' = true := by
  intro u hu
  simp at hu
  rcases hu with rfl | rfl <;> rfl

/-- What an append of one cell leaves: the row, a box beside it, what is below. -/
theorem pushed {w0 w2 w3 : World} {T : Nat} {v v' : Value} {out : List (Int × Int)} {x y cx cy : Int} (hb : Below w0.heap.size w0 w2) (hsz : w0.heap.size < w2.heap.size) (hcx : w2.cell? ⟨w0.heap.size, 0, none⟩ = some (.int .i64 cx)) (hcy : w2.cell? ⟨w0.heap.size, 1, none⟩ = some (.int .i64 cy))
    (hown : Own w2 (w0.heap.size + 1) T v out) {o : Obj} (h3 : w3.ownsRow (w0.heap.size + 1) T 2 v' (out.length + 1) (fl out ++ [.int .i64 x, .int .i64 y])) (hg : (w2.alloc o).grownBy w3 v.ownBlock) :
    Own w3 (w0.heap.size + 1) T v' (out ++ [(x, y)]) ∧ w3.cell? ⟨w0.heap.size, 0, none⟩ = some (.int .i64 cx) ∧ w3.cell? ⟨w0.heap.size, 1, none⟩ = some (.int .i64 cy) ∧ Below w0.heap.size w0 w3 ∧ w0.heap.size < w3.heap.size := by
  have hne : some w0.heap.size ≠ v.ownBlock := fun e => by
    have := (World.ownsRow.lt hown _ e.symm).1; omega
  have hal : ∀ a u, w2.cell? a = some u → (w2.alloc o).cell? a = some u := fun a u h => (World.cell?_alloc_lt _ _ _ (block_lt_of_cell h)).trans h
  refine ⟨own_push h3, grown_cell hg (hal _ _ hcx) hne, grown_cell hg (hal _ _ hcy) hne, ((hb.alloc (Nat.le_of_lt hsz) _).grown hg (by simp; omega) (fun k e => ?_)), ?_⟩
  · have := (World.ownsRow.lt hown k e).1; omega
  · have h1 := hg.size; simp at h1; omega

theorem infoCell : (Try.prog.info? 25).map (fun i => (i.zero, i.size, i.bytes)) = some (some (.agg #[.int .i64 0, .int .i64 0]), 2, 16) := by kernel_rfl
theorem infoPlace : (Try.prog.info? 62).map (fun i => (i.zero, i.size, i.bytes)) = some (some (.agg #[.int .i64 0, .int .i64 0]), 2, 16) := by kernel_rfl

theorem less_yes (p q : Int × Int) (h : lessB p q = true) (w : World) : Calls Try.prog 46 #[.agg #[.int .i64 p.1, .int .i64 p.2], .agg #[.int .i64 q.1, .int .i64 q.2]] w fun e w' => e = .returned (.bool true) ∧ Below w.heap.size w w' := by
  have := less_any p q w; rw [h] at this; exact this
theorem less_no (p q : Int × Int) (h : lessB p q = false) (w : World) : Calls Try.prog 46 #[.agg #[.int .i64 p.1, .int .i64 p.2], .agg #[.int .i64 q.1, .int .i64 q.2]] w fun e w' => e = .returned (.bool false) ∧ Below w.heap.size w w' := by
  have := less_any p q w; rw [h] at this; exact this

/-- what Put has gathered, and what is still to come, make the whole -/
def putAt (c : Int × Int) (done : Bool) (out rest : List (Int × Int)) : List (Int × Int) := out ++ (if done then outL c rest else putL c rest)

set_option maxHeartbeats 1000000 in
set_option maxRecDepth 100000 in
theorem put_any (A : Option Addr) (l : List (Int × Int)) (cp : Nat) (c : Int × Int) (w : World) (hR : Rd w w.heap.size A l) (hl : l.length ≤ 1000000) (hc : l.length ≤ cp) :
    Calls Try.prog 37 #[.slice A l.length cp, .agg #[.int .i64 c.1, .int .i64 c.2]] w fun e w' => ∃ v, e = .returned v ∧ Own w' w.heap.size 25 v (putL c l) ∧ Below w.heap.size w w' := by
  obtain ⟨cx, cy⟩ := c
  obtain ⟨i0, hi, hz0, hz1, hz2⟩ := info_parts infoCell
  go_enter Try.func37, Try.ntmps37
  go_wp2
  go_loopw [5, 6, 7] (fun v d i wr => ∃ (k : Nat) (done : Bool) (out : List (Int × Int)), k ≤ l.length ∧ i = .int .i64 k ∧ d = .bool done ∧ Hid (putAt (cx, cy) done out (l.drop k) = putL (cx, cy) l) ∧ out.length ≤ k + 1 ∧ Hid (done = false → out.length ≤ k) ∧ Own wr (w.heap.size + 1) 25 v out ∧
      wr.cell? ⟨w.heap.size, 0, none⟩ = some (.int .i64 cx) ∧ wr.cell? ⟨w.heap.size, 1, none⟩ = some (.int .i64 cy) ∧ Below w.heap.size w wr ∧ w.heap.size < wr.heap.size) (fun _ _ i _ => l.length - (intOf i).toNat)
  case atStart => exact ⟨0, false, [], Nat.zero_le _, rfl, rfl, rfl, by simp, fun _ => by simp, World.ownsRow_nil _ _ _ _, by simp, by simp, (Below.refl _ _).alloc (Nat.le_refl _) _, by simp⟩
  case round =>
    obtain ⟨k, done, out, hk, rfl, rfl, HP, hol, HO2, hown, hcx, hcy, hb, hsz⟩ := hrel
    by_cases hlt : k < l.length
    · have hltz : (k : Int) < (l.length : Int) := by omega
      obtain ⟨b, off, rfl, hbB, hcell⟩ := hR.at_ (by omega)
      obtain ⟨⟨x, y⟩, hxy⟩ : ∃ p, p = l.getD k (0, 0) := ⟨_, rfl⟩
      have a0 := (hcell k hlt).1
      have a1 := (hcell k hlt).2
      rw [← hxy] at a0 a1
      simp only at a0 a1
      have c0 := Qt.keep hb a0
      have c1 := Qt.keep hb a1
      have HXY := Lib.hid hxy
      have HD := Lib.hid (drop_cons hlt)
      clear hxy hcell
      have k0 := Qt.cell_in hcx
      have k1 := Qt.cell_in hcy
      have k2 := Qt.cell_in c0
      have k3 := Qt.cell_in c1
      have hcase : (x = cx ∧ y = cy) ∨ (x = cx ∧ ¬ y = cy) ∨ ¬ x = cx := by
        by_cases h1 : x = cx <;> by_cases h2 : y = cy <;> simp [h1, h2]
      cases done with
      | true =>
        go_wp2
        refine Qt.below_all (by kernel_rfl) (by kernel_rfl) ?_
        repeat (go_big_quiet_step (fail))
        refine wpQuiet_nil ?_
        intro w1 hb1
        have d0 := Qt.cell_in (Qt.keep hb1 hcx)
        have d1 := Qt.cell_in (Qt.keep hb1 hcy)
        have d2 := Qt.cell_in (Qt.keep hb1 c0)
        have d3 := Qt.cell_in (Qt.keep hb1 c1)
        clear k0 k1 k2 k3
        rcases hcase with ⟨rfl, rfl⟩ | ⟨rfl, hy⟩ | hx
        · go_wp2
          refine Qt.below_all (by kernel_rfl) (by kernel_rfl) ?_
          repeat (go_big_quiet_step (fail))
          refine wpQuiet_nil ?_
          intro w2 hb2
          have HB : Below wr.heap.size wr w2 := Qt.more hb1 hb1.size hb2
          clear d0 d1 d2 d3
          go_wp2
          go_roundw
          case measure => simp [intOf]; omega
          case rel =>
            refine ⟨k + 1, true, out, by omega, by go_num, rfl, ?_, by omega, (fun h => by cases h), hown.below HB, Qt.keep HB hcx, Qt.keep HB hcy, Qt.more hb (Nat.le_of_lt hsz) HB, Nat.lt_of_lt_of_le hsz HB.size⟩
            show _ = _
            rw [← HP.out, HD.out, ← HXY.out]
            simp [putAt, outL]
        all_goals
          go_wp2
          refine Qt.below_all (by kernel_rfl) (by kernel_rfl) ?_
          repeat (go_big_quiet_step (fail))
          refine wpQuiet_nil ?_
          intro w2 hb2
          have HB : Below wr.heap.size wr w2 := Qt.more hb1 hb1.size hb2
          have e2 := Qt.keep HB c0
          have e3 := Qt.keep HB c1
          clear d0 d1 d2 d3
          have hs2 := HB.size
          go_wp2_with (at_builtin; refine wpList_append_own _ rfl (.tmp 42) (.tmp 47) 23 rfl (w.heap.size + 1) 25 i0 (.agg #[.int .i64 0, .int .i64 0]) 2 16 Try.underlying23 hi hz0 hz1 hz2 rfl (by decide) _ _ _ rfl (World.ownsRow.alloc (hown.below HB) _) ⟨w2.heap.size, 0, none⟩ 1 1 [.int .i64 x, .int .i64 y] rfl rfl one_new one_cell (by unfold maxLen; omega) (by omega) (by simp; omega) ?_; intro v3 w3 hown3 hgrow _)
          have P := pushed (Qt.more hb (Nat.le_of_lt hsz) HB) (Nat.lt_of_lt_of_le hsz HB.size) (Qt.keep HB hcx) (Qt.keep HB hcy) (hown.below HB) hown3 hgrow
          clear hown3 hgrow hown hcx hcy e2 e3
          go_wp2
          go_roundw
          case measure => simp [intOf]; omega
          case rel =>
            refine ⟨k + 1, true, out ++ [(x, y)], by omega, by go_num, rfl, ?_, by simp; omega, (fun h => by cases h), P.1, P.2.1, P.2.2.1, P.2.2.2.1, P.2.2.2.2⟩
            show _ = _
            rw [← HP.out, HD.out, ← HXY.out]
            simp [putAt, outL, *]
      | false =>
        rcases hcase with ⟨rfl, rfl⟩ | hne
        · go_wp2
          refine Qt.below_all (by kernel_rfl) (by kernel_rfl) ?_
          repeat (go_big_quiet_step (fail))
          refine wpQuiet_nil ?_
          intro w1 hb1
          have b0 := Qt.keep hb1 hcx
          have b1 := Qt.keep hb1 hcy
          have hs1 := hb1.size
          have HB1 : Below w.heap.size w w1 := Qt.more hb (Nat.le_of_lt hsz) hb1
          clear k0 k1 k2 k3
          go_wp2_with (at_builtin; refine wpList_append_own _ rfl (.tmp 32) (.tmp 34) 23 rfl (w.heap.size + 1) 25 i0 (.agg #[.int .i64 0, .int .i64 0]) 2 16 Try.underlying23 hi hz0 hz1 hz2 rfl (by decide) _ _ _ rfl (World.ownsRow.alloc (hown.below hb1) _) ⟨w1.heap.size, 0, none⟩ 1 1 [.int .i64 x, .int .i64 y] rfl rfl one_new one_cell (by unfold maxLen; omega) (by omega) (by simp; omega) ?_; intro v3 w3 hown3 hgrow3 _)
          have P := pushed HB1 (Nat.lt_of_lt_of_le hsz hb1.size) b0 b1 (hown.below hb1) hown3 hgrow3
          obtain ⟨P0, P1, P2, P3, P4⟩ := P
          have d0 := Qt.cell_in P1
          have d1 := Qt.cell_in P2
          have d2 := Qt.cell_in (Qt.keep P3 a0)
          have d3 := Qt.cell_in (Qt.keep P3 a1)
          clear hown3 hgrow3 hown hcx hcy b0 b1 hb1 HB1 hs1
          go_wp2
          refine Qt.below_all (by kernel_rfl) (by kernel_rfl) ?_
          repeat (go_big_quiet_step (fail))
          refine wpQuiet_nil ?_
          intro w4 hb4
          go_wp2
          go_roundw
          case measure => simp [intOf]; omega
          case rel =>
            refine ⟨k + 1, true, out ++ [(x, y)], by omega, by go_num, rfl, ?_, by simp; omega, (fun h => by cases h), P0.below hb4, Qt.keep hb4 P1, Qt.keep hb4 P2, Qt.more P3 (Nat.le_of_lt P4) hb4, Nat.lt_of_lt_of_le P4 hb4.size⟩
            show _ = _
            rw [← HP.out, HD.out, ← HXY.out]
            simp [putAt, putL, outL]
        · cases hls : lessB (cx, cy) (x, y) with
          | true =>
            rcases hne with ⟨rfl, hy⟩ | hx
            · go_wp2
              refine Qt.below_all (by kernel_rfl) (by kernel_rfl) ?_
              repeat (go_big_quiet_step (first | (go_at_call 46; exact Qt.at_call (less_yes (x, cy) (x, y) hls))))
              refine wpQuiet_nil ?_
              intro w1 hb1
              have b0 := Qt.keep hb1 hcx
              have b1 := Qt.keep hb1 hcy
              have hs1 := hb1.size
              have HB1 : Below w.heap.size w w1 := Qt.more hb (Nat.le_of_lt hsz) hb1
              have HL := Lib.hid hls
              clear k0 k1 k2 k3 hls
              go_wp2_with (at_builtin; refine wpList_append_own _ rfl (.tmp 32) (.tmp 34) 23 rfl (w.heap.size + 1) 25 i0 (.agg #[.int .i64 0, .int .i64 0]) 2 16 Try.underlying23 hi hz0 hz1 hz2 rfl (by decide) _ _ _ rfl (World.ownsRow.alloc (hown.below hb1) _) ⟨w1.heap.size, 0, none⟩ 1 1 [.int .i64 x, .int .i64 cy] rfl rfl one_new one_cell (by unfold maxLen; omega) (by omega) (by simp; omega) ?_; intro v3 w3 hown3 hgrow3 _)
              have P := pushed HB1 (Nat.lt_of_lt_of_le hsz hb1.size) b0 b1 (hown.below hb1) hown3 hgrow3
              obtain ⟨P0, P1, P2, P3, P4⟩ := P
              have d0 := Qt.cell_in P1
              have d1 := Qt.cell_in P2
              have d2 := Qt.cell_in (Qt.keep P3 a0)
              have d3 := Qt.cell_in (Qt.keep P3 a1)
              clear hown3 hgrow3 hown hcx hcy b0 b1 hb1 HB1 hs1
              go_wp2
              refine Qt.below_all (by kernel_rfl) (by kernel_rfl) ?_
              repeat (go_big_quiet_step (fail))
              refine wpQuiet_nil ?_
              intro w4 hb4
              have hs4 := hb4.size
              have e2 := Qt.keep (Qt.more P3 (Nat.le_of_lt P4) hb4) a0
              have e3 := Qt.keep (Qt.more P3 (Nat.le_of_lt P4) hb4) a1
              clear d0 d1 d2 d3
              have hl1 : (out ++ [(x, cy)]).length ≤ 1000002 := by simp; omega
              go_wp2_with (at_builtin; refine wpList_append_own _ rfl (.tmp 42) (.tmp 47) 23 rfl (w.heap.size + 1) 25 i0 (.agg #[.int .i64 0, .int .i64 0]) 2 16 Try.underlying23 hi hz0 hz1 hz2 rfl (by decide) _ _ _ rfl (World.ownsRow.alloc (P0.below hb4) _) ⟨w4.heap.size, 0, none⟩ 1 1 [.int .i64 x, .int .i64 y] rfl rfl one_new one_cell (by unfold maxLen; omega) (by omega) (by simp; omega) ?_; intro v5 w5 hown5 hgrow5 _)
              have R := pushed (Qt.more P3 (Nat.le_of_lt P4) hb4) (Nat.lt_of_lt_of_le P4 hs4) (Qt.keep hb4 P1) (Qt.keep hb4 P2) (P0.below hb4) hown5 hgrow5
              clear hown5 hgrow5 P0 P1 P2 P3 P4 hb4 e2 e3
              go_wp2
              go_roundw
              case measure => simp [intOf]; omega
              case rel =>
                refine ⟨k + 1, true, (out ++ [(x, cy)]) ++ [(x, y)], by omega, by go_num, rfl, ?_, by have := HO2.out trivial; simp; omega, (fun h => by cases h), R.1, R.2.1, R.2.2.1, R.2.2.2.1, R.2.2.2.2⟩
                show _ = _
                rw [← HP.out, HD.out, ← HXY.out]
                simp [putAt, putL, outL, HL.out, *]
            · go_wp2
              refine Qt.below_all (by kernel_rfl) (by kernel_rfl) ?_
              repeat (go_big_quiet_step (first | (go_at_call 46; exact Qt.at_call (less_yes (cx, cy) (x, y) hls))))
              refine wpQuiet_nil ?_
              intro w1 hb1
              have b0 := Qt.keep hb1 hcx
              have b1 := Qt.keep hb1 hcy
              have hs1 := hb1.size
              have HB1 : Below w.heap.size w w1 := Qt.more hb (Nat.le_of_lt hsz) hb1
              have HL := Lib.hid hls
              clear k0 k1 k2 k3 hls
              go_wp2_with (at_builtin; refine wpList_append_own _ rfl (.tmp 32) (.tmp 34) 23 rfl (w.heap.size + 1) 25 i0 (.agg #[.int .i64 0, .int .i64 0]) 2 16 Try.underlying23 hi hz0 hz1 hz2 rfl (by decide) _ _ _ rfl (World.ownsRow.alloc (hown.below hb1) _) ⟨w1.heap.size, 0, none⟩ 1 1 [.int .i64 cx, .int .i64 cy] rfl rfl one_new one_cell (by unfold maxLen; omega) (by omega) (by simp; omega) ?_; intro v3 w3 hown3 hgrow3 _)
              have P := pushed HB1 (Nat.lt_of_lt_of_le hsz hb1.size) b0 b1 (hown.below hb1) hown3 hgrow3
              obtain ⟨P0, P1, P2, P3, P4⟩ := P
              have d0 := Qt.cell_in P1
              have d1 := Qt.cell_in P2
              have d2 := Qt.cell_in (Qt.keep P3 a0)
              have d3 := Qt.cell_in (Qt.keep P3 a1)
              clear hown3 hgrow3 hown hcx hcy b0 b1 hb1 HB1 hs1
              go_wp2
              refine Qt.below_all (by kernel_rfl) (by kernel_rfl) ?_
              repeat (go_big_quiet_step (fail))
              refine wpQuiet_nil ?_
              intro w4 hb4
              have hs4 := hb4.size
              have e2 := Qt.keep (Qt.more P3 (Nat.le_of_lt P4) hb4) a0
              have e3 := Qt.keep (Qt.more P3 (Nat.le_of_lt P4) hb4) a1
              clear d0 d1 d2 d3
              have hl1 : (out ++ [(cx, cy)]).length ≤ 1000002 := by simp; omega
              go_wp2_with (at_builtin; refine wpList_append_own _ rfl (.tmp 42) (.tmp 47) 23 rfl (w.heap.size + 1) 25 i0 (.agg #[.int .i64 0, .int .i64 0]) 2 16 Try.underlying23 hi hz0 hz1 hz2 rfl (by decide) _ _ _ rfl (World.ownsRow.alloc (P0.below hb4) _) ⟨w4.heap.size, 0, none⟩ 1 1 [.int .i64 x, .int .i64 y] rfl rfl one_new one_cell (by unfold maxLen; omega) (by omega) (by simp; omega) ?_; intro v5 w5 hown5 hgrow5 _)
              have R := pushed (Qt.more P3 (Nat.le_of_lt P4) hb4) (Nat.lt_of_lt_of_le P4 hs4) (Qt.keep hb4 P1) (Qt.keep hb4 P2) (P0.below hb4) hown5 hgrow5
              clear hown5 hgrow5 P0 P1 P2 P3 P4 hb4 e2 e3
              go_wp2
              go_roundw
              case measure => simp [intOf]; omega
              case rel =>
                refine ⟨k + 1, true, (out ++ [(cx, cy)]) ++ [(x, y)], by omega, by go_num, rfl, ?_, by have := HO2.out trivial; simp; omega, (fun h => by cases h), R.1, R.2.1, R.2.2.1, R.2.2.2.1, R.2.2.2.2⟩
                show _ = _
                rw [← HP.out, HD.out, ← HXY.out]
                simp [putAt, putL, outL, HL.out, *]
          | false =>
            rcases hne with ⟨rfl, hy⟩ | hx
            · go_wp2
              refine Qt.below_all (by kernel_rfl) (by kernel_rfl) ?_
              repeat (go_big_quiet_step (first | (go_at_call 46; exact Qt.at_call (less_no (x, cy) (x, y) hls))))
              refine wpQuiet_nil ?_
              intro w1 hb1
              have hs1 := hb1.size
              have d0 := Qt.cell_in (Qt.keep hb1 hcx)
              have d1 := Qt.cell_in (Qt.keep hb1 hcy)
              have d2 := Qt.cell_in (Qt.keep hb1 c0)
              have d3 := Qt.cell_in (Qt.keep hb1 c1)
              have HL := Lib.hid hls
              clear k0 k1 k2 k3 hls
              go_wp2
              refine Qt.below_all (by kernel_rfl) (by kernel_rfl) ?_
              repeat (go_big_quiet_step (fail))
              refine wpQuiet_nil ?_
              intro w4 hb4
              have HB : Below wr.heap.size wr w4 := Qt.more hb1 hb1.size hb4
              have hs4 := HB.size
              have e2 := Qt.keep HB c0
              have e3 := Qt.keep HB c1
              clear d0 d1 d2 d3
              go_wp2_with (at_builtin; refine wpList_append_own _ rfl (.tmp 42) (.tmp 47) 23 rfl (w.heap.size + 1) 25 i0 (.agg #[.int .i64 0, .int .i64 0]) 2 16 Try.underlying23 hi hz0 hz1 hz2 rfl (by decide) _ _ _ rfl (World.ownsRow.alloc (hown.below HB) _) ⟨w4.heap.size, 0, none⟩ 1 1 [.int .i64 x, .int .i64 y] rfl rfl one_new one_cell (by unfold maxLen; omega) (by omega) (by simp; omega) ?_; intro v5 w5 hown5 hgrow5 _)
              have R := pushed (Qt.more hb (Nat.le_of_lt hsz) HB) (Nat.lt_of_lt_of_le hsz hs4) (Qt.keep HB hcx) (Qt.keep HB hcy) (hown.below HB) hown5 hgrow5
              clear hown5 hgrow5 hown hcx hcy hb1 hb4 HB e2 e3
              go_wp2
              go_roundw
              case measure => simp [intOf]; omega
              case rel =>
                refine ⟨k + 1, false, out ++ [(x, y)], by omega, by go_num, rfl, ?_, by simp; omega, (fun _ => by have := HO2.out trivial; simp; omega), R.1, R.2.1, R.2.2.1, R.2.2.2.1, R.2.2.2.2⟩
                show _ = _
                rw [← HP.out, HD.out, ← HXY.out]
                simp [putAt, putL, outL, HL.out, *]
            · go_wp2
              refine Qt.below_all (by kernel_rfl) (by kernel_rfl) ?_
              repeat (go_big_quiet_step (first | (go_at_call 46; exact Qt.at_call (less_no (cx, cy) (x, y) hls))))
              refine wpQuiet_nil ?_
              intro w1 hb1
              have hs1 := hb1.size
              have d0 := Qt.cell_in (Qt.keep hb1 hcx)
              have d1 := Qt.cell_in (Qt.keep hb1 hcy)
              have d2 := Qt.cell_in (Qt.keep hb1 c0)
              have d3 := Qt.cell_in (Qt.keep hb1 c1)
              have HL := Lib.hid hls
              clear k0 k1 k2 k3 hls
              go_wp2
              refine Qt.below_all (by kernel_rfl) (by kernel_rfl) ?_
              repeat (go_big_quiet_step (fail))
              refine wpQuiet_nil ?_
              intro w4 hb4
              have HB : Below wr.heap.size wr w4 := Qt.more hb1 hb1.size hb4
              have hs4 := HB.size
              have e2 := Qt.keep HB c0
              have e3 := Qt.keep HB c1
              clear d0 d1 d2 d3
              go_wp2_with (at_builtin; refine wpList_append_own _ rfl (.tmp 42) (.tmp 47) 23 rfl (w.heap.size + 1) 25 i0 (.agg #[.int .i64 0, .int .i64 0]) 2 16 Try.underlying23 hi hz0 hz1 hz2 rfl (by decide) _ _ _ rfl (World.ownsRow.alloc (hown.below HB) _) ⟨w4.heap.size, 0, none⟩ 1 1 [.int .i64 x, .int .i64 y] rfl rfl one_new one_cell (by unfold maxLen; omega) (by omega) (by simp; omega) ?_; intro v5 w5 hown5 hgrow5 _)
              have R := pushed (Qt.more hb (Nat.le_of_lt hsz) HB) (Nat.lt_of_lt_of_le hsz hs4) (Qt.keep HB hcx) (Qt.keep HB hcy) (hown.below HB) hown5 hgrow5
              clear hown5 hgrow5 hown hcx hcy hb1 hb4 HB e2 e3
              go_wp2
              go_roundw
              case measure => simp [intOf]; omega
              case rel =>
                refine ⟨k + 1, false, out ++ [(x, y)], by omega, by go_num, rfl, ?_, by simp; omega, (fun _ => by have := HO2.out trivial; simp; omega), R.1, R.2.1, R.2.2.1, R.2.2.2.1, R.2.2.2.2⟩
                show _ = _
                rw [← HP.out, HD.out, ← HXY.out]
                simp [putAt, putL, outL, HL.out, *]
    · have hltz : ¬ (k : Int) < (l.length : Int) := by omega
      have hkl : l.drop k = [] := List.drop_eq_nil_of_le (by omega)
      have HKL := Lib.hid hkl
      clear hkl
      cases done with
      | true =>
        go_wp2
        go_ret
        refine ⟨_, rfl, ?_, hb⟩
        rw [← HP.out, HKL.out]
        simpa [putAt, outL] using hown.mono (Nat.le_succ _)
      | false =>
        go_wp2_with (at_builtin; refine wpList_append_own _ rfl (.tmp 51) (.tmp 53) 23 rfl (w.heap.size + 1) 25 i0 (.agg #[.int .i64 0, .int .i64 0]) 2 16 Try.underlying23 hi hz0 hz1 hz2 rfl (by decide) _ _ _ rfl (World.ownsRow.alloc hown _) ⟨wr.heap.size, 0, none⟩ 1 1 [.int .i64 cx, .int .i64 cy] rfl rfl one_new one_cell (by unfold maxLen; omega) (by omega) (by simp; omega) ?_; intro v3 w3 hown3 hgrow3 _)
        have P := pushed hb hsz hcx hcy hown hown3 hgrow3
        clear hown3 hgrow3
        go_wp2
        go_ret
        refine ⟨_, rfl, ?_, P.2.2.2.1⟩
        rw [← HP.out, HKL.out]
        simpa [putAt, putL] using P.1.mono (Nat.le_succ _)

end Go.Proofs.Ytafoleafhkadiaa
