/-
  Texts that the claims of this seat share, part 10.
-/
import Derived.Test.YtmmaeikeafemaaaGreatB09
set_option linter.unusedVariables false
set_option linter.unusedSimpArgs false
namespace Go.Proofs.YtmmaeikeafemaaaGreat
set_option maxRecDepth 100000
set_option linter.unusedVariables false
set_option linter.unusedSimpArgs false
open Go.RowKit Go.Sort

/-- a node in a box -/
def NR (w : World) (b : Nat) (lev : Int) (k : Kd) (pop : Int) : Prop := w.heap[b]? = some (.cells #[.int .i64 lev, .int .i64 k.1, .int .i64 k.2.1, .int .i64 k.2.2.1, .int .i64 k.2.2.2, .int .i64 pop] 57 (0, 0))
section
variable {w w' : World} {b : Nat} {lev : Int} {k : Kd} {pop : Int}
theorem NR.kp (h : NR w b lev k pop) (hk : Kp w w') : NR w' b lev k pop := hk _ _ _ _ h ⟨.inr (Nat.le_refl 6), by decide⟩
theorem NR.below (h : NR w b lev k pop) (hb : Below w.heap.size w w') : NR w' b lev k pop := (hb.block _ (lt_heap6 h)).trans h
theorem NR.lev_ (h : NR w b lev k pop) : w.cell? ⟨b, 0, none⟩ = some (.int .i64 lev) := by rw [Lib.cell_of_heap h]; rfl
theorem NR.pop_ (h : NR w b lev k pop) : w.cell? ⟨b, 5, none⟩ = some (.int .i64 pop) := by rw [Lib.cell_of_heap h]; rfl
theorem NR.kid (h : NR w b lev k pop) {i : Nat} (hi : i < 4) : w.cell? ⟨b, 1 + i, none⟩ = some (.int .i64 (kd k i)) := by
  rcases (by omega : i = 0 ∨ i = 1 ∨ i = 2 ∨ i = 3) with rfl | rfl | rfl | rfl <;> (rw [Lib.cell_of_heap h]; rfl)
theorem NR.set (h : NR w b lev k pop) {i : Nat} (hi : i < 4) (v : Int) : NR (w.setCell ⟨b, 1 + i, none⟩ (.int .i64 v)) b lev (kset k i v) pop := by
  unfold NR at h ⊢
  rcases (by omega : i = 0 ∨ i = 1 ∨ i = 2 ∨ i = 3) with rfl | rfl | rfl | rfl <;> simp [World.setCell, Array.getElem?_modify, h, kset]
end
/-- the index's row and the node at a place -/
theorem ix_at {n0 : Nat} {w : World} {g b : Nat} {l : List Nd} {room : Int} (h : Ix n0 w g b l room) (h2 : 2 ≤ l.length) : ∃ q cap, w.cell? ⟨g, 0, none⟩ = some (.slice (some ⟨q, 0, none⟩) l.length cap) ∧ l.length ≤ cap ∧ w.cell? ⟨g, 1, none⟩ = some (.int .i64 room) ∧ ∀ j, j < l.length → NdAt w q (j * 6) (l.getD j deadN) := by
  obtain ⟨v, D, h⟩ := h
  obtain ⟨q, cap, rfl, hcap⟩ := ownN_val h.own (by omega)
  refine ⟨q, cap, h.row.c0, hcap, h.row.c1, fun j hj => ?_⟩
  have := ownN_nd h.own j hj
  rwa [Nat.zero_add] at this
/-- what put answers, at a level -/
def PutAt7 (room : Int) (n0 g b k : Nat) : Prop := ∀ (l : List Nd) (n u v : Nat) (a : Bool) (w : World), Ix n0 w g b l room → Right6 l room → Is l k n → (u : Int) ≤ 9223372036854775807 → (v : Int) ≤ 9223372036854775807 →
    Calls Tryz.prog 82 #[makerV g, .int .i64 (n : Nat), cellV ((u : Int), (v : Int)), .bool a] w (IxK (setC room k l n ((u : Int), (v : Int)) a) n0 g b room w)
/-- What is known behind the boxes. -/
structure PbAt (n0 : Nat) (w W : World) (g b : Nat) (l : List Nd) (room : Int) (c : Int × Int) (lev : Int) (k : Kd) (pop : Int) : Prop where
  ix : Ix n0 W g b l room
  mkr : MR W w.heap.size g
  cl : ClB W (w.heap.size + 1) c
  nd : NR W (w.heap.size + 1 + 1) lev k pop
  bel : BelK n0 w W
theorem PbAt.below {n0 : Nat} {w W W' : World} {g b : Nat} {l : List Nd} {room : Int} {c : Int × Int} {lev : Int} {k : Kd} {pop : Int} (h : PbAt n0 w W g b l room c lev k pop) (hn : n0 ≤ w.heap.size) (hb : Below W.heap.size W W') : PbAt n0 w W' g b l room c lev k pop :=
  ⟨h.ix.below hb, h.mkr.below hb, h.cl.below hb, h.nd.below hb, h.bel.more hb hn⟩
theorem pbAt_0 {n0 : Nat} {w : World} {g b : Nat} {l : List Nd} {room : Int} (hix : Ix n0 w g b l room) (c : Int × Int) (lev : Int) (k : Kd) (pop : Int) :
    PbAt n0 w (((w.alloc (.cells #[.pointer (some ⟨g, 0, none⟩)] 64)).alloc (.cells #[.int .i64 c.1, .int .i64 c.2] 28)).alloc (.cells #[.int .i64 lev, .int .i64 k.1, .int .i64 k.2.1, .int .i64 k.2.2.1, .int .i64 k.2.2.2, .int .i64 pop] 57)) g b l room c lev k pop := by
  have hal1 := (Below.refl w.heap.size w).alloc (Nat.le_refl _) (.cells #[.pointer (some ⟨g, 0, none⟩)] 64)
  have hal2 := hal1.alloc hal1.size (.cells #[.int .i64 c.1, .int .i64 c.2] 28)
  have hal3 := hal2.alloc hal2.size (.cells #[.int .i64 lev, .int .i64 k.1, .int .i64 k.2.1, .int .i64 k.2.2.1, .int .i64 k.2.2.2, .int .i64 pop] 57)
  have hs1 : (w.alloc (.cells #[.pointer (some ⟨g, 0, none⟩)] 64)).heap.size = w.heap.size + 1 := by simp
  have hs2 : ((w.alloc (.cells #[.pointer (some ⟨g, 0, none⟩)] 64)).alloc (.cells #[.int .i64 c.1, .int .i64 c.2] 28)).heap.size = w.heap.size + 1 + 1 := by simp
  have b2 := (Below.refl _ (w.alloc (.cells #[.pointer (some ⟨g, 0, none⟩)] 64))).alloc (Nat.le_refl _) (.cells #[.int .i64 c.1, .int .i64 c.2] 28)
  have b3 := (Below.refl _ ((w.alloc (.cells #[.pointer (some ⟨g, 0, none⟩)] 64)).alloc (.cells #[.int .i64 c.1, .int .i64 c.2] 28))).alloc (Nat.le_refl _) (.cells #[.int .i64 lev, .int .i64 k.1, .int .i64 k.2.1, .int .i64 k.2.2.1, .int .i64 k.2.2.2, .int .i64 pop] 57)
  have h1 : MR (w.alloc (.cells #[.pointer (some ⟨g, 0, none⟩)] 64)) w.heap.size g := heap_alloc_new w _
  have h2 := clB_new (w := w.alloc (.cells #[.pointer (some ⟨g, 0, none⟩)] 64)) c
  rw [hs1] at h2
  have h3 := heap_alloc_new ((w.alloc (.cells #[.pointer (some ⟨g, 0, none⟩)] 64)).alloc (.cells #[.int .i64 c.1, .int .i64 c.2] 28)) (.cells #[.int .i64 lev, .int .i64 k.1, .int .i64 k.2.1, .int .i64 k.2.2.1, .int .i64 k.2.2.2, .int .i64 pop] 57)
  rw [hs2] at h3
  exact ⟨hix.below hal3, (h1.below b2).below b3, h2.below b3, h3, .of hal3 hix.hB⟩
/-- the kid is told -/
theorem PbAt.told {n0 : Nat} {w W : World} {g b : Nat} {l : List Nd} {room : Int} {c : Int × Int} {lev : Int} {k : Kd} {pop : Int} (h : PbAt n0 w W g b l room c lev k pop) (h2 : 2 ≤ l.length) (hn : n0 ≤ w.heap.size) {i : Nat} (hi : i < 4) (v : Int) :
    PbAt n0 w (W.setCell ⟨w.heap.size + 1 + 1, 1 + i, none⟩ (.int .i64 v)) g b l room c lev (kset k i v) pop := by
  refine ⟨h.ix.setOff h2 h.nd ⟨.inr (Nat.le_refl 6), by decide⟩ _ _, ?_, ⟨?_⟩, h.nd.set hi v, h.bel.setNew (by omega) hn _ _⟩
  · have := h.mkr
    unfold MR at this ⊢
    rw [Below.heap_setCell _ _ _ _ (by show w.heap.size ≠ w.heap.size + 1 + 1; omega)]
    exact this
  · rw [Below.heap_setCell _ _ _ _ (by show w.heap.size + 1 ≠ w.heap.size + 1 + 1; omega)]
    exact h.cl.row
theorem PbAt.kp {n0 : Nat} {w W W' : World} {g b : Nat} {l l' : List Nd} {room : Int} {c : Int × Int} {lev : Int} {k : Kd} {pop : Int} (h : PbAt n0 w W g b l room c lev k pop) (hi : Ix n0 W' g b l' room) (hb : BelK n0 W W') : PbAt n0 w W' g b l' room c lev k pop :=
  ⟨hi, h.mkr.kp hb.kp, h.cl.kp hb.kp, h.nd.kp hb.kp, h.bel.trans hb⟩

set_option maxHeartbeats 16000000 in
theorem put7_any (room : Int) (n0 g b : Nat) : ∀ (k : Nat), k ≤ 42 → PutAt7 room n0 g b k := by
  intro k
  induction k with
  | zero =>
    intro _ l n u v a w hix hr hn hu hv
    have hn0 := hix.hB
    obtain ⟨q, cap, g0, hcap, g1, hnd⟩ := ix_at (hix.below (((Below.refl w.heap.size w).alloc (Nat.le_refl _) (.cells #[.pointer (some ⟨g, 0, none⟩)] 64)).alloc (by simp) (.cells #[.int .i64 (u : Int), .int .i64 (v : Int)] 28))) hr.two
    obtain ⟨x0, x1, x2, x3, x4, x5⟩ := hnd n hn.lt
    have hP := fun k pop => pbAt_0 (room := room) hix ((u : Int), (v : Int)) 0 k pop
    rw [hn.lev] at x0
    have hnz : (n : Int) < (l.length : Int) := by have := hn.lt; omega
    generalize (l.getD n deadN) = x at *
    obtain ⟨lv, kk, pp⟩ := x
    dsimp only at x0 x1 x2 x3 x4 x5
    have HP := Lib.hid (hP kk pp)
    have m0 := (HP.out.mkr).c
    have hm1 : (w.alloc (.cells #[.pointer (some ⟨g, 0, none⟩)] 64)).heap.size = w.heap.size + 1 := by simp
    have m1 : ((w.alloc (.cells #[.pointer (some ⟨g, 0, none⟩)] 64)).alloc (.cells #[.int .i64 (u : Int), .int .i64 (v : Int)] 28)).cell? ⟨w.heap.size, 0, none⟩ = some (.pointer (some ⟨g, 0, none⟩)) := by
      have h1 : MR (w.alloc (.cells #[.pointer (some ⟨g, 0, none⟩)] 64)) w.heap.size g := heap_alloc_new w _
      exact (h1.below ((Below.refl _ _).alloc (Nat.le_refl _) _)).c
    have l0 := HP.out.nd.lev_
    clear hix hr hn hnd hP hm1
    dsimp only at l0
    cases a with
    | true =>
      go_enter Tryz.func82, Tryz.ntmps82
      go_wp2_with fail
      go_ret2
      exact ⟨rfl, HP.out.ix, HP.out.bel⟩
    | false =>
      go_enter Tryz.func82, Tryz.ntmps82
      go_wp2_with fail
      go_ret2
      exact ⟨rfl, HP.out.ix, HP.out.bel⟩
  | succ k ih =>
    intro hk l n u v a w hix hr hn hu hv
    have hn0 := hix.hB
    obtain ⟨q0, cap, g0, hcap, g1, hnd⟩ := ix_at (hix.below (((Below.refl w.heap.size w).alloc (Nat.le_refl _) (.cells #[.pointer (some ⟨g, 0, none⟩)] 64)).alloc (by simp) (.cells #[.int .i64 (u : Int), .int .i64 (v : Int)] 28))) hr.two
    obtain ⟨x0, x1, x2, x3, x4, x5⟩ := hnd n hn.lt
    have hP := fun k' pop => pbAt_0 (room := room) hix ((u : Int), (v : Int)) ((k : Int) + 1) k' pop
    rw [hn.lev, show ((k + 1 : Nat) : Int) = (k : Int) + 1 by omega] at x0
    have hnz : (n : Int) < (l.length : Int) := by have := hn.lt; omega
    have hq4 := q7_lt k ((u : Int), (v : Int))
    obtain ⟨q, hq⟩ : ∃ q, q = q7 k ((u : Int), (v : Int)) := ⟨_, rfl⟩
    have hkc := kid_cast hr hn (i := q) (by omega)
    have hki := kid_is hr hn (i := q) (by omega)
    have HIH := Lib.hid (ih (by omega))
    obtain ⟨z, hz⟩ : ∃ z, z = setC room (k + 1) l n ((u : Int), (v : Int)) a := ⟨_, rfl⟩
    have hz2 : z = if (setC room k l (kidN l n q) ((u : Int), (v : Int)) a).2.2 = 0 then put6 (setC room k l (kidN l n q) ((u : Int), (v : Int)) a).1 room (kset (l.getD n deadN).2.1 q (setC room k l (kidN l n q) ((u : Int), (v : Int)) a).2.1) else ((setC room k l (kidN l n q) ((u : Int), (v : Int)) a).1, 0, (setC room k l (kidN l n q) ((u : Int), (v : Int)) a).2.2) := by
      rw [hz, hq]
      rfl
    have hsr := setC_right (room := room) k l (kidN l n q) ((u : Int), (v : Int)) a hr
    rw [← hz]
    generalize (l.getD n deadN) = x at *
    obtain ⟨lv, kk, pp⟩ := x
    dsimp only at x0 x1 x2 x3 x4 x5 hkc hz2
    have HP := Lib.hid (hP kk pp)
    have m1 : ((w.alloc (.cells #[.pointer (some ⟨g, 0, none⟩)] 64)).alloc (.cells #[.int .i64 (u : Int), .int .i64 (v : Int)] 28)).cell? ⟨w.heap.size, 0, none⟩ = some (.pointer (some ⟨g, 0, none⟩)) := by
      have h1 : MR (w.alloc (.cells #[.pointer (some ⟨g, 0, none⟩)] 64)) w.heap.size g := heap_alloc_new w _
      exact (h1.below ((Below.refl _ _).alloc (Nat.le_refl _) _)).c
    have l0 := HP.out.nd.lev_
    have d0 := HP.out.cl.c0
    have d1 := HP.out.cl.c1
    have hl0 : (((k : Int) + 1) == 0) = false := beq_eq_false_iff_ne.2 (by omega)
    have hl1 : ¬ (k : Int) + 1 = 0 := by omega
    have hqz : (q : Int) < 4 := by omega
    have HQ := Lib.hid hq
    have HZ := Lib.hid hz2
    have HSR := Lib.hid hsr
    have HR := Lib.hid hr
    have HKI := Lib.hid hki
    dsimp only at l0 d0 d1
    clear hix hr hn hnd hP ih hz hz2 hsr hki
    go_enter Tryz.func82, Tryz.ntmps82
    go_wp2_with fail
    clear m1 x0 x1 x2 x3 x4 x5 g0 g1
    generalize (((w.alloc (.cells #[.pointer (some ⟨g, 0, none⟩)] 64)).alloc (.cells #[.int .i64 (u : Int), .int .i64 (v : Int)] 28)).alloc (.cells #[.int .i64 ((k : Int) + 1), .int .i64 kk.1, .int .i64 kk.2.1, .int .i64 kk.2.2.1, .int .i64 kk.2.2.2, .int .i64 pp] 57)) = w5 at *
    refine (quarter_any k (by omega) u v hu hv w5).mono ?_
    rintro r w6 ⟨rfl, hb6⟩
    rw [← hq]
    have HP6 := Lib.hid (HP.out.below hn0 hb6)
    clear hb6 HP l0 d0 d1 hq
    go_wp2_with fail
    have hkid := HP6.out.nd.kid (i := q) (by omega)
    rw [hkc] at hkid
    have hcall := HIH.out l (kidN l n q) u v a w6.drew (HP6.out.ix.below (below_drew w6)) HR.out HKI.out hu hv
    generalize hzz : setC room k l (kidN l n q) ((u : Int), (v : Int)) a = y at *
    obtain ⟨m, p, ee⟩ := y
    dsimp only at HSR HZ
    generalize kidN l n q = kn at *
    have HC := Lib.hid hcall
    generalize hxb : w.heap.size + 1 + 1 = xb at *
    clear hcall hzz HIH
    refine region_calm_to (fun W' => MR W' w.heap.size g ∧ ClB W' (w.heap.size + 1) ((u : Int), (v : Int))) (fun (a0 a9 : Act) (w9 : World) => a9 = (((((((((((((a0.put (some 33) (.pointer (some ⟨xb, 1 + q, none⟩))).put (some 34) (makerV g)).put (some 35) (.pointer (some ⟨xb, 1 + q, none⟩))).put (some 36) (.pointer (some ⟨xb, 1 + q, none⟩))).put (some 37) (.int .i64 (kn : Int))).put (some 38) (.agg #[.int .i64 (u : Int), .int .i64 (v : Int)])).put (some 39) (.bool a)).put (some 40) (.tuple #[.int .i64 p, .int .i64 ee])).put (some 32) (.tuple #[.int .i64 p, .int .i64 ee])).put (some 41) (.int .i64 p)).put (some 42) (.int .i64 ee)).put (some 43) (.pointer (some ⟨xb, 1 + q, none⟩))).put (some 12) (.int .i64 ee)) ∧ PbAt n0 w w9 g b m room ((u : Int), (v : Int)) ((k : Int) + 1) (kset kk q p) pp) (.calm 0 (.calm 1 (.calm 2 (.calm 5 (.calm 6 (.calm 3 (.only 4 (.only 7 (.calm 8 (.calm 9 (.calm 10 (.calm 11 (.only 12 (.calm 13 .done)))))))))))))) (by kernel_rfl) (by kernel_rfl) (by kernel_rfl) (by rfl) ⟨HP6.out.mkr.below (below_drew w6), HP6.out.cl.below (below_drew w6)⟩ ?_ ?_
    · skip
      refine ⟨_, _, (.pointer (some ⟨xb, 1 + q, none⟩)), rfl, rfl, ⟨rfl, fun W9 hW => by first | exact ⟨rfl, rfl⟩ | (simp only [Act.eval, execOp]; go_simp; try exact ⟨rfl, rfl⟩)⟩, ?_⟩
      simp only [Act.put, List.setIfInBounds_toArray, List.set_cons_succ, List.set_cons_zero]
      refine ⟨_, _, (makerV g), rfl, rfl, ⟨rfl, fun W9 hW => by have q9 := hW.1.c; simp only [execOp]; go_simp; done⟩, ?_⟩
      simp only [Act.put, List.setIfInBounds_toArray, List.set_cons_succ, List.set_cons_zero]
      refine ⟨_, _, (.pointer (some ⟨xb, 1 + q, none⟩)), rfl, rfl, ⟨rfl, fun W9 hW => by first | exact ⟨rfl, rfl⟩ | (simp only [Act.eval, execOp]; go_simp; try exact ⟨rfl, rfl⟩)⟩, ?_⟩
      simp only [Act.put, List.setIfInBounds_toArray, List.set_cons_succ, List.set_cons_zero]
      refine ⟨_, _, (.agg #[.int .i64 (u : Int), .int .i64 (v : Int)]), rfl, rfl, ⟨rfl, fun W9 hW => by have q9 := hW.2.c0; have q8 := hW.2.c1; dsimp only at q9 q8; simp only [execOp]; go_simp; done⟩, ?_⟩
      simp only [Act.put, List.setIfInBounds_toArray, List.set_cons_succ, List.set_cons_zero]
      refine ⟨_, _, (.bool a), rfl, rfl, ⟨rfl, fun W9 hW => by first | exact ⟨rfl, rfl⟩ | (simp only [Act.eval, execOp]; go_simp; try exact ⟨rfl, rfl⟩)⟩, ?_⟩
      simp only [Act.put, List.setIfInBounds_toArray, List.set_cons_succ, List.set_cons_zero]
      refine ⟨_, _, (.pointer (some ⟨xb, 1 + q, none⟩)), rfl, rfl, ⟨rfl, fun W9 hW => by first | exact ⟨rfl, rfl⟩ | (simp only [Act.eval, execOp]; go_simp; try exact ⟨rfl, rfl⟩)⟩, ?_⟩
      simp only [Act.put, List.setIfInBounds_toArray, List.set_cons_succ, List.set_cons_zero]
      refine ⟨_, rfl, ?_⟩
      have hk0 : w6.drew.cell? ⟨xb, 1 + q, none⟩ = some (.int .i64 (kn : Int)) := hkid
      go_wp2_with fail
      refine ⟨rfl, ⟨HP6.out.mkr.below (below_drew w6), HP6.out.cl.below (below_drew w6)⟩, ?_⟩
      refine ⟨_, rfl, ?_⟩
      go_wp2_with fail
      refine HC.out.mono ?_
      rintro r w7 ⟨rfl, hi7, hb7⟩
      have hP7 := (HP6.out.below hn0 (below_drew w6)).kp hi7 hb7
      have hP8 := hP7.told HSR.out.two hn0 (i := q) (by omega) p
      rw [hxb] at hP8
      have hnd7 := hP7.nd
      rw [hxb] at hnd7
      have f0 : w7.frozen? ⟨xb, 1 + q, none⟩ = false := Lib.frozen_of_heap hnd7 (1 + q)
      have e0 := hnd7.kid (i := q) (by omega)
      rw [hkc] at e0
      have hC7 : MR w7 w.heap.size g ∧ ClB w7 (w.heap.size + 1) ((u : Int), (v : Int)) := ⟨hP7.mkr, hP7.cl⟩
      have hC8 := And.intro hP8.mkr hP8.cl
      clear hi7 hb7 hP7 hnd7 hk0 hkid
      go_wp2_with fail
      refine ⟨rfl, hC7, ?_⟩
      refine ⟨_, _, (.tuple #[.int .i64 p, .int .i64 ee]), rfl, rfl, ⟨rfl, fun W9 hW => by first | exact ⟨rfl, rfl⟩ | (simp only [Act.eval, execOp]; go_simp; try exact ⟨rfl, rfl⟩)⟩, ?_⟩
      simp only [Act.put, List.setIfInBounds_toArray, List.set_cons_succ, List.set_cons_zero]
      refine ⟨_, _, (.int .i64 p), rfl, rfl, ⟨rfl, fun W9 hW => by first | exact ⟨rfl, rfl⟩ | (simp only [Act.eval, execOp]; go_simp; try exact ⟨rfl, rfl⟩)⟩, ?_⟩
      simp only [Act.put, List.setIfInBounds_toArray, List.set_cons_succ, List.set_cons_zero]
      refine ⟨_, _, (.int .i64 ee), rfl, rfl, ⟨rfl, fun W9 hW => by first | exact ⟨rfl, rfl⟩ | (simp only [Act.eval, execOp]; go_simp; try exact ⟨rfl, rfl⟩)⟩, ?_⟩
      simp only [Act.put, List.setIfInBounds_toArray, List.set_cons_succ, List.set_cons_zero]
      refine ⟨_, _, (.pointer (some ⟨xb, 1 + q, none⟩)), rfl, rfl, ⟨rfl, fun W9 hW => by first | exact ⟨rfl, rfl⟩ | (simp only [Act.eval, execOp]; go_simp; try exact ⟨rfl, rfl⟩)⟩, ?_⟩
      simp only [Act.put, List.setIfInBounds_toArray, List.set_cons_succ, List.set_cons_zero]
      refine ⟨_, rfl, ?_⟩
      go_wp2_with fail
      refine ⟨rfl, hC8, ?_⟩
      refine ⟨_, _, (.int .i64 ee), rfl, rfl, ⟨rfl, fun W9 hW => by first | exact ⟨rfl, rfl⟩ | (simp only [Act.eval, execOp]; go_simp; try exact ⟨rfl, rfl⟩)⟩, ?_⟩
      simp only [Act.put, List.setIfInBounds_toArray, List.set_cons_succ, List.set_cons_zero]
      refine ⟨?_, hP8⟩
      first | rfl | simp only [Act.put, List.setIfInBounds_toArray, List.set_cons_succ, List.set_cons_zero]
    rintro a9 w9 ⟨rfl, hP9⟩
    simp only [Act.put, List.setIfInBounds_toArray, List.set_cons_succ, List.set_cons_zero]
    have HP9 := Lib.hid hP9
    clear hP9 HP6 HC hkid
    by_cases he : ee = 0
    · subst he
      have hzz := HZ.out
      rw [if_pos rfl] at hzz
      subst hzz
      have hcall := intern_anyK n0 g b m room (kset kk q p) w9 HP9.out.ix HSR.out
      have m0 := HP9.out.mkr.c
      have hnd := HP9.out.nd
      rw [hxb] at hnd
      have y1 := hnd.kid (i := 0) (by decide)
      have y2 := hnd.kid (i := 1) (by decide)
      have y3 := hnd.kid (i := 2) (by decide)
      have y4 := hnd.kid (i := 3) (by decide)
      simp only [kd] at y1 y2 y3 y4
      unfold kidsV at hcall
      generalize kset kk q p = kf at *
      generalize put6 m room kf = zz at *
      obtain ⟨m9, p9, e9⟩ := zz
      have HB := Lib.hid HP9.out.bel
      clear hnd HZ HSR HR HKI
      go_wp2_with fail
      refine hcall.mono ?_
      rintro r w1 ⟨rfl, hi1, hb1⟩
      have HI := Lib.hid hi1
      have HBF := Lib.hid (HB.out.trans hb1)
      clear hcall hi1 hb1 m0 y1 y2 y3 y4
      go_wp2_with fail
      go_ret2
      exact ⟨rfl, HI.out, HBF.out⟩
    · have hzz := HZ.out
      rw [if_neg he] at hzz
      subst hzz
      go_wp2_with fail
      go_ret2
      exact ⟨rfl, HP9.out.ix, HP9.out.bel⟩
end Go.Proofs.YtmmaeikeafemaaaGreat
