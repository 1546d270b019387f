/-
  Texts that the claims of this seat share, part 11.
-/
import Derived.Test.YtikgnjcjbjafaaaB10
import Derived.Test.YtikgnjcjbjafaaaB07
import Derived.Test.YtikgnjcjbjafaaaB09
set_option linter.unusedVariables false
set_option linter.unusedSimpArgs false
namespace Go.Proofs.Ytikgnjcjbjafaaa
set_option maxRecDepth 100000
set_option linter.unusedVariables false
set_option linter.unusedSimpArgs false
open Go.RowKit Go.Sort

/-- an int in a box -/
def LR (w : World) (b : Nat) (x : Int) : Prop := w.heap[b]? = some (.cells #[.int .i64 x] 3 (0, 0))
theorem LR.kp {w w' : World} {b : Nat} {x : Int} (h : LR w b x) (hk : Kp w w') : LR w' b x := hk _ _ _ _ h ⟨.inl (by decide), by decide⟩
theorem LR.c {w : World} {b : Nat} {x : Int} (h : LR w b x) : w.cell? ⟨b, 0, none⟩ = some (.int .i64 x) := by rw [Lib.cell_of_heap h]; rfl
theorem LR.below {w w' : World} {b : Nat} {x : Int} (h : LR w b x) (hb : Below w.heap.size w w') : LR w' b x := (hb.block _ (lt_heap6 h)).trans h
theorem MR.below {w w' : World} {b g : Nat} (h : MR w b g) (hb : Below w.heap.size w w') : MR w' b g := (hb.block _ (lt_heap6 h)).trans h
/-- What is known in the loop over cells. -/
structure DrAt (w wr : World) (g : Nat) (k : Nat) (S : List (Int × Int)) (j : Nat) (vs : Nat → Value) : Prop where
  mkr : MR wr w.heap.size g
  lev : LR wr (w.heap.size + 1) ((k : Int) + 1)
  qs : QsB (w.heap.size + 3) wr (w.heap.size + 1 + 1) vs (fun i => (S.take j).filter fun c => decide (q7 k c = i))
  bel : Below w.heap.size w wr
  size : w.heap.size + 3 ≤ wr.heap.size
theorem DrAt.below {w wr w' : World} {g k j : Nat} {S : List (Int × Int)} {vs : Nat → Value} (h : DrAt w wr g k S j vs) (hb : Below wr.heap.size wr w') : DrAt w w' g k S j vs :=
  ⟨h.mkr.below hb, h.lev.below hb, h.qs.below hb, Qt.more h.bel h.bel.size hb, Nat.le_trans h.size hb.size⟩
theorem filter_next {k : Nat} {S : List (Int × Int)} {j : Nat} (hj : j < S.length) (i : Nat) : (S.take (j + 1)).filter (fun c => decide (q7 k c = i)) = if i = q7 k (S.getD j (0, 0)) then (S.take j).filter (fun c => decide (q7 k c = i)) ++ [S.getD j (0, 0)] else (S.take j).filter fun c => decide (q7 k c = i) := by
  rw [List.take_succ_eq_append_getElem hj, List.filter_append, List.getD_eq_getElem?_getD, List.getElem?_eq_getElem hj]
  simp only [Option.getD_some, List.filter_cons, List.filter_nil]
  by_cases h : i = q7 k S[j]
  · rw [if_pos h, if_pos (by rw [decide_eq_true_eq]; exact h.symm)]
  · rw [if_neg h, if_neg (by rw [decide_eq_true_eq]; exact fun e => h e.symm), List.append_nil]
theorem DrAt.pushed {w w6 w4 : World} {g k j : Nat} {S : List (Int × Int)} {vs : Nat → Value} {v' : Value} {o : Obj} (h : DrAt w w6 g k S j vs) (hj : j < S.length) {q : Nat} (hq : q = q7 k (S.getD j (0, 0))) {c : Int × Int} (hc : c = S.getD j (0, 0))
    (ho : OwnC w4 (w.heap.size + 3) v' ((S.take j).filter (fun c => decide (q7 k c = q)) ++ [c])) (hg : (w6.alloc o).grownBy w4 (vs q).ownBlock) (hw : v'.ownBlock = (vs q).ownBlock ∨ v'.ownBlock = some (w6.heap.size + 1)) :
    w4.heap[w.heap.size + 1 + 1]? = some (.cells #[vs 0, vs 1, vs 2, vs 3] 140 (0, 0)) ∧ DrAt w (w4.setCell ⟨w.heap.size + 1 + 1, q, none⟩ v') g k S (j + 1) (fun i => if i = q then v' else vs i) := by
  have hq4 : q < 4 := by rw [hq]; exact q7_lt k _
  obtain ⟨h1, h2⟩ := h.qs.push hq4 ho hg hw
  have hS : (fun i => (S.take (j + 1)).filter fun c => decide (q7 k c = i)) = fun i => if i = q then (S.take j).filter (fun c => decide (q7 k c = q)) ++ [c] else (S.take j).filter fun c => decide (q7 k c = i) := by
    funext i
    rw [filter_next hj i, ← hq, hc]
    by_cases hi : i = q
    · rw [if_pos hi, if_pos hi, hi]
    · rw [if_neg hi, if_neg hi]
  have hlow : ∀ {i T : Nat} {cs : Array Value}, i < w.heap.size + 1 + 1 → w6.heap[i]? = some (.cells cs T (0, 0)) → (w4.setCell ⟨w.heap.size + 1 + 1, q, none⟩ v').heap[i]? = some (.cells cs T (0, 0)) := by
    intro i T cs hi he
    have hlt := lt_heap6 he
    rw [Below.heap_setCell _ _ _ _ (by show i ≠ w.heap.size + 1 + 1; omega), hg.block i (by simp; omega) (fun e => by have := (World.ownsRow.lt (h.qs.own q hq4) i e.symm).1; omega), Lib.alloc_old _ _ _ hlt]
    exact he
  have hsz := h.size
  have hgs := hg.size
  simp at hgs
  refine ⟨h1, ⟨hlow (by omega) h.mkr, hlow (by omega) h.lev, by rw [hS]; exact h2, ?_, ?_⟩⟩
  · refine ((h.bel.alloc h.bel.size o).grown hg (by simp; omega) (fun r e => ?_)).setCell (by show w.heap.size ≤ w.heap.size + 1 + 1; omega) _
    have := (World.ownsRow.lt (h.qs.own q hq4) r e).1
    omega
  · simp [World.setCell]
    omega

/-- what drawn answers, at a level -/
def DrawnAt (room : Int) (n0 g b k : Nat) : Prop := ∀ (l : List Nd) (A : Option Addr) (S : List (Int × Int)) (c : Nat) (w : World), Ix n0 w g b l room → Right6 l room → RdC w w.heap.size A S → S.length ≤ 2000 → (∀ s ∈ S, 0 ≤ s.1 ∧ s.1 ≤ 9223372036854775807 ∧ 0 ≤ s.2 ∧ s.2 ≤ 9223372036854775807) →
    Calls Try.prog 111 #[makerV g, .slice A S.length c, .int .i64 ((k : Nat) : Int)] w (IxK (buildC room k l S) n0 g b room w)
set_option maxHeartbeats 16000000 in
theorem drawnClos_any {room : Int} {n0 g b k : Nat} (hk : k ≤ 60) (ih : DrawnAt room n0 g b k) {mb qb lb B : Nat} {vs : Nat → Value} {Ss : Nat → List (Int × Int)} {i : Nat} (hi : i < 4) (l : List Nd) (W : World) (hr : Right6 l room) (hix : Ix n0 W g b l room)
    (hm : MR W mb g) (hq : QsB B W qb vs Ss) (hl : LR W lb ((k : Int) + 1)) (hS : (Ss i).length ≤ 2000) (hb : ∀ s ∈ Ss i, 0 ≤ s.1 ∧ s.1 ≤ 9223372036854775807 ∧ 0 ≤ s.2 ∧ s.2 ≤ 9223372036854775807) :
    Calls Try.prog 121 #[.int .i64 (i : Nat), .pointer (some ⟨mb, 0, none⟩), .pointer (some ⟨qb, 0, none⟩), .pointer (some ⟨lb, 0, none⟩)] W (IxK (buildC room k l (Ss i)) n0 g b room W) := by
  have hn0 := hix.hB
  obtain ⟨A, c, hv, hcap, hrd⟩ := Cel.Own.rd (hq.own i hi)
  have HQ := Lib.hid hq
  have hcall := fun W' (hW : BelK n0 W W') (h1 : Ix n0 W' g b l room) (h2 : RdC W' W'.heap.size A (Ss i)) => ih l A (Ss i) c W' h1 hr h2 hS hb
  have hrdk : ∀ W', Kp W W' → RdC W' W'.heap.size A (Ss i) := fun W' hW => by
    obtain ⟨A', c', e, _, h⟩ := Cel.Own.rd ((hq.kp hW).own i hi)
    rw [hv] at e
    injection e with e1 e2 e3
    rw [e1]
    exact h
  have hC0 : BelK n0 W W.drew := .of (below_drew W) hn0
  have hiz : (i : Int) < 4 := by omega
  generalize hSS : Ss i = S at *
  generalize hz : buildC room k l S = z at *
  obtain ⟨m, p, ee⟩ := z
  have HC := Lib.hid (hcall W.drew hC0 (hix.below (below_drew W)) (hrdk W.drew hC0.kp))
  clear hcall hrdk ih hix hr hS hb hSS hz hrd hq
  go_enter Try.func121, Try.ntmps121
  go_wp2_with fail
  refine region_calm_to (fun W' => BelK n0 W W') (fun (a0 a9 : Act) (w9 : World) => a9 = (((((((((((a0.put (some 7) (makerV g)).put (some 8) (.int .i64 (i : Int))).put (some 9) (.pointer (some ⟨qb, i, none⟩))).put (some 10) (.slice A S.length c)).put (some 11) (.int .i64 ((k : Int) + 1))).put (some 12) (.int .i64 (k : Int))).put (some 13) (.tuple #[.int .i64 p, .int .i64 ee])).put (some 14) (.int .i64 p)).put (some 15) (.int .i64 ee)).put (some 5) (.int .i64 p)).put (some 6) (.int .i64 ee)) ∧ Ix n0 w9 g b m room ∧ BelK n0 W w9) (.calm 0 (.calm 1 (.calm 2 (.calm 3 (.calm 4 (.calm 5 (.only 6 (.calm 7 (.calm 8 (.calm 9 (.calm 10 .done))))))))))) (by kernel_rfl) (by kernel_rfl) (by kernel_rfl) (by rfl) hC0 ?_ ?_
  · skip
    refine ⟨_, _, makerV g, rfl, rfl, ⟨rfl, fun W9 hW => by have q := (hm.kp hW.kp).c; simp only [execOp]; go_simp; done⟩, ?_⟩
    simp only [Act.put, List.setIfInBounds_toArray, List.set_cons_succ, List.set_cons_zero]
    refine ⟨_, _, (.int .i64 (i : Int)), rfl, rfl, ⟨rfl, fun W9 hW => by exact ⟨rfl, rfl⟩⟩, ?_⟩
    simp only [Act.put, List.setIfInBounds_toArray, List.set_cons_succ, List.set_cons_zero]
    refine ⟨_, _, (.pointer (some ⟨qb, i, none⟩)), rfl, rfl, ⟨rfl, fun W9 hW => by simp only [execOp]; go_simp; try exact ⟨rfl, rfl⟩⟩, ?_⟩
    simp only [Act.put, List.setIfInBounds_toArray, List.set_cons_succ, List.set_cons_zero]
    refine ⟨_, _, (.slice A S.length c), rfl, rfl, ⟨rfl, fun W9 hW => by have q := (HQ.out.kp hW.kp).c hi; rw [hv] at q; simp only [execOp]; go_simp; done⟩, ?_⟩
    simp only [Act.put, List.setIfInBounds_toArray, List.set_cons_succ, List.set_cons_zero]
    refine ⟨_, _, (.int .i64 ((k : Int) + 1)), rfl, rfl, ⟨rfl, fun W9 hW => by have q := (hl.kp hW.kp).c; simp only [execOp]; go_simp; done⟩, ?_⟩
    simp only [Act.put, List.setIfInBounds_toArray, List.set_cons_succ, List.set_cons_zero]
    refine ⟨_, _, (.int .i64 (k : Int)), rfl, rfl, ⟨rfl, fun W9 hW => by simp only [execOp]; go_simp; rw [IntKind.wrap_i64]; omega⟩, ?_⟩
    simp only [Act.put, List.setIfInBounds_toArray, List.set_cons_succ, List.set_cons_zero]
    refine ⟨_, rfl, ?_⟩
    go_wp2_with fail
    refine HC.out.mono ?_
    rintro e w7 ⟨rfl, hi7, hb7⟩
    have hBf := hC0.trans hb7
    clear hb7
    go_wp2_with fail
    refine ⟨rfl, hBf, ?_⟩
    refine ⟨_, _, .int .i64 p, rfl, rfl, ⟨rfl, fun W9 hW => by first | exact ⟨rfl, rfl⟩ | (simp only [Act.eval, execOp]; go_simp; try exact ⟨rfl, rfl⟩)⟩, ?_⟩
    simp only [Act.put, List.setIfInBounds_toArray, List.set_cons_succ, List.set_cons_zero]
    refine ⟨_, _, .int .i64 ee, rfl, rfl, ⟨rfl, fun W9 hW => by first | exact ⟨rfl, rfl⟩ | (simp only [Act.eval, execOp]; go_simp; try exact ⟨rfl, rfl⟩)⟩, ?_⟩
    simp only [Act.put, List.setIfInBounds_toArray, List.set_cons_succ, List.set_cons_zero]
    refine ⟨_, _, .int .i64 p, rfl, rfl, ⟨rfl, fun W9 hW => by first | exact ⟨rfl, rfl⟩ | (simp only [Act.eval, execOp]; go_simp; try exact ⟨rfl, rfl⟩)⟩, ?_⟩
    simp only [Act.put, List.setIfInBounds_toArray, List.set_cons_succ, List.set_cons_zero]
    refine ⟨_, _, .int .i64 ee, rfl, rfl, ⟨rfl, fun W9 hW => by first | exact ⟨rfl, rfl⟩ | (simp only [Act.eval, execOp]; go_simp; try exact ⟨rfl, rfl⟩)⟩, ?_⟩
    simp only [Act.put, List.setIfInBounds_toArray, List.set_cons_succ, List.set_cons_zero]
    refine ⟨?_, hi7, hBf⟩
    first | rfl | simp only [Act.put, List.setIfInBounds_toArray, List.set_cons_succ, List.set_cons_zero]
  rintro a9 w9 ⟨rfl, hi9, hb9⟩
  simp only [Act.put, List.setIfInBounds_toArray, List.set_cons_succ, List.set_cons_zero]
  have HI := Lib.hid hi9
  have HB := Lib.hid hb9
  clear hi9 hb9
  go_wp2_with fail
  go_ret2
  exact ⟨rfl, HI.out, HB.out⟩

set_option maxHeartbeats 16000000 in
theorem drawn_none (room : Int) (n0 g b k : Nat) (hk : k ≤ 42) (l : List Nd) (A : Option Addr) (c : Nat) (w : World) (hix : Ix n0 w g b l room) (hr : Right6 l room) :
    Calls Try.prog 111 #[makerV g, .slice A 0 c, .int .i64 ((k : Nat) : Int)] w (IxK (emptyTo l room k) n0 g b room w) := by
  have hn0 := hix.hB
  have hal1 := (Below.refl w.heap.size w).alloc (Nat.le_refl _) (.cells #[.pointer (some ⟨g, 0, none⟩)] 84)
  have hal2 := hal1.alloc hal1.size (.cells #[.int .i64 (k : Int)] 3)
  have hs1 : (w.alloc (.cells #[.pointer (some ⟨g, 0, none⟩)] 84)).heap.size = w.heap.size + 1 := by simp
  have b2 := (Below.refl _ (w.alloc (.cells #[.pointer (some ⟨g, 0, none⟩)] 84))).alloc (Nat.le_refl _) (.cells #[.int .i64 (k : Int)] 3)
  have h1 : MR (w.alloc (.cells #[.pointer (some ⟨g, 0, none⟩)] 84)) w.heap.size g := heap_alloc_new w _
  have h2 : LR ((w.alloc (.cells #[.pointer (some ⟨g, 0, none⟩)] 84)).alloc (.cells #[.int .i64 (k : Int)] 3)) (w.heap.size + 1) (k : Int) := by
    have := heap_alloc_new (w.alloc (.cells #[.pointer (some ⟨g, 0, none⟩)] 84)) (.cells #[.int .i64 (k : Int)] 3)
    rw [hs1] at this
    exact this
  have m0 := (h1.below b2).c
  have l0 := h2.c
  have hcall := ixEmpty_anyK n0 g b l room (k : Int) _ (hix.below hal2) hr (Nat.le_trans hn0 hal2.size)
  have hz : ixEmpty l room (k : Int) = emptyTo l room k := by unfold ixEmpty; rw [if_pos (by omega), Int.toNat_natCast]
  rw [hz] at hcall
  have HB := Lib.hid (BelK.of hal2 hn0)
  generalize emptyTo l room k = z at *
  obtain ⟨m, p, ee⟩ := z
  clear hix hr hal1 hal2 hs1 b2 h1 h2 hz
  go_enter Try.func111, Try.ntmps111
  go_wp2_with fail
  refine hcall.mono ?_
  rintro e w1 ⟨rfl, hi1, hb1⟩
  have HI := Lib.hid hi1
  have HBF := Lib.hid (HB.out.trans hb1)
  clear hcall hi1 hb1 m0 l0
  go_wp2_with fail
  go_ret2
  exact ⟨rfl, HI.out, HBF.out⟩
set_option maxHeartbeats 16000000 in
theorem drawn_one (room : Int) (n0 g b : Nat) (l : List Nd) (A : Option Addr) (n c : Nat) (hn : 1 ≤ n) (w : World) (hix : Ix n0 w g b l room) :
    Calls Try.prog 111 #[makerV g, .slice A n c, .int .i64 0] w (IxK (l, 1, 0) n0 g b room w) := by
  have hn0 := hix.hB
  have hal1 := (Below.refl w.heap.size w).alloc (Nat.le_refl _) (.cells #[.pointer (some ⟨g, 0, none⟩)] 84)
  have hal2 := hal1.alloc hal1.size (.cells #[.int .i64 0] 3)
  have hs1 : (w.alloc (.cells #[.pointer (some ⟨g, 0, none⟩)] 84)).heap.size = w.heap.size + 1 := by simp
  have h2 : LR ((w.alloc (.cells #[.pointer (some ⟨g, 0, none⟩)] 84)).alloc (.cells #[.int .i64 0] 3)) (w.heap.size + 1) 0 := by
    have := heap_alloc_new (w.alloc (.cells #[.pointer (some ⟨g, 0, none⟩)] 84)) (.cells #[.int .i64 0] 3)
    rw [hs1] at this
    exact this
  have l0 := h2.c
  have HB := Lib.hid (BelK.of hal2 hn0)
  have HI := Lib.hid (hix.below hal2)
  have hp1 : ((n : Int) == 0) = false := beq_eq_false_iff_ne.2 (by omega)
  have hp2 : ¬ (n : Int) = 0 := by omega
  clear hix hal1 hal2 hs1 h2
  go_enter Try.func111, Try.ntmps111
  go_wp2_with fail
  go_ret2
  exact ⟨rfl, HI.out, HB.out⟩
set_option maxHeartbeats 16000000 in
theorem drawn_any (room : Int) (n0 g b : Nat) : ∀ (k : Nat), k ≤ 42 → ∀ (l : List Nd) (A : Option Addr) (S : List (Int × Int)) (c : Nat) (w : World), Ix n0 w g b l room → Right6 l room → RdC w w.heap.size A S → S.length ≤ 2000 → (∀ s ∈ S, 0 ≤ s.1 ∧ s.1 ≤ 9223372036854775807 ∧ 0 ≤ s.2 ∧ s.2 ≤ 9223372036854775807) →
    Calls Try.prog 111 #[makerV g, .slice A S.length c, .int .i64 ((k : Nat) : Int)] w (IxK (buildC room k l S) n0 g b room w) := by
  intro k
  induction k with
  | zero =>
    intro _ l A S c w hix hr hS hSl hSb
    by_cases hS0 : S = []
    · subst hS0
      have := drawn_none room n0 g b 0 (by omega) l A c w hix hr
      rwa [← buildC_nil] at this
    · have := drawn_one room n0 g b l A S.length c (List.length_pos_iff.2 hS0) w hix
      have e : buildC room 0 l S = (l, 1, 0) := by unfold buildC; rw [if_neg hS0]
      rw [e]
      exact this
  | succ k ih =>
    intro hk l A S c w hix hr hS hSl hSb
    have hn0 := hix.hB
    by_cases hS0 : S = []
    · subst hS0
      have := drawn_none room n0 g b (k + 1) hk l A c w hix hr
      rwa [← buildC_nil] at this
    · have hpos : 1 ≤ S.length := List.length_pos_iff.2 hS0
      have e1 : ((k + 1 : Nat) : Int) = (k : Int) + 1 := by omega
      rw [e1]
      have hal1 := (Below.refl w.heap.size w).alloc (Nat.le_refl _) (.cells #[.pointer (some ⟨g, 0, none⟩)] 84)
      have hal2 := hal1.alloc hal1.size (.cells #[.int .i64 ((k : Int) + 1)] 3)
      have hal3 := hal2.alloc hal2.size (.cells #[.slice none 0 0, .slice none 0 0, .slice none 0 0, .slice none 0 0] 140)
      have HD0 : Hid (DrAt w (((w.alloc (.cells #[.pointer (some ⟨g, 0, none⟩)] 84)).alloc (.cells #[.int .i64 ((k : Int) + 1)] 3)).alloc (.cells #[.slice none 0 0, .slice none 0 0, .slice none 0 0, .slice none 0 0] 140)) g k S 0 (fun _ => .slice none 0 0)) := by
        have hs1 : (w.alloc (.cells #[.pointer (some ⟨g, 0, none⟩)] 84)).heap.size = w.heap.size + 1 := by simp
        have hs2 : ((w.alloc (.cells #[.pointer (some ⟨g, 0, none⟩)] 84)).alloc (.cells #[.int .i64 ((k : Int) + 1)] 3)).heap.size = w.heap.size + 1 + 1 := by simp
        have b2 := (Below.refl _ (w.alloc (.cells #[.pointer (some ⟨g, 0, none⟩)] 84))).alloc (Nat.le_refl _) (.cells #[.int .i64 ((k : Int) + 1)] 3)
        have b3 := (Below.refl _ ((w.alloc (.cells #[.pointer (some ⟨g, 0, none⟩)] 84)).alloc (.cells #[.int .i64 ((k : Int) + 1)] 3))).alloc (Nat.le_refl _) (.cells #[.slice none 0 0, .slice none 0 0, .slice none 0 0, .slice none 0 0] 140)
        have h1 : MR (w.alloc (.cells #[.pointer (some ⟨g, 0, none⟩)] 84)) w.heap.size g := heap_alloc_new w _
        have h2 : LR ((w.alloc (.cells #[.pointer (some ⟨g, 0, none⟩)] 84)).alloc (.cells #[.int .i64 ((k : Int) + 1)] 3)) (w.heap.size + 1) ((k : Int) + 1) := by
          have := heap_alloc_new (w.alloc (.cells #[.pointer (some ⟨g, 0, none⟩)] 84)) (.cells #[.int .i64 ((k : Int) + 1)] 3)
          rw [hs1] at this
          exact this
        have h3 := heap_alloc_new ((w.alloc (.cells #[.pointer (some ⟨g, 0, none⟩)] 84)).alloc (.cells #[.int .i64 ((k : Int) + 1)] 3)) (.cells #[.slice none 0 0, .slice none 0 0, .slice none 0 0, .slice none 0 0] 140)
        rw [hs2] at h3
        refine ⟨(h1.below b2).below b3, h2.below b3, ⟨h3, fun i _ => ?_, fun i j _ _ _ => .inl rfl⟩, hal3, by simp⟩
        simp only [List.take_zero, List.filter_nil]
        exact World.ownsRow_nil _ _ _ _
      obtain ⟨z, hz⟩ : ∃ z, z = buildC room (k + 1) l S := ⟨_, rfl⟩
      rw [← hz]
      have HZ := Lib.hid hz
      have HIX := Lib.hid hix
      have HR := Lib.hid hr
      have HS := Lib.hid hS
      have HSB := Lib.hid hSb
      have HIH := Lib.hid ih
      have HS0 := Lib.hid hS0
      have hposz : ¬ (S.length : Int) = 0 := by omega
      have hp1 : ((S.length : Int) == 0) = false := beq_eq_false_iff_ne.2 (by omega)
      have hk1 : (((k : Int) + 1) == 0) = false := beq_eq_false_iff_ne.2 (by omega)
      have hkz : ¬ (k : Int) + 1 = 0 := by omega
      clear hix hr hS hSb ih hz hal1 hal2 hal3 hS0 e1
      go_enter Try.func111, Try.ntmps111
      go_wp2_with fail
      go_loopw [25] (fun i wr => ∃ j : Nat, j ≤ S.length ∧ i = .int .i64 j ∧ Hid (∃ vs, DrAt w wr g k S j vs)) (fun i _ => S.length - (intOf i).toNat)
      case atStart => exact ⟨0, Nat.zero_le _, rfl, ⟨_, HD0.out⟩⟩
      case round =>
        obtain ⟨j, hj, rfl, HH⟩ := hrel
        obtain ⟨vs, HD⟩ := HH.out
        by_cases hlt : j < S.length
        · have hltz : (j : Int) < (S.length : Int) := by omega
          obtain ⟨b1, o1, rfl, hb1, hr1⟩ := Cel.Rd.at_ HS.out hpos
          obtain ⟨r0, r1⟩ := hr1 j hlt
          have c0 := Qt.keep HD.bel r0
          have c1 := Qt.keep HD.bel r1
          have hcb := HSB.out (S.getD j (0, 0)) (Cel.getD_mem hlt)
          obtain ⟨⟨x, y⟩, hxy⟩ : ∃ c, c = S.getD j (0, 0) := ⟨_, rfl⟩
          rw [← hxy] at c0 c1 hcb
          dsimp only at c0 c1 hcb
          obtain ⟨u, rfl⟩ : ∃ u : Nat, x = (u : Int) := ⟨x.toNat, by omega⟩
          obtain ⟨v, rfl⟩ : ∃ v : Nat, y = (v : Int) := ⟨y.toNat, by omega⟩
          have hal := (Below.refl wr.heap.size wr).alloc (Nat.le_refl _) (.cells #[.int .i64 (u : Int), .int .i64 (v : Int)] 32)
          have HD1 := Lib.hid (HD.below hal)
          have HC1 := Lib.hid (clB_new (w := wr) ((u : Int), (v : Int)))
          have x0 := HC1.out.c0
          have x1 := HC1.out.c1
          have l0 := HD1.out.lev.c
          dsimp only at x0 x1
          obtain ⟨wo, rfl⟩ : ∃ wo : World, wo = wr := ⟨_, rfl⟩
          have HXY := Lib.hid hxy
          clear hr1 r0 r1 hal HD HH hxy
          go_wp2_with fail
          clear x0 x1 l0 c0 c1
          generalize (wo.alloc (.cells #[.int .i64 (u : Int), .int .i64 (v : Int)] 32)) = w5 at *
          generalize wo.heap.size = cb at *
          refine (quarter_any k (by omega) u v (by omega) (by omega) w5).mono ?_
          rintro e w6 ⟨rfl, hb6⟩
          have hD6 := HD1.out.below hb6
          have hC6 := HC1.out.below hb6
          have hq4 := q7_lt k ((u : Int), (v : Int))
          obtain ⟨q, hq⟩ : ∃ q, q = q7 k ((u : Int), (v : Int)) := ⟨_, rfl⟩
          rw [← hq] at hq4 ⊢
          have hqz : (q : Int) < 4 := by omega
          obtain ⟨v', w4, rp, op, gp, bp, hw⟩ := pushC_any (w := w6.drew) (B := w.heap.size + 3) (v := vs q) (out := (S.take j).filter fun c => decide (q7 k c = q)) ((u : Int), (v : Int)) hD6.size (hD6.qs.own q hq4) (Nat.le_trans (List.length_filter_le _ _) (by rw [List.length_take]; omega))
          obtain ⟨A4, c4, rfl, hc4, _⟩ := Cel.Own.rd op
          have hpu := DrAt.pushed (hD6.below (below_drew w6)) hlt (by rw [hq, HXY.out]) HXY.out op gp hw
          have rp : (Builtin.append_ #[38, 38] 38 #[vs q, .slice (some ⟨w6.heap.size, 0, none⟩) 1 1]).run Try.prog (w6.alloc (.cells #[.int .i64 (u : Int), .int .i64 (v : Int)] 32)).drew = .ok (.slice A4 ((S.take j).filter (fun c => decide (q7 k c = q)) ++ [((u : Int), (v : Int))]).length c4) w4 := rp
          generalize ((S.take j).filter (fun c => decide (q7 k c = q)) ++ [((u : Int), (v : Int))]).length = n4 at *
          have q0 := hD6.qs.c hq4
          have q0o : ∀ o, (w6.alloc o).cell? ⟨w.heap.size + 1 + 1, q, none⟩ = some (vs q) := fun o => (World.cell?_alloc_lt _ _ _ (block_lt_of_cell q0)).trans q0
          have y0 := hC6.c0
          have y1 := hC6.c1
          dsimp only at y0 y1
          have f4 : w4.frozen? ⟨w.heap.size + 1 + 1, q, none⟩ = false := Lib.frozen_of_heap hpu.1 q
          have g4 : ∃ ov, w4.cell? ⟨w.heap.size + 1 + 1, q, none⟩ = some ov := by
            rcases (by omega : q = 0 ∨ q = 1 ∨ q = 2 ∨ q = 3) with h | h | h | h <;> rw [h] <;> exact ⟨_, by rw [Lib.cell_of_heap hpu.1]; rfl⟩
          obtain ⟨ov, g4⟩ := g4
          have HN := Lib.hid hpu.2
          clear HD1 HC1 hD6 hC6 hq op gp bp hw hpu hb6 hcb
          generalize vs q = vq at *
          go_wp2_with fail
          refine region_tree_to (fun a0 a9 w9 => a9 = (((((((((a0.put (some 32) (.int .i64 (q : Int))).put (some 33) (.int .i64 (q : Int))).put (some 34) (.pointer (some ⟨w.heap.size + 1 + 1, q, none⟩))).put (some 35) vq).put (some 36) (.agg #[.int .i64 (u : Int), .int .i64 (v : Int)])).put (some 37) (.slice (some ⟨w6.heap.size, 0, none⟩) 1 1)).put (some 38) (.slice A4 n4 c4)).put (some 39) (.pointer (some ⟨w.heap.size + 1 + 1, q, none⟩)))) ∧ w9 = w4.setCell ⟨w.heap.size + 1 + 1, q, none⟩ (.slice A4 n4 c4)) (.pure 0 (.pure 1 (.pure 2 (.two 3 4 (.only 4 (.only 5 (.only 6 (.pure 7 (.only 8 .done))))) (.two 3 5 (.only 5 (.only 6 (.pure 7 (.only 8 .done)))) (.only 3 (.only 6 (.pure 7 (.only 8 .done))))))))) (by kernel_rfl) (by kernel_rfl) (by kernel_rfl) (by rfl) ?_ ?_
          · skip
            refine ⟨_, some 32, .int .i64 (q : Int), rfl, rfl, ⟨rfl, fun _ => by first | rfl | (simp only [execOp]; go_simp)⟩, ?_⟩
            simp only [Act.put, List.setIfInBounds_toArray, List.set_cons_succ, List.set_cons_zero]
            refine ⟨_, some 33, .int .i64 (q : Int), rfl, rfl, ⟨rfl, fun _ => by first | rfl | (simp only [execOp]; go_simp)⟩, ?_⟩
            simp only [Act.put, List.setIfInBounds_toArray, List.set_cons_succ, List.set_cons_zero]
            refine ⟨_, some 34, .pointer (some ⟨w.heap.size + 1 + 1, q, none⟩), rfl, rfl, ⟨rfl, fun _ => by first | rfl | (simp only [execOp]; go_simp)⟩, ?_⟩
            simp only [Act.put, List.setIfInBounds_toArray, List.set_cons_succ, List.set_cons_zero]
            constructor
            · refine ⟨_, rfl, ?_⟩
              go_wp2_with fail
              refine ⟨rfl, ?_⟩
              refine ⟨_, rfl, ?_⟩
              go_wp2_with fail
              refine ⟨rfl, ?_⟩
              refine ⟨_, rfl, ?_⟩
              go_wp2_with fail
              refine ⟨rfl, ?_⟩
              refine ⟨_, rfl, ?_⟩
              refine Lib.wpList_append_run _ rfl (.tmp 35) (.tmp 37) 38 38 rfl _ _ rfl rfl _ _ rp ?_
              refine ⟨rfl, ?_⟩
              refine ⟨_, some 39, .pointer (some ⟨w.heap.size + 1 + 1, q, none⟩), rfl, rfl, ⟨rfl, fun _ => by first | rfl | (simp only [execOp]; go_simp)⟩, ?_⟩
              simp only [Act.put, List.setIfInBounds_toArray, List.set_cons_succ, List.set_cons_zero]
              refine ⟨_, rfl, ?_⟩
              go_wp2_with fail
              refine ⟨rfl, ?_⟩
              show (_ = _) ∧ (_ = _)
              exact ⟨by first | rfl | simp only [Act.put, List.setIfInBounds_toArray, List.set_cons_succ, List.set_cons_zero], rfl⟩
            · refine ⟨_, rfl, ?_⟩
              go_wp2_with fail
              refine ⟨rfl, ?_⟩
              constructor
              · refine ⟨_, rfl, ?_⟩
                go_wp2_with fail
                refine ⟨rfl, ?_⟩
                refine ⟨_, rfl, ?_⟩
                go_wp2_with fail
                refine ⟨rfl, ?_⟩
                refine ⟨_, rfl, ?_⟩
                refine Lib.wpList_append_run _ rfl (.tmp 35) (.tmp 37) 38 38 rfl _ _ rfl rfl _ _ rp ?_
                refine ⟨rfl, ?_⟩
                refine ⟨_, some 39, .pointer (some ⟨w.heap.size + 1 + 1, q, none⟩), rfl, rfl, ⟨rfl, fun _ => by first | rfl | (simp only [execOp]; go_simp)⟩, ?_⟩
                simp only [Act.put, List.setIfInBounds_toArray, List.set_cons_succ, List.set_cons_zero]
                refine ⟨_, rfl, ?_⟩
                go_wp2_with fail
                refine ⟨rfl, ?_⟩
                show (_ = _) ∧ (_ = _)
                exact ⟨by first | rfl | simp only [Act.put, List.setIfInBounds_toArray, List.set_cons_succ, List.set_cons_zero], rfl⟩
              · refine ⟨_, rfl, ?_⟩
                go_wp2_with fail
                refine ⟨rfl, ?_⟩
                refine ⟨_, rfl, ?_⟩
                go_wp2_with fail
                refine ⟨rfl, ?_⟩
                refine ⟨_, rfl, ?_⟩
                refine Lib.wpList_append_run _ rfl (.tmp 35) (.tmp 37) 38 38 rfl _ _ rfl rfl _ _ rp ?_
                refine ⟨rfl, ?_⟩
                refine ⟨_, some 39, .pointer (some ⟨w.heap.size + 1 + 1, q, none⟩), rfl, rfl, ⟨rfl, fun _ => by first | rfl | (simp only [execOp]; go_simp)⟩, ?_⟩
                simp only [Act.put, List.setIfInBounds_toArray, List.set_cons_succ, List.set_cons_zero]
                refine ⟨_, rfl, ?_⟩
                go_wp2_with fail
                refine ⟨rfl, ?_⟩
                show (_ = _) ∧ (_ = _)
                exact ⟨by first | rfl | simp only [Act.put, List.setIfInBounds_toArray, List.set_cons_succ, List.set_cons_zero], rfl⟩
          · rintro a9 w9 ⟨rfl, rfl⟩
            simp only [Act.put, List.setIfInBounds_toArray, List.set_cons_succ, List.set_cons_zero]
            clear rp q0 q0o y0 y1 f4 g4
            go_wp2_with fail
            go_roundw
            case measure => simp [intOf]; omega
            case rel => exact ⟨j + 1, by omega, by go_num, ⟨_, HN.out⟩⟩
        · obtain rfl : j = S.length := by omega
          have hltz : ¬ (S.length : Int) < (S.length : Int) := by omega
          have hmf : ∀ (fn : Fn) (first cap : Array Value) (W : World), (Instr.makeFunc fn first cap).run Try.prog W = .ok (.func fn first cap) W := fun _ _ _ _ => rfl
          have hq := HD.qs
          simp only [List.take_length] at hq
          have hof := of_any 121 (enters_of Try.func121 (by kernel_rfl) rfl) (.pointer (some ⟨w.heap.size, 0, none⟩)) (.pointer (some ⟨w.heap.size + 1 + 1, 0, none⟩)) (.pointer (some ⟨w.heap.size + 1, 0, none⟩)) (fun i l => buildC room k l (S.filter fun c => decide (q7 k c = i))) n0 g b l room wr (HIX.out.below HD.bel) HR.out (fun i l' _ h' => build_right k l' _ h')
            (fun i hi l' W hr' hix' hb => drawnClos_any (by omega) (HIH.out (by omega)) hi l' W hr' hix' (HD.mkr.kp hb.kp) (hq.kp hb.kp) (HD.lev.kp hb.kp) (Nat.le_trans (List.length_filter_le _ _) hSl) (fun s hs => HSB.out s (List.mem_filter.1 hs).1))
          have hzz : four room (fun i l => buildC room k l (S.filter fun c => decide (q7 k c = i))) l = z := by
            rw [HZ.out]
            show _ = if S = [] then _ else _
            rw [if_neg HS0.out]
          rw [hzz] at hof
          have m0 := HD.mkr.c
          have HB := Lib.hid (BelK.of HD.bel hn0)
          obtain ⟨m, p, ee⟩ := z
          clear HD HH hq hzz hlt hj
          go_wp2_with fail
          refine hof.mono ?_
          rintro e w1 ⟨rfl, hi1, hb1⟩
          have HI := Lib.hid hi1
          have HBF := Lib.hid (HB.out.trans hb1)
          clear hof hi1 hb1 m0 hmf
          go_wp2_with fail
          go_ret2
          exact ⟨rfl, HI.out, HBF.out⟩
end Go.Proofs.Ytikgnjcjbjafaaa
namespace Go.Proofs.Ytikgnjcjbjafaaa
set_option maxRecDepth 100000
set_option linter.unusedVariables false
set_option linter.unusedSimpArgs false
open Go.RowKit Go.Sort

set_option maxHeartbeats 8000000 in
set_option maxRecDepth 100000 in
theorem made_any1 (F : Nat) (eg : ∀ args w, (callFunc F args).run Try.prog w = .ok (.enter F args) w) (k1 : Value) (z : List Nd × Int × Int) (A : Option Addr) (l : List Nd) (c : Nat) (room : Int) (w : World) (hR : RdN w w.heap.size A l) (hl : l.length ≤ 1000000) (hc : l.length ≤ c)
    (hmade : right6 l room = true → ∀ (g b : Nat) (W : World), Below w.heap.size w W → Ix (w.heap.size + 2) W g b l room → w.heap.size + 2 ≤ W.heap.size → Calls Try.prog F #[makerV g, k1] W (IxK z (w.heap.size + 2) g b room W)) :
    Calls Try.prog 50 #[storeV A l.length c room, .func (.func F) #[] #[k1]] w (PutR (grown6 l room z) room w) := by
  have HH0 := Lib.hid (empHead_0 w A l.length c room)
  have hs0 := HH0.out.s0
  have hs1 := HH0.out.s1
  have hidx := indexOf_any A l c room _ ((hR.below HH0.out.bel (Nat.le_refl _)).more HH0.out.bel.size) hl hc
  have HMD := Lib.hid hmade
  unfold storeV IndexR at hidx
  unfold storeV
  clear hmade
  cases hr : right6 l room with
  | false =>
    have hz : grown6 l room z = (l, 0, 1) := by unfold grown6; rw [hr]; rfl
    rw [hz]
    rw [hr] at hidx
    clear hz hr
    go_enter Try.func50, Try.ntmps50
    go_wp2_with (go_at_call 85; refine hidx.mono ?_; rintro e w1 ⟨hb1, (⟨_, rfl⟩ | ⟨hh, _⟩)⟩; rotate_left; exact absurd hh (by decide); have H1 := HH0.out.below hb1; have H2 := Lib.hid (H1.below ((Below.refl w1.heap.size w1).alloc (Nat.le_refl _) (.cells #[.slice none 0 0, .int .i64 0, .map none] 115))); have s0 := H2.out.s0; have s1 := H2.out.s1; have r0 := H2.out.r0; have r1 := H2.out.r1; have f0 := H2.out.free 0; have f1 := H2.out.free 1; have ht := Lib.hid (H2.out.told (.slice A l.length c) (.int .i64 room)); clear hidx hb1 hs0 hs1 H1)
    refine bodyPost_ret (results_cell3 rfl _ _ _ _ _ _ _ rfl ht.out.1 Try.underlying27 rfl (by kernel_rfl)) rfl ?_
    exact ⟨_, rfl, ⟨A, c, rfl, hc, (hR.below ht.out.2 (Nat.le_refl _)).more ht.out.2.size⟩, ht.out.2⟩
  | true =>
    rw [hr] at hidx
    have hz : grown6 l room z = (if z.2.2 = 0 then z else (l, 0, z.2.2)) := by unfold grown6; rw [hr]; rfl
    rw [hz]
    have HMM := Lib.hid (HMD.out hr)
    have h2 := (right_iff.1 hr).two
    clear hz hr HMD
    obtain ⟨m, q, ee⟩ := z
    obtain ⟨y, hy⟩ : ∃ y, y = (if ee = 0 then (m, q, ee) else (l, 0, ee)) := ⟨_, rfl⟩
    simp only
    rw [← hy]
    have HY := Lib.hid hy
    clear hy
    go_enter Try.func50, Try.ntmps50
    go_wp2_with fail
    refine hidx.mono ?_
    rintro e w1 ⟨hb1, (⟨hh, _⟩ | ⟨_, v, b, D, rfl, hown, hmap, hsays, hbB⟩)⟩
    · exact absurd hh (by decide)
    obtain ⟨q1, cap, rfl, hcap⟩ := ownN_val hown (by omega)
    have hsz := HH0.out.size
    have H1 := HH0.out.below hb1
    have hbx : Below w1.heap.size w1 (w1.alloc (.cells #[.slice (some ⟨q1, 0, none⟩) l.length cap, .int .i64 room, .map (some b)] 115)) := (Below.refl _ _).alloc (Nat.le_refl _) _
    have H2 := Lib.hid (H1.below hbx)
    have hn2 : w.heap.size + 2 ≤ w1.heap.size := H1.size
    have HX : Hid (Ix (w.heap.size + 2) (w1.alloc (.cells #[.slice (some ⟨q1, 0, none⟩) l.length cap, .int .i64 room, .map (some b)] 115)) w1.heap.size b l room) := ix_boxed (ownN_low hown hsz) hmap hsays (by omega) hn2
    have hcall := HMM.out w1.heap.size b (w1.alloc (.cells #[.slice (some ⟨q1, 0, none⟩) l.length cap, .int .i64 room, .map (some b)] 115)) H2.out.bel HX.out (by simp; omega)
    clear hidx hb1 hs0 hs1 H1 hown hmap hsays hbx hbB
    go_wp2_with fail
    refine hcall.mono ?_
    rintro e w2 ⟨rfl, hi2, hb2k⟩
    have hb2 := hb2k.bel
    clear hb2k
    have hbel2 := H2.out
    have H3 : EmpHead w w2 A l.length c room := ⟨(hb2.block _ (by omega)).trans hbel2.store, (hb2.block _ (by omega)).trans hbel2.res, hbel2.bel.trans (hb2.mono (by omega))⟩
    have HI2 := Lib.hid hi2
    clear hcall hb2 hbel2 hi2 HX HMM H2
    have s0 := H3.s0
    have s1 := H3.s1
    have r0 := H3.r0
    have r1 := H3.r1
    have f0 := H3.free 0
    have f1 := H3.free 1
    by_cases he : ee = 0
    · have hy := HY.out
      rw [if_pos he] at hy
      subst hy he
      obtain ⟨v2, D2, hI⟩ := HI2.out
      have g0 := hI.row.c0
      have g1 := hI.row.c1
      have hm : 0 < m.length ∨ m = [] := by cases m <;> simp
      have hv : ∃ B d, v2 = .slice B m.length d ∧ m.length ≤ d ∧ NowN w2 B m := hI.own.reads
      obtain ⟨B, d, rfl, hd, hNow⟩ := hv
      have hlow : ∀ x, (Value.slice B m.length d).ownBlock = some x → w.heap.size + 2 ≤ x := fun x hx => (ownN_kind hI.own x hx).1
      have ht := Lib.hid (H3.told (.slice B m.length d) (.int .i64 room))
      have hne : (Value.slice B m.length d).ownBlock = none ∨ (Value.slice B m.length d).ownBlock ≠ some (w.heap.size + 1) := by
        cases hx : (Value.slice B m.length d).ownBlock with
        | none => exact .inl rfl
        | some x => exact .inr (fun e => by injection e with e; have := hlow x hx; omega)
      have hfin := World.ownsRow.kept (World.ownsRow.kept hI.own (but_set (b := w.heap.size + 1) 0 (.slice B m.length d)) hne) (but_set (b := w.heap.size + 1) 1 (.int .i64 room)) hne
      have HFN := Lib.hid (OwnN.reads hfin)
      clear hI hNow hlow hne hfin H3
      go_wp2
      refine bodyPost_ret (results_cell3 rfl _ _ _ _ _ _ _ rfl ht.out.1 Try.underlying27 rfl (by kernel_rfl)) rfl ?_
      exact ⟨_, rfl, HFN.out, ht.out.2⟩
    · have hy := HY.out
      rw [if_neg he] at hy
      subst hy
      have ht := Lib.hid (H3.told (.slice A l.length c) (.int .i64 room))
      clear H3
      go_wp2
      refine bodyPost_ret (results_cell3 rfl _ _ _ _ _ _ _ rfl ht.out.1 Try.underlying27 rfl (by kernel_rfl)) rfl ?_
      exact ⟨_, rfl, ⟨A, c, rfl, hc, (hR.below ht.out.2 (Nat.le_refl _)).more ht.out.2.size⟩, ht.out.2⟩

set_option maxHeartbeats 8000000 in
set_option maxRecDepth 100000 in
theorem made_any2 (F : Nat) (eg : ∀ args w, (callFunc F args).run Try.prog w = .ok (.enter F args) w) (k1 k2 : Value) (z : List Nd × Int × Int) (A : Option Addr) (l : List Nd) (c : Nat) (room : Int) (w : World) (hR : RdN w w.heap.size A l) (hl : l.length ≤ 1000000) (hc : l.length ≤ c)
    (hmade : right6 l room = true → ∀ (g b : Nat) (W : World), Below w.heap.size w W → Ix (w.heap.size + 2) W g b l room → w.heap.size + 2 ≤ W.heap.size → Calls Try.prog F #[makerV g, k1, k2] W (IxK z (w.heap.size + 2) g b room W)) :
    Calls Try.prog 50 #[storeV A l.length c room, .func (.func F) #[] #[k1, k2]] w (PutR (grown6 l room z) room w) := by
  have HH0 := Lib.hid (empHead_0 w A l.length c room)
  have hs0 := HH0.out.s0
  have hs1 := HH0.out.s1
  have hidx := indexOf_any A l c room _ ((hR.below HH0.out.bel (Nat.le_refl _)).more HH0.out.bel.size) hl hc
  have HMD := Lib.hid hmade
  unfold storeV IndexR at hidx
  unfold storeV
  clear hmade
  cases hr : right6 l room with
  | false =>
    have hz : grown6 l room z = (l, 0, 1) := by unfold grown6; rw [hr]; rfl
    rw [hz]
    rw [hr] at hidx
    clear hz hr
    go_enter Try.func50, Try.ntmps50
    go_wp2_with (go_at_call 85; refine hidx.mono ?_; rintro e w1 ⟨hb1, (⟨_, rfl⟩ | ⟨hh, _⟩)⟩; rotate_left; exact absurd hh (by decide); have H1 := HH0.out.below hb1; have H2 := Lib.hid (H1.below ((Below.refl w1.heap.size w1).alloc (Nat.le_refl _) (.cells #[.slice none 0 0, .int .i64 0, .map none] 115))); have s0 := H2.out.s0; have s1 := H2.out.s1; have r0 := H2.out.r0; have r1 := H2.out.r1; have f0 := H2.out.free 0; have f1 := H2.out.free 1; have ht := Lib.hid (H2.out.told (.slice A l.length c) (.int .i64 room)); clear hidx hb1 hs0 hs1 H1)
    refine bodyPost_ret (results_cell3 rfl _ _ _ _ _ _ _ rfl ht.out.1 Try.underlying27 rfl (by kernel_rfl)) rfl ?_
    exact ⟨_, rfl, ⟨A, c, rfl, hc, (hR.below ht.out.2 (Nat.le_refl _)).more ht.out.2.size⟩, ht.out.2⟩
  | true =>
    rw [hr] at hidx
    have hz : grown6 l room z = (if z.2.2 = 0 then z else (l, 0, z.2.2)) := by unfold grown6; rw [hr]; rfl
    rw [hz]
    have HMM := Lib.hid (HMD.out hr)
    have h2 := (right_iff.1 hr).two
    clear hz hr HMD
    obtain ⟨m, q, ee⟩ := z
    obtain ⟨y, hy⟩ : ∃ y, y = (if ee = 0 then (m, q, ee) else (l, 0, ee)) := ⟨_, rfl⟩
    simp only
    rw [← hy]
    have HY := Lib.hid hy
    clear hy
    go_enter Try.func50, Try.ntmps50
    go_wp2_with fail
    refine hidx.mono ?_
    rintro e w1 ⟨hb1, (⟨hh, _⟩ | ⟨_, v, b, D, rfl, hown, hmap, hsays, hbB⟩)⟩
    · exact absurd hh (by decide)
    obtain ⟨q1, cap, rfl, hcap⟩ := ownN_val hown (by omega)
    have hsz := HH0.out.size
    have H1 := HH0.out.below hb1
    have hbx : Below w1.heap.size w1 (w1.alloc (.cells #[.slice (some ⟨q1, 0, none⟩) l.length cap, .int .i64 room, .map (some b)] 115)) := (Below.refl _ _).alloc (Nat.le_refl _) _
    have H2 := Lib.hid (H1.below hbx)
    have hn2 : w.heap.size + 2 ≤ w1.heap.size := H1.size
    have HX : Hid (Ix (w.heap.size + 2) (w1.alloc (.cells #[.slice (some ⟨q1, 0, none⟩) l.length cap, .int .i64 room, .map (some b)] 115)) w1.heap.size b l room) := ix_boxed (ownN_low hown hsz) hmap hsays (by omega) hn2
    have hcall := HMM.out w1.heap.size b (w1.alloc (.cells #[.slice (some ⟨q1, 0, none⟩) l.length cap, .int .i64 room, .map (some b)] 115)) H2.out.bel HX.out (by simp; omega)
    clear hidx hb1 hs0 hs1 H1 hown hmap hsays hbx hbB
    go_wp2_with fail
    refine hcall.mono ?_
    rintro e w2 ⟨rfl, hi2, hb2k⟩
    have hb2 := hb2k.bel
    clear hb2k
    have hbel2 := H2.out
    have H3 : EmpHead w w2 A l.length c room := ⟨(hb2.block _ (by omega)).trans hbel2.store, (hb2.block _ (by omega)).trans hbel2.res, hbel2.bel.trans (hb2.mono (by omega))⟩
    have HI2 := Lib.hid hi2
    clear hcall hb2 hbel2 hi2 HX HMM H2
    have s0 := H3.s0
    have s1 := H3.s1
    have r0 := H3.r0
    have r1 := H3.r1
    have f0 := H3.free 0
    have f1 := H3.free 1
    by_cases he : ee = 0
    · have hy := HY.out
      rw [if_pos he] at hy
      subst hy he
      obtain ⟨v2, D2, hI⟩ := HI2.out
      have g0 := hI.row.c0
      have g1 := hI.row.c1
      have hm : 0 < m.length ∨ m = [] := by cases m <;> simp
      have hv : ∃ B d, v2 = .slice B m.length d ∧ m.length ≤ d ∧ NowN w2 B m := hI.own.reads
      obtain ⟨B, d, rfl, hd, hNow⟩ := hv
      have hlow : ∀ x, (Value.slice B m.length d).ownBlock = some x → w.heap.size + 2 ≤ x := fun x hx => (ownN_kind hI.own x hx).1
      have ht := Lib.hid (H3.told (.slice B m.length d) (.int .i64 room))
      have hne : (Value.slice B m.length d).ownBlock = none ∨ (Value.slice B m.length d).ownBlock ≠ some (w.heap.size + 1) := by
        cases hx : (Value.slice B m.length d).ownBlock with
        | none => exact .inl rfl
        | some x => exact .inr (fun e => by injection e with e; have := hlow x hx; omega)
      have hfin := World.ownsRow.kept (World.ownsRow.kept hI.own (but_set (b := w.heap.size + 1) 0 (.slice B m.length d)) hne) (but_set (b := w.heap.size + 1) 1 (.int .i64 room)) hne
      have HFN := Lib.hid (OwnN.reads hfin)
      clear hI hNow hlow hne hfin H3
      go_wp2
      refine bodyPost_ret (results_cell3 rfl _ _ _ _ _ _ _ rfl ht.out.1 Try.underlying27 rfl (by kernel_rfl)) rfl ?_
      exact ⟨_, rfl, HFN.out, ht.out.2⟩
    · have hy := HY.out
      rw [if_neg he] at hy
      subst hy
      have ht := Lib.hid (H3.told (.slice A l.length c) (.int .i64 room))
      clear H3
      go_wp2
      refine bodyPost_ret (results_cell3 rfl _ _ _ _ _ _ _ rfl ht.out.1 Try.underlying27 rfl (by kernel_rfl)) rfl ?_
      exact ⟨_, rfl, ⟨A, c, rfl, hc, (hR.below ht.out.2 (Nat.le_refl _)).more ht.out.2.size⟩, ht.out.2⟩

set_option maxHeartbeats 8000000 in
set_option maxRecDepth 100000 in
theorem made_any3 (F : Nat) (eg : ∀ args w, (callFunc F args).run Try.prog w = .ok (.enter F args) w) (k1 k2 k3 : Value) (z : List Nd × Int × Int) (A : Option Addr) (l : List Nd) (c : Nat) (room : Int) (w : World) (hR : RdN w w.heap.size A l) (hl : l.length ≤ 1000000) (hc : l.length ≤ c)
    (hmade : right6 l room = true → ∀ (g b : Nat) (W : World), Below w.heap.size w W → Ix (w.heap.size + 2) W g b l room → w.heap.size + 2 ≤ W.heap.size → Calls Try.prog F #[makerV g, k1, k2, k3] W (IxK z (w.heap.size + 2) g b room W)) :
    Calls Try.prog 50 #[storeV A l.length c room, .func (.func F) #[] #[k1, k2, k3]] w (PutR (grown6 l room z) room w) := by
  have HH0 := Lib.hid (empHead_0 w A l.length c room)
  have hs0 := HH0.out.s0
  have hs1 := HH0.out.s1
  have hidx := indexOf_any A l c room _ ((hR.below HH0.out.bel (Nat.le_refl _)).more HH0.out.bel.size) hl hc
  have HMD := Lib.hid hmade
  unfold storeV IndexR at hidx
  unfold storeV
  clear hmade
  cases hr : right6 l room with
  | false =>
    have hz : grown6 l room z = (l, 0, 1) := by unfold grown6; rw [hr]; rfl
    rw [hz]
    rw [hr] at hidx
    clear hz hr
    go_enter Try.func50, Try.ntmps50
    go_wp2_with (go_at_call 85; refine hidx.mono ?_; rintro e w1 ⟨hb1, (⟨_, rfl⟩ | ⟨hh, _⟩)⟩; rotate_left; exact absurd hh (by decide); have H1 := HH0.out.below hb1; have H2 := Lib.hid (H1.below ((Below.refl w1.heap.size w1).alloc (Nat.le_refl _) (.cells #[.slice none 0 0, .int .i64 0, .map none] 115))); have s0 := H2.out.s0; have s1 := H2.out.s1; have r0 := H2.out.r0; have r1 := H2.out.r1; have f0 := H2.out.free 0; have f1 := H2.out.free 1; have ht := Lib.hid (H2.out.told (.slice A l.length c) (.int .i64 room)); clear hidx hb1 hs0 hs1 H1)
    refine bodyPost_ret (results_cell3 rfl _ _ _ _ _ _ _ rfl ht.out.1 Try.underlying27 rfl (by kernel_rfl)) rfl ?_
    exact ⟨_, rfl, ⟨A, c, rfl, hc, (hR.below ht.out.2 (Nat.le_refl _)).more ht.out.2.size⟩, ht.out.2⟩
  | true =>
    rw [hr] at hidx
    have hz : grown6 l room z = (if z.2.2 = 0 then z else (l, 0, z.2.2)) := by unfold grown6; rw [hr]; rfl
    rw [hz]
    have HMM := Lib.hid (HMD.out hr)
    have h2 := (right_iff.1 hr).two
    clear hz hr HMD
    obtain ⟨m, q, ee⟩ := z
    obtain ⟨y, hy⟩ : ∃ y, y = (if ee = 0 then (m, q, ee) else (l, 0, ee)) := ⟨_, rfl⟩
    simp only
    rw [← hy]
    have HY := Lib.hid hy
    clear hy
    go_enter Try.func50, Try.ntmps50
    go_wp2_with fail
    refine hidx.mono ?_
    rintro e w1 ⟨hb1, (⟨hh, _⟩ | ⟨_, v, b, D, rfl, hown, hmap, hsays, hbB⟩)⟩
    · exact absurd hh (by decide)
    obtain ⟨q1, cap, rfl, hcap⟩ := ownN_val hown (by omega)
    have hsz := HH0.out.size
    have H1 := HH0.out.below hb1
    have hbx : Below w1.heap.size w1 (w1.alloc (.cells #[.slice (some ⟨q1, 0, none⟩) l.length cap, .int .i64 room, .map (some b)] 115)) := (Below.refl _ _).alloc (Nat.le_refl _) _
    have H2 := Lib.hid (H1.below hbx)
    have hn2 : w.heap.size + 2 ≤ w1.heap.size := H1.size
    have HX : Hid (Ix (w.heap.size + 2) (w1.alloc (.cells #[.slice (some ⟨q1, 0, none⟩) l.length cap, .int .i64 room, .map (some b)] 115)) w1.heap.size b l room) := ix_boxed (ownN_low hown hsz) hmap hsays (by omega) hn2
    have hcall := HMM.out w1.heap.size b (w1.alloc (.cells #[.slice (some ⟨q1, 0, none⟩) l.length cap, .int .i64 room, .map (some b)] 115)) H2.out.bel HX.out (by simp; omega)
    clear hidx hb1 hs0 hs1 H1 hown hmap hsays hbx hbB
    go_wp2_with fail
    refine hcall.mono ?_
    rintro e w2 ⟨rfl, hi2, hb2k⟩
    have hb2 := hb2k.bel
    clear hb2k
    have hbel2 := H2.out
    have H3 : EmpHead w w2 A l.length c room := ⟨(hb2.block _ (by omega)).trans hbel2.store, (hb2.block _ (by omega)).trans hbel2.res, hbel2.bel.trans (hb2.mono (by omega))⟩
    have HI2 := Lib.hid hi2
    clear hcall hb2 hbel2 hi2 HX HMM H2
    have s0 := H3.s0
    have s1 := H3.s1
    have r0 := H3.r0
    have r1 := H3.r1
    have f0 := H3.free 0
    have f1 := H3.free 1
    by_cases he : ee = 0
    · have hy := HY.out
      rw [if_pos he] at hy
      subst hy he
      obtain ⟨v2, D2, hI⟩ := HI2.out
      have g0 := hI.row.c0
      have g1 := hI.row.c1
      have hm : 0 < m.length ∨ m = [] := by cases m <;> simp
      have hv : ∃ B d, v2 = .slice B m.length d ∧ m.length ≤ d ∧ NowN w2 B m := hI.own.reads
      obtain ⟨B, d, rfl, hd, hNow⟩ := hv
      have hlow : ∀ x, (Value.slice B m.length d).ownBlock = some x → w.heap.size + 2 ≤ x := fun x hx => (ownN_kind hI.own x hx).1
      have ht := Lib.hid (H3.told (.slice B m.length d) (.int .i64 room))
      have hne : (Value.slice B m.length d).ownBlock = none ∨ (Value.slice B m.length d).ownBlock ≠ some (w.heap.size + 1) := by
        cases hx : (Value.slice B m.length d).ownBlock with
        | none => exact .inl rfl
        | some x => exact .inr (fun e => by injection e with e; have := hlow x hx; omega)
      have hfin := World.ownsRow.kept (World.ownsRow.kept hI.own (but_set (b := w.heap.size + 1) 0 (.slice B m.length d)) hne) (but_set (b := w.heap.size + 1) 1 (.int .i64 room)) hne
      have HFN := Lib.hid (OwnN.reads hfin)
      clear hI hNow hlow hne hfin H3
      go_wp2
      refine bodyPost_ret (results_cell3 rfl _ _ _ _ _ _ _ rfl ht.out.1 Try.underlying27 rfl (by kernel_rfl)) rfl ?_
      exact ⟨_, rfl, HFN.out, ht.out.2⟩
    · have hy := HY.out
      rw [if_neg he] at hy
      subst hy
      have ht := Lib.hid (H3.told (.slice A l.length c) (.int .i64 room))
      clear H3
      go_wp2
      refine bodyPost_ret (results_cell3 rfl _ _ _ _ _ _ _ rfl ht.out.1 Try.underlying27 rfl (by kernel_rfl)) rfl ?_
      exact ⟨_, rfl, ⟨A, c, rfl, hc, (hR.below ht.out.2 (Nat.le_refl _)).more ht.out.2.size⟩, ht.out.2⟩

end Go.Proofs.Ytikgnjcjbjafaaa
namespace Go.Proofs.Ytikgnjcjbjafaaa
set_option maxRecDepth 100000
set_option linter.unusedVariables false
set_option linter.unusedSimpArgs false
open Go.RowKit Go.Sort

/-- what Maker.Make answers -/
def makeZ (room : Int) (l : List Nd) (S : List (Int × Int)) (lev : Int) : List Nd × Int × Int :=
  if (decide (1 ≤ lev) && decide (lev ≤ 42) && Cel.rightB S) = true then
    (if (S.all fun c => insideB (lev.toNat - 1) c) = true then buildC room lev.toNat l (S.map (inwardC (lev.toNat - 1))) else (l, 0, 2))
  else (l, 0, 1)
theorem makeZ_arg {room : Int} {l : List Nd} {S : List (Int × Int)} {lev : Int} (h : ¬ (1 ≤ lev ∧ lev ≤ 42 ∧ Cel.rightB S = true)) : makeZ room l S lev = (l, 0, 1) := by
  unfold makeZ
  rw [if_neg]
  simpa [and_assoc] using h
theorem makeZ_out {room : Int} {l : List Nd} {S : List (Int × Int)} {e : Nat} (h1 : e ≤ 41) (h2 : Cel.rightB S = true) {j : Nat} (hj : j < S.length) (h : insideB e (S.getD j (0, 0)) = false) : makeZ room l S ((e : Int) + 1) = (l, 0, 2) := by
  unfold makeZ
  have e1 : ((e : Int) + 1).toNat = e + 1 := by omega
  rw [e1, decide_eq_true (by omega : 1 ≤ (e : Int) + 1), decide_eq_true (by omega : (e : Int) + 1 ≤ 42), h2]
  simp only [Bool.and_self, if_true]
  rw [if_neg]
  rw [List.all_eq_true]
  intro hall
  have := hall _ (Cel.getD_mem hj)
  rw [show e + 1 - 1 = e by omega, h] at this
  cases this
theorem makeZ_in {room : Int} {l : List Nd} {S : List (Int × Int)} {e : Nat} (h1 : e ≤ 41) (h2 : Cel.rightB S = true) (h : ∀ i, i < S.length → insideB e (S.getD i (0, 0)) = true) : makeZ room l S ((e : Int) + 1) = buildC room (e + 1) l (S.map (inwardC e)) := by
  unfold makeZ
  have e1 : ((e : Int) + 1).toNat = e + 1 := by omega
  rw [e1, decide_eq_true (by omega : 1 ≤ (e : Int) + 1), decide_eq_true (by omega : (e : Int) + 1 ≤ 42), h2]
  simp only [Bool.and_self, if_true]
  rw [if_pos]
  · rfl
  · rw [List.all_eq_true]
    intro c hc
    obtain ⟨i, hi, rfl⟩ := List.getElem_of_mem hc
    have := h i hi
    rwa [List.getD_eq_getElem?_getD, List.getElem?_eq_getElem hi] at this
theorem inB_i64 {c : Int × Int} (h : Cel.inB c = true) : I64 c.1 ∧ I64 c.2 := by
  unfold Cel.inB at h
  rw [decide_eq_true_eq] at h
  unfold I64
  omega
theorem inward_bd {e : Nat} (he : e ≤ 60) {c : Int × Int} (h : insideB e c = true) : 0 ≤ (inwardC e c).1 ∧ (inwardC e c).1 < 2 ^ (e + 1) ∧ 0 ≤ (inwardC e c).2 ∧ (inwardC e c).2 < 2 ^ (e + 1) := by
  unfold insideB at h
  rw [decide_eq_true_eq] at h
  have : (2 : Int) ^ (e + 1) = 2 ^ e * 2 := Int.pow_succ ..
  unfold inwardC
  simp only
  rw [this]
  generalize (2 : Int) ^ e = p at *
  omega
/-- What is known in the loop over cells. -/
structure MkAt (w wr : World) (g q e : Nat) (S : List (Int × Int)) (j : Nat) : Prop where
  mkr : MR wr w.heap.size g
  row : Cel.Row wr q 32 q S.length S.length (Cel.filled (S.map (inwardC e)) j)
  bel : Below w.heap.size w wr
  all : ∀ i, i < j → insideB e (S.getD i (0, 0)) = true
  hq : w.heap.size < q
theorem MkAt.below {w wr w' : World} {g q e : Nat} {S : List (Int × Int)} {j : Nat} (h : MkAt w wr g q e S j) (hb : Below wr.heap.size wr w') : MkAt w w' g q e S j :=
  ⟨h.mkr.below hb, h.row.below hb, Qt.more h.bel h.bel.size hb, h.all, h.hq⟩
theorem MkAt.next {w wr : World} {g q e : Nat} {S : List (Int × Int)} {j : Nat} (h : MkAt w wr g q e S j) (hj : j < S.length) {c : Int × Int} (hc : c = S.getD j (0, 0)) (hin : insideB e c = true) :
    MkAt w ((wr.setCell ⟨q, j * 2, none⟩ (.int .i64 (inwardC e c).1)).setCell ⟨q, j * 2 + 1, none⟩ (.int .i64 (inwardC e c).2)) g q e S (j + 1) := by
  have hl : (S.map (inwardC e)).length = S.length := List.length_map ..
  have hst := h.row.store j (inwardC e c).1 (inwardC e c).2
  have hg : (S.map (inwardC e)).getD j (0, 0) = inwardC e c := by
    rw [List.getD_eq_getElem?_getD, List.getElem?_map, List.getElem?_eq_getElem hj, hc, List.getD_eq_getElem?_getD, List.getElem?_eq_getElem hj]
    rfl
  have hf := Cel.filled_step (l := S.map (inwardC e)) (k := j) (by rw [hl]; exact hj)
  rw [hg] at hf
  rw [show ((inwardC e c).1, (inwardC e c).2) = inwardC e c from rfl, hf] at hst
  have hq := h.hq
  refine ⟨?_, hst, (h.bel.setCell (by show w.heap.size ≤ q; omega) _).setCell (by show w.heap.size ≤ q; omega) _, fun i hi => ?_, hq⟩
  · have := h.mkr
    unfold MR at this ⊢
    rw [Below.heap_setCell _ _ _ _ (by show w.heap.size ≠ q; omega), Below.heap_setCell _ _ _ _ (by show w.heap.size ≠ q; omega)]
    exact this
  · rcases (by omega : i < j ∨ i = j) with h1 | rfl
    · exact h.all i h1
    · rw [← hc]; exact hin
set_option maxHeartbeats 16000000 in
theorem makerMake_any (room : Int) (n0 g b : Nat) (l : List Nd) (A : Option Addr) (S : List (Int × Int)) (c : Nat) (lev : Int) (w : World) (hix : Ix n0 w g b l room) (hr : Right6 l room) (hS : RdC w w.heap.size A S) (hSl : S.length ≤ 1000000) (hc : S.length ≤ c) :
    Calls Try.prog 84 #[makerV g, .slice A S.length c, .int .i64 lev] w (IxK (makeZ room l S lev) n0 g b room w) := by
  have hn0 := hix.hB
  have hal1 := (Below.refl w.heap.size w).alloc (Nat.le_refl _) (.cells #[.pointer (some ⟨g, 0, none⟩)] 84)
  have hm1 : MR (w.alloc (.cells #[.pointer (some ⟨g, 0, none⟩)] 84)) w.heap.size g := heap_alloc_new w _
  have HIX := Lib.hid hix
  have HAL := Lib.hid hal1
  have HN := Lib.hid hn0
  clear hix
  by_cases h1 : lev < 1
  · rw [makeZ_arg (by omega)]
    clear hr hS hm1 hal1 hn0
    go_enter Try.func84, Try.ntmps84
    go_wp2_with fail
    go_ret2
    exact ⟨rfl, HIX.out.below HAL.out, .of HAL.out HN.out⟩
  by_cases h2 : 42 < lev
  · rw [makeZ_arg (by omega)]
    clear hr hS hm1 hal1 hn0
    go_enter Try.func84, Try.ntmps84
    go_wp2_with fail
    go_ret2
    exact ⟨rfl, HIX.out.below HAL.out, .of HAL.out HN.out⟩
  obtain ⟨e, rfl⟩ : ∃ e : Nat, lev = (e : Int) + 1 := ⟨(lev - 1).toNat, by omega⟩
  have he : e ≤ 41 := by omega
  have hrt := Cel.right_any A S c (w.alloc (.cells #[.pointer (some ⟨g, 0, none⟩)] 84)) ((Cel.Rd.below hS hal1 (Nat.le_refl _)).more hal1.size) hSl hc
  cases hb : Cel.rightB S with
  | false =>
    rw [makeZ_arg (by rw [hb]; simp)]
    rw [hb] at hrt
    clear hr hS hm1 hal1 hn0 hb
    go_enter Try.func84, Try.ntmps84
    go_wp2_with (go_at_call 110; refine hrt.mono ?_; rintro r w1 ⟨rfl, hb1⟩; have HB1 := Lib.hid (Qt.more HAL.out HAL.out.size hb1); clear hb1 hrt)
    go_ret2
    exact ⟨rfl, HIX.out.below HB1.out, .of HB1.out HN.out⟩
  | true =>
    rw [hb] at hrt
    obtain ⟨hS2, hSin, _⟩ := (Cel.rightB_iff S).1 hb
    obtain ⟨z, hz⟩ : ∃ z, z = makeZ room l S ((e : Int) + 1) := ⟨_, rfl⟩
    rw [← hz]
    have HZ := Lib.hid hz
    have HRB := Lib.hid hb
    have HS := Lib.hid hS
    have HR := Lib.hid hr
    have HIN := Lib.hid hSin
    obtain ⟨i0, hi, hz0, hz1, hz2⟩ := info_parts Cel.infoCell
    have hmk : ∀ u : World, (Instr.makeSlice 38 (.int .i64 (S.length : Int)) (.int .i64 (S.length : Int))).run Try.prog u = .ok (.slice (some ⟨u.heap.size, 0, none⟩) S.length S.length) (u.alloc (.cells (madeCells #[.int .i64 0, .int .i64 0] (S.length * 2)) 32)) := fun u => by
      have h := run_make (P := Try.prog) u 38 32 i0 _ Try.underlying38 hi hz0 .i64 .i64 (S.length : Int) (S.length : Int) (by omega) (Int.le_refl _) (by rw [hz2]; omega) (by omega)
      simpa [hz1, Value.cells] using h
    clear hr hS hb hz hi hz0 hz1 hz2 hSin
    have hMA : ∀ w1, Below (w.alloc (.cells #[.pointer (some ⟨g, 0, none⟩)] 84)).heap.size (w.alloc (.cells #[.pointer (some ⟨g, 0, none⟩)] 84)) w1 → MkAt w (w1.alloc (.cells (madeCells #[.int .i64 0, .int .i64 0] (S.length * 2)) 32)) g w1.heap.size e S 0 := by
      intro w1 hb1
      have hs1 : (w.alloc (.cells #[.pointer (some ⟨g, 0, none⟩)] 84)).heap.size = w.heap.size + 1 := by simp
      have hal := (Below.refl w1.heap.size w1).alloc (Nat.le_refl _) (.cells (madeCells #[.int .i64 0, .int .i64 0] (S.length * 2)) 32)
      have hsz := hb1.size
      have hB1 := Qt.more hal1 hal1.size hb1
      refine ⟨(hm1.below hb1).below hal, ?_, Qt.more hB1 hB1.size hal, fun i hi => absurd hi (Nat.not_lt_zero i), by omega⟩
      have := Cel.Row.made w1 w1.heap.size 32 S.length (Nat.le_refl _) hSl
      rw [Cel.filled_zero, List.length_map]
      exact this
    have HMA := Lib.hid hMA
    clear hMA hal1 hm1
    go_enter Try.func84, Try.ntmps84
    go_wp2_with fail
    refine hrt.mono ?_
    rintro r w1 ⟨rfl, hb1⟩
    have HM0 := Lib.hid (HMA.out w1 hb1)
    clear hrt HMA hb1
    go_wp2_with fail
    clear hmk
    generalize (w1.alloc (.cells (madeCells #[.int .i64 0, .int .i64 0] (S.length * 2)) 32)) = w2 at *
    generalize w1.heap.size = q at *
    go_loopw [27] (fun i wr => ∃ j : Nat, j ≤ S.length ∧ i = .int .i64 j ∧ Hid (MkAt w wr g q e S j)) (fun i _ => S.length - (intOf i).toNat)
    case atStart => exact ⟨0, Nat.zero_le _, rfl, HM0.out⟩
    case round =>
      obtain ⟨j, hj, rfl, HM⟩ := hrel
      by_cases hlt : j < S.length
      · have hltz : (j : Int) < (S.length : Int) := by omega
        obtain ⟨b1, o1, rfl, hbb, hr1⟩ := Cel.Rd.at_ HS.out (by omega)
        obtain ⟨r0, r1⟩ := hr1 j hlt
        have c0 := Qt.keep HM.out.bel r0
        have c1 := Qt.keep HM.out.bel r1
        obtain ⟨hx, hy⟩ := inB_i64 (HIN.out (S.getD j (0, 0)) (Cel.getD_mem hlt))
        obtain ⟨⟨x, y⟩, hxy⟩ : ∃ c, c = S.getD j (0, 0) := ⟨_, rfl⟩
        rw [← hxy] at c0 c1 hx hy
        dsimp only at c0 c1 hx hy
        have hal := (Below.refl wr.heap.size wr).alloc (Nat.le_refl _) (.cells #[.int .i64 x, .int .i64 y] 32)
        have HM1 := Lib.hid (HM.out.below hal)
        have HC1 := Lib.hid (clB_new (w := wr) (x, y))
        have x0 := HC1.out.c0
        have x1 := HC1.out.c1
        dsimp only at x0 x1
        obtain ⟨wo, rfl⟩ : ∃ wo : World, wo = wr := ⟨_, rfl⟩
        have HXY := Lib.hid hxy
        clear hr1 r0 r1 hal HM hxy
        go_wp2_with fail
        clear x0 x1 c0 c1
        generalize (wo.alloc (.cells #[.int .i64 x, .int .i64 y] 32)) = w5 at *
        generalize wo.heap.size = cb at *
        have hwi := within_any e (by omega) (x, y) hx hy w5
        cases hin : insideB e (x, y) with
        | false =>
          rw [hin] at hwi
          refine hwi.mono ?_
          rintro r w6 ⟨rfl, hb6⟩
          have HM6 := Lib.hid (HM1.out.below hb6)
          have hzz := HZ.out
          rw [makeZ_out he HRB.out hlt (by rw [← HXY.out]; exact hin)] at hzz
          clear hwi hb6
          subst hzz
          go_wp2_with fail
          go_ret2
          exact ⟨rfl, HIX.out.below HM6.out.bel, .of HM6.out.bel HN.out⟩
        | true =>
          rw [hin] at hwi
          refine hwi.mono ?_
          rintro r w6 ⟨rfl, hb6⟩
          have HM6 := Lib.hid (HM1.out.below hb6)
          have HC6 := Lib.hid (HC1.out.below hb6)
          have x0 := HC6.out.c0
          have x1 := HC6.out.c1
          dsimp only at x0 x1
          have hiw := inward_any e (by omega) (x, y) hin w6
          have HINN := Lib.hid hin
          clear hwi hb6 hin HM1 HC1
          go_wp2_with fail
          refine hiw.mono ?_
          rintro r w7 ⟨rfl, hb7⟩
          have hM7 := HM6.out.below hb7
          have HN8 := Lib.hid (hM7.next hlt HXY.out HINN.out)
          have f0 := hM7.row.free (j * 2)
          have f1 := hM7.row.free (j * 2 + 1)
          obtain ⟨g0, g1⟩ := hM7.row.cell hlt
          clear hiw hb7 hM7 x0 x1
          unfold cellV
          unfold inwardC at HN8 ⊢
          dsimp only at HN8 ⊢
          go_wp2_with fail
          go_roundw
          case measure => simp [intOf]; omega
          case rel => exact ⟨j + 1, by omega, by go_num, HN8.out⟩
      · obtain rfl : j = S.length := by omega
        have hltz : ¬ (S.length : Int) < (S.length : Int) := by omega
        have hzz := HZ.out
        rw [makeZ_in he HRB.out HM.out.all] at hzz
        have hl : (S.map (inwardC e)).length = S.length := List.length_map ..
        have hrow := HM.out.row
        rw [← hl, Cel.filled_all] at hrow
        have hdr := drawn_any room n0 g b (e + 1) (by omega) l (some ⟨q, 0, none⟩) (S.map (inwardC e)) S.length wr (HIX.out.below HM.out.bel) HR.out hrow.rd (by omega) (fun s hs => by
          obtain ⟨c, hc, rfl⟩ := List.mem_map.1 hs
          obtain ⟨i, hi, rfl⟩ := List.getElem_of_mem hc
          have h1 := HM.out.all i hi
          rw [List.getD_eq_getElem?_getD, List.getElem?_eq_getElem hi] at h1
          have h2 := inward_bd (by omega) h1
          have h3 := (pow_bd7 (e := e + 1) (by omega)).2
          generalize (2 : Int) ^ (e + 1) = p at *
          simp only [Option.getD_some] at h2
          omega)
        rw [← hzz, hl, show ((e + 1 : Nat) : Int) = (e : Int) + 1 by omega] at hdr
        have m0 := HM.out.mkr.c
        have HB := Lib.hid (BelK.of HM.out.bel HN.out)
        obtain ⟨m, p, ee⟩ := z
        clear HM hlt hj hzz hl hrow
        go_wp2_with fail
        refine hdr.mono ?_
        rintro r w1 ⟨rfl, hi1, hb1⟩
        have HI := Lib.hid hi1
        have HBF := Lib.hid (HB.out.trans hb1)
        clear hdr hi1 hb1 m0
        go_wp2_with fail
        go_ret2
        exact ⟨rfl, HI.out, HBF.out⟩
end Go.Proofs.Ytikgnjcjbjafaaa
