/-
  Texts that the claims of this seat share, part 5.
-/
import Derived.Test.YtacpncmdgkljdaaDoorB03
import Derived.Test.YtacpncmdgkljdaaDoorB04
import Derived.Test.YtacpncmdgkljdaaDoorB02
import Derived.WideKeyElems
set_option linter.unusedVariables false
set_option linter.unusedSimpArgs false
namespace Go.Proofs.YtacpncmdgkljdaaDoor
set_option linter.unusedVariables false
set_option linter.unusedSimpArgs false
open Go.RowKit Go.Sort

/-- The pen at block g: where it is, its cells, in rows from block B on. -/
structure Pen (w : World) (g B : Nat) (x y : Nat) (out : List (Int × Int)) (v : Value) : Prop where
  row : w.heap[g]? = some (.cells #[.int .i64 x, .int .i64 y, v] 93 (0, 0))
  own : Cel.Own w B 49 v out
  ahead : g < B
theorem Pen.lt {w : World} {g B x y : Nat} {out : List (Int × Int)} {v : Value} (h : Pen w g B x y out v) : g < w.heap.size := by
  rcases Nat.lt_or_ge g w.heap.size with h' | h'
  · exact h'
  · have := h.row; rw [Array.getElem?_eq_none h'] at this; cases this
theorem Pen.x0 {w : World} {g B x y : Nat} {out : List (Int × Int)} {v : Value} (h : Pen w g B x y out v) : w.cell? ⟨g, 0, none⟩ = some (.int .i64 x) := by rw [Lib.cell_of_heap h.row]; rfl
theorem Pen.y0 {w : World} {g B x y : Nat} {out : List (Int × Int)} {v : Value} (h : Pen w g B x y out v) : w.cell? ⟨g, 1, none⟩ = some (.int .i64 y) := by rw [Lib.cell_of_heap h.row]; rfl
theorem Pen.v0 {w : World} {g B x y : Nat} {out : List (Int × Int)} {v : Value} (h : Pen w g B x y out v) : w.cell? ⟨g, 2, none⟩ = some v := by rw [Lib.cell_of_heap h.row]; rfl
theorem Pen.free {w : World} {g B x y : Nat} {out : List (Int × Int)} {v : Value} (h : Pen w g B x y out v) (j : Nat) : w.frozen? ⟨g, j, none⟩ = false := Lib.frozen_of_heap h.row j
theorem Pen.own_ne {w : World} {g B x y : Nat} {out : List (Int × Int)} {v : Value} (h : Pen w g B x y out v) : v.ownBlock = none ∨ v.ownBlock ≠ some g := by
  cases e : v.ownBlock with
  | none => exact .inl rfl
  | some b => exact .inr (fun h2 => by injection h2 with h2; have := (World.ownsRow.lt h.own b e).1; have := h.ahead; omega)
theorem cown_kept {w w' : World} {b B T : Nat} {v : Value} {l : List (Int × Int)} (h : Cel.Own w B T v l) (hk : w.grownBy w' (some b)) (hne : v.ownBlock = none ∨ v.ownBlock ≠ some b) : Cel.Own w' B T v l := World.ownsRow.kept h hk hne
theorem Pen.below {w w' : World} {g B x y : Nat} {out : List (Int × Int)} {v : Value} (h : Pen w g B x y out v) (hb : Below w.heap.size w w') : Pen w' g B x y out v := ⟨(hb.block g h.lt).trans h.row, h.own.below hb, h.ahead⟩
theorem Pen.setX {w : World} {g B x y : Nat} {out : List (Int × Int)} {v : Value} (h : Pen w g B x y out v) (z : Nat) : Pen (w.setCell ⟨g, 0, none⟩ (.int .i64 z)) g B z y out v := by
  refine ⟨?_, cown_kept h.own (But.setCell 0 _) h.own_ne, h.ahead⟩
  have := h.row
  simp [World.setCell, Array.getElem?_modify, this]
theorem Pen.setY {w : World} {g B x y : Nat} {out : List (Int × Int)} {v : Value} (h : Pen w g B x y out v) (z : Nat) : Pen (w.setCell ⟨g, 1, none⟩ (.int .i64 z)) g B x z out v := by
  refine ⟨?_, cown_kept h.own (But.setCell 1 _) h.own_ne, h.ahead⟩
  have := h.row
  simp [World.setCell, Array.getElem?_modify, this]
/-- Whatever is neither the pen's block nor a row of cells stands; below the pen all does. -/
structure PR (g : Nat) (w w' : World) : Prop where
  bel : Below g w w'
  oth : Lib.OthersKept 49 (some g) w w'
theorem PR.refl (g : Nat) (w : World) : PR g w w := ⟨Below.refl _ _, Lib.OthersKept.refl _ _ _⟩
theorem PR.trans {g : Nat} {a b c : World} (h : PR g a b) (k : PR g b c) : PR g a c := ⟨h.bel.trans k.bel, h.oth.trans k.oth⟩
theorem PR.setCell {g : Nat} {a w : World} (h : PR g a w) (j : Nat) (u : Value) : PR g a (w.setCell ⟨g, j, none⟩ u) := ⟨h.bel.setCell (Nat.le_refl _) _, h.oth.setCell _ rfl _⟩
theorem PR.alloc {g : Nat} {a w : World} (h : PR g a w) (hg : g ≤ w.heap.size) (o : Obj) : PR g a (w.alloc o) := ⟨h.bel.alloc hg _, h.oth.alloc _⟩
theorem PR.drew {g : Nat} {a w : World} (h : PR g a w) : PR g a w.drew := ⟨h.bel.drew, h.oth.drew⟩
theorem PR.below {g : Nat} {a w w' : World} (h : PR g a w) (hg : g ≤ w.heap.size) (hb : Below w.heap.size w w') : PR g a w' := by
  refine ⟨Qt.more h.bel hg hb, fun k o hk hb' ho => ?_⟩
  have h1 := h.oth k o hk hb' ho
  exact (hb.block k (Array.getElem?_eq_some_iff.1 h1).1).trans h1
/-- what one call does to the pen -/
def Penned (g B x y : Nat) (out : List (Int × Int)) (w : World) (e : Ending) (w' : World) : Prop := e = .returned (.tuple #[]) ∧ ∃ v, Pen w' g B x y out v ∧ PR g w w'

theorem skip_any {g B x y : Nat} {out : List (Int × Int)} {v : Value} (n : Nat) {w : World} (h : Pen w g B x y out v) (hx : x ≤ 1099511627776) (hn : n ≤ 1099511627776) :
    Calls Tryd.prog 50 #[.pointer (some ⟨g, 0, none⟩), .int .i64 n] w (Penned g B (x + n) y out w) := by
  have c0 := h.x0
  have f0 := h.free 0
  have HP := Lib.hid (h.setX (x + n))
  have e : ((x + n : Nat) : Int) = (x : Int) + (n : Int) := by omega
  rw [e] at HP
  have HR := Lib.hid ((PR.refl g w).setCell 0 (.int .i64 ((x : Int) + (n : Int))))
  clear h e
  go_enter Tryd.func50, Tryd.ntmps50
  go_wp2
  go_end0
  exact ⟨rfl, v, HP.out, HR.out⟩
theorem down_any {g B x y : Nat} {out : List (Int × Int)} {v : Value} (n : Nat) {w : World} (h : Pen w g B x y out v) (hy : y ≤ 1099511627776) (hn : n ≤ 1099511627776) :
    Calls Tryd.prog 52 #[.pointer (some ⟨g, 0, none⟩), .int .i64 n] w (Penned g B 0 (y + n) out w) := by
  have c0 := h.x0
  have c1 := h.y0
  have f0 := h.free 0
  have f1 := h.free 1
  have HP := Lib.hid ((h.setX 0).setY (y + n))
  have e : ((y + n : Nat) : Int) = (y : Int) + (n : Int) := by omega
  rw [e] at HP
  have HR := Lib.hid (((PR.refl g w).setCell 0 (.int .i64 ((0 : Nat) : Int))).setCell 1 (.int .i64 ((y : Int) + (n : Int))))
  clear h e
  go_enter Tryd.func52, Tryd.ntmps52
  go_wp2
  go_end0
  exact ⟨rfl, v, HP.out, HR.out⟩
/-- what is wrong at a pen -/
def faultL (x y n : Nat) : Int := if 1099511627776 < x ∨ 1099511627776 < y then 2 else if 2000 < n then 3 else 0
theorem fault_any {g B x y : Nat} {out : List (Int × Int)} {v : Value} {w : World} (h : Pen w g B x y out v) (hx : x ≤ 9000000000000) (hy : y ≤ 9000000000000) (hl : out.length ≤ 1000000) :
    Calls Tryd.prog 53 #[.pointer (some ⟨g, 0, none⟩)] w fun e w' => e = .returned (.int .i64 (faultL x y out.length)) ∧ Below w.heap.size w w' := by
  obtain ⟨A, c, rfl, _, _⟩ := h.own.rd
  have c0 := h.x0
  have c1 := h.y0
  have c2 := h.v0
  have k0 := Qt.cell_in c0
  have k1 := Qt.cell_in c1
  have HC := Lib.hid c2
  clear h c2
  have hz : (out.length : Int) ≤ 1000000 := by omega
  generalize out.length = n at *
  by_cases hfar : 1099511627776 < x ∨ 1099511627776 < y
  · have e : faultL x y n = 2 := by unfold faultL; rw [if_pos hfar]
    rw [e]
    have hm : (1099511627776 : Int) < max (x : Int) (y : Int) := by omega
    clear e hfar
    go_enter Tryd.func53, Tryd.ntmps53
    go_wp2
    refine Qt.below_all (by kernel_rfl) (by kernel_rfl) ?_
    repeat (go_big_quiet_step (fail))
    refine wpQuiet_nil ?_
    intro w1 hb1
    clear k0 k1
    go_wp2
    go_ret
    exact ⟨rfl, hb1⟩
  · have hm : ¬ (1099511627776 : Int) < max (x : Int) (y : Int) := by omega
    have e : faultL x y n = if 2000 < n then 3 else 0 := by unfold faultL; rw [if_neg hfar]
    rw [e]
    clear e hfar
    by_cases hl2 : 2000 < n
    · rw [if_pos hl2]
      have hz2 : (2000 : Int) < (n : Int) := by omega
      go_enter Tryd.func53, Tryd.ntmps53
      go_wp2
      refine Qt.below_all (by kernel_rfl) (by kernel_rfl) ?_
      repeat (go_big_quiet_step (fail))
      refine wpQuiet_nil ?_
      intro w1 hb1
      have d2 := Qt.keep hb1 HC.out
      clear k0 k1
      go_wp2
      go_ret
      exact ⟨rfl, hb1⟩
    · rw [if_neg hl2]
      have hz2 : ¬ (2000 : Int) < (n : Int) := by omega
      go_enter Tryd.func53, Tryd.ntmps53
      go_wp2
      refine Qt.below_all (by kernel_rfl) (by kernel_rfl) ?_
      repeat (go_big_quiet_step (fail))
      refine wpQuiet_nil ?_
      intro w1 hb1
      have d2 := Qt.keep hb1 HC.out
      clear k0 k1
      go_wp2
      go_ret
      exact ⟨rfl, hb1⟩
end Go.Proofs.YtacpncmdgkljdaaDoor
namespace Go.Proofs.YtacpncmdgkljdaaDoor
set_option linter.unusedVariables false
set_option linter.unusedSimpArgs false
open Go.RowKit Go.Sort

theorem slice_of_own {w : World} {B T s : Nat} {v : Value} {n : Nat} {xs : List Value} (h : w.ownsRow B T s v n xs) : ∃ A c, v = .slice A n c := by
  rcases h.2 with ⟨rfl, h0⟩ | ⟨g, cap, cur, rfl, _⟩
  · exact ⟨none, 0, by rw [h0]⟩
  · exact ⟨_, _, rfl⟩
theorem own_kind {w : World} {B T s : Nat} {v : Value} {n : Nat} {xs : List Value} (h : w.ownsRow B T s v n xs) : ∀ k, v.ownBlock = some k → B ≤ k ∧ k < w.heap.size ∧ ∃ c fz, w.heap[k]? = some (.cells c T fz) := by
  intro k hk
  have hl := World.ownsRow.lt h k hk
  rcases h.2 with ⟨rfl, h0⟩ | ⟨g, cap, cur, rfl, hB, hg, _⟩
  · simp [Value.ownBlock] at hk
  · simp [Value.ownBlock] at hk
    subst hk
    exact ⟨hl.1, hl.2, cur, _, hg⟩
theorem size_da (wr : World) (o : Obj) : (wr.drew.alloc o).heap.size = wr.heap.size + 1 := by
  show (wr.heap.push o).size = _
  rw [Array.size_push]
theorem pen_push {wr w4 : World} {g B x y : Nat} {out : List (Int × Int)} {v v4 : Value} {a b : Int} {o : Obj} (h : Pen wr g B x y out v) (hB : B ≤ wr.heap.size)
    (hown : w4.ownsRow B 49 2 v4 (out.length + 1) (Cel.fl out ++ [.int .i64 a, .int .i64 b])) (hgrow : (wr.drew.alloc o).grownBy w4 v.ownBlock) :
    w4.cell? ⟨g, 2, none⟩ = some v ∧ w4.frozen? ⟨g, 2, none⟩ = false ∧ Hid (Pen (w4.setCell ⟨g, 2, none⟩ v4) g B x y (out ++ [(a, b)]) v4 ∧ PR g wr (w4.setCell ⟨g, 2, none⟩ v4)) := by
  have hlt := h.lt
  have hk := own_kind h.own
  have hne : some g ≠ v.ownBlock := fun e => by have := (hk g e.symm).1; have := h.ahead; omega
  have hg4 : w4.heap[g]? = some (.cells #[.int .i64 x, .int .i64 y, v] 93 (0, 0)) := by
    rw [hgrow.block g (by rw [size_da]; omega) hne, Lib.alloc_old _ _ _ (show g < wr.drew.heap.size from hlt)]
    exact h.row
  refine ⟨by rw [Lib.cell_of_heap hg4]; rfl, Lib.frozen_of_heap hg4 2, ?_⟩
  have hown' := Cel.own_push hown
  have hk4 := own_kind hown
  refine ⟨⟨?_, cown_kept hown' (But.setCell 2 _) ?_, h.ahead⟩, ?_⟩
  · simp [World.setCell, Array.getElem?_modify, hg4]
  · cases e : v4.ownBlock with
    | none => exact .inl rfl
    | some q => exact .inr (fun h2 => by injection h2 with h2; have := (hk4 q e).1; have := h.ahead; omega)
  · have p1 : PR g wr (wr.drew.alloc o) := (PR.refl g wr).drew.alloc (Nat.le_of_lt hlt) o
    refine PR.setCell ⟨?_, ?_⟩ 2 _
    · refine p1.bel.grown hgrow (by rw [size_da]; omega) fun k hk2 => ?_
      have := (hk k hk2).1
      have := h.ahead
      omega
    · refine p1.oth.grown hgrow fun k hk2 => ?_
      obtain ⟨_, hlt2, c, fz, hc⟩ := hk k hk2
      exact ⟨c, fz, (Lib.alloc_old wr.drew o k hlt2).trans hc⟩

set_option maxHeartbeats 8000000 in
set_option maxRecDepth 100000 in
theorem put_any {g B x y : Nat} {out : List (Int × Int)} {v : Value} (n : Nat) {w : World} (h : Pen w g B x y out v) (hB : B ≤ w.heap.size) (hx : x ≤ 1099511627776) (hn : n ≤ 1099511627776) (hl : out.length ≤ 2000) :
    Calls Tryd.prog 51 #[.pointer (some ⟨g, 0, none⟩), .int .i64 n] w (Penned g B (x + n) y (out ++ runC x y (min n (2001 - out.length))) w) := by
  obtain ⟨i0, hi, hz0, hz1, hz2⟩ := info_parts Cel.infoCell
  obtain ⟨A0, c0, rfl, _, _⟩ := h.own.rd
  have v0 := h.v0
  have HP0 := Lib.hid h
  have HB0 := Lib.hid hB
  obtain ⟨m, hm⟩ : ∃ m, m = min n (2001 - out.length) := ⟨_, rfl⟩
  rw [← hm]
  have hmz : min (n : Int) (2001 - (out.length : Int)) = (m : Int) := by omega
  have hlz : (out.length : Int) ≤ 2000 := by omega
  have hml : m ≤ 2001 := by omega
  clear h hB hm
  go_enter Tryd.func51, Tryd.ntmps51
  go_wp2
  go_loopw [4, 13] (fun _ i wr => ∃ (k : Nat) (v : Value), k ≤ m ∧ i = .int .i64 k ∧ Hid (Pen wr g B x y (out ++ runC x y k) v ∧ PR g w wr)) (fun _ i _ => m - (intOf i).toNat)
  case atStart => exact ⟨0, _, Nat.zero_le _, rfl, by rw [runC_zero, List.append_nil]; exact ⟨HP0.out, PR.refl _ _⟩⟩
  case round =>
    obtain ⟨k, v, hk, rfl, HH⟩ := hrel
    by_cases hlt : k < m
    · have hltz : (k : Int) < (m : Int) := by omega
      have HP := Lib.hid HH.out.1
      have HPR := Lib.hid HH.out.2
      have hrl : (out ++ runC x y k).length ≤ 4001 := by rw [List.length_append, runC_len]; omega
      have HRUN := Lib.hid (show out ++ runC x y (k + 1) = (out ++ runC x y k) ++ [(((x + k : Nat) : Int), (y : Int))] from by rw [runC_succ, List.append_assoc])
      clear HH
      generalize out ++ runC x y k = z at HP hrl HRUN
      obtain ⟨A, c, rfl, _, _⟩ := HP.out.own.rd
      have q0 := HP.out.x0
      have q1 := HP.out.y0
      have q2 := HP.out.v0
      have q3 : ∀ o, (wr.alloc o).cell? ⟨g, 2, none⟩ = some (.slice A z.length c) := fun o => (World.cell?_alloc_lt _ _ _ (block_lt_of_cell q2)).trans q2
      have HB : Hid (B ≤ wr.heap.size) := Nat.le_trans HB0.out HPR.out.bel.size
      have hBz : B ≤ (wr.drew.alloc (.cells #[.int .i64 ((x + k : Nat) : Int), .int .i64 y] 49)).heap.size := by have := HB.out; rw [size_da]; omega
      go_wp2
      refine Qt.region_tree (.pure 0 (.pure 1 (.pure 2 (.pure 3 (.pure 5 (.pure 6 (.pure 7 (.pure 8 (.pure 10 (.pure 12 (.pure 13 (.pure 14 (.pure 15 (.three 4 9 16 (.two 9 16 (.pure 11 (.only 16 (.pure 17 (.only 18 (.only 19 (.pure 20 (.pure 21 (.only 22 .done)))))))) (.only 9 (.pure 11 (.pure 17 (.only 18 (.only 19 (.pure 20 (.pure 21 (.only 22 .done))))))))) (.pure 11 (.two 4 16 (.only 16 (.pure 17 (.only 18 (.only 19 (.pure 20 (.pure 21 (.only 22 .done))))))) (.pure 17 (.two 4 18 (.only 18 (.only 19 (.pure 20 (.pure 21 (.only 22 .done))))) (.only 4 (.only 19 (.pure 20 (.pure 21 (.only 22 .done))))))))) (.two 4 9 (.only 9 (.pure 11 (.pure 17 (.only 18 (.only 19 (.pure 20 (.pure 21 (.only 22 .done)))))))) (.pure 11 (.pure 17 (.two 4 18 (.only 18 (.only 19 (.pure 20 (.pure 21 (.only 22 .done))))) (.only 4 (.only 19 (.pure 20 (.pure 21 (.only 22 .done))))))))))))))))))))))) (by kernel_rfl) (by kernel_rfl) (by kernel_rfl) (by rfl) ?_
      refine ⟨_, some 16, .pointer (some ⟨g, 0, none⟩), rfl, rfl, ⟨rfl, fun _ => by first | rfl | (simp only [execOp]; go_simp)⟩, ?_⟩
      simp only [Act.put, List.setIfInBounds_toArray, List.set_cons_succ, List.set_cons_zero]
      refine ⟨_, some 17, .pointer (some ⟨g, 0, none⟩), rfl, rfl, ⟨rfl, fun _ => by first | rfl | (simp only [execOp]; go_simp)⟩, ?_⟩
      simp only [Act.put, List.setIfInBounds_toArray, List.set_cons_succ, List.set_cons_zero]
      refine ⟨_, some 18, .pointer (some ⟨g, 0, none⟩), rfl, rfl, ⟨rfl, fun _ => by first | rfl | (simp only [execOp]; go_simp)⟩, ?_⟩
      simp only [Act.put, List.setIfInBounds_toArray, List.set_cons_succ, List.set_cons_zero]
      refine ⟨_, some 19, .pointer (some ⟨g, 2, none⟩), rfl, rfl, ⟨rfl, fun _ => by first | rfl | (simp only [execOp]; go_simp)⟩, ?_⟩
      simp only [Act.put, List.setIfInBounds_toArray, List.set_cons_succ, List.set_cons_zero]
      refine ⟨_, some 21, .pointer (some ⟨g, 0, none⟩), rfl, rfl, ⟨rfl, fun _ => by first | rfl | (simp only [execOp]; go_simp)⟩, ?_⟩
      simp only [Act.put, List.setIfInBounds_toArray, List.set_cons_succ, List.set_cons_zero]
      refine ⟨_, some 22, .pointer (some ⟨g, 0, none⟩), rfl, rfl, ⟨rfl, fun _ => by first | rfl | (simp only [execOp]; go_simp)⟩, ?_⟩
      simp only [Act.put, List.setIfInBounds_toArray, List.set_cons_succ, List.set_cons_zero]
      refine ⟨_, some 23, .pointer (some ⟨g, 0, none⟩), rfl, rfl, ⟨rfl, fun _ => by first | rfl | (simp only [execOp]; go_simp)⟩, ?_⟩
      simp only [Act.put, List.setIfInBounds_toArray, List.set_cons_succ, List.set_cons_zero]
      refine ⟨_, some 24, .pointer (some ⟨g, 0, none⟩), rfl, rfl, ⟨rfl, fun _ => by first | rfl | (simp only [execOp]; go_simp)⟩, ?_⟩
      simp only [Act.put, List.setIfInBounds_toArray, List.set_cons_succ, List.set_cons_zero]
      refine ⟨_, some 26, .int .i64 k, rfl, rfl, ⟨rfl, fun _ => by first | rfl | (simp only [execOp]; go_simp)⟩, ?_⟩
      simp only [Act.put, List.setIfInBounds_toArray, List.set_cons_succ, List.set_cons_zero]
      refine ⟨_, some 28, .pointer (some ⟨g, 0, none⟩), rfl, rfl, ⟨rfl, fun _ => by first | rfl | (simp only [execOp]; go_simp)⟩, ?_⟩
      simp only [Act.put, List.setIfInBounds_toArray, List.set_cons_succ, List.set_cons_zero]
      refine ⟨_, some 29, .pointer (some ⟨g, 0, none⟩), rfl, rfl, ⟨rfl, fun _ => by first | rfl | (simp only [execOp]; go_simp)⟩, ?_⟩
      simp only [Act.put, List.setIfInBounds_toArray, List.set_cons_succ, List.set_cons_zero]
      refine ⟨_, some 30, .pointer (some ⟨g, 0, none⟩), rfl, rfl, ⟨rfl, fun _ => by first | rfl | (simp only [execOp]; go_simp)⟩, ?_⟩
      simp only [Act.put, List.setIfInBounds_toArray, List.set_cons_succ, List.set_cons_zero]
      refine ⟨_, some 31, .pointer (some ⟨g, 1, none⟩), rfl, rfl, ⟨rfl, fun _ => by first | rfl | (simp only [execOp]; go_simp)⟩, ?_⟩
      simp only [Act.put, List.setIfInBounds_toArray, List.set_cons_succ, List.set_cons_zero]
      refine ⟨?_, ?_, ?_⟩
      · refine ⟨_, rfl, ?_⟩
        go_wp2_with fail
        refine ⟨rfl, ?_⟩
        constructor
        · refine ⟨_, rfl, ?_⟩
          go_wp2_with fail
          refine ⟨rfl, ?_⟩
          refine ⟨_, some 27, .int .i64 ((x + k : Nat) : Int), rfl, rfl, ⟨rfl, exec_addi (x := .tmp 25) (y := .tmp 26) rfl rfl rfl (by omega)⟩, ?_⟩
          simp only [Act.put, List.setIfInBounds_toArray, List.set_cons_succ, List.set_cons_zero]
          refine ⟨_, rfl, ?_⟩
          go_wp2_with fail
          refine ⟨rfl, ?_⟩
          refine ⟨_, some 33, .agg #[.int .i64 ((x + k : Nat) : Int), .int .i64 y], rfl, rfl, ⟨rfl, fun _ => by first | rfl | (simp only [execOp]; go_simp)⟩, ?_⟩
          simp only [Act.put, List.setIfInBounds_toArray, List.set_cons_succ, List.set_cons_zero]
          refine ⟨_, rfl, ?_⟩
          go_wp2_with fail
          refine ⟨rfl, ?_⟩
          refine ⟨_, rfl, ?_⟩
          refine wpList_append_own _ rfl (.tmp 20) (.tmp 34) 24 rfl B 49 i0 (.agg #[.int .i64 0, .int .i64 0]) 2 16 Tryd.underlying24 hi hz0 hz1 hz2 rfl (by decide) _ _ _ rfl (World.ownsRow.alloc (w := wr.drew) HP.out.own _) ⟨wr.heap.size, 0, none⟩ 1 1 [.int .i64 ((x + k : Nat) : Int), .int .i64 y] rfl rfl Cel.one_new Cel.one_cell (by unfold maxLen; omega) (by omega) hBz ?_
          intro v4 w4 hown4 hgrow4 _
          obtain ⟨A4, c4, rfl⟩ := slice_of_own hown4
          obtain ⟨d2, f2, HQ⟩ := pen_push HP.out HB.out hown4 hgrow4
          clear hown4 hgrow4
          refine ⟨rfl, ?_⟩
          refine ⟨_, some 36, .pointer (some ⟨g, 0, none⟩), rfl, rfl, ⟨rfl, fun _ => by first | rfl | (simp only [execOp]; go_simp)⟩, ?_⟩
          simp only [Act.put, List.setIfInBounds_toArray, List.set_cons_succ, List.set_cons_zero]
          refine ⟨_, some 37, .pointer (some ⟨g, 2, none⟩), rfl, rfl, ⟨rfl, fun _ => by first | rfl | (simp only [execOp]; go_simp)⟩, ?_⟩
          simp only [Act.put, List.setIfInBounds_toArray, List.set_cons_succ, List.set_cons_zero]
          refine ⟨_, rfl, ?_⟩
          go_wp2_with fail
          refine ⟨rfl, ?_⟩
          simp only [Qt.treeW]
          go_wp2
          go_roundw
          case measure => simp [intOf]; omega
          case rel =>
            have H := HQ.out
            rw [← HRUN.out] at H
            exact ⟨k + 1, _, by omega, by go_num, ⟨H.1, HPR.out.trans H.2⟩⟩
        · refine ⟨_, rfl, ?_⟩
          go_wp2_with fail
          refine ⟨rfl, ?_⟩
          refine ⟨_, rfl, ?_⟩
          go_wp2_with fail
          refine ⟨rfl, ?_⟩
          refine ⟨_, some 27, .int .i64 ((x + k : Nat) : Int), rfl, rfl, ⟨rfl, exec_addi (x := .tmp 25) (y := .tmp 26) rfl rfl rfl (by omega)⟩, ?_⟩
          simp only [Act.put, List.setIfInBounds_toArray, List.set_cons_succ, List.set_cons_zero]
          refine ⟨_, some 33, .agg #[.int .i64 ((x + k : Nat) : Int), .int .i64 y], rfl, rfl, ⟨rfl, fun _ => by first | rfl | (simp only [execOp]; go_simp)⟩, ?_⟩
          simp only [Act.put, List.setIfInBounds_toArray, List.set_cons_succ, List.set_cons_zero]
          refine ⟨_, rfl, ?_⟩
          go_wp2_with fail
          refine ⟨rfl, ?_⟩
          refine ⟨_, rfl, ?_⟩
          refine wpList_append_own _ rfl (.tmp 20) (.tmp 34) 24 rfl B 49 i0 (.agg #[.int .i64 0, .int .i64 0]) 2 16 Tryd.underlying24 hi hz0 hz1 hz2 rfl (by decide) _ _ _ rfl (World.ownsRow.alloc (w := wr.drew) HP.out.own _) ⟨wr.heap.size, 0, none⟩ 1 1 [.int .i64 ((x + k : Nat) : Int), .int .i64 y] rfl rfl Cel.one_new Cel.one_cell (by unfold maxLen; omega) (by omega) hBz ?_
          intro v4 w4 hown4 hgrow4 _
          obtain ⟨A4, c4, rfl⟩ := slice_of_own hown4
          obtain ⟨d2, f2, HQ⟩ := pen_push HP.out HB.out hown4 hgrow4
          clear hown4 hgrow4
          refine ⟨rfl, ?_⟩
          refine ⟨_, some 36, .pointer (some ⟨g, 0, none⟩), rfl, rfl, ⟨rfl, fun _ => by first | rfl | (simp only [execOp]; go_simp)⟩, ?_⟩
          simp only [Act.put, List.setIfInBounds_toArray, List.set_cons_succ, List.set_cons_zero]
          refine ⟨_, some 37, .pointer (some ⟨g, 2, none⟩), rfl, rfl, ⟨rfl, fun _ => by first | rfl | (simp only [execOp]; go_simp)⟩, ?_⟩
          simp only [Act.put, List.setIfInBounds_toArray, List.set_cons_succ, List.set_cons_zero]
          refine ⟨_, rfl, ?_⟩
          go_wp2_with fail
          refine ⟨rfl, ?_⟩
          simp only [Qt.treeW]
          go_wp2
          go_roundw
          case measure => simp [intOf]; omega
          case rel =>
            have H := HQ.out
            rw [← HRUN.out] at H
            exact ⟨k + 1, _, by omega, by go_num, ⟨H.1, HPR.out.trans H.2⟩⟩
      · refine ⟨_, rfl, ?_⟩
        go_wp2_with fail
        refine ⟨rfl, ?_⟩
        refine ⟨_, some 27, .int .i64 ((x + k : Nat) : Int), rfl, rfl, ⟨rfl, exec_addi (x := .tmp 25) (y := .tmp 26) rfl rfl rfl (by omega)⟩, ?_⟩
        simp only [Act.put, List.setIfInBounds_toArray, List.set_cons_succ, List.set_cons_zero]
        constructor
        · refine ⟨_, rfl, ?_⟩
          go_wp2_with fail
          refine ⟨rfl, ?_⟩
          refine ⟨_, rfl, ?_⟩
          go_wp2_with fail
          refine ⟨rfl, ?_⟩
          refine ⟨_, some 33, .agg #[.int .i64 ((x + k : Nat) : Int), .int .i64 y], rfl, rfl, ⟨rfl, fun _ => by first | rfl | (simp only [execOp]; go_simp)⟩, ?_⟩
          simp only [Act.put, List.setIfInBounds_toArray, List.set_cons_succ, List.set_cons_zero]
          refine ⟨_, rfl, ?_⟩
          go_wp2_with fail
          refine ⟨rfl, ?_⟩
          refine ⟨_, rfl, ?_⟩
          refine wpList_append_own _ rfl (.tmp 20) (.tmp 34) 24 rfl B 49 i0 (.agg #[.int .i64 0, .int .i64 0]) 2 16 Tryd.underlying24 hi hz0 hz1 hz2 rfl (by decide) _ _ _ rfl (World.ownsRow.alloc (w := wr.drew) HP.out.own _) ⟨wr.heap.size, 0, none⟩ 1 1 [.int .i64 ((x + k : Nat) : Int), .int .i64 y] rfl rfl Cel.one_new Cel.one_cell (by unfold maxLen; omega) (by omega) hBz ?_
          intro v4 w4 hown4 hgrow4 _
          obtain ⟨A4, c4, rfl⟩ := slice_of_own hown4
          obtain ⟨d2, f2, HQ⟩ := pen_push HP.out HB.out hown4 hgrow4
          clear hown4 hgrow4
          refine ⟨rfl, ?_⟩
          refine ⟨_, some 36, .pointer (some ⟨g, 0, none⟩), rfl, rfl, ⟨rfl, fun _ => by first | rfl | (simp only [execOp]; go_simp)⟩, ?_⟩
          simp only [Act.put, List.setIfInBounds_toArray, List.set_cons_succ, List.set_cons_zero]
          refine ⟨_, some 37, .pointer (some ⟨g, 2, none⟩), rfl, rfl, ⟨rfl, fun _ => by first | rfl | (simp only [execOp]; go_simp)⟩, ?_⟩
          simp only [Act.put, List.setIfInBounds_toArray, List.set_cons_succ, List.set_cons_zero]
          refine ⟨_, rfl, ?_⟩
          go_wp2_with fail
          refine ⟨rfl, ?_⟩
          simp only [Qt.treeW]
          go_wp2
          go_roundw
          case measure => simp [intOf]; omega
          case rel =>
            have H := HQ.out
            rw [← HRUN.out] at H
            exact ⟨k + 1, _, by omega, by go_num, ⟨H.1, HPR.out.trans H.2⟩⟩
        · refine ⟨_, rfl, ?_⟩
          go_wp2_with fail
          refine ⟨rfl, ?_⟩
          refine ⟨_, some 33, .agg #[.int .i64 ((x + k : Nat) : Int), .int .i64 y], rfl, rfl, ⟨rfl, fun _ => by first | rfl | (simp only [execOp]; go_simp)⟩, ?_⟩
          simp only [Act.put, List.setIfInBounds_toArray, List.set_cons_succ, List.set_cons_zero]
          constructor
          · refine ⟨_, rfl, ?_⟩
            go_wp2_with fail
            refine ⟨rfl, ?_⟩
            refine ⟨_, rfl, ?_⟩
            go_wp2_with fail
            refine ⟨rfl, ?_⟩
            refine ⟨_, rfl, ?_⟩
            refine wpList_append_own _ rfl (.tmp 20) (.tmp 34) 24 rfl B 49 i0 (.agg #[.int .i64 0, .int .i64 0]) 2 16 Tryd.underlying24 hi hz0 hz1 hz2 rfl (by decide) _ _ _ rfl (World.ownsRow.alloc (w := wr.drew) HP.out.own _) ⟨wr.heap.size, 0, none⟩ 1 1 [.int .i64 ((x + k : Nat) : Int), .int .i64 y] rfl rfl Cel.one_new Cel.one_cell (by unfold maxLen; omega) (by omega) hBz ?_
            intro v4 w4 hown4 hgrow4 _
            obtain ⟨A4, c4, rfl⟩ := slice_of_own hown4
            obtain ⟨d2, f2, HQ⟩ := pen_push HP.out HB.out hown4 hgrow4
            clear hown4 hgrow4
            refine ⟨rfl, ?_⟩
            refine ⟨_, some 36, .pointer (some ⟨g, 0, none⟩), rfl, rfl, ⟨rfl, fun _ => by first | rfl | (simp only [execOp]; go_simp)⟩, ?_⟩
            simp only [Act.put, List.setIfInBounds_toArray, List.set_cons_succ, List.set_cons_zero]
            refine ⟨_, some 37, .pointer (some ⟨g, 2, none⟩), rfl, rfl, ⟨rfl, fun _ => by first | rfl | (simp only [execOp]; go_simp)⟩, ?_⟩
            simp only [Act.put, List.setIfInBounds_toArray, List.set_cons_succ, List.set_cons_zero]
            refine ⟨_, rfl, ?_⟩
            go_wp2_with fail
            refine ⟨rfl, ?_⟩
            simp only [Qt.treeW]
            go_wp2
            go_roundw
            case measure => simp [intOf]; omega
            case rel =>
              have H := HQ.out
              rw [← HRUN.out] at H
              exact ⟨k + 1, _, by omega, by go_num, ⟨H.1, HPR.out.trans H.2⟩⟩
          · refine ⟨_, rfl, ?_⟩
            go_wp2_with fail
            refine ⟨rfl, ?_⟩
            refine ⟨_, rfl, ?_⟩
            go_wp2_with fail
            refine ⟨rfl, ?_⟩
            refine ⟨_, rfl, ?_⟩
            refine wpList_append_own _ rfl (.tmp 20) (.tmp 34) 24 rfl B 49 i0 (.agg #[.int .i64 0, .int .i64 0]) 2 16 Tryd.underlying24 hi hz0 hz1 hz2 rfl (by decide) _ _ _ rfl (World.ownsRow.alloc (w := wr.drew) HP.out.own _) ⟨wr.heap.size, 0, none⟩ 1 1 [.int .i64 ((x + k : Nat) : Int), .int .i64 y] rfl rfl Cel.one_new Cel.one_cell (by unfold maxLen; omega) (by omega) hBz ?_
            intro v4 w4 hown4 hgrow4 _
            obtain ⟨A4, c4, rfl⟩ := slice_of_own hown4
            obtain ⟨d2, f2, HQ⟩ := pen_push HP.out HB.out hown4 hgrow4
            clear hown4 hgrow4
            refine ⟨rfl, ?_⟩
            refine ⟨_, some 36, .pointer (some ⟨g, 0, none⟩), rfl, rfl, ⟨rfl, fun _ => by first | rfl | (simp only [execOp]; go_simp)⟩, ?_⟩
            simp only [Act.put, List.setIfInBounds_toArray, List.set_cons_succ, List.set_cons_zero]
            refine ⟨_, some 37, .pointer (some ⟨g, 2, none⟩), rfl, rfl, ⟨rfl, fun _ => by first | rfl | (simp only [execOp]; go_simp)⟩, ?_⟩
            simp only [Act.put, List.setIfInBounds_toArray, List.set_cons_succ, List.set_cons_zero]
            refine ⟨_, rfl, ?_⟩
            go_wp2_with fail
            refine ⟨rfl, ?_⟩
            simp only [Qt.treeW]
            go_wp2
            go_roundw
            case measure => simp [intOf]; omega
            case rel =>
              have H := HQ.out
              rw [← HRUN.out] at H
              exact ⟨k + 1, _, by omega, by go_num, ⟨H.1, HPR.out.trans H.2⟩⟩
      · refine ⟨_, rfl, ?_⟩
        go_wp2_with fail
        refine ⟨rfl, ?_⟩
        constructor
        · refine ⟨_, rfl, ?_⟩
          go_wp2_with fail
          refine ⟨rfl, ?_⟩
          refine ⟨_, rfl, ?_⟩
          go_wp2_with fail
          refine ⟨rfl, ?_⟩
          refine ⟨_, some 27, .int .i64 ((x + k : Nat) : Int), rfl, rfl, ⟨rfl, exec_addi (x := .tmp 25) (y := .tmp 26) rfl rfl rfl (by omega)⟩, ?_⟩
          simp only [Act.put, List.setIfInBounds_toArray, List.set_cons_succ, List.set_cons_zero]
          refine ⟨_, some 33, .agg #[.int .i64 ((x + k : Nat) : Int), .int .i64 y], rfl, rfl, ⟨rfl, fun _ => by first | rfl | (simp only [execOp]; go_simp)⟩, ?_⟩
          simp only [Act.put, List.setIfInBounds_toArray, List.set_cons_succ, List.set_cons_zero]
          refine ⟨_, rfl, ?_⟩
          go_wp2_with fail
          refine ⟨rfl, ?_⟩
          refine ⟨_, rfl, ?_⟩
          refine wpList_append_own _ rfl (.tmp 20) (.tmp 34) 24 rfl B 49 i0 (.agg #[.int .i64 0, .int .i64 0]) 2 16 Tryd.underlying24 hi hz0 hz1 hz2 rfl (by decide) _ _ _ rfl (World.ownsRow.alloc (w := wr.drew) HP.out.own _) ⟨wr.heap.size, 0, none⟩ 1 1 [.int .i64 ((x + k : Nat) : Int), .int .i64 y] rfl rfl Cel.one_new Cel.one_cell (by unfold maxLen; omega) (by omega) hBz ?_
          intro v4 w4 hown4 hgrow4 _
          obtain ⟨A4, c4, rfl⟩ := slice_of_own hown4
          obtain ⟨d2, f2, HQ⟩ := pen_push HP.out HB.out hown4 hgrow4
          clear hown4 hgrow4
          refine ⟨rfl, ?_⟩
          refine ⟨_, some 36, .pointer (some ⟨g, 0, none⟩), rfl, rfl, ⟨rfl, fun _ => by first | rfl | (simp only [execOp]; go_simp)⟩, ?_⟩
          simp only [Act.put, List.setIfInBounds_toArray, List.set_cons_succ, List.set_cons_zero]
          refine ⟨_, some 37, .pointer (some ⟨g, 2, none⟩), rfl, rfl, ⟨rfl, fun _ => by first | rfl | (simp only [execOp]; go_simp)⟩, ?_⟩
          simp only [Act.put, List.setIfInBounds_toArray, List.set_cons_succ, List.set_cons_zero]
          refine ⟨_, rfl, ?_⟩
          go_wp2_with fail
          refine ⟨rfl, ?_⟩
          simp only [Qt.treeW]
          go_wp2
          go_roundw
          case measure => simp [intOf]; omega
          case rel =>
            have H := HQ.out
            rw [← HRUN.out] at H
            exact ⟨k + 1, _, by omega, by go_num, ⟨H.1, HPR.out.trans H.2⟩⟩
        · refine ⟨_, rfl, ?_⟩
          go_wp2_with fail
          refine ⟨rfl, ?_⟩
          refine ⟨_, some 27, .int .i64 ((x + k : Nat) : Int), rfl, rfl, ⟨rfl, exec_addi (x := .tmp 25) (y := .tmp 26) rfl rfl rfl (by omega)⟩, ?_⟩
          simp only [Act.put, List.setIfInBounds_toArray, List.set_cons_succ, List.set_cons_zero]
          refine ⟨_, some 33, .agg #[.int .i64 ((x + k : Nat) : Int), .int .i64 y], rfl, rfl, ⟨rfl, fun _ => by first | rfl | (simp only [execOp]; go_simp)⟩, ?_⟩
          simp only [Act.put, List.setIfInBounds_toArray, List.set_cons_succ, List.set_cons_zero]
          constructor
          · refine ⟨_, rfl, ?_⟩
            go_wp2_with fail
            refine ⟨rfl, ?_⟩
            refine ⟨_, rfl, ?_⟩
            go_wp2_with fail
            refine ⟨rfl, ?_⟩
            refine ⟨_, rfl, ?_⟩
            refine wpList_append_own _ rfl (.tmp 20) (.tmp 34) 24 rfl B 49 i0 (.agg #[.int .i64 0, .int .i64 0]) 2 16 Tryd.underlying24 hi hz0 hz1 hz2 rfl (by decide) _ _ _ rfl (World.ownsRow.alloc (w := wr.drew) HP.out.own _) ⟨wr.heap.size, 0, none⟩ 1 1 [.int .i64 ((x + k : Nat) : Int), .int .i64 y] rfl rfl Cel.one_new Cel.one_cell (by unfold maxLen; omega) (by omega) hBz ?_
            intro v4 w4 hown4 hgrow4 _
            obtain ⟨A4, c4, rfl⟩ := slice_of_own hown4
            obtain ⟨d2, f2, HQ⟩ := pen_push HP.out HB.out hown4 hgrow4
            clear hown4 hgrow4
            refine ⟨rfl, ?_⟩
            refine ⟨_, some 36, .pointer (some ⟨g, 0, none⟩), rfl, rfl, ⟨rfl, fun _ => by first | rfl | (simp only [execOp]; go_simp)⟩, ?_⟩
            simp only [Act.put, List.setIfInBounds_toArray, List.set_cons_succ, List.set_cons_zero]
            refine ⟨_, some 37, .pointer (some ⟨g, 2, none⟩), rfl, rfl, ⟨rfl, fun _ => by first | rfl | (simp only [execOp]; go_simp)⟩, ?_⟩
            simp only [Act.put, List.setIfInBounds_toArray, List.set_cons_succ, List.set_cons_zero]
            refine ⟨_, rfl, ?_⟩
            go_wp2_with fail
            refine ⟨rfl, ?_⟩
            simp only [Qt.treeW]
            go_wp2
            go_roundw
            case measure => simp [intOf]; omega
            case rel =>
              have H := HQ.out
              rw [← HRUN.out] at H
              exact ⟨k + 1, _, by omega, by go_num, ⟨H.1, HPR.out.trans H.2⟩⟩
          · refine ⟨_, rfl, ?_⟩
            go_wp2_with fail
            refine ⟨rfl, ?_⟩
            refine ⟨_, rfl, ?_⟩
            go_wp2_with fail
            refine ⟨rfl, ?_⟩
            refine ⟨_, rfl, ?_⟩
            refine wpList_append_own _ rfl (.tmp 20) (.tmp 34) 24 rfl B 49 i0 (.agg #[.int .i64 0, .int .i64 0]) 2 16 Tryd.underlying24 hi hz0 hz1 hz2 rfl (by decide) _ _ _ rfl (World.ownsRow.alloc (w := wr.drew) HP.out.own _) ⟨wr.heap.size, 0, none⟩ 1 1 [.int .i64 ((x + k : Nat) : Int), .int .i64 y] rfl rfl Cel.one_new Cel.one_cell (by unfold maxLen; omega) (by omega) hBz ?_
            intro v4 w4 hown4 hgrow4 _
            obtain ⟨A4, c4, rfl⟩ := slice_of_own hown4
            obtain ⟨d2, f2, HQ⟩ := pen_push HP.out HB.out hown4 hgrow4
            clear hown4 hgrow4
            refine ⟨rfl, ?_⟩
            refine ⟨_, some 36, .pointer (some ⟨g, 0, none⟩), rfl, rfl, ⟨rfl, fun _ => by first | rfl | (simp only [execOp]; go_simp)⟩, ?_⟩
            simp only [Act.put, List.setIfInBounds_toArray, List.set_cons_succ, List.set_cons_zero]
            refine ⟨_, some 37, .pointer (some ⟨g, 2, none⟩), rfl, rfl, ⟨rfl, fun _ => by first | rfl | (simp only [execOp]; go_simp)⟩, ?_⟩
            simp only [Act.put, List.setIfInBounds_toArray, List.set_cons_succ, List.set_cons_zero]
            refine ⟨_, rfl, ?_⟩
            go_wp2_with fail
            refine ⟨rfl, ?_⟩
            simp only [Qt.treeW]
            go_wp2
            go_roundw
            case measure => simp [intOf]; omega
            case rel =>
              have H := HQ.out
              rw [← HRUN.out] at H
              exact ⟨k + 1, _, by omega, by go_num, ⟨H.1, HPR.out.trans H.2⟩⟩
    · have hltz : ¬ (k : Int) < (m : Int) := by omega
      obtain rfl : k = m := by omega
      have HPR := Lib.hid HH.out.2
      have hsk := skip_any n HH.out.1 hx hn
      clear HH
      go_wp2_with fail
      refine hsk.mono ?_
      rintro e w2 ⟨rfl, v2, hp2, hr2⟩
      have HP2 := Lib.hid hp2
      have HR2 := Lib.hid hr2
      clear hp2 hr2
      go_wp2
      go_end0
      exact ⟨rfl, v2, HP2.out, HPR.out.trans HR2.out⟩
end Go.Proofs.YtacpncmdgkljdaaDoor
namespace Go.Proofs.YtacpncmdgkljdaaDoor
set_option linter.unusedVariables false
set_option linter.unusedSimpArgs false
open Go.RowKit Go.Sort
open Go.ChangeMaps (setBlock heap_setBlock_same)

def fnV (F g : Nat) : Value := .func (.func F) #[.pointer (some ⟨g, 0, none⟩)] #[]
def es3 (g : Nat) : Array MapEntry := #[⟨.int .u8 98, fnV 50 g, 0⟩, ⟨.int .u8 111, fnV 51 g, 1⟩, ⟨.int .u8 36, fnV 52 g, 2⟩]
theorem lt_heap {w : World} {k : Nat} {o : Obj} (h : w.heap[k]? = some o) : k < w.heap.size := (Array.getElem?_eq_some_iff.1 h).1
theorem map_put {W : World} {b : Nat} {es : Array MapEntry} {clock : Nat} {k : Int} (v : Value) (hb : W.heap[b]? = some (.map es clock))
    (hc : (Instr.checkKey false 10000 5 (.int .u8 k)).run Tryd.prog W = .ok () W) (hf : (Instr.findKey 5 (.int .u8 k) es.toList).run Tryd.prog W = .ok none W) :
    (Instr.mapUpdate 95 (.map (some b)) (.int .u8 k) v).run Tryd.prog W = .ok () (setBlock W b (.map (es.push ⟨.int .u8 k, v, clock⟩) (clock + 1))) := by
  simp [Instr.mapUpdate, run_underlying Tryd.underlying95, MapKept.run_getObj_map hb, hc, hf, MapKept.run_setObj_map _ hb, Result.andThen, setBlock]
theorem map_get {W : World} {b : Nat} {es : Array MapEntry} {clock : Nat} {k : Int} {j : Nat} {v : Value} (hb : W.heap[b]? = some (.map es clock))
    (hc : ∀ em, (Instr.checkKey em 10000 5 (.int .u8 k)).run Tryd.prog W = .ok () W) (hf : (Instr.findKey 5 (.int .u8 k) es.toList).run Tryd.prog W = .ok (some (j, v)) W) :
    (Instr.lookup 95 (.map (some b)) (.int .u8 k) false).run Tryd.prog W = .ok v W := by
  simp [Instr.lookup, run_underlying Tryd.underlying95, MapKept.run_getObj_map hb, hc, hf, Result.andThen]
theorem below_setBlock {B b : Nat} {w0 w : World} (h : Below B w0 w) (hB : B ≤ b) (o : Obj) : Below B w0 (setBlock w b o) := by
  refine ⟨h.os, h.tape, h.output, ?_, fun k hk => ?_⟩
  · show _ ≤ (w.heap.setIfInBounds b o).size
    rw [Array.size_setIfInBounds]
    exact h.size
  · show (w.heap.setIfInBounds b o)[k]? = _
    rw [Array.getElem?_setIfInBounds, if_neg (by omega)]
    exact h.block k hk
theorem does_made (w1 : World) (g : Nat) : ∃ w3 w4 w5, (Instr.mapUpdate 95 (.map (some w1.heap.size)) (.int .u8 98) (fnV 50 g)).run Tryd.prog (w1.alloc (.map #[] 0)) = .ok () w3 ∧
    (Instr.mapUpdate 95 (.map (some w1.heap.size)) (.int .u8 111) (fnV 51 g)).run Tryd.prog w3 = .ok () w4 ∧
    (Instr.mapUpdate 95 (.map (some w1.heap.size)) (.int .u8 36) (fnV 52 g)).run Tryd.prog w4 = .ok () w5 ∧
    w5.heap[w1.heap.size]? = some (.map (es3 g) 3) ∧ Below w1.heap.size w1 w5 := by
  have h2 : (w1.alloc (.map #[] 0)).heap[w1.heap.size]? = some (.map #[] 0) := (MapKept.heap_alloc w1 _).1
  have b2 : Below w1.heap.size w1 (w1.alloc (.map #[] 0)) := (Below.refl _ _).alloc (Nat.le_refl _) _
  have r3 := map_put (fnV 50 g) (k := 98) h2 (by kernel_rfl) (by kernel_rfl)
  have h3 := heap_setBlock_same h2 (.map ((#[] : Array MapEntry).push ⟨.int .u8 98, fnV 50 g, 0⟩) (0 + 1))
  have b3 := below_setBlock b2 (Nat.le_refl _) (.map ((#[] : Array MapEntry).push ⟨.int .u8 98, fnV 50 g, 0⟩) (0 + 1))
  generalize setBlock (w1.alloc (.map #[] 0)) w1.heap.size (.map ((#[] : Array MapEntry).push ⟨.int .u8 98, fnV 50 g, 0⟩) (0 + 1)) = w3 at r3 h3 b3
  have r4 := map_put (fnV 51 g) (k := 111) h3 (by kernel_rfl) (by kernel_rfl)
  have h4 := heap_setBlock_same h3 (.map (((#[] : Array MapEntry).push ⟨.int .u8 98, fnV 50 g, 0⟩).push ⟨.int .u8 111, fnV 51 g, 0 + 1⟩) (0 + 1 + 1))
  have b4 := below_setBlock b3 (Nat.le_refl _) (.map (((#[] : Array MapEntry).push ⟨.int .u8 98, fnV 50 g, 0⟩).push ⟨.int .u8 111, fnV 51 g, 0 + 1⟩) (0 + 1 + 1))
  generalize setBlock w3 w1.heap.size (.map (((#[] : Array MapEntry).push ⟨.int .u8 98, fnV 50 g, 0⟩).push ⟨.int .u8 111, fnV 51 g, 0 + 1⟩) (0 + 1 + 1)) = w4 at r4 h4 b4
  have r5 := map_put (fnV 52 g) (k := 36) h4 (by kernel_rfl) (by kernel_rfl)
  exact ⟨w3, w4, _, r3, r4, r5, heap_setBlock_same h4 _, below_setBlock b4 (Nat.le_refl _) _⟩

/-! ### a step -/
/-- What the pen holds behind an item: the state, or more than there may be. -/
structure Stepped (s : St) (x y : Nat) (out : List (Int × Int)) : Prop where
  ex : x = s.x
  ey : y = s.y
  efull : fullS s = decide (2000 < out.length)
  eout : fullS s = false → out = s.out ∧ out.length = s.many
  xb : x ≤ 9000000000000
  yb : y ≤ 9000000000000
  lb : out.length ≤ 1000000
/-- the state at an item's beginning -/
structure Fit (s : St) : Prop where
  x : s.x ≤ 1099511627776
  y : s.y ≤ 1099511627776
  many : s.many ≤ 2000
  len : s.out.length = s.many
theorem fit0 : Fit st0 := ⟨Nat.zero_le _, Nat.zero_le _, Nat.zero_le _, rfl⟩
theorem full_iff (s : St) : fullS s = decide (2000 < s.many) := rfl
theorem stepped_b {s : St} (h : Fit s) {n : Nat} (hn : n ≤ 1099511627776) : Stepped (stepS s 98 n) (s.x + n) s.y s.out := by
  have := h.x; have := h.y; have := h.many; have := h.len
  rw [step_b]
  exact ⟨rfl, rfl, by rw [full_iff, h.len], fun _ => ⟨rfl, h.len⟩, by omega, by omega, by omega⟩
theorem stepped_d {s : St} (h : Fit s) {n : Nat} (hn : n ≤ 1099511627776) : Stepped (stepS s 36 n) 0 (s.y + n) s.out := by
  have := h.x; have := h.y; have := h.many; have := h.len
  rw [step_d]
  exact ⟨rfl, rfl, by rw [full_iff, h.len], fun _ => ⟨rfl, h.len⟩, by omega, by omega, by omega⟩
theorem stepped_o {s : St} (h : Fit s) {n : Nat} (hn : n ≤ 1099511627776) : Stepped (stepS s 111 n) (s.x + n) s.y (s.out ++ runC s.x s.y (min n (2001 - s.out.length))) := by
  have := h.x; have := h.y; have := h.many; have hl := h.len
  have hlen : (s.out ++ runC s.x s.y (min n (2001 - s.out.length))).length = s.many + min n (2001 - s.many) := by rw [List.length_append, runC_len, hl]
  rw [step_o]
  refine ⟨rfl, rfl, ?_, fun hf => ?_, by omega, by omega, by omega⟩
  · rw [full_iff, hlen]
    simp only
    rw [Bool.eq_iff_iff, decide_eq_true_eq, decide_eq_true_eq]
    omega
  · rw [full_iff] at hf
    simp only [decide_eq_false_iff_not] at hf
    have e : min n (2001 - s.out.length) = n := by omega
    rw [e] at hlen ⊢
    exact ⟨rfl, by rw [List.length_append, runC_len, hl]⟩
theorem fault_of {s : St} {x y : Nat} {out : List (Int × Int)} (h : Stepped s x y out) : faultL x y out.length = if farS s = true then 2 else if fullS s = true then 3 else 0 := by
  unfold faultL farS
  rw [h.efull, h.ex, h.ey]
  simp
theorem fit_next {s : St} {x y : Nat} {out : List (Int × Int)} (h : Stepped s x y out) (h1 : farS s = false) (h2 : fullS s = false) : Fit s := by
  unfold farS at h1
  simp only [Bool.or_eq_false_iff, decide_eq_false_iff_not] at h1
  have h3 := (h.eout h2)
  have h4 := h2
  rw [full_iff] at h4
  simp only [decide_eq_false_iff_not] at h4
  exact ⟨by omega, by omega, by omega, by rw [← h3.1]; exact h3.2⟩
theorem doL_cons (t : UInt8) (n p : Nat) (r : List Itm) (s : St) : doL ((t, n, p) :: r) s = if farS (stepS s t n) = true then ([], 2, p) else if fullS (stepS s t n) = true then ([], 3, p) else doL r (stepS s t n) := rfl

/-- what the set is, or the error and its place -/
def SetR (r : List (Int × Int) × Int × Nat) (w : World) (e : Ending) (w' : World) : Prop :=
  ∃ v, e = .returned (.tuple #[v, .int .i64 r.2.1, .int .i64 r.2.2]) ∧ Cel.Reads w' v r.1 ∧ Below w.heap.size w w'
theorem setR_none {x : Int} {p : Nat} {w w' : World} (h : Below w.heap.size w w') : SetR ([], x, p) w (.returned (.tuple #[.slice none 0 0, .int .i64 x, .int .i64 p])) w' :=
  ⟨_, rfl, ⟨none, 0, rfl, Nat.le_refl _, Cel.Rd.nil _ _ _⟩, h⟩

/-- What is known at the head of the loop. -/
structure DrawnAt (w wr : World) (I : List Itm) (r : List (Int × Int) × Int × Nat) (k : Nat) (s : St) (v : Value) : Prop where
  pen : Pen wr w.heap.size (w.heap.size + 2) s.x s.y s.out v
  fit : Fit s
  map : wr.heap[w.heap.size + 1]? = some (.map (es3 w.heap.size) 3)
  bel : Below w.heap.size w wr
  pos : k ≤ I.length
  rest : doL (I.drop k) s = r
end Go.Proofs.YtacpncmdgkljdaaDoor
