/-
  Texts that the claims of this seat share, part 5.
-/
import Derived.Test.YtacpncmdgkljdaaGreatDoorB04
import Derived.Test.YtacpncmdgkljdaaGreatDoorB02
import Derived.WideKeyElems
set_option linter.unusedVariables false
set_option linter.unusedSimpArgs false
namespace Go.Proofs.YtacpncmdgkljdaaGreatDoor
set_option linter.unusedVariables false
set_option linter.unusedSimpArgs false
open Go.RowKit Go.Sort

theorem slice_of_own {w : World} {B T s : Nat} {v : Value} {n : Nat} {xs : List Value} (h : w.ownsRow B T s v n xs) : ∃ A c, v = .slice A n c := by
  rcases h.2 with ⟨rfl, h0⟩ | ⟨g, cap, cur, rfl, _⟩
  · exact ⟨none, 0, by rw [h0]⟩
  · exact ⟨_, _, rfl⟩
theorem own_kind {w : World} {B T s : Nat} {v : Value} {n : Nat} {xs : List Value} (h : w.ownsRow B T s v n xs) : ∀ k, v.ownBlock = some k → B ≤ k ∧ k < w.heap.size ∧ ∃ c fz, w.heap[k]? = some (.cells c T fz) := by
  intro k hk
  have hl := World.ownsRow.lt h k hk
  rcases h.2 with ⟨rfl, h0⟩ | ⟨g, cap, cur, rfl, hB, hg, _⟩
  · simp [Value.ownBlock] at hk
  · simp [Value.ownBlock] at hk
    subst hk
    exact ⟨hl.1, hl.2, cur, _, hg⟩
theorem size_da (wr : World) (o : Obj) : (wr.drew.alloc o).heap.size = wr.heap.size + 1 := by
  show (wr.heap.push o).size = _
  rw [Array.size_push]
theorem pen_push {wr w4 : World} {g B x y : Nat} {out : List (Int × Int)} {v v4 : Value} {a b : Int} {o : Obj} (h : Pen wr g B x y out v) (hB : B ≤ wr.heap.size)
    (hown : w4.ownsRow B 37 2 v4 (out.length + 1) (Cel.fl out ++ [.int .i64 a, .int .i64 b])) (hgrow : (wr.drew.alloc o).grownBy w4 v.ownBlock) :
    w4.cell? ⟨g, 2, none⟩ = some v ∧ w4.frozen? ⟨g, 2, none⟩ = false ∧ Hid (Pen (w4.setCell ⟨g, 2, none⟩ v4) g B x y (out ++ [(a, b)]) v4 ∧ PR g wr (w4.setCell ⟨g, 2, none⟩ v4)) := by
  have hlt := h.lt
  have hk := own_kind h.own
  have hne : some g ≠ v.ownBlock := fun e => by have := (hk g e.symm).1; have := h.ahead; omega
  have hg4 : w4.heap[g]? = some (.cells #[.int .i64 x, .int .i64 y, v] 91 (0, 0)) := by
    rw [hgrow.block g (by rw [size_da]; omega) hne, Lib.alloc_old _ _ _ (show g < wr.drew.heap.size from hlt)]
    exact h.row
  refine ⟨by rw [Lib.cell_of_heap hg4]; rfl, Lib.frozen_of_heap hg4 2, ?_⟩
  have hown' := Cel.own_push hown
  have hk4 := own_kind hown
  refine ⟨⟨?_, cown_kept hown' (But.setCell 2 _) ?_, h.ahead⟩, ?_⟩
  · simp [World.setCell, Array.getElem?_modify, hg4]
  · cases e : v4.ownBlock with
    | none => exact .inl rfl
    | some q => exact .inr (fun h2 => by injection h2 with h2; have := (hk4 q e).1; have := h.ahead; omega)
  · have p1 : PR g wr (wr.drew.alloc o) := (PR.refl g wr).drew.alloc (Nat.le_of_lt hlt) o
    refine PR.setCell ⟨?_, ?_⟩ 2 _
    · refine p1.bel.grown hgrow (by rw [size_da]; omega) fun k hk2 => ?_
      have := (hk k hk2).1
      have := h.ahead
      omega
    · refine p1.oth.grown hgrow fun k hk2 => ?_
      obtain ⟨_, hlt2, c, fz, hc⟩ := hk k hk2
      exact ⟨c, fz, (Lib.alloc_old wr.drew o k hlt2).trans hc⟩

set_option maxHeartbeats 8000000 in
set_option maxRecDepth 100000 in
theorem put_any {g B x y : Nat} {out : List (Int × Int)} {v : Value} (n : Nat) {w : World} (h : Pen w g B x y out v) (hB : B ≤ w.heap.size) (hx : x ≤ 1099511627776) (hn : n ≤ 1099511627776) (hl : out.length ≤ 2000) :
    Calls Tryz.prog 54 #[.pointer (some ⟨g, 0, none⟩), .int .i64 n] w (Penned g B (x + n) y (out ++ runC x y (min n (2001 - out.length))) w) := by
  obtain ⟨i0, hi, hz0, hz1, hz2⟩ := info_parts Cel.infoCell
  obtain ⟨A0, c0, rfl, _, _⟩ := h.own.rd
  have v0 := h.v0
  have HP0 := Lib.hid h
  have HB0 := Lib.hid hB
  obtain ⟨m, hm⟩ : ∃ m, m = min n (2001 - out.length) := ⟨_, rfl⟩
  rw [← hm]
  have hmz : min (n : Int) (2001 - (out.length : Int)) = (m : Int) := by omega
  have hlz : (out.length : Int) ≤ 2000 := by omega
  have hml : m ≤ 2001 := by omega
  clear h hB hm
  go_enter Tryz.func54, Tryz.ntmps54
  go_wp2
  go_loopw [4, 13] (fun _ i wr => ∃ (k : Nat) (v : Value), k ≤ m ∧ i = .int .i64 k ∧ Hid (Pen wr g B x y (out ++ runC x y k) v ∧ PR g w wr)) (fun _ i _ => m - (intOf i).toNat)
  case atStart => exact ⟨0, _, Nat.zero_le _, rfl, by rw [runC_zero, List.append_nil]; exact ⟨HP0.out, PR.refl _ _⟩⟩
  case round =>
    obtain ⟨k, v, hk, rfl, HH⟩ := hrel
    by_cases hlt : k < m
    · have hltz : (k : Int) < (m : Int) := by omega
      have HP := Lib.hid HH.out.1
      have HPR := Lib.hid HH.out.2
      have hrl : (out ++ runC x y k).length ≤ 4001 := by rw [List.length_append, runC_len]; omega
      have HRUN := Lib.hid (show out ++ runC x y (k + 1) = (out ++ runC x y k) ++ [(((x + k : Nat) : Int), (y : Int))] from by rw [runC_succ, List.append_assoc])
      clear HH
      generalize out ++ runC x y k = z at HP hrl HRUN
      obtain ⟨A, c, rfl, _, _⟩ := HP.out.own.rd
      have q0 := HP.out.x0
      have q1 := HP.out.y0
      have q2 := HP.out.v0
      have q3 : ∀ o, (wr.alloc o).cell? ⟨g, 2, none⟩ = some (.slice A z.length c) := fun o => (World.cell?_alloc_lt _ _ _ (block_lt_of_cell q2)).trans q2
      have HB : Hid (B ≤ wr.heap.size) := Nat.le_trans HB0.out HPR.out.bel.size
      have hBz : B ≤ (wr.drew.alloc (.cells #[.int .i64 ((x + k : Nat) : Int), .int .i64 y] 37)).heap.size := by have := HB.out; rw [size_da]; omega
      go_wp2
      refine Qt.region_tree (.pure 0 (.pure 1 (.pure 2 (.pure 3 (.pure 5 (.pure 6 (.pure 7 (.pure 8 (.pure 10 (.pure 12 (.pure 13 (.pure 14 (.pure 15 (.three 4 9 16 (.two 9 16 (.pure 11 (.only 16 (.pure 17 (.only 18 (.only 19 (.pure 20 (.pure 21 (.only 22 .done)))))))) (.only 9 (.pure 11 (.pure 17 (.only 18 (.only 19 (.pure 20 (.pure 21 (.only 22 .done))))))))) (.pure 11 (.two 4 16 (.only 16 (.pure 17 (.only 18 (.only 19 (.pure 20 (.pure 21 (.only 22 .done))))))) (.pure 17 (.two 4 18 (.only 18 (.only 19 (.pure 20 (.pure 21 (.only 22 .done))))) (.only 4 (.only 19 (.pure 20 (.pure 21 (.only 22 .done))))))))) (.two 4 9 (.only 9 (.pure 11 (.pure 17 (.only 18 (.only 19 (.pure 20 (.pure 21 (.only 22 .done)))))))) (.pure 11 (.pure 17 (.two 4 18 (.only 18 (.only 19 (.pure 20 (.pure 21 (.only 22 .done))))) (.only 4 (.only 19 (.pure 20 (.pure 21 (.only 22 .done))))))))))))))))))))))) (by kernel_rfl) (by kernel_rfl) (by kernel_rfl) (by rfl) ?_
      refine ⟨_, some 16, .pointer (some ⟨g, 0, none⟩), rfl, rfl, ⟨rfl, fun _ => by first | rfl | (simp only [execOp]; go_simp)⟩, ?_⟩
      simp only [Act.put, List.setIfInBounds_toArray, List.set_cons_succ, List.set_cons_zero]
      refine ⟨_, some 17, .pointer (some ⟨g, 0, none⟩), rfl, rfl, ⟨rfl, fun _ => by first | rfl | (simp only [execOp]; go_simp)⟩, ?_⟩
      simp only [Act.put, List.setIfInBounds_toArray, List.set_cons_succ, List.set_cons_zero]
      refine ⟨_, some 18, .pointer (some ⟨g, 0, none⟩), rfl, rfl, ⟨rfl, fun _ => by first | rfl | (simp only [execOp]; go_simp)⟩, ?_⟩
      simp only [Act.put, List.setIfInBounds_toArray, List.set_cons_succ, List.set_cons_zero]
      refine ⟨_, some 19, .pointer (some ⟨g, 2, none⟩), rfl, rfl, ⟨rfl, fun _ => by first | rfl | (simp only [execOp]; go_simp)⟩, ?_⟩
      simp only [Act.put, List.setIfInBounds_toArray, List.set_cons_succ, List.set_cons_zero]
      refine ⟨_, some 21, .pointer (some ⟨g, 0, none⟩), rfl, rfl, ⟨rfl, fun _ => by first | rfl | (simp only [execOp]; go_simp)⟩, ?_⟩
      simp only [Act.put, List.setIfInBounds_toArray, List.set_cons_succ, List.set_cons_zero]
      refine ⟨_, some 22, .pointer (some ⟨g, 0, none⟩), rfl, rfl, ⟨rfl, fun _ => by first | rfl | (simp only [execOp]; go_simp)⟩, ?_⟩
      simp only [Act.put, List.setIfInBounds_toArray, List.set_cons_succ, List.set_cons_zero]
      refine ⟨_, some 23, .pointer (some ⟨g, 0, none⟩), rfl, rfl, ⟨rfl, fun _ => by first | rfl | (simp only [execOp]; go_simp)⟩, ?_⟩
      simp only [Act.put, List.setIfInBounds_toArray, List.set_cons_succ, List.set_cons_zero]
      refine ⟨_, some 24, .pointer (some ⟨g, 0, none⟩), rfl, rfl, ⟨rfl, fun _ => by first | rfl | (simp only [execOp]; go_simp)⟩, ?_⟩
      simp only [Act.put, List.setIfInBounds_toArray, List.set_cons_succ, List.set_cons_zero]
      refine ⟨_, some 26, .int .i64 k, rfl, rfl, ⟨rfl, fun _ => by first | rfl | (simp only [execOp]; go_simp)⟩, ?_⟩
      simp only [Act.put, List.setIfInBounds_toArray, List.set_cons_succ, List.set_cons_zero]
      refine ⟨_, some 28, .pointer (some ⟨g, 0, none⟩), rfl, rfl, ⟨rfl, fun _ => by first | rfl | (simp only [execOp]; go_simp)⟩, ?_⟩
      simp only [Act.put, List.setIfInBounds_toArray, List.set_cons_succ, List.set_cons_zero]
      refine ⟨_, some 29, .pointer (some ⟨g, 0, none⟩), rfl, rfl, ⟨rfl, fun _ => by first | rfl | (simp only [execOp]; go_simp)⟩, ?_⟩
      simp only [Act.put, List.setIfInBounds_toArray, List.set_cons_succ, List.set_cons_zero]
      refine ⟨_, some 30, .pointer (some ⟨g, 0, none⟩), rfl, rfl, ⟨rfl, fun _ => by first | rfl | (simp only [execOp]; go_simp)⟩, ?_⟩
      simp only [Act.put, List.setIfInBounds_toArray, List.set_cons_succ, List.set_cons_zero]
      refine ⟨_, some 31, .pointer (some ⟨g, 1, none⟩), rfl, rfl, ⟨rfl, fun _ => by first | rfl | (simp only [execOp]; go_simp)⟩, ?_⟩
      simp only [Act.put, List.setIfInBounds_toArray, List.set_cons_succ, List.set_cons_zero]
      refine ⟨?_, ?_, ?_⟩
      · refine ⟨_, rfl, ?_⟩
        go_wp2_with fail
        refine ⟨rfl, ?_⟩
        constructor
        · refine ⟨_, rfl, ?_⟩
          go_wp2_with fail
          refine ⟨rfl, ?_⟩
          refine ⟨_, some 27, .int .i64 ((x + k : Nat) : Int), rfl, rfl, ⟨rfl, exec_addi (x := .tmp 25) (y := .tmp 26) rfl rfl rfl (by omega)⟩, ?_⟩
          simp only [Act.put, List.setIfInBounds_toArray, List.set_cons_succ, List.set_cons_zero]
          refine ⟨_, rfl, ?_⟩
          go_wp2_with fail
          refine ⟨rfl, ?_⟩
          refine ⟨_, some 33, .agg #[.int .i64 ((x + k : Nat) : Int), .int .i64 y], rfl, rfl, ⟨rfl, fun _ => by first | rfl | (simp only [execOp]; go_simp)⟩, ?_⟩
          simp only [Act.put, List.setIfInBounds_toArray, List.set_cons_succ, List.set_cons_zero]
          refine ⟨_, rfl, ?_⟩
          go_wp2_with fail
          refine ⟨rfl, ?_⟩
          refine ⟨_, rfl, ?_⟩
          refine wpList_append_own _ rfl (.tmp 20) (.tmp 34) 22 rfl B 37 i0 (.agg #[.int .i64 0, .int .i64 0]) 2 16 Tryz.underlying22 hi hz0 hz1 hz2 rfl (by decide) _ _ _ rfl (World.ownsRow.alloc (w := wr.drew) HP.out.own _) ⟨wr.heap.size, 0, none⟩ 1 1 [.int .i64 ((x + k : Nat) : Int), .int .i64 y] rfl rfl Cel.one_new Cel.one_cell (by unfold maxLen; omega) (by omega) hBz ?_
          intro v4 w4 hown4 hgrow4 _
          obtain ⟨A4, c4, rfl⟩ := slice_of_own hown4
          obtain ⟨d2, f2, HQ⟩ := pen_push HP.out HB.out hown4 hgrow4
          clear hown4 hgrow4
          refine ⟨rfl, ?_⟩
          refine ⟨_, some 36, .pointer (some ⟨g, 0, none⟩), rfl, rfl, ⟨rfl, fun _ => by first | rfl | (simp only [execOp]; go_simp)⟩, ?_⟩
          simp only [Act.put, List.setIfInBounds_toArray, List.set_cons_succ, List.set_cons_zero]
          refine ⟨_, some 37, .pointer (some ⟨g, 2, none⟩), rfl, rfl, ⟨rfl, fun _ => by first | rfl | (simp only [execOp]; go_simp)⟩, ?_⟩
          simp only [Act.put, List.setIfInBounds_toArray, List.set_cons_succ, List.set_cons_zero]
          refine ⟨_, rfl, ?_⟩
          go_wp2_with fail
          refine ⟨rfl, ?_⟩
          simp only [Qt.treeW]
          go_wp2
          go_roundw
          case measure => simp [intOf]; omega
          case rel =>
            have H := HQ.out
            rw [← HRUN.out] at H
            exact ⟨k + 1, _, by omega, by go_num, ⟨H.1, HPR.out.trans H.2⟩⟩
        · refine ⟨_, rfl, ?_⟩
          go_wp2_with fail
          refine ⟨rfl, ?_⟩
          refine ⟨_, rfl, ?_⟩
          go_wp2_with fail
          refine ⟨rfl, ?_⟩
          refine ⟨_, some 27, .int .i64 ((x + k : Nat) : Int), rfl, rfl, ⟨rfl, exec_addi (x := .tmp 25) (y := .tmp 26) rfl rfl rfl (by omega)⟩, ?_⟩
          simp only [Act.put, List.setIfInBounds_toArray, List.set_cons_succ, List.set_cons_zero]
          refine ⟨_, some 33, .agg #[.int .i64 ((x + k : Nat) : Int), .int .i64 y], rfl, rfl, ⟨rfl, fun _ => by first | rfl | (simp only [execOp]; go_simp)⟩, ?_⟩
          simp only [Act.put, List.setIfInBounds_toArray, List.set_cons_succ, List.set_cons_zero]
          refine ⟨_, rfl, ?_⟩
          go_wp2_with fail
          refine ⟨rfl, ?_⟩
          refine ⟨_, rfl, ?_⟩
          refine wpList_append_own _ rfl (.tmp 20) (.tmp 34) 22 rfl B 37 i0 (.agg #[.int .i64 0, .int .i64 0]) 2 16 Tryz.underlying22 hi hz0 hz1 hz2 rfl (by decide) _ _ _ rfl (World.ownsRow.alloc (w := wr.drew) HP.out.own _) ⟨wr.heap.size, 0, none⟩ 1 1 [.int .i64 ((x + k : Nat) : Int), .int .i64 y] rfl rfl Cel.one_new Cel.one_cell (by unfold maxLen; omega) (by omega) hBz ?_
          intro v4 w4 hown4 hgrow4 _
          obtain ⟨A4, c4, rfl⟩ := slice_of_own hown4
          obtain ⟨d2, f2, HQ⟩ := pen_push HP.out HB.out hown4 hgrow4
          clear hown4 hgrow4
          refine ⟨rfl, ?_⟩
          refine ⟨_, some 36, .pointer (some ⟨g, 0, none⟩), rfl, rfl, ⟨rfl, fun _ => by first | rfl | (simp only [execOp]; go_simp)⟩, ?_⟩
          simp only [Act.put, List.setIfInBounds_toArray, List.set_cons_succ, List.set_cons_zero]
          refine ⟨_, some 37, .pointer (some ⟨g, 2, none⟩), rfl, rfl, ⟨rfl, fun _ => by first | rfl | (simp only [execOp]; go_simp)⟩, ?_⟩
          simp only [Act.put, List.setIfInBounds_toArray, List.set_cons_succ, List.set_cons_zero]
          refine ⟨_, rfl, ?_⟩
          go_wp2_with fail
          refine ⟨rfl, ?_⟩
          simp only [Qt.treeW]
          go_wp2
          go_roundw
          case measure => simp [intOf]; omega
          case rel =>
            have H := HQ.out
            rw [← HRUN.out] at H
            exact ⟨k + 1, _, by omega, by go_num, ⟨H.1, HPR.out.trans H.2⟩⟩
      · refine ⟨_, rfl, ?_⟩
        go_wp2_with fail
        refine ⟨rfl, ?_⟩
        refine ⟨_, some 27, .int .i64 ((x + k : Nat) : Int), rfl, rfl, ⟨rfl, exec_addi (x := .tmp 25) (y := .tmp 26) rfl rfl rfl (by omega)⟩, ?_⟩
        simp only [Act.put, List.setIfInBounds_toArray, List.set_cons_succ, List.set_cons_zero]
        constructor
        · refine ⟨_, rfl, ?_⟩
          go_wp2_with fail
          refine ⟨rfl, ?_⟩
          refine ⟨_, rfl, ?_⟩
          go_wp2_with fail
          refine ⟨rfl, ?_⟩
          refine ⟨_, some 33, .agg #[.int .i64 ((x + k : Nat) : Int), .int .i64 y], rfl, rfl, ⟨rfl, fun _ => by first | rfl | (simp only [execOp]; go_simp)⟩, ?_⟩
          simp only [Act.put, List.setIfInBounds_toArray, List.set_cons_succ, List.set_cons_zero]
          refine ⟨_, rfl, ?_⟩
          go_wp2_with fail
          refine ⟨rfl, ?_⟩
          refine ⟨_, rfl, ?_⟩
          refine wpList_append_own _ rfl (.tmp 20) (.tmp 34) 22 rfl B 37 i0 (.agg #[.int .i64 0, .int .i64 0]) 2 16 Tryz.underlying22 hi hz0 hz1 hz2 rfl (by decide) _ _ _ rfl (World.ownsRow.alloc (w := wr.drew) HP.out.own _) ⟨wr.heap.size, 0, none⟩ 1 1 [.int .i64 ((x + k : Nat) : Int), .int .i64 y] rfl rfl Cel.one_new Cel.one_cell (by unfold maxLen; omega) (by omega) hBz ?_
          intro v4 w4 hown4 hgrow4 _
          obtain ⟨A4, c4, rfl⟩ := slice_of_own hown4
          obtain ⟨d2, f2, HQ⟩ := pen_push HP.out HB.out hown4 hgrow4
          clear hown4 hgrow4
          refine ⟨rfl, ?_⟩
          refine ⟨_, some 36, .pointer (some ⟨g, 0, none⟩), rfl, rfl, ⟨rfl, fun _ => by first | rfl | (simp only [execOp]; go_simp)⟩, ?_⟩
          simp only [Act.put, List.setIfInBounds_toArray, List.set_cons_succ, List.set_cons_zero]
          refine ⟨_, some 37, .pointer (some ⟨g, 2, none⟩), rfl, rfl, ⟨rfl, fun _ => by first | rfl | (simp only [execOp]; go_simp)⟩, ?_⟩
          simp only [Act.put, List.setIfInBounds_toArray, List.set_cons_succ, List.set_cons_zero]
          refine ⟨_, rfl, ?_⟩
          go_wp2_with fail
          refine ⟨rfl, ?_⟩
          simp only [Qt.treeW]
          go_wp2
          go_roundw
          case measure => simp [intOf]; omega
          case rel =>
            have H := HQ.out
            rw [← HRUN.out] at H
            exact ⟨k + 1, _, by omega, by go_num, ⟨H.1, HPR.out.trans H.2⟩⟩
        · refine ⟨_, rfl, ?_⟩
          go_wp2_with fail
          refine ⟨rfl, ?_⟩
          refine ⟨_, some 33, .agg #[.int .i64 ((x + k : Nat) : Int), .int .i64 y], rfl, rfl, ⟨rfl, fun _ => by first | rfl | (simp only [execOp]; go_simp)⟩, ?_⟩
          simp only [Act.put, List.setIfInBounds_toArray, List.set_cons_succ, List.set_cons_zero]
          constructor
          · refine ⟨_, rfl, ?_⟩
            go_wp2_with fail
            refine ⟨rfl, ?_⟩
            refine ⟨_, rfl, ?_⟩
            go_wp2_with fail
            refine ⟨rfl, ?_⟩
            refine ⟨_, rfl, ?_⟩
            refine wpList_append_own _ rfl (.tmp 20) (.tmp 34) 22 rfl B 37 i0 (.agg #[.int .i64 0, .int .i64 0]) 2 16 Tryz.underlying22 hi hz0 hz1 hz2 rfl (by decide) _ _ _ rfl (World.ownsRow.alloc (w := wr.drew) HP.out.own _) ⟨wr.heap.size, 0, none⟩ 1 1 [.int .i64 ((x + k : Nat) : Int), .int .i64 y] rfl rfl Cel.one_new Cel.one_cell (by unfold maxLen; omega) (by omega) hBz ?_
            intro v4 w4 hown4 hgrow4 _
            obtain ⟨A4, c4, rfl⟩ := slice_of_own hown4
            obtain ⟨d2, f2, HQ⟩ := pen_push HP.out HB.out hown4 hgrow4
            clear hown4 hgrow4
            refine ⟨rfl, ?_⟩
            refine ⟨_, some 36, .pointer (some ⟨g, 0, none⟩), rfl, rfl, ⟨rfl, fun _ => by first | rfl | (simp only [execOp]; go_simp)⟩, ?_⟩
            simp only [Act.put, List.setIfInBounds_toArray, List.set_cons_succ, List.set_cons_zero]
            refine ⟨_, some 37, .pointer (some ⟨g, 2, none⟩), rfl, rfl, ⟨rfl, fun _ => by first | rfl | (simp only [execOp]; go_simp)⟩, ?_⟩
            simp only [Act.put, List.setIfInBounds_toArray, List.set_cons_succ, List.set_cons_zero]
            refine ⟨_, rfl, ?_⟩
            go_wp2_with fail
            refine ⟨rfl, ?_⟩
            simp only [Qt.treeW]
            go_wp2
            go_roundw
            case measure => simp [intOf]; omega
            case rel =>
              have H := HQ.out
              rw [← HRUN.out] at H
              exact ⟨k + 1, _, by omega, by go_num, ⟨H.1, HPR.out.trans H.2⟩⟩
          · refine ⟨_, rfl, ?_⟩
            go_wp2_with fail
            refine ⟨rfl, ?_⟩
            refine ⟨_, rfl, ?_⟩
            go_wp2_with fail
            refine ⟨rfl, ?_⟩
            refine ⟨_, rfl, ?_⟩
            refine wpList_append_own _ rfl (.tmp 20) (.tmp 34) 22 rfl B 37 i0 (.agg #[.int .i64 0, .int .i64 0]) 2 16 Tryz.underlying22 hi hz0 hz1 hz2 rfl (by decide) _ _ _ rfl (World.ownsRow.alloc (w := wr.drew) HP.out.own _) ⟨wr.heap.size, 0, none⟩ 1 1 [.int .i64 ((x + k : Nat) : Int), .int .i64 y] rfl rfl Cel.one_new Cel.one_cell (by unfold maxLen; omega) (by omega) hBz ?_
            intro v4 w4 hown4 hgrow4 _
            obtain ⟨A4, c4, rfl⟩ := slice_of_own hown4
            obtain ⟨d2, f2, HQ⟩ := pen_push HP.out HB.out hown4 hgrow4
            clear hown4 hgrow4
            refine ⟨rfl, ?_⟩
            refine ⟨_, some 36, .pointer (some ⟨g, 0, none⟩), rfl, rfl, ⟨rfl, fun _ => by first | rfl | (simp only [execOp]; go_simp)⟩, ?_⟩
            simp only [Act.put, List.setIfInBounds_toArray, List.set_cons_succ, List.set_cons_zero]
            refine ⟨_, some 37, .pointer (some ⟨g, 2, none⟩), rfl, rfl, ⟨rfl, fun _ => by first | rfl | (simp only [execOp]; go_simp)⟩, ?_⟩
            simp only [Act.put, List.setIfInBounds_toArray, List.set_cons_succ, List.set_cons_zero]
            refine ⟨_, rfl, ?_⟩
            go_wp2_with fail
            refine ⟨rfl, ?_⟩
            simp only [Qt.treeW]
            go_wp2
            go_roundw
            case measure => simp [intOf]; omega
            case rel =>
              have H := HQ.out
              rw [← HRUN.out] at H
              exact ⟨k + 1, _, by omega, by go_num, ⟨H.1, HPR.out.trans H.2⟩⟩
      · refine ⟨_, rfl, ?_⟩
        go_wp2_with fail
        refine ⟨rfl, ?_⟩
        constructor
        · refine ⟨_, rfl, ?_⟩
          go_wp2_with fail
          refine ⟨rfl, ?_⟩
          refine ⟨_, rfl, ?_⟩
          go_wp2_with fail
          refine ⟨rfl, ?_⟩
          refine ⟨_, some 27, .int .i64 ((x + k : Nat) : Int), rfl, rfl, ⟨rfl, exec_addi (x := .tmp 25) (y := .tmp 26) rfl rfl rfl (by omega)⟩, ?_⟩
          simp only [Act.put, List.setIfInBounds_toArray, List.set_cons_succ, List.set_cons_zero]
          refine ⟨_, some 33, .agg #[.int .i64 ((x + k : Nat) : Int), .int .i64 y], rfl, rfl, ⟨rfl, fun _ => by first | rfl | (simp only [execOp]; go_simp)⟩, ?_⟩
          simp only [Act.put, List.setIfInBounds_toArray, List.set_cons_succ, List.set_cons_zero]
          refine ⟨_, rfl, ?_⟩
          go_wp2_with fail
          refine ⟨rfl, ?_⟩
          refine ⟨_, rfl, ?_⟩
          refine wpList_append_own _ rfl (.tmp 20) (.tmp 34) 22 rfl B 37 i0 (.agg #[.int .i64 0, .int .i64 0]) 2 16 Tryz.underlying22 hi hz0 hz1 hz2 rfl (by decide) _ _ _ rfl (World.ownsRow.alloc (w := wr.drew) HP.out.own _) ⟨wr.heap.size, 0, none⟩ 1 1 [.int .i64 ((x + k : Nat) : Int), .int .i64 y] rfl rfl Cel.one_new Cel.one_cell (by unfold maxLen; omega) (by omega) hBz ?_
          intro v4 w4 hown4 hgrow4 _
          obtain ⟨A4, c4, rfl⟩ := slice_of_own hown4
          obtain ⟨d2, f2, HQ⟩ := pen_push HP.out HB.out hown4 hgrow4
          clear hown4 hgrow4
          refine ⟨rfl, ?_⟩
          refine ⟨_, some 36, .pointer (some ⟨g, 0, none⟩), rfl, rfl, ⟨rfl, fun _ => by first | rfl | (simp only [execOp]; go_simp)⟩, ?_⟩
          simp only [Act.put, List.setIfInBounds_toArray, List.set_cons_succ, List.set_cons_zero]
          refine ⟨_, some 37, .pointer (some ⟨g, 2, none⟩), rfl, rfl, ⟨rfl, fun _ => by first | rfl | (simp only [execOp]; go_simp)⟩, ?_⟩
          simp only [Act.put, List.setIfInBounds_toArray, List.set_cons_succ, List.set_cons_zero]
          refine ⟨_, rfl, ?_⟩
          go_wp2_with fail
          refine ⟨rfl, ?_⟩
          simp only [Qt.treeW]
          go_wp2
          go_roundw
          case measure => simp [intOf]; omega
          case rel =>
            have H := HQ.out
            rw [← HRUN.out] at H
            exact ⟨k + 1, _, by omega, by go_num, ⟨H.1, HPR.out.trans H.2⟩⟩
        · refine ⟨_, rfl, ?_⟩
          go_wp2_with fail
          refine ⟨rfl, ?_⟩
          refine ⟨_, some 27, .int .i64 ((x + k : Nat) : Int), rfl, rfl, ⟨rfl, exec_addi (x := .tmp 25) (y := .tmp 26) rfl rfl rfl (by omega)⟩, ?_⟩
          simp only [Act.put, List.setIfInBounds_toArray, List.set_cons_succ, List.set_cons_zero]
          refine ⟨_, some 33, .agg #[.int .i64 ((x + k : Nat) : Int), .int .i64 y], rfl, rfl, ⟨rfl, fun _ => by first | rfl | (simp only [execOp]; go_simp)⟩, ?_⟩
          simp only [Act.put, List.setIfInBounds_toArray, List.set_cons_succ, List.set_cons_zero]
          constructor
          · refine ⟨_, rfl, ?_⟩
            go_wp2_with fail
            refine ⟨rfl, ?_⟩
            refine ⟨_, rfl, ?_⟩
            go_wp2_with fail
            refine ⟨rfl, ?_⟩
            refine ⟨_, rfl, ?_⟩
            refine wpList_append_own _ rfl (.tmp 20) (.tmp 34) 22 rfl B 37 i0 (.agg #[.int .i64 0, .int .i64 0]) 2 16 Tryz.underlying22 hi hz0 hz1 hz2 rfl (by decide) _ _ _ rfl (World.ownsRow.alloc (w := wr.drew) HP.out.own _) ⟨wr.heap.size, 0, none⟩ 1 1 [.int .i64 ((x + k : Nat) : Int), .int .i64 y] rfl rfl Cel.one_new Cel.one_cell (by unfold maxLen; omega) (by omega) hBz ?_
            intro v4 w4 hown4 hgrow4 _
            obtain ⟨A4, c4, rfl⟩ := slice_of_own hown4
            obtain ⟨d2, f2, HQ⟩ := pen_push HP.out HB.out hown4 hgrow4
            clear hown4 hgrow4
            refine ⟨rfl, ?_⟩
            refine ⟨_, some 36, .pointer (some ⟨g, 0, none⟩), rfl, rfl, ⟨rfl, fun _ => by first | rfl | (simp only [execOp]; go_simp)⟩, ?_⟩
            simp only [Act.put, List.setIfInBounds_toArray, List.set_cons_succ, List.set_cons_zero]
            refine ⟨_, some 37, .pointer (some ⟨g, 2, none⟩), rfl, rfl, ⟨rfl, fun _ => by first | rfl | (simp only [execOp]; go_simp)⟩, ?_⟩
            simp only [Act.put, List.setIfInBounds_toArray, List.set_cons_succ, List.set_cons_zero]
            refine ⟨_, rfl, ?_⟩
            go_wp2_with fail
            refine ⟨rfl, ?_⟩
            simp only [Qt.treeW]
            go_wp2
            go_roundw
            case measure => simp [intOf]; omega
            case rel =>
              have H := HQ.out
              rw [← HRUN.out] at H
              exact ⟨k + 1, _, by omega, by go_num, ⟨H.1, HPR.out.trans H.2⟩⟩
          · refine ⟨_, rfl, ?_⟩
            go_wp2_with fail
            refine ⟨rfl, ?_⟩
            refine ⟨_, rfl, ?_⟩
            go_wp2_with fail
            refine ⟨rfl, ?_⟩
            refine ⟨_, rfl, ?_⟩
            refine wpList_append_own _ rfl (.tmp 20) (.tmp 34) 22 rfl B 37 i0 (.agg #[.int .i64 0, .int .i64 0]) 2 16 Tryz.underlying22 hi hz0 hz1 hz2 rfl (by decide) _ _ _ rfl (World.ownsRow.alloc (w := wr.drew) HP.out.own _) ⟨wr.heap.size, 0, none⟩ 1 1 [.int .i64 ((x + k : Nat) : Int), .int .i64 y] rfl rfl Cel.one_new Cel.one_cell (by unfold maxLen; omega) (by omega) hBz ?_
            intro v4 w4 hown4 hgrow4 _
            obtain ⟨A4, c4, rfl⟩ := slice_of_own hown4
            obtain ⟨d2, f2, HQ⟩ := pen_push HP.out HB.out hown4 hgrow4
            clear hown4 hgrow4
            refine ⟨rfl, ?_⟩
            refine ⟨_, some 36, .pointer (some ⟨g, 0, none⟩), rfl, rfl, ⟨rfl, fun _ => by first | rfl | (simp only [execOp]; go_simp)⟩, ?_⟩
            simp only [Act.put, List.setIfInBounds_toArray, List.set_cons_succ, List.set_cons_zero]
            refine ⟨_, some 37, .pointer (some ⟨g, 2, none⟩), rfl, rfl, ⟨rfl, fun _ => by first | rfl | (simp only [execOp]; go_simp)⟩, ?_⟩
            simp only [Act.put, List.setIfInBounds_toArray, List.set_cons_succ, List.set_cons_zero]
            refine ⟨_, rfl, ?_⟩
            go_wp2_with fail
            refine ⟨rfl, ?_⟩
            simp only [Qt.treeW]
            go_wp2
            go_roundw
            case measure => simp [intOf]; omega
            case rel =>
              have H := HQ.out
              rw [← HRUN.out] at H
              exact ⟨k + 1, _, by omega, by go_num, ⟨H.1, HPR.out.trans H.2⟩⟩
    · have hltz : ¬ (k : Int) < (m : Int) := by omega
      obtain rfl : k = m := by omega
      have HPR := Lib.hid HH.out.2
      have hsk := skip_any n HH.out.1 hx hn
      clear HH
      go_wp2_with fail
      refine hsk.mono ?_
      rintro e w2 ⟨rfl, v2, hp2, hr2⟩
      have HP2 := Lib.hid hp2
      have HR2 := Lib.hid hr2
      clear hp2 hr2
      go_wp2
      go_end0
      exact ⟨rfl, v2, HP2.out, HPR.out.trans HR2.out⟩
end Go.Proofs.YtacpncmdgkljdaaGreatDoor
namespace Go.Proofs.YtacpncmdgkljdaaGreatDoor
set_option linter.unusedVariables false
set_option linter.unusedSimpArgs false
open Go.RowKit Go.Sort
open Go.ChangeMaps (setBlock heap_setBlock_same)

def fnV (F g : Nat) : Value := .func (.func F) #[.pointer (some ⟨g, 0, none⟩)] #[]
def es3 (g : Nat) : Array MapEntry := #[⟨.int .u8 98, fnV 53 g, 0⟩, ⟨.int .u8 111, fnV 54 g, 1⟩, ⟨.int .u8 36, fnV 55 g, 2⟩]
theorem lt_heap {w : World} {k : Nat} {o : Obj} (h : w.heap[k]? = some o) : k < w.heap.size := (Array.getElem?_eq_some_iff.1 h).1
theorem map_put {W : World} {b : Nat} {es : Array MapEntry} {clock : Nat} {k : Int} (v : Value) (hb : W.heap[b]? = some (.map es clock))
    (hc : (Instr.checkKey false 10000 5 (.int .u8 k)).run Tryz.prog W = .ok () W) (hf : (Instr.findKey 5 (.int .u8 k) es.toList).run Tryz.prog W = .ok none W) :
    (Instr.mapUpdate 93 (.map (some b)) (.int .u8 k) v).run Tryz.prog W = .ok () (setBlock W b (.map (es.push ⟨.int .u8 k, v, clock⟩) (clock + 1))) := by
  simp [Instr.mapUpdate, run_underlying Tryz.underlying93, MapKept.run_getObj_map hb, hc, hf, MapKept.run_setObj_map _ hb, Result.andThen, setBlock]
theorem map_get {W : World} {b : Nat} {es : Array MapEntry} {clock : Nat} {k : Int} {j : Nat} {v : Value} (hb : W.heap[b]? = some (.map es clock))
    (hc : ∀ em, (Instr.checkKey em 10000 5 (.int .u8 k)).run Tryz.prog W = .ok () W) (hf : (Instr.findKey 5 (.int .u8 k) es.toList).run Tryz.prog W = .ok (some (j, v)) W) :
    (Instr.lookup 93 (.map (some b)) (.int .u8 k) false).run Tryz.prog W = .ok v W := by
  simp [Instr.lookup, run_underlying Tryz.underlying93, MapKept.run_getObj_map hb, hc, hf, Result.andThen]
theorem below_setBlock {B b : Nat} {w0 w : World} (h : Below B w0 w) (hB : B ≤ b) (o : Obj) : Below B w0 (setBlock w b o) := by
  refine ⟨h.os, h.tape, h.output, ?_, fun k hk => ?_⟩
  · show _ ≤ (w.heap.setIfInBounds b o).size
    rw [Array.size_setIfInBounds]
    exact h.size
  · show (w.heap.setIfInBounds b o)[k]? = _
    rw [Array.getElem?_setIfInBounds, if_neg (by omega)]
    exact h.block k hk
theorem does_made (w1 : World) (g : Nat) : ∃ w3 w4 w5, (Instr.mapUpdate 93 (.map (some w1.heap.size)) (.int .u8 98) (fnV 53 g)).run Tryz.prog (w1.alloc (.map #[] 0)) = .ok () w3 ∧
    (Instr.mapUpdate 93 (.map (some w1.heap.size)) (.int .u8 111) (fnV 54 g)).run Tryz.prog w3 = .ok () w4 ∧
    (Instr.mapUpdate 93 (.map (some w1.heap.size)) (.int .u8 36) (fnV 55 g)).run Tryz.prog w4 = .ok () w5 ∧
    w5.heap[w1.heap.size]? = some (.map (es3 g) 3) ∧ Below w1.heap.size w1 w5 := by
  have h2 : (w1.alloc (.map #[] 0)).heap[w1.heap.size]? = some (.map #[] 0) := (MapKept.heap_alloc w1 _).1
  have b2 : Below w1.heap.size w1 (w1.alloc (.map #[] 0)) := (Below.refl _ _).alloc (Nat.le_refl _) _
  have r3 := map_put (fnV 53 g) (k := 98) h2 (by kernel_rfl) (by kernel_rfl)
  have h3 := heap_setBlock_same h2 (.map ((#[] : Array MapEntry).push ⟨.int .u8 98, fnV 53 g, 0⟩) (0 + 1))
  have b3 := below_setBlock b2 (Nat.le_refl _) (.map ((#[] : Array MapEntry).push ⟨.int .u8 98, fnV 53 g, 0⟩) (0 + 1))
  generalize setBlock (w1.alloc (.map #[] 0)) w1.heap.size (.map ((#[] : Array MapEntry).push ⟨.int .u8 98, fnV 53 g, 0⟩) (0 + 1)) = w3 at r3 h3 b3
  have r4 := map_put (fnV 54 g) (k := 111) h3 (by kernel_rfl) (by kernel_rfl)
  have h4 := heap_setBlock_same h3 (.map (((#[] : Array MapEntry).push ⟨.int .u8 98, fnV 53 g, 0⟩).push ⟨.int .u8 111, fnV 54 g, 0 + 1⟩) (0 + 1 + 1))
  have b4 := below_setBlock b3 (Nat.le_refl _) (.map (((#[] : Array MapEntry).push ⟨.int .u8 98, fnV 53 g, 0⟩).push ⟨.int .u8 111, fnV 54 g, 0 + 1⟩) (0 + 1 + 1))
  generalize setBlock w3 w1.heap.size (.map (((#[] : Array MapEntry).push ⟨.int .u8 98, fnV 53 g, 0⟩).push ⟨.int .u8 111, fnV 54 g, 0 + 1⟩) (0 + 1 + 1)) = w4 at r4 h4 b4
  have r5 := map_put (fnV 55 g) (k := 36) h4 (by kernel_rfl) (by kernel_rfl)
  exact ⟨w3, w4, _, r3, r4, r5, heap_setBlock_same h4 _, below_setBlock b4 (Nat.le_refl _) _⟩

/-! ### a step -/
/-- What the pen holds behind an item: the state, or more than there may be. -/
structure Stepped (s : St) (x y : Nat) (out : List (Int × Int)) : Prop where
  ex : x = s.x
  ey : y = s.y
  efull : fullS s = decide (2000 < out.length)
  eout : fullS s = false → out = s.out ∧ out.length = s.many
  xb : x ≤ 9000000000000
  yb : y ≤ 9000000000000
  lb : out.length ≤ 1000000
/-- the state at an item's beginning -/
structure Fit (s : St) : Prop where
  x : s.x ≤ 1099511627776
  y : s.y ≤ 1099511627776
  many : s.many ≤ 2000
  len : s.out.length = s.many
theorem fit0 : Fit st0 := ⟨Nat.zero_le _, Nat.zero_le _, Nat.zero_le _, rfl⟩
theorem full_iff (s : St) : fullS s = decide (2000 < s.many) := rfl
theorem stepped_b {s : St} (h : Fit s) {n : Nat} (hn : n ≤ 1099511627776) : Stepped (stepS s 98 n) (s.x + n) s.y s.out := by
  have := h.x; have := h.y; have := h.many; have := h.len
  rw [step_b]
  exact ⟨rfl, rfl, by rw [full_iff, h.len], fun _ => ⟨rfl, h.len⟩, by omega, by omega, by omega⟩
theorem stepped_d {s : St} (h : Fit s) {n : Nat} (hn : n ≤ 1099511627776) : Stepped (stepS s 36 n) 0 (s.y + n) s.out := by
  have := h.x; have := h.y; have := h.many; have := h.len
  rw [step_d]
  exact ⟨rfl, rfl, by rw [full_iff, h.len], fun _ => ⟨rfl, h.len⟩, by omega, by omega, by omega⟩
theorem stepped_o {s : St} (h : Fit s) {n : Nat} (hn : n ≤ 1099511627776) : Stepped (stepS s 111 n) (s.x + n) s.y (s.out ++ runC s.x s.y (min n (2001 - s.out.length))) := by
  have := h.x; have := h.y; have := h.many; have hl := h.len
  have hlen : (s.out ++ runC s.x s.y (min n (2001 - s.out.length))).length = s.many + min n (2001 - s.many) := by rw [List.length_append, runC_len, hl]
  rw [step_o]
  refine ⟨rfl, rfl, ?_, fun hf => ?_, by omega, by omega, by omega⟩
  · rw [full_iff, hlen]
    simp only
    rw [Bool.eq_iff_iff, decide_eq_true_eq, decide_eq_true_eq]
    omega
  · rw [full_iff] at hf
    simp only [decide_eq_false_iff_not] at hf
    have e : min n (2001 - s.out.length) = n := by omega
    rw [e] at hlen ⊢
    exact ⟨rfl, by rw [List.length_append, runC_len, hl]⟩
theorem fault_of {s : St} {x y : Nat} {out : List (Int × Int)} (h : Stepped s x y out) : faultL x y out.length = if farS s = true then 2 else if fullS s = true then 3 else 0 := by
  unfold faultL farS
  rw [h.efull, h.ex, h.ey]
  simp
theorem fit_next {s : St} {x y : Nat} {out : List (Int × Int)} (h : Stepped s x y out) (h1 : farS s = false) (h2 : fullS s = false) : Fit s := by
  unfold farS at h1
  simp only [Bool.or_eq_false_iff, decide_eq_false_iff_not] at h1
  have h3 := (h.eout h2)
  have h4 := h2
  rw [full_iff] at h4
  simp only [decide_eq_false_iff_not] at h4
  exact ⟨by omega, by omega, by omega, by rw [← h3.1]; exact h3.2⟩
theorem doL_cons (t : UInt8) (n p : Nat) (r : List Itm) (s : St) : doL ((t, n, p) :: r) s = if farS (stepS s t n) = true then ([], 2, p) else if fullS (stepS s t n) = true then ([], 3, p) else doL r (stepS s t n) := rfl

/-- what the set is, or the error and its place -/
def SetR (r : List (Int × Int) × Int × Nat) (w : World) (e : Ending) (w' : World) : Prop :=
  ∃ v, e = .returned (.tuple #[v, .int .i64 r.2.1, .int .i64 r.2.2]) ∧ Cel.Reads w' v r.1 ∧ Below w.heap.size w w'
theorem setR_none {x : Int} {p : Nat} {w w' : World} (h : Below w.heap.size w w') : SetR ([], x, p) w (.returned (.tuple #[.slice none 0 0, .int .i64 x, .int .i64 p])) w' :=
  ⟨_, rfl, ⟨none, 0, rfl, Nat.le_refl _, Cel.Rd.nil _ _ _⟩, h⟩

/-- What is known at the head of the loop. -/
structure DrawnAt (w wr : World) (I : List Itm) (r : List (Int × Int) × Int × Nat) (k : Nat) (s : St) (v : Value) : Prop where
  pen : Pen wr w.heap.size (w.heap.size + 2) s.x s.y s.out v
  fit : Fit s
  map : wr.heap[w.heap.size + 1]? = some (.map (es3 w.heap.size) 3)
  bel : Below w.heap.size w wr
  pos : k ≤ I.length
  rest : doL (I.drop k) s = r
end Go.Proofs.YtacpncmdgkljdaaGreatDoor
namespace Go.Proofs.YtacpncmdgkljdaaGreatDoor
set_option linter.unusedVariables false
set_option linter.unusedSimpArgs false
open Go.RowKit Go.Sort

set_option maxHeartbeats 8000000 in
set_option maxRecDepth 100000 in
theorem drawn_any (A : Option Addr) (I : List Itm) (c : Nat) (w : World) (hR : NowE w A (I.map up)) (hI : ∀ x ∈ I, goodI x = true) (hl : I.length ≤ 1000000) :
    Calls Tryz.prog 28 #[.slice A I.length c] w (SetR (doL I st0) w) := by
  have hmf : ∀ (fn : Fn) (first cap : Array Value) (W : World), (Instr.makeFunc fn first cap).run Tryz.prog W = .ok (.func fn first cap) W := fun _ _ _ _ => rfl
  obtain ⟨r, hr⟩ : ∃ r, r = doL I st0 := ⟨_, rfl⟩
  rw [← hr]
  have HI := Lib.hid hI
  have hpen0 : Pen (w.alloc (.cells #[.int .i64 0, .int .i64 0, .slice none 0 0] 91)) w.heap.size (w.heap.size + 2) 0 0 [] (.slice none 0 0) := ⟨heap_alloc_new w _, World.ownsRow_nil _ _ _ _, by omega⟩
  have hb0 : Below w.heap.size w (w.alloc (.cells #[.int .i64 0, .int .i64 0, .slice none 0 0] 91)) := (Below.refl _ _).alloc (Nat.le_refl _) _
  have hs0 : (w.alloc (.cells #[.int .i64 0, .int .i64 0, .slice none 0 0] 91)).heap.size = w.heap.size + 1 := by simp
  have hmm := @run_makeMap Tryz.prog
  obtain ⟨w3, w4, w5, r3, r4, r5, hmap, hb5⟩ := does_made (w.alloc (.cells #[.int .i64 0, .int .i64 0, .slice none 0 0] 91)) w.heap.size
  rw [hs0] at r3 r4 r5 hmap
  unfold fnV at r3 r4 r5
  have H0 : DrawnAt w w5 I r 0 st0 (.slice none 0 0) := ⟨hpen0.below hb5, fit0, hmap, Qt.more hb0 (by omega) hb5, Nat.zero_le _, hr.symm⟩
  have HH0 := Lib.hid H0
  clear hpen0 hmap hb5 H0 hb0 hs0 hI hr
  go_enter Tryz.func28, Tryz.ntmps28
  go_wp2
  clear r3 r4 r5 hmf hmm
  go_loopw [17] (fun i wr => ∃ (k : Nat) (s : St) (v : Value), i = .int .i64 k ∧ Hid (DrawnAt w wr I r k s v)) (fun i _ => I.length - (intOf i).toNat)
  case atStart => exact ⟨0, st0, _, rfl, HH0.out⟩
  case round =>
    obtain ⟨k, s, v, rfl, HH⟩ := hrel
    have H := HH.out
    have hk := H.pos
    by_cases hlt : k < I.length
    · have hltz : (k : Int) < (I.length : Int) := by omega
      obtain ⟨b0, off, rfl, hbB, hcell⟩ := hR.at_ (by rw [List.length_map]; omega)
      have hcons := List.drop_eq_getElem_cons hlt
      have hgood := HI.out _ (List.getElem_mem hlt)
      have hgd : (I.map up).getD k noE = up I[k] := by rw [List.getD_eq_getElem?_getD, List.getElem?_map, List.getElem?_eq_getElem hlt]; rfl
      have hc3 := hcell k (by rw [List.length_map]; exact hlt)
      rw [hgd] at hc3
      obtain ⟨⟨t, n, p⟩, hx⟩ : ∃ x, x = I[k] := ⟨_, rfl⟩
      rw [← hx] at hc3 hcons hgood
      obtain ⟨ht, hn1, hn2⟩ := (goodI_iff _).1 hgood
      simp only [up] at hc3 ht hn1 hn2
      have a0 := Qt.keep H.bel hc3.1
      have a1 := Qt.keep H.bel hc3.2.1
      have a2 := Qt.keep H.bel hc3.2.2
      have hstep := H.rest
      rw [hcons, doL_cons] at hstep
      have hw : w.heap.size ≤ wr.heap.size := H.bel.size
      have hmlt : w.heap.size + 1 < wr.heap.size := (Array.getElem?_eq_some_iff.1 H.map).1
      have hx2 : s.x ≤ 1099511627776 := H.fit.x
      have hy2 : s.y ≤ 1099511627776 := H.fit.y
      have hm2 : s.out.length ≤ 2000 := by have := H.fit.len; have := H.fit.many; omega
      -- the item's own box
      obtain ⟨T, hT⟩ : ∃ T : Int, T = (t.toNat : Int) := ⟨_, rfl⟩
      rw [← hT] at a0
      have hal : Below wr.heap.size wr (wr.alloc (.cells #[.int .u8 T, .int .i64 n, .int .i64 p] 61)) := (Below.refl _ _).alloc (Nat.le_refl _) _
      have hpen1 := H.pen.below hal
      have hmap1 := (hal.block _ hmlt).trans H.map
      have hbx1 : (wr.alloc (.cells #[.int .u8 T, .int .i64 n, .int .i64 p] 61)).heap[wr.heap.size]? = some (.cells #[.int .u8 T, .int .i64 n, .int .i64 p] 61 (0, 0)) := heap_alloc_new wr _
      have hsz1 : (wr.alloc (.cells #[.int .u8 T, .int .i64 n, .int .i64 p] 61)).heap.size = wr.heap.size + 1 := by simp
      have hb1 := H.bel.alloc hw (.cells #[.int .u8 T, .int .i64 n, .int .i64 p] 61)
      have hfit := H.fit
      have h3 : t = 98 ∨ t = 111 ∨ t = 36 := by
        unfold tagB at ht
        simpa [or_assoc] using ht
      clear H HH hcell hgd hc3 hx hcons hgood ht hal
      have hdone : ∃ x' y' out', Stepped (stepS s t n) x' y' out' ∧ (t = 98 → x' = s.x + n ∧ y' = s.y ∧ out' = s.out) ∧ (t = 111 → x' = s.x + n ∧ y' = s.y ∧ out' = s.out ++ runC s.x s.y (min n (2001 - s.out.length))) ∧ (t = 36 → x' = 0 ∧ y' = s.y + n ∧ out' = s.out) := by
        rcases h3 with rfl | rfl | rfl
        · exact ⟨_, _, _, stepped_b hfit hn2, fun _ => ⟨rfl, rfl, rfl⟩, fun e => absurd e (by decide), fun e => absurd e (by decide)⟩
        · exact ⟨_, _, _, stepped_o hfit hn2, fun e => absurd e (by decide), fun _ => ⟨rfl, rfl, rfl⟩, fun e => absurd e (by decide)⟩
        · exact ⟨_, _, _, stepped_d hfit hn2, fun e => absurd e (by decide), fun e => absurd e (by decide), fun _ => ⟨rfl, rfl, rfl⟩⟩
      obtain ⟨x', y', out', hst, he1, he2, he3⟩ := hdone
      have HST := Lib.hid hst
      have HSTEP := Lib.hid hstep
      have hmfit := hfit
      generalize hs' : stepS s t n = s' at HST HSTEP hst hstep
      have HS := Lib.hid hs'
      clear hst hstep hs' hfit hmfit hn1
      rcases h3 with rfl | rfl | rfl
      · obtain ⟨rfl, rfl, rfl⟩ := he1 rfl
        obtain rfl : T = 98 := hT
        have hcall := skip_any n hpen1 hx2 hn2
        have hlook := map_get (k := 98) (j := 0) (v := fnV 53 w.heap.size) hmap1 (fun em => by kernel_rfl) (by kernel_rfl)
        unfold fnV at hlook
        clear he1 he2 he3 hx2 hy2 hm2
        go_wp2_with fail
        refine hcall.mono ?_
        rintro e w2 ⟨rfl, v2, hp2, hr2⟩
        clear hcall hlook
        have hmap2 := hr2.oth _ _ hmap1 (fun e => by injection e with e; omega) (fun _ _ e => by cases e)
        have hbx2 := hr2.oth _ _ hbx1 (fun e => by injection e with e; omega) (fun _ _ e => by injection e with _ e _; exact absurd e (by decide))
        have hb2 : Below w.heap.size w w2 := hb1.trans hr2.bel
        clear hpen1 hmap1 hbx1 hr2 hb1 a0 a1 a2
        have hfl := fault_any hp2 HST.out.xb HST.out.yb HST.out.lb
        rw [fault_of HST.out] at hfl
        have hst := HST.out
        cases hfar : farS s' with
        | true =>
          rw [hfar] at hfl
          have he : r = ([], 2, p) := by rw [← HSTEP.out, hfar]; rfl
          have hfl2 : Calls Tryz.prog 56 #[.pointer (some ⟨w.heap.size, 0, none⟩)] w2 fun e w' => e = .returned (.int .i64 2) ∧ Below w2.heap.size w2 w' := hfl
          clear hfl hst hp2 hmap2 HSTEP HST HS hfar
          subst he
          go_wp2_with fail
          refine hfl2.mono ?_
          rintro e w6 ⟨rfl, hb6⟩
          have hbx6 := (hb6.block _ (lt_heap hbx2)).trans hbx2
          have e2 : w6.cell? ⟨wr.heap.size, 2, none⟩ = some (.int .i64 p) := by rw [Lib.cell_of_heap hbx6]; rfl
          have k2 := Qt.cell_in e2
          have hbb := Qt.more hb2 hb2.size hb6
          clear hfl2 hbx2 hbx6 hb2 hb6
          go_wp2_with fail
          refine Qt.below_all (by kernel_rfl) (by kernel_rfl) ?_
          repeat (go_big_quiet_step (fail))
          refine wpQuiet_nil ?_
          intro w7 hb7
          clear k2
          go_wp2
          go_ret3
          exact setR_none (Qt.more hbb hbb.size hb7)
        | false =>
          rw [hfar, if_neg (by decide)] at hfl
          have hstep2 := HSTEP.out
          rw [hfar, if_neg (by decide)] at hstep2
          cases hfull : fullS s' with
          | true =>
            rw [hfull] at hfl hstep2
            have he : r = ([], 3, p) := hstep2.symm
            have hfl2 : Calls Tryz.prog 56 #[.pointer (some ⟨w.heap.size, 0, none⟩)] w2 fun e w' => e = .returned (.int .i64 3) ∧ Below w2.heap.size w2 w' := hfl
            clear hfl hst hp2 hmap2 HSTEP HST HS hfar hfull hstep2
            subst he
            go_wp2_with fail
            refine hfl2.mono ?_
            rintro e w6 ⟨rfl, hb6⟩
            have hbx6 := (hb6.block _ (lt_heap hbx2)).trans hbx2
            have e2 : w6.cell? ⟨wr.heap.size, 2, none⟩ = some (.int .i64 p) := by rw [Lib.cell_of_heap hbx6]; rfl
            have k2 := Qt.cell_in e2
            have hbb := Qt.more hb2 hb2.size hb6
            clear hfl2 hbx2 hbx6 hb2 hb6
            go_wp2_with fail
            refine Qt.below_all (by kernel_rfl) (by kernel_rfl) ?_
            repeat (go_big_quiet_step (fail))
            refine wpQuiet_nil ?_
            intro w7 hb7
            clear k2
            go_wp2
            go_ret3
            exact setR_none (Qt.more hbb hbb.size hb7)
          | false =>
            rw [hfull] at hfl hstep2
            have hfl2 : Calls Tryz.prog 56 #[.pointer (some ⟨w.heap.size, 0, none⟩)] w2 fun e w' => e = .returned (.int .i64 0) ∧ Below w2.heap.size w2 w' := hfl
            have HD := Lib.hid (fun (w6 : World) (hb6 : Below w2.heap.size w2 w6) => (show DrawnAt w w6 I r (k + 1) s' v2 from by
              have h1 := hp2.below hb6
              rw [(hst.eout hfull).1, hst.ex, hst.ey] at h1
              exact ⟨h1, fit_next hst hfar hfull, (hb6.block _ (lt_heap hmap2)).trans hmap2, Qt.more hb2 hb2.size hb6, hlt, hstep2⟩))
            clear hfl hst hp2 hmap2 HSTEP HST HS hfar hfull hstep2 hbx2
            go_wp2_with fail
            refine hfl2.mono ?_
            rintro e w6 ⟨rfl, hb6⟩
            have HD6 := Lib.hid (HD.out w6 hb6)
            clear HD hfl2 hb6 hb2
            go_wp2
            go_roundw
            case measure => simp [intOf]; omega
            case rel => exact ⟨k + 1, s', v2, by go_num, HD6.out⟩
      · obtain ⟨rfl, rfl, rfl⟩ := he2 rfl
        obtain rfl : T = 111 := hT
        have hcall := put_any n hpen1 (by rw [hsz1]; omega) hx2 hn2 hm2
        have hlook := map_get (k := 111) (j := 1) (v := fnV 54 w.heap.size) hmap1 (fun em => by kernel_rfl) (by kernel_rfl)
        unfold fnV at hlook
        clear he1 he2 he3 hx2 hy2 hm2
        go_wp2_with fail
        refine hcall.mono ?_
        rintro e w2 ⟨rfl, v2, hp2, hr2⟩
        clear hcall hlook
        have hmap2 := hr2.oth _ _ hmap1 (fun e => by injection e with e; omega) (fun _ _ e => by cases e)
        have hbx2 := hr2.oth _ _ hbx1 (fun e => by injection e with e; omega) (fun _ _ e => by injection e with _ e _; exact absurd e (by decide))
        have hb2 : Below w.heap.size w w2 := hb1.trans hr2.bel
        clear hpen1 hmap1 hbx1 hr2 hb1 a0 a1 a2
        have hfl := fault_any hp2 HST.out.xb HST.out.yb HST.out.lb
        rw [fault_of HST.out] at hfl
        have hst := HST.out
        cases hfar : farS s' with
        | true =>
          rw [hfar] at hfl
          have he : r = ([], 2, p) := by rw [← HSTEP.out, hfar]; rfl
          have hfl2 : Calls Tryz.prog 56 #[.pointer (some ⟨w.heap.size, 0, none⟩)] w2 fun e w' => e = .returned (.int .i64 2) ∧ Below w2.heap.size w2 w' := hfl
          clear hfl hst hp2 hmap2 HSTEP HST HS hfar
          subst he
          go_wp2_with fail
          refine hfl2.mono ?_
          rintro e w6 ⟨rfl, hb6⟩
          have hbx6 := (hb6.block _ (lt_heap hbx2)).trans hbx2
          have e2 : w6.cell? ⟨wr.heap.size, 2, none⟩ = some (.int .i64 p) := by rw [Lib.cell_of_heap hbx6]; rfl
          have k2 := Qt.cell_in e2
          have hbb := Qt.more hb2 hb2.size hb6
          clear hfl2 hbx2 hbx6 hb2 hb6
          go_wp2_with fail
          refine Qt.below_all (by kernel_rfl) (by kernel_rfl) ?_
          repeat (go_big_quiet_step (fail))
          refine wpQuiet_nil ?_
          intro w7 hb7
          clear k2
          go_wp2
          go_ret3
          exact setR_none (Qt.more hbb hbb.size hb7)
        | false =>
          rw [hfar, if_neg (by decide)] at hfl
          have hstep2 := HSTEP.out
          rw [hfar, if_neg (by decide)] at hstep2
          cases hfull : fullS s' with
          | true =>
            rw [hfull] at hfl hstep2
            have he : r = ([], 3, p) := hstep2.symm
            have hfl2 : Calls Tryz.prog 56 #[.pointer (some ⟨w.heap.size, 0, none⟩)] w2 fun e w' => e = .returned (.int .i64 3) ∧ Below w2.heap.size w2 w' := hfl
            clear hfl hst hp2 hmap2 HSTEP HST HS hfar hfull hstep2
            subst he
            go_wp2_with fail
            refine hfl2.mono ?_
            rintro e w6 ⟨rfl, hb6⟩
            have hbx6 := (hb6.block _ (lt_heap hbx2)).trans hbx2
            have e2 : w6.cell? ⟨wr.heap.size, 2, none⟩ = some (.int .i64 p) := by rw [Lib.cell_of_heap hbx6]; rfl
            have k2 := Qt.cell_in e2
            have hbb := Qt.more hb2 hb2.size hb6
            clear hfl2 hbx2 hbx6 hb2 hb6
            go_wp2_with fail
            refine Qt.below_all (by kernel_rfl) (by kernel_rfl) ?_
            repeat (go_big_quiet_step (fail))
            refine wpQuiet_nil ?_
            intro w7 hb7
            clear k2
            go_wp2
            go_ret3
            exact setR_none (Qt.more hbb hbb.size hb7)
          | false =>
            rw [hfull] at hfl hstep2
            have hfl2 : Calls Tryz.prog 56 #[.pointer (some ⟨w.heap.size, 0, none⟩)] w2 fun e w' => e = .returned (.int .i64 0) ∧ Below w2.heap.size w2 w' := hfl
            have HD := Lib.hid (fun (w6 : World) (hb6 : Below w2.heap.size w2 w6) => (show DrawnAt w w6 I r (k + 1) s' v2 from by
              have h1 := hp2.below hb6
              rw [(hst.eout hfull).1, hst.ex, hst.ey] at h1
              exact ⟨h1, fit_next hst hfar hfull, (hb6.block _ (lt_heap hmap2)).trans hmap2, Qt.more hb2 hb2.size hb6, hlt, hstep2⟩))
            clear hfl hst hp2 hmap2 HSTEP HST HS hfar hfull hstep2 hbx2
            go_wp2_with fail
            refine hfl2.mono ?_
            rintro e w6 ⟨rfl, hb6⟩
            have HD6 := Lib.hid (HD.out w6 hb6)
            clear HD hfl2 hb6 hb2
            go_wp2
            go_roundw
            case measure => simp [intOf]; omega
            case rel => exact ⟨k + 1, s', v2, by go_num, HD6.out⟩
      · obtain ⟨rfl, rfl, rfl⟩ := he3 rfl
        obtain rfl : T = 36 := hT
        have hcall := down_any n hpen1 hy2 hn2
        have hlook := map_get (k := 36) (j := 2) (v := fnV 55 w.heap.size) hmap1 (fun em => by kernel_rfl) (by kernel_rfl)
        unfold fnV at hlook
        clear he1 he2 he3 hx2 hy2 hm2
        go_wp2_with fail
        refine hcall.mono ?_
        rintro e w2 ⟨rfl, v2, hp2, hr2⟩
        clear hcall hlook
        have hmap2 := hr2.oth _ _ hmap1 (fun e => by injection e with e; omega) (fun _ _ e => by cases e)
        have hbx2 := hr2.oth _ _ hbx1 (fun e => by injection e with e; omega) (fun _ _ e => by injection e with _ e _; exact absurd e (by decide))
        have hb2 : Below w.heap.size w w2 := hb1.trans hr2.bel
        clear hpen1 hmap1 hbx1 hr2 hb1 a0 a1 a2
        have hfl := fault_any hp2 HST.out.xb HST.out.yb HST.out.lb
        rw [fault_of HST.out] at hfl
        have hst := HST.out
        cases hfar : farS s' with
        | true =>
          rw [hfar] at hfl
          have he : r = ([], 2, p) := by rw [← HSTEP.out, hfar]; rfl
          have hfl2 : Calls Tryz.prog 56 #[.pointer (some ⟨w.heap.size, 0, none⟩)] w2 fun e w' => e = .returned (.int .i64 2) ∧ Below w2.heap.size w2 w' := hfl
          clear hfl hst hp2 hmap2 HSTEP HST HS hfar
          subst he
          go_wp2_with fail
          refine hfl2.mono ?_
          rintro e w6 ⟨rfl, hb6⟩
          have hbx6 := (hb6.block _ (lt_heap hbx2)).trans hbx2
          have e2 : w6.cell? ⟨wr.heap.size, 2, none⟩ = some (.int .i64 p) := by rw [Lib.cell_of_heap hbx6]; rfl
          have k2 := Qt.cell_in e2
          have hbb := Qt.more hb2 hb2.size hb6
          clear hfl2 hbx2 hbx6 hb2 hb6
          go_wp2_with fail
          refine Qt.below_all (by kernel_rfl) (by kernel_rfl) ?_
          repeat (go_big_quiet_step (fail))
          refine wpQuiet_nil ?_
          intro w7 hb7
          clear k2
          go_wp2
          go_ret3
          exact setR_none (Qt.more hbb hbb.size hb7)
        | false =>
          rw [hfar, if_neg (by decide)] at hfl
          have hstep2 := HSTEP.out
          rw [hfar, if_neg (by decide)] at hstep2
          cases hfull : fullS s' with
          | true =>
            rw [hfull] at hfl hstep2
            have he : r = ([], 3, p) := hstep2.symm
            have hfl2 : Calls Tryz.prog 56 #[.pointer (some ⟨w.heap.size, 0, none⟩)] w2 fun e w' => e = .returned (.int .i64 3) ∧ Below w2.heap.size w2 w' := hfl
            clear hfl hst hp2 hmap2 HSTEP HST HS hfar hfull hstep2
            subst he
            go_wp2_with fail
            refine hfl2.mono ?_
            rintro e w6 ⟨rfl, hb6⟩
            have hbx6 := (hb6.block _ (lt_heap hbx2)).trans hbx2
            have e2 : w6.cell? ⟨wr.heap.size, 2, none⟩ = some (.int .i64 p) := by rw [Lib.cell_of_heap hbx6]; rfl
            have k2 := Qt.cell_in e2
            have hbb := Qt.more hb2 hb2.size hb6
            clear hfl2 hbx2 hbx6 hb2 hb6
            go_wp2_with fail
            refine Qt.below_all (by kernel_rfl) (by kernel_rfl) ?_
            repeat (go_big_quiet_step (fail))
            refine wpQuiet_nil ?_
            intro w7 hb7
            clear k2
            go_wp2
            go_ret3
            exact setR_none (Qt.more hbb hbb.size hb7)
          | false =>
            rw [hfull] at hfl hstep2
            have hfl2 : Calls Tryz.prog 56 #[.pointer (some ⟨w.heap.size, 0, none⟩)] w2 fun e w' => e = .returned (.int .i64 0) ∧ Below w2.heap.size w2 w' := hfl
            have HD := Lib.hid (fun (w6 : World) (hb6 : Below w2.heap.size w2 w6) => (show DrawnAt w w6 I r (k + 1) s' v2 from by
              have h1 := hp2.below hb6
              rw [(hst.eout hfull).1, hst.ex, hst.ey] at h1
              exact ⟨h1, fit_next hst hfar hfull, (hb6.block _ (lt_heap hmap2)).trans hmap2, Qt.more hb2 hb2.size hb6, hlt, hstep2⟩))
            clear hfl hst hp2 hmap2 HSTEP HST HS hfar hfull hstep2 hbx2
            go_wp2_with fail
            refine hfl2.mono ?_
            rintro e w6 ⟨rfl, hb6⟩
            have HD6 := Lib.hid (HD.out w6 hb6)
            clear HD hfl2 hb6 hb2
            go_wp2
            go_roundw
            case measure => simp [intOf]; omega
            case rel => exact ⟨k + 1, s', v2, by go_num, HD6.out⟩
    · have hltz : ¬ (k : Int) < (I.length : Int) := by omega
      have he : r = (s.out, 0, 0) := by rw [← H.rest, List.drop_of_length_le (by omega)]; rfl
      subst he
      obtain ⟨A2, c2, rfl, hc2, hrd⟩ := H.pen.own.rd
      have q2 := H.pen.v0
      have hbel := H.bel
      clear H HH HI
      go_wp2
      go_ret3
      exact ⟨_, rfl, ⟨A2, c2, rfl, hc2, hrd⟩, hbel⟩
end Go.Proofs.YtacpncmdgkljdaaGreatDoor
