/-
  Texts that the claims of this seat share, part 25.
-/
import Derived.Test.YtklccoodfhejbaaB24
import Derived.Test.YtklccoodfhejbaaB10
set_option linter.unusedVariables false
set_option linter.unusedSimpArgs false
namespace Go.Proofs.Ytklccoodfhejbaa
set_option maxRecDepth 100000
set_option linter.unusedVariables false
set_option linter.unusedSimpArgs false
open Go.RowKit Go.Sort

/-- a cell, told from its quarter's corner -/
def movedC (k i : Nat) (c : Int × Int) : Int × Int := (c.1 - ((i % 2 : Nat) : Int) * 2 ^ k, c.2 - ((i / 2 : Nat) : Int) * 2 ^ k)
/-- the cells of a quarter, told from its corner -/
def partL (k : Nat) (S : List (Int × Int)) (i : Nat) : List (Int × Int) := (S.filter fun c => decide (q7 k c = i)).map (movedC k i)
theorem part_next {k : Nat} {S : List (Int × Int)} {j : Nat} (hj : j < S.length) {q : Nat} {c : Int × Int} (hq : q = q7 k (S.getD j (0, 0))) (hc : c = movedC k q (S.getD j (0, 0))) (i : Nat) : partL k (S.take (j + 1)) i = if i = q then partL k (S.take j) q ++ [c] else partL k (S.take j) i := by
  unfold partL
  rw [filter_next hj i, ← hq]
  by_cases h : i = q
  · rw [if_pos h, if_pos h, List.map_append, h, hc]; rfl
  · rw [if_neg h, if_neg h]
theorem len_part (k : Nat) (S : List (Int × Int)) (i : Nat) : (partL k S i).length ≤ S.length := by
  unfold partL
  rw [List.length_map]
  exact List.length_filter_le _ _
theorem part_sq {k : Nat} {S : List (Int × Int)} (h : ∀ s ∈ S, InSq (k + 1) s) {i : Nat} (hi : i < 4) : ∀ s ∈ partL k S i, InSq k s := fun s hs => by
  unfold partL at hs
  obtain ⟨t, ht, rfl⟩ := List.mem_map.1 hs
  obtain ⟨ht1, ht2⟩ := List.mem_filter.1 ht
  have hq : q7 k t = i := of_decide_eq_true ht2
  have hin : InAt7 (k + 1) (0, 0) t := by have := h t ht1; unfold InSq at this; unfold InAt7; simp only; omega
  have := (quarter_of hin).1
  simp only [Int.sub_zero] at this
  rw [hq] at this
  unfold InAt7 corner7 at this
  unfold InSq movedC
  simp only at this ⊢
  omega
theorem part_agree {k : Nat} {S : List (Int × Int)} {i : Nat} : ∀ s ∈ S, Agree k (movedC k i s) s := fun s _ => by
  have h := agree_shift s (-((i % 2 : Nat) : Int)) (-((i / 2 : Nat) : Int)) k
  have e : movedC k i s = (s.1 + 2 ^ k * (-((i % 2 : Nat) : Int)), s.2 + 2 ^ k * (-((i / 2 : Nat) : Int))) := by
    unfold movedC
    rw [Int.mul_neg, Int.mul_neg, Int.mul_comm, Int.mul_comm (((i / 2 : Nat) : Int))]
    rfl
  rw [e]
  exact h
/-- a node of cells goes by their bits -/
theorem build_agree {room : Int} {f : Int × Int → Int × Int} : ∀ (k : Nat) (l : List Nd) (S : List (Int × Int)), (∀ s ∈ S, Agree k (f s) s) → buildC room k l (S.map f) = buildC room k l S
  | 0, l, S, h => by
    unfold buildC
    cases S <;> rfl
  | k + 1, l, S, h => by
    unfold buildC
    by_cases hS : S = []
    · subst hS; rfl
    · rw [if_neg hS, if_neg (by simpa using hS)]
      congr 1
      funext i l'
      have e : (S.map f).filter (fun c => decide (q7 k c = i)) = (S.filter fun c => decide (q7 k c = i)).map f := by
        rw [List.filter_map]
        congr 1
        refine List.filter_congr fun s hs => ?_
        show decide (q7 k (f s) = i) = decide (q7 k s = i)
        rw [(agree_succ.1 (h s hs)).1]
      rw [e]
      exact build_agree k l' _ fun s hs => (agree_succ.1 (h s (List.mem_filter.1 hs).1)).2
theorem build_part {room : Int} (k : Nat) (l : List Nd) (S : List (Int × Int)) (i : Nat) : buildC room k l (partL k S i) = buildC room k l (S.filter fun c => decide (q7 k c = i)) := build_agree k l _ (part_agree (k := k) (S := _) (i := i))
theorem ClB.fr {w : World} {b : Nat} {c : Int × Int} (h : ClB w b c) (j : Nat) : w.frozen? ⟨b, j, none⟩ = false := Lib.frozen_of_heap h.row j
/-- What is known in the loop over cells. -/
structure PaAt (w wr : World) (k : Nat) (S : List (Int × Int)) (j : Nat) (vs : Nat → Value) : Prop where
  res : wr.heap[w.heap.size]? = some (.cells #[.slice none 0 0, .slice none 0 0, .slice none 0 0, .slice none 0 0] 107 (0, 0))
  qs : QsB (w.heap.size + 2) wr (w.heap.size + 1) vs (partL k (S.take j))
  bel : Below w.heap.size w wr
  size : w.heap.size + 2 ≤ wr.heap.size
theorem PaAt.below {w wr w' : World} {k j : Nat} {S : List (Int × Int)} {vs : Nat → Value} (h : PaAt w wr k S j vs) (hb : Below wr.heap.size wr w') : PaAt w w' k S j vs :=
  ⟨(hb.block _ (lt_heap6 h.res)).trans h.res, h.qs.below hb, Qt.more h.bel h.bel.size hb, Nat.le_trans h.size hb.size⟩
theorem PaAt.pushed {w w6 w4 : World} {k j : Nat} {S : List (Int × Int)} {vs : Nat → Value} {v' : Value} {o : Obj} (h : PaAt w w6 k S j vs) (hj : j < S.length) {q : Nat} (hq : q = q7 k (S.getD j (0, 0))) {c : Int × Int} (hc : c = movedC k q (S.getD j (0, 0)))
    (ho : OwnC w4 (w.heap.size + 2) v' (partL k (S.take j) q ++ [c])) (hg : (w6.alloc o).grownBy w4 (vs q).ownBlock) (hw : v'.ownBlock = (vs q).ownBlock ∨ v'.ownBlock = some (w6.heap.size + 1)) :
    w4.heap[w.heap.size + 1]? = some (.cells #[vs 0, vs 1, vs 2, vs 3] 107 (0, 0)) ∧ PaAt w (w4.setCell ⟨w.heap.size + 1, q, none⟩ v') k S (j + 1) (fun i => if i = q then v' else vs i) := by
  have hq4 : q < 4 := by rw [hq]; exact q7_lt k _
  obtain ⟨h1, h2⟩ := h.qs.push hq4 ho hg hw
  have hS : partL k (S.take (j + 1)) = fun i => if i = q then partL k (S.take j) q ++ [c] else partL k (S.take j) i := by
    funext i
    exact part_next hj hq hc i
  have hlow : ∀ {i T : Nat} {cs : Array Value}, i < w.heap.size + 1 → w6.heap[i]? = some (.cells cs T (0, 0)) → (w4.setCell ⟨w.heap.size + 1, q, none⟩ v').heap[i]? = some (.cells cs T (0, 0)) := by
    intro i T cs hi he
    have hlt := lt_heap6 he
    rw [Below.heap_setCell _ _ _ _ (by show i ≠ w.heap.size + 1; omega), hg.block i (by simp; omega) (fun e => by have := (World.ownsRow.lt (h.qs.own q hq4) i e.symm).1; omega), Lib.alloc_old _ _ _ hlt]
    exact he
  have hsz := h.size
  have hgs := hg.size
  simp at hgs
  refine ⟨h1, ⟨hlow (by omega) h.res, by rw [hS]; exact h2, ?_, ?_⟩⟩
  · refine ((h.bel.alloc h.bel.size o).grown hg (by simp; omega) (fun r e => ?_)).setCell (by show w.heap.size ≤ w.heap.size + 1; omega) _
    have := (World.ownsRow.lt (h.qs.own q hq4) r e).1
    omega
  · simp [World.setCell]
    omega
/-- What parts answers: four slices. -/
def PartR (k : Nat) (S : List (Int × Int)) (w : World) (r : Ending) (w' : World) : Prop :=
  ∃ vs : Nat → Value, r = .returned (.agg #[vs 0, vs 1, vs 2, vs 3]) ∧ (∀ i, i < 4 → ∃ A c, vs i = .slice A (partL k S i).length c ∧ (partL k S i).length ≤ c ∧ RdC w' w'.heap.size A (partL k S i) ∧ ∀ a, A = some a → w.heap.size ≤ a.block) ∧ Below w.heap.size w w'
set_option maxHeartbeats 16000000 in
theorem refParts_any (A : Option Addr) (S : List (Int × Int)) (c k : Nat) (w : World) (hR : RdC w w.heap.size A S) (hl : S.length ≤ 900000) (hk : k ≤ 60) (hin : ∀ s ∈ S, InSq (k + 1) s) :
    Calls Try.prog 78 #[.slice A S.length c, .int .i64 ((k : Int) + 1)] w (PartR k S w) := by
  obtain ⟨hp1, hp2⟩ := pow_bd7 hk
  have hD0 : PaAt w ((w.alloc (.cells #[.slice none 0 0, .slice none 0 0, .slice none 0 0, .slice none 0 0] 107)).alloc (.cells #[.slice none 0 0, .slice none 0 0, .slice none 0 0, .slice none 0 0] 107)) k S 0 (fun _ => .slice none 0 0) := by
    have hal1 := (Below.refl w.heap.size w).alloc (Nat.le_refl _) (.cells #[.slice none 0 0, .slice none 0 0, .slice none 0 0, .slice none 0 0] 107)
    have hal2 := hal1.alloc hal1.size (.cells #[.slice none 0 0, .slice none 0 0, .slice none 0 0, .slice none 0 0] 107)
    refine ⟨heap_old (heap_new rfl), ⟨heap_new (by simp), fun i _ => ?_, fun i j _ _ _ => .inl rfl⟩, hal2, by simp⟩
    unfold partL
    simp only [List.take_zero, List.filter_nil, List.map_nil]
    exact World.ownsRow_nil _ _ _ _
  have HD0 := Lib.hid hD0
  have HIN := Lib.hid hin
  have HS := Lib.hid hR
  clear hD0 hin hR
  go_enter Try.func78, Try.ntmps78
  go_wp2_with fail
  generalize (w.alloc (.cells #[.slice none 0 0, .slice none 0 0, .slice none 0 0, .slice none 0 0] 107)).alloc (.cells #[.slice none 0 0, .slice none 0 0, .slice none 0 0, .slice none 0 0] 107) = wx at *
  go_loopw [7] (fun i wr => ∃ j : Nat, j ≤ S.length ∧ i = .int .i64 j ∧ Hid (∃ vs, PaAt w wr k S j vs)) (fun i _ => S.length - (intOf i).toNat)
  case atStart => exact ⟨0, Nat.zero_le _, rfl, ⟨_, HD0.out⟩⟩
  case round =>
    obtain ⟨j, hj, rfl, HH⟩ := hrel
    obtain ⟨vs, HD⟩ := HH.out
    by_cases hlt : j < S.length
    · have hltz : (j : Int) < (S.length : Int) := by omega
      obtain ⟨b1, o1, rfl, hb1, hr1⟩ := Cel.Rd.at_ HS.out (by omega)
      obtain ⟨r0, r1⟩ := hr1 j hlt
      have c0 := Qt.keep HD.bel r0
      have c1 := Qt.keep HD.bel r1
      have hsq := HIN.out (S.getD j (0, 0)) (Cel.getD_mem hlt)
      obtain ⟨⟨x, y⟩, hxy⟩ : ∃ c, c = S.getD j (0, 0) := ⟨_, rfl⟩
      rw [← hxy] at c0 c1 hsq
      unfold InSq at hsq
      rw [show (2 : Int) ^ (k + 1) = 2 ^ k * 2 from Int.pow_succ ..] at hsq
      dsimp only at c0 c1 hsq
      obtain ⟨wo, rfl⟩ : ∃ wo : World, wo = wr := ⟨_, rfl⟩
      have HXY := Lib.hid hxy
      have HDD := Lib.hid HD
      clear hr1 r0 r1 HD HH hxy
      have wx1 : IntKind.i64.wrap (x - 2 ^ k) = x - 2 ^ k := by rw [IntKind.wrap_i64]; generalize (2 : Int) ^ k = p at *; omega
      have wy1 : IntKind.i64.wrap (y - 2 ^ k) = y - 2 ^ k := by rw [IntKind.wrap_i64]; generalize (2 : Int) ^ k = p at *; omega
      by_cases hx : 2 ^ k ≤ x
      · by_cases hy : 2 ^ k ≤ y
        · have hq : 3 = q7 k (S.getD j (0, 0)) := by
            rw [← HXY.out]
            unfold q7
            simp only
            rw [div_one (by omega) hx (by omega), div_one (by omega) hy (by omega)]
            rfl
          have hc : ((x - 2 ^ k), (y - 2 ^ k)) = movedC k 3 (S.getD j (0, 0)) := by
            rw [← HXY.out]
            unfold movedC
            exact Prod.ext (by show _ = x - (1 : Int) * 2 ^ k; simp only; omega) (by show _ = y - (1 : Int) * 2 ^ k; simp only; omega)
          have HQ := Lib.hid hq
          have HCC := Lib.hid hc
          clear hq hc
          have HD6 := Lib.hid (HDD.out.below ((Below.refl wo.heap.size wo).alloc (Nat.le_refl _) (.cells #[.int .i64 (x - 2 ^ k), .int .i64 (y - 2 ^ k)] 48)))
          have HC6 := Lib.hid (show ClB (wo.alloc (.cells #[.int .i64 (x - 2 ^ k), .int .i64 (y - 2 ^ k)] 48)) wo.heap.size ((x - 2 ^ k), (y - 2 ^ k)) from clB_new (w := wo) ((x - 2 ^ k), (y - 2 ^ k)))
          clear HDD
          go_wp2_with fail
          clear wx1 wy1 c0 c1
          generalize (wo.alloc (.cells #[.int .i64 (x - 2 ^ k), .int .i64 (y - 2 ^ k)] 48)) = w6 at *
          generalize wo.heap.size = cb at *
          have hC6 := HC6.out
          have hD6 := HD6.out
          generalize x - 2 ^ k = xx at *
          generalize y - 2 ^ k = yy at *
          obtain ⟨v', w4, rp, op, gp, bp, hw⟩ := pushC_any (w := w6.drew) (B := w.heap.size + 2) (v := vs 3) (out := partL k (S.take j) 3) (xx, yy) hD6.size (hD6.qs.own 3 (by decide)) (Nat.le_trans (len_part _ _ _) (by rw [List.length_take]; omega))
          obtain ⟨A4, c4, rfl, hc4, _⟩ := Cel.Own.rd op
          have hpu := PaAt.pushed (hD6.below (below_drew w6)) hlt HQ.out HCC.out op gp hw
          have rp : (Builtin.append_ #[42, 42] 42 #[vs 3, .slice (some ⟨w6.heap.size, 0, none⟩) 1 1]).run Try.prog (w6.alloc (.cells #[.int .i64 xx, .int .i64 yy] 48)).drew = .ok (.slice A4 (partL k (S.take j) 3 ++ [(xx, yy)]).length c4) w4 := rp
          generalize (partL k (S.take j) 3 ++ [(xx, yy)]).length = n4 at *
          have q0 := hD6.qs.c (i := 3) (by decide)
          have q0o : ∀ o, (w6.alloc o).cell? ⟨w.heap.size + 1, 3, none⟩ = some (vs 3) := fun o => (World.cell?_alloc_lt _ _ _ (block_lt_of_cell q0)).trans q0
          have y0 := hC6.c0
          have y1 := hC6.c1
          dsimp only at y0 y1
          have f4 : w4.frozen? ⟨w.heap.size + 1, 3, none⟩ = false := Lib.frozen_of_heap hpu.1 3
          obtain ⟨ov, g4⟩ : ∃ ov, w4.cell? ⟨w.heap.size + 1, 3, none⟩ = some ov := ⟨_, by rw [Lib.cell_of_heap hpu.1]; rfl⟩
          have HN := Lib.hid hpu.2
          clear HC6 HD6 hD6 hC6 HQ HCC op gp bp hw hpu hx hy hsq
          generalize vs 3 = vq at *
          refine region_tree_to (fun a0 a9 w9 => a9 = ((((((((a0.put (some 43) (.int .i64 3)).put (some 44) (.int .i64 3)).put (some 45) (.pointer (some ⟨w.heap.size + 1, 3, none⟩))).put (some 46) vq).put (some 47) (.agg #[.int .i64 xx, .int .i64 yy])).put (some 48) (.slice (some ⟨w6.heap.size, 0, none⟩) 1 1)).put (some 49) (.slice A4 n4 c4)).put (some 50) (.pointer (some ⟨w.heap.size + 1, 3, none⟩))) ∧ w9 = w4.setCell ⟨w.heap.size + 1, 3, none⟩ (.slice A4 n4 c4)) (.pure 0 (.pure 1 (.pure 2 (.two 3 4 (.only 4 (.only 5 (.only 6 (.pure 7 (.only 8 .done))))) (.two 3 5 (.only 5 (.only 6 (.pure 7 (.only 8 .done)))) (.only 3 (.only 6 (.pure 7 (.only 8 .done))))))))) (by kernel_rfl) (by kernel_rfl) (by kernel_rfl) (by rfl) ?_ ?_
          · skip
            refine ⟨_, some 43, .int .i64 3, rfl, rfl, ⟨rfl, fun _ => by first | rfl | (simp only [execOp]; go_simp)⟩, ?_⟩
            simp only [Act.put, List.setIfInBounds_toArray, List.set_cons_succ, List.set_cons_zero]
            refine ⟨_, some 44, .int .i64 3, rfl, rfl, ⟨rfl, fun _ => by first | rfl | (simp only [execOp]; go_simp)⟩, ?_⟩
            simp only [Act.put, List.setIfInBounds_toArray, List.set_cons_succ, List.set_cons_zero]
            refine ⟨_, some 45, (.pointer (some ⟨w.heap.size + 1, 3, none⟩)), rfl, rfl, ⟨rfl, fun _ => by first | rfl | (simp only [execOp]; go_simp)⟩, ?_⟩
            simp only [Act.put, List.setIfInBounds_toArray, List.set_cons_succ, List.set_cons_zero]
            constructor
            · skip
              refine ⟨_, rfl, ?_⟩
              go_wp2_with fail
              refine ⟨rfl, ?_⟩
              refine ⟨_, rfl, ?_⟩
              go_wp2_with fail
              refine ⟨rfl, ?_⟩
              refine ⟨_, rfl, ?_⟩
              go_wp2_with fail
              refine ⟨rfl, ?_⟩
              refine ⟨_, rfl, ?_⟩
              refine Lib.wpList_append_run _ rfl (.tmp 46) (.tmp 48) 42 42 rfl _ _ rfl rfl _ _ rp ?_
              refine ⟨rfl, ?_⟩
              refine ⟨_, some 50, (.pointer (some ⟨w.heap.size + 1, 3, none⟩)), rfl, rfl, ⟨rfl, fun _ => by first | rfl | (simp only [execOp]; go_simp)⟩, ?_⟩
              simp only [Act.put, List.setIfInBounds_toArray, List.set_cons_succ, List.set_cons_zero]
              refine ⟨_, rfl, ?_⟩
              go_wp2_with fail
              refine ⟨rfl, ?_⟩
              show (_ = _) ∧ (_ = _)
              exact ⟨by first | rfl | simp only [Act.put, List.setIfInBounds_toArray, List.set_cons_succ, List.set_cons_zero], rfl⟩
            · skip
              refine ⟨_, rfl, ?_⟩
              go_wp2_with fail
              refine ⟨rfl, ?_⟩
              constructor
              · skip
                refine ⟨_, rfl, ?_⟩
                go_wp2_with fail
                refine ⟨rfl, ?_⟩
                refine ⟨_, rfl, ?_⟩
                go_wp2_with fail
                refine ⟨rfl, ?_⟩
                refine ⟨_, rfl, ?_⟩
                refine Lib.wpList_append_run _ rfl (.tmp 46) (.tmp 48) 42 42 rfl _ _ rfl rfl _ _ rp ?_
                refine ⟨rfl, ?_⟩
                refine ⟨_, some 50, (.pointer (some ⟨w.heap.size + 1, 3, none⟩)), rfl, rfl, ⟨rfl, fun _ => by first | rfl | (simp only [execOp]; go_simp)⟩, ?_⟩
                simp only [Act.put, List.setIfInBounds_toArray, List.set_cons_succ, List.set_cons_zero]
                refine ⟨_, rfl, ?_⟩
                go_wp2_with fail
                refine ⟨rfl, ?_⟩
                show (_ = _) ∧ (_ = _)
                exact ⟨by first | rfl | simp only [Act.put, List.setIfInBounds_toArray, List.set_cons_succ, List.set_cons_zero], rfl⟩
              · skip
                refine ⟨_, rfl, ?_⟩
                go_wp2_with fail
                refine ⟨rfl, ?_⟩
                refine ⟨_, rfl, ?_⟩
                go_wp2_with fail
                refine ⟨rfl, ?_⟩
                refine ⟨_, rfl, ?_⟩
                refine Lib.wpList_append_run _ rfl (.tmp 46) (.tmp 48) 42 42 rfl _ _ rfl rfl _ _ rp ?_
                refine ⟨rfl, ?_⟩
                refine ⟨_, some 50, (.pointer (some ⟨w.heap.size + 1, 3, none⟩)), rfl, rfl, ⟨rfl, fun _ => by first | rfl | (simp only [execOp]; go_simp)⟩, ?_⟩
                simp only [Act.put, List.setIfInBounds_toArray, List.set_cons_succ, List.set_cons_zero]
                refine ⟨_, rfl, ?_⟩
                go_wp2_with fail
                refine ⟨rfl, ?_⟩
                show (_ = _) ∧ (_ = _)
                exact ⟨by first | rfl | simp only [Act.put, List.setIfInBounds_toArray, List.set_cons_succ, List.set_cons_zero], rfl⟩
          · rintro a9 w9 ⟨rfl, rfl⟩
            simp only [Act.put, List.setIfInBounds_toArray, List.set_cons_succ, List.set_cons_zero]
            clear rp q0 q0o y0 y1 f4 g4
            go_wp2_with fail
            go_roundw
            case measure => simp [intOf]; omega
            case rel => exact ⟨j + 1, by omega, by go_num, ⟨_, HN.out⟩⟩
        · have hq : 1 = q7 k (S.getD j (0, 0)) := by
            rw [← HXY.out]
            unfold q7
            simp only
            rw [div_one (by omega) hx (by omega), div_zero (by omega) (by omega)]
            rfl
          have hc : ((x - 2 ^ k), y) = movedC k 1 (S.getD j (0, 0)) := by
            rw [← HXY.out]
            unfold movedC
            exact Prod.ext (by show _ = x - (1 : Int) * 2 ^ k; simp only; omega) (by show _ = y - (0 : Int) * 2 ^ k; simp only; omega)
          have HQ := Lib.hid hq
          have HCC := Lib.hid hc
          clear hq hc
          have HD6 := Lib.hid (HDD.out.below ((Below.refl wo.heap.size wo).alloc (Nat.le_refl _) (.cells #[.int .i64 (x - 2 ^ k), .int .i64 y] 48)))
          have HC6 := Lib.hid (show ClB (wo.alloc (.cells #[.int .i64 (x - 2 ^ k), .int .i64 y] 48)) wo.heap.size ((x - 2 ^ k), y) from clB_new (w := wo) ((x - 2 ^ k), y))
          clear HDD
          go_wp2_with fail
          clear wx1 wy1 c0 c1
          generalize (wo.alloc (.cells #[.int .i64 (x - 2 ^ k), .int .i64 y] 48)) = w6 at *
          generalize wo.heap.size = cb at *
          have hC6 := HC6.out
          have hD6 := HD6.out
          generalize x - 2 ^ k = xx at *
          obtain ⟨yy, rfl⟩ : ∃ yy : Int, yy = y := ⟨_, rfl⟩
          obtain ⟨v', w4, rp, op, gp, bp, hw⟩ := pushC_any (w := w6.drew) (B := w.heap.size + 2) (v := vs 1) (out := partL k (S.take j) 1) (xx, yy) hD6.size (hD6.qs.own 1 (by decide)) (Nat.le_trans (len_part _ _ _) (by rw [List.length_take]; omega))
          obtain ⟨A4, c4, rfl, hc4, _⟩ := Cel.Own.rd op
          have hpu := PaAt.pushed (hD6.below (below_drew w6)) hlt HQ.out HCC.out op gp hw
          have rp : (Builtin.append_ #[42, 42] 42 #[vs 1, .slice (some ⟨w6.heap.size, 0, none⟩) 1 1]).run Try.prog (w6.alloc (.cells #[.int .i64 xx, .int .i64 yy] 48)).drew = .ok (.slice A4 (partL k (S.take j) 1 ++ [(xx, yy)]).length c4) w4 := rp
          generalize (partL k (S.take j) 1 ++ [(xx, yy)]).length = n4 at *
          have q0 := hD6.qs.c (i := 1) (by decide)
          have q0o : ∀ o, (w6.alloc o).cell? ⟨w.heap.size + 1, 1, none⟩ = some (vs 1) := fun o => (World.cell?_alloc_lt _ _ _ (block_lt_of_cell q0)).trans q0
          have y0 := hC6.c0
          have y1 := hC6.c1
          dsimp only at y0 y1
          have f4 : w4.frozen? ⟨w.heap.size + 1, 1, none⟩ = false := Lib.frozen_of_heap hpu.1 1
          obtain ⟨ov, g4⟩ : ∃ ov, w4.cell? ⟨w.heap.size + 1, 1, none⟩ = some ov := ⟨_, by rw [Lib.cell_of_heap hpu.1]; rfl⟩
          have HN := Lib.hid hpu.2
          clear HC6 HD6 hD6 hC6 HQ HCC op gp bp hw hpu hx hy hsq
          generalize vs 1 = vq at *
          refine region_tree_to (fun a0 a9 w9 => a9 = ((((((((a0.put (some 43) (.int .i64 1)).put (some 44) (.int .i64 1)).put (some 45) (.pointer (some ⟨w.heap.size + 1, 1, none⟩))).put (some 46) vq).put (some 47) (.agg #[.int .i64 xx, .int .i64 yy])).put (some 48) (.slice (some ⟨w6.heap.size, 0, none⟩) 1 1)).put (some 49) (.slice A4 n4 c4)).put (some 50) (.pointer (some ⟨w.heap.size + 1, 1, none⟩))) ∧ w9 = w4.setCell ⟨w.heap.size + 1, 1, none⟩ (.slice A4 n4 c4)) (.pure 0 (.pure 1 (.pure 2 (.two 3 4 (.only 4 (.only 5 (.only 6 (.pure 7 (.only 8 .done))))) (.two 3 5 (.only 5 (.only 6 (.pure 7 (.only 8 .done)))) (.only 3 (.only 6 (.pure 7 (.only 8 .done))))))))) (by kernel_rfl) (by kernel_rfl) (by kernel_rfl) (by rfl) ?_ ?_
          · skip
            refine ⟨_, some 43, .int .i64 1, rfl, rfl, ⟨rfl, fun _ => by first | rfl | (simp only [execOp]; go_simp)⟩, ?_⟩
            simp only [Act.put, List.setIfInBounds_toArray, List.set_cons_succ, List.set_cons_zero]
            refine ⟨_, some 44, .int .i64 1, rfl, rfl, ⟨rfl, fun _ => by first | rfl | (simp only [execOp]; go_simp)⟩, ?_⟩
            simp only [Act.put, List.setIfInBounds_toArray, List.set_cons_succ, List.set_cons_zero]
            refine ⟨_, some 45, (.pointer (some ⟨w.heap.size + 1, 1, none⟩)), rfl, rfl, ⟨rfl, fun _ => by first | rfl | (simp only [execOp]; go_simp)⟩, ?_⟩
            simp only [Act.put, List.setIfInBounds_toArray, List.set_cons_succ, List.set_cons_zero]
            constructor
            · skip
              refine ⟨_, rfl, ?_⟩
              go_wp2_with fail
              refine ⟨rfl, ?_⟩
              refine ⟨_, rfl, ?_⟩
              go_wp2_with fail
              refine ⟨rfl, ?_⟩
              refine ⟨_, rfl, ?_⟩
              go_wp2_with fail
              refine ⟨rfl, ?_⟩
              refine ⟨_, rfl, ?_⟩
              refine Lib.wpList_append_run _ rfl (.tmp 46) (.tmp 48) 42 42 rfl _ _ rfl rfl _ _ rp ?_
              refine ⟨rfl, ?_⟩
              refine ⟨_, some 50, (.pointer (some ⟨w.heap.size + 1, 1, none⟩)), rfl, rfl, ⟨rfl, fun _ => by first | rfl | (simp only [execOp]; go_simp)⟩, ?_⟩
              simp only [Act.put, List.setIfInBounds_toArray, List.set_cons_succ, List.set_cons_zero]
              refine ⟨_, rfl, ?_⟩
              go_wp2_with fail
              refine ⟨rfl, ?_⟩
              show (_ = _) ∧ (_ = _)
              exact ⟨by first | rfl | simp only [Act.put, List.setIfInBounds_toArray, List.set_cons_succ, List.set_cons_zero], rfl⟩
            · skip
              refine ⟨_, rfl, ?_⟩
              go_wp2_with fail
              refine ⟨rfl, ?_⟩
              constructor
              · skip
                refine ⟨_, rfl, ?_⟩
                go_wp2_with fail
                refine ⟨rfl, ?_⟩
                refine ⟨_, rfl, ?_⟩
                go_wp2_with fail
                refine ⟨rfl, ?_⟩
                refine ⟨_, rfl, ?_⟩
                refine Lib.wpList_append_run _ rfl (.tmp 46) (.tmp 48) 42 42 rfl _ _ rfl rfl _ _ rp ?_
                refine ⟨rfl, ?_⟩
                refine ⟨_, some 50, (.pointer (some ⟨w.heap.size + 1, 1, none⟩)), rfl, rfl, ⟨rfl, fun _ => by first | rfl | (simp only [execOp]; go_simp)⟩, ?_⟩
                simp only [Act.put, List.setIfInBounds_toArray, List.set_cons_succ, List.set_cons_zero]
                refine ⟨_, rfl, ?_⟩
                go_wp2_with fail
                refine ⟨rfl, ?_⟩
                show (_ = _) ∧ (_ = _)
                exact ⟨by first | rfl | simp only [Act.put, List.setIfInBounds_toArray, List.set_cons_succ, List.set_cons_zero], rfl⟩
              · skip
                refine ⟨_, rfl, ?_⟩
                go_wp2_with fail
                refine ⟨rfl, ?_⟩
                refine ⟨_, rfl, ?_⟩
                go_wp2_with fail
                refine ⟨rfl, ?_⟩
                refine ⟨_, rfl, ?_⟩
                refine Lib.wpList_append_run _ rfl (.tmp 46) (.tmp 48) 42 42 rfl _ _ rfl rfl _ _ rp ?_
                refine ⟨rfl, ?_⟩
                refine ⟨_, some 50, (.pointer (some ⟨w.heap.size + 1, 1, none⟩)), rfl, rfl, ⟨rfl, fun _ => by first | rfl | (simp only [execOp]; go_simp)⟩, ?_⟩
                simp only [Act.put, List.setIfInBounds_toArray, List.set_cons_succ, List.set_cons_zero]
                refine ⟨_, rfl, ?_⟩
                go_wp2_with fail
                refine ⟨rfl, ?_⟩
                show (_ = _) ∧ (_ = _)
                exact ⟨by first | rfl | simp only [Act.put, List.setIfInBounds_toArray, List.set_cons_succ, List.set_cons_zero], rfl⟩
          · rintro a9 w9 ⟨rfl, rfl⟩
            simp only [Act.put, List.setIfInBounds_toArray, List.set_cons_succ, List.set_cons_zero]
            clear rp q0 q0o y0 y1 f4 g4
            go_wp2_with fail
            go_roundw
            case measure => simp [intOf]; omega
            case rel => exact ⟨j + 1, by omega, by go_num, ⟨_, HN.out⟩⟩
      · by_cases hy : 2 ^ k ≤ y
        · have hq : 2 = q7 k (S.getD j (0, 0)) := by
            rw [← HXY.out]
            unfold q7
            simp only
            rw [div_zero (by omega) (by omega), div_one (by omega) hy (by omega)]
            rfl
          have hc : (x, (y - 2 ^ k)) = movedC k 2 (S.getD j (0, 0)) := by
            rw [← HXY.out]
            unfold movedC
            exact Prod.ext (by show _ = x - (0 : Int) * 2 ^ k; simp only; omega) (by show _ = y - (1 : Int) * 2 ^ k; simp only; omega)
          have HQ := Lib.hid hq
          have HCC := Lib.hid hc
          clear hq hc
          have HD6 := Lib.hid (HDD.out.below ((Below.refl wo.heap.size wo).alloc (Nat.le_refl _) (.cells #[.int .i64 x, .int .i64 (y - 2 ^ k)] 48)))
          have HC6 := Lib.hid (show ClB (wo.alloc (.cells #[.int .i64 x, .int .i64 (y - 2 ^ k)] 48)) wo.heap.size (x, (y - 2 ^ k)) from clB_new (w := wo) (x, (y - 2 ^ k)))
          clear HDD
          go_wp2_with fail
          clear wx1 wy1 c0 c1
          generalize (wo.alloc (.cells #[.int .i64 x, .int .i64 (y - 2 ^ k)] 48)) = w6 at *
          generalize wo.heap.size = cb at *
          have hC6 := HC6.out
          have hD6 := HD6.out
          obtain ⟨xx, rfl⟩ : ∃ xx : Int, xx = x := ⟨_, rfl⟩
          generalize y - 2 ^ k = yy at *
          obtain ⟨v', w4, rp, op, gp, bp, hw⟩ := pushC_any (w := w6.drew) (B := w.heap.size + 2) (v := vs 2) (out := partL k (S.take j) 2) (xx, yy) hD6.size (hD6.qs.own 2 (by decide)) (Nat.le_trans (len_part _ _ _) (by rw [List.length_take]; omega))
          obtain ⟨A4, c4, rfl, hc4, _⟩ := Cel.Own.rd op
          have hpu := PaAt.pushed (hD6.below (below_drew w6)) hlt HQ.out HCC.out op gp hw
          have rp : (Builtin.append_ #[42, 42] 42 #[vs 2, .slice (some ⟨w6.heap.size, 0, none⟩) 1 1]).run Try.prog (w6.alloc (.cells #[.int .i64 xx, .int .i64 yy] 48)).drew = .ok (.slice A4 (partL k (S.take j) 2 ++ [(xx, yy)]).length c4) w4 := rp
          generalize (partL k (S.take j) 2 ++ [(xx, yy)]).length = n4 at *
          have q0 := hD6.qs.c (i := 2) (by decide)
          have q0o : ∀ o, (w6.alloc o).cell? ⟨w.heap.size + 1, 2, none⟩ = some (vs 2) := fun o => (World.cell?_alloc_lt _ _ _ (block_lt_of_cell q0)).trans q0
          have y0 := hC6.c0
          have y1 := hC6.c1
          dsimp only at y0 y1
          have f4 : w4.frozen? ⟨w.heap.size + 1, 2, none⟩ = false := Lib.frozen_of_heap hpu.1 2
          obtain ⟨ov, g4⟩ : ∃ ov, w4.cell? ⟨w.heap.size + 1, 2, none⟩ = some ov := ⟨_, by rw [Lib.cell_of_heap hpu.1]; rfl⟩
          have HN := Lib.hid hpu.2
          clear HC6 HD6 hD6 hC6 HQ HCC op gp bp hw hpu hx hy hsq
          generalize vs 2 = vq at *
          refine region_tree_to (fun a0 a9 w9 => a9 = ((((((((a0.put (some 43) (.int .i64 2)).put (some 44) (.int .i64 2)).put (some 45) (.pointer (some ⟨w.heap.size + 1, 2, none⟩))).put (some 46) vq).put (some 47) (.agg #[.int .i64 xx, .int .i64 yy])).put (some 48) (.slice (some ⟨w6.heap.size, 0, none⟩) 1 1)).put (some 49) (.slice A4 n4 c4)).put (some 50) (.pointer (some ⟨w.heap.size + 1, 2, none⟩))) ∧ w9 = w4.setCell ⟨w.heap.size + 1, 2, none⟩ (.slice A4 n4 c4)) (.pure 0 (.pure 1 (.pure 2 (.two 3 4 (.only 4 (.only 5 (.only 6 (.pure 7 (.only 8 .done))))) (.two 3 5 (.only 5 (.only 6 (.pure 7 (.only 8 .done)))) (.only 3 (.only 6 (.pure 7 (.only 8 .done))))))))) (by kernel_rfl) (by kernel_rfl) (by kernel_rfl) (by rfl) ?_ ?_
          · skip
            refine ⟨_, some 43, .int .i64 2, rfl, rfl, ⟨rfl, fun _ => by first | rfl | (simp only [execOp]; go_simp)⟩, ?_⟩
            simp only [Act.put, List.setIfInBounds_toArray, List.set_cons_succ, List.set_cons_zero]
            refine ⟨_, some 44, .int .i64 2, rfl, rfl, ⟨rfl, fun _ => by first | rfl | (simp only [execOp]; go_simp)⟩, ?_⟩
            simp only [Act.put, List.setIfInBounds_toArray, List.set_cons_succ, List.set_cons_zero]
            refine ⟨_, some 45, (.pointer (some ⟨w.heap.size + 1, 2, none⟩)), rfl, rfl, ⟨rfl, fun _ => by first | rfl | (simp only [execOp]; go_simp)⟩, ?_⟩
            simp only [Act.put, List.setIfInBounds_toArray, List.set_cons_succ, List.set_cons_zero]
            constructor
            · skip
              refine ⟨_, rfl, ?_⟩
              go_wp2_with fail
              refine ⟨rfl, ?_⟩
              refine ⟨_, rfl, ?_⟩
              go_wp2_with fail
              refine ⟨rfl, ?_⟩
              refine ⟨_, rfl, ?_⟩
              go_wp2_with fail
              refine ⟨rfl, ?_⟩
              refine ⟨_, rfl, ?_⟩
              refine Lib.wpList_append_run _ rfl (.tmp 46) (.tmp 48) 42 42 rfl _ _ rfl rfl _ _ rp ?_
              refine ⟨rfl, ?_⟩
              refine ⟨_, some 50, (.pointer (some ⟨w.heap.size + 1, 2, none⟩)), rfl, rfl, ⟨rfl, fun _ => by first | rfl | (simp only [execOp]; go_simp)⟩, ?_⟩
              simp only [Act.put, List.setIfInBounds_toArray, List.set_cons_succ, List.set_cons_zero]
              refine ⟨_, rfl, ?_⟩
              go_wp2_with fail
              refine ⟨rfl, ?_⟩
              show (_ = _) ∧ (_ = _)
              exact ⟨by first | rfl | simp only [Act.put, List.setIfInBounds_toArray, List.set_cons_succ, List.set_cons_zero], rfl⟩
            · skip
              refine ⟨_, rfl, ?_⟩
              go_wp2_with fail
              refine ⟨rfl, ?_⟩
              constructor
              · skip
                refine ⟨_, rfl, ?_⟩
                go_wp2_with fail
                refine ⟨rfl, ?_⟩
                refine ⟨_, rfl, ?_⟩
                go_wp2_with fail
                refine ⟨rfl, ?_⟩
                refine ⟨_, rfl, ?_⟩
                refine Lib.wpList_append_run _ rfl (.tmp 46) (.tmp 48) 42 42 rfl _ _ rfl rfl _ _ rp ?_
                refine ⟨rfl, ?_⟩
                refine ⟨_, some 50, (.pointer (some ⟨w.heap.size + 1, 2, none⟩)), rfl, rfl, ⟨rfl, fun _ => by first | rfl | (simp only [execOp]; go_simp)⟩, ?_⟩
                simp only [Act.put, List.setIfInBounds_toArray, List.set_cons_succ, List.set_cons_zero]
                refine ⟨_, rfl, ?_⟩
                go_wp2_with fail
                refine ⟨rfl, ?_⟩
                show (_ = _) ∧ (_ = _)
                exact ⟨by first | rfl | simp only [Act.put, List.setIfInBounds_toArray, List.set_cons_succ, List.set_cons_zero], rfl⟩
              · skip
                refine ⟨_, rfl, ?_⟩
                go_wp2_with fail
                refine ⟨rfl, ?_⟩
                refine ⟨_, rfl, ?_⟩
                go_wp2_with fail
                refine ⟨rfl, ?_⟩
                refine ⟨_, rfl, ?_⟩
                refine Lib.wpList_append_run _ rfl (.tmp 46) (.tmp 48) 42 42 rfl _ _ rfl rfl _ _ rp ?_
                refine ⟨rfl, ?_⟩
                refine ⟨_, some 50, (.pointer (some ⟨w.heap.size + 1, 2, none⟩)), rfl, rfl, ⟨rfl, fun _ => by first | rfl | (simp only [execOp]; go_simp)⟩, ?_⟩
                simp only [Act.put, List.setIfInBounds_toArray, List.set_cons_succ, List.set_cons_zero]
                refine ⟨_, rfl, ?_⟩
                go_wp2_with fail
                refine ⟨rfl, ?_⟩
                show (_ = _) ∧ (_ = _)
                exact ⟨by first | rfl | simp only [Act.put, List.setIfInBounds_toArray, List.set_cons_succ, List.set_cons_zero], rfl⟩
          · rintro a9 w9 ⟨rfl, rfl⟩
            simp only [Act.put, List.setIfInBounds_toArray, List.set_cons_succ, List.set_cons_zero]
            clear rp q0 q0o y0 y1 f4 g4
            go_wp2_with fail
            go_roundw
            case measure => simp [intOf]; omega
            case rel => exact ⟨j + 1, by omega, by go_num, ⟨_, HN.out⟩⟩
        · have hq : 0 = q7 k (S.getD j (0, 0)) := by
            rw [← HXY.out]
            unfold q7
            simp only
            rw [div_zero (by omega) (by omega), div_zero (by omega) (by omega)]
            rfl
          have hc : (x, y) = movedC k 0 (S.getD j (0, 0)) := by
            rw [← HXY.out]
            unfold movedC
            exact Prod.ext (by show _ = x - (0 : Int) * 2 ^ k; simp only; omega) (by show _ = y - (0 : Int) * 2 ^ k; simp only; omega)
          have HQ := Lib.hid hq
          have HCC := Lib.hid hc
          clear hq hc
          have HD6 := Lib.hid (HDD.out.below ((Below.refl wo.heap.size wo).alloc (Nat.le_refl _) (.cells #[.int .i64 x, .int .i64 y] 48)))
          have HC6 := Lib.hid (show ClB (wo.alloc (.cells #[.int .i64 x, .int .i64 y] 48)) wo.heap.size (x, y) from clB_new (w := wo) (x, y))
          clear HDD
          go_wp2_with fail
          clear wx1 wy1 c0 c1
          generalize (wo.alloc (.cells #[.int .i64 x, .int .i64 y] 48)) = w6 at *
          generalize wo.heap.size = cb at *
          have hC6 := HC6.out
          have hD6 := HD6.out
          obtain ⟨xx, rfl⟩ : ∃ xx : Int, xx = x := ⟨_, rfl⟩
          obtain ⟨yy, rfl⟩ : ∃ yy : Int, yy = y := ⟨_, rfl⟩
          obtain ⟨v', w4, rp, op, gp, bp, hw⟩ := pushC_any (w := w6.drew) (B := w.heap.size + 2) (v := vs 0) (out := partL k (S.take j) 0) (xx, yy) hD6.size (hD6.qs.own 0 (by decide)) (Nat.le_trans (len_part _ _ _) (by rw [List.length_take]; omega))
          obtain ⟨A4, c4, rfl, hc4, _⟩ := Cel.Own.rd op
          have hpu := PaAt.pushed (hD6.below (below_drew w6)) hlt HQ.out HCC.out op gp hw
          have rp : (Builtin.append_ #[42, 42] 42 #[vs 0, .slice (some ⟨w6.heap.size, 0, none⟩) 1 1]).run Try.prog (w6.alloc (.cells #[.int .i64 xx, .int .i64 yy] 48)).drew = .ok (.slice A4 (partL k (S.take j) 0 ++ [(xx, yy)]).length c4) w4 := rp
          generalize (partL k (S.take j) 0 ++ [(xx, yy)]).length = n4 at *
          have q0 := hD6.qs.c (i := 0) (by decide)
          have q0o : ∀ o, (w6.alloc o).cell? ⟨w.heap.size + 1, 0, none⟩ = some (vs 0) := fun o => (World.cell?_alloc_lt _ _ _ (block_lt_of_cell q0)).trans q0
          have y0 := hC6.c0
          have y1 := hC6.c1
          dsimp only at y0 y1
          have f4 : w4.frozen? ⟨w.heap.size + 1, 0, none⟩ = false := Lib.frozen_of_heap hpu.1 0
          obtain ⟨ov, g4⟩ : ∃ ov, w4.cell? ⟨w.heap.size + 1, 0, none⟩ = some ov := ⟨_, by rw [Lib.cell_of_heap hpu.1]; rfl⟩
          have HN := Lib.hid hpu.2
          clear HC6 HD6 hD6 hC6 HQ HCC op gp bp hw hpu hx hy hsq
          generalize vs 0 = vq at *
          refine region_tree_to (fun a0 a9 w9 => a9 = ((((((((a0.put (some 43) (.int .i64 0)).put (some 44) (.int .i64 0)).put (some 45) (.pointer (some ⟨w.heap.size + 1, 0, none⟩))).put (some 46) vq).put (some 47) (.agg #[.int .i64 xx, .int .i64 yy])).put (some 48) (.slice (some ⟨w6.heap.size, 0, none⟩) 1 1)).put (some 49) (.slice A4 n4 c4)).put (some 50) (.pointer (some ⟨w.heap.size + 1, 0, none⟩))) ∧ w9 = w4.setCell ⟨w.heap.size + 1, 0, none⟩ (.slice A4 n4 c4)) (.pure 0 (.pure 1 (.pure 2 (.two 3 4 (.only 4 (.only 5 (.only 6 (.pure 7 (.only 8 .done))))) (.two 3 5 (.only 5 (.only 6 (.pure 7 (.only 8 .done)))) (.only 3 (.only 6 (.pure 7 (.only 8 .done))))))))) (by kernel_rfl) (by kernel_rfl) (by kernel_rfl) (by rfl) ?_ ?_
          · skip
            refine ⟨_, some 43, .int .i64 0, rfl, rfl, ⟨rfl, fun _ => by first | rfl | (simp only [execOp]; go_simp)⟩, ?_⟩
            simp only [Act.put, List.setIfInBounds_toArray, List.set_cons_succ, List.set_cons_zero]
            refine ⟨_, some 44, .int .i64 0, rfl, rfl, ⟨rfl, fun _ => by first | rfl | (simp only [execOp]; go_simp)⟩, ?_⟩
            simp only [Act.put, List.setIfInBounds_toArray, List.set_cons_succ, List.set_cons_zero]
            refine ⟨_, some 45, (.pointer (some ⟨w.heap.size + 1, 0, none⟩)), rfl, rfl, ⟨rfl, fun _ => by first | rfl | (simp only [execOp]; go_simp)⟩, ?_⟩
            simp only [Act.put, List.setIfInBounds_toArray, List.set_cons_succ, List.set_cons_zero]
            constructor
            · skip
              refine ⟨_, rfl, ?_⟩
              go_wp2_with fail
              refine ⟨rfl, ?_⟩
              refine ⟨_, rfl, ?_⟩
              go_wp2_with fail
              refine ⟨rfl, ?_⟩
              refine ⟨_, rfl, ?_⟩
              go_wp2_with fail
              refine ⟨rfl, ?_⟩
              refine ⟨_, rfl, ?_⟩
              refine Lib.wpList_append_run _ rfl (.tmp 46) (.tmp 48) 42 42 rfl _ _ rfl rfl _ _ rp ?_
              refine ⟨rfl, ?_⟩
              refine ⟨_, some 50, (.pointer (some ⟨w.heap.size + 1, 0, none⟩)), rfl, rfl, ⟨rfl, fun _ => by first | rfl | (simp only [execOp]; go_simp)⟩, ?_⟩
              simp only [Act.put, List.setIfInBounds_toArray, List.set_cons_succ, List.set_cons_zero]
              refine ⟨_, rfl, ?_⟩
              go_wp2_with fail
              refine ⟨rfl, ?_⟩
              show (_ = _) ∧ (_ = _)
              exact ⟨by first | rfl | simp only [Act.put, List.setIfInBounds_toArray, List.set_cons_succ, List.set_cons_zero], rfl⟩
            · skip
              refine ⟨_, rfl, ?_⟩
              go_wp2_with fail
              refine ⟨rfl, ?_⟩
              constructor
              · skip
                refine ⟨_, rfl, ?_⟩
                go_wp2_with fail
                refine ⟨rfl, ?_⟩
                refine ⟨_, rfl, ?_⟩
                go_wp2_with fail
                refine ⟨rfl, ?_⟩
                refine ⟨_, rfl, ?_⟩
                refine Lib.wpList_append_run _ rfl (.tmp 46) (.tmp 48) 42 42 rfl _ _ rfl rfl _ _ rp ?_
                refine ⟨rfl, ?_⟩
                refine ⟨_, some 50, (.pointer (some ⟨w.heap.size + 1, 0, none⟩)), rfl, rfl, ⟨rfl, fun _ => by first | rfl | (simp only [execOp]; go_simp)⟩, ?_⟩
                simp only [Act.put, List.setIfInBounds_toArray, List.set_cons_succ, List.set_cons_zero]
                refine ⟨_, rfl, ?_⟩
                go_wp2_with fail
                refine ⟨rfl, ?_⟩
                show (_ = _) ∧ (_ = _)
                exact ⟨by first | rfl | simp only [Act.put, List.setIfInBounds_toArray, List.set_cons_succ, List.set_cons_zero], rfl⟩
              · skip
                refine ⟨_, rfl, ?_⟩
                go_wp2_with fail
                refine ⟨rfl, ?_⟩
                refine ⟨_, rfl, ?_⟩
                go_wp2_with fail
                refine ⟨rfl, ?_⟩
                refine ⟨_, rfl, ?_⟩
                refine Lib.wpList_append_run _ rfl (.tmp 46) (.tmp 48) 42 42 rfl _ _ rfl rfl _ _ rp ?_
                refine ⟨rfl, ?_⟩
                refine ⟨_, some 50, (.pointer (some ⟨w.heap.size + 1, 0, none⟩)), rfl, rfl, ⟨rfl, fun _ => by first | rfl | (simp only [execOp]; go_simp)⟩, ?_⟩
                simp only [Act.put, List.setIfInBounds_toArray, List.set_cons_succ, List.set_cons_zero]
                refine ⟨_, rfl, ?_⟩
                go_wp2_with fail
                refine ⟨rfl, ?_⟩
                show (_ = _) ∧ (_ = _)
                exact ⟨by first | rfl | simp only [Act.put, List.setIfInBounds_toArray, List.set_cons_succ, List.set_cons_zero], rfl⟩
          · rintro a9 w9 ⟨rfl, rfl⟩
            simp only [Act.put, List.setIfInBounds_toArray, List.set_cons_succ, List.set_cons_zero]
            clear rp q0 q0o y0 y1 f4 g4
            go_wp2_with fail
            go_roundw
            case measure => simp [intOf]; omega
            case rel => exact ⟨j + 1, by omega, by go_num, ⟨_, HN.out⟩⟩
    · obtain rfl : j = S.length := by omega
      have hltz : ¬ (S.length : Int) < (S.length : Int) := by omega
      have hqs := HD.qs
      rw [List.take_length] at hqs
      have q0 := hqs.c (i := 0) (by decide)
      have q1 := hqs.c (i := 1) (by decide)
      have q2 := hqs.c (i := 2) (by decide)
      have q3 := hqs.c (i := 3) (by decide)
      have hres := HD.res
      have r0 : wr.cell? ⟨w.heap.size, 0, none⟩ = some (.slice none 0 0) := by rw [Lib.cell_of_heap hres]; rfl
      have r1 : wr.cell? ⟨w.heap.size, 1, none⟩ = some (.slice none 0 0) := by rw [Lib.cell_of_heap hres]; rfl
      have r2 : wr.cell? ⟨w.heap.size, 2, none⟩ = some (.slice none 0 0) := by rw [Lib.cell_of_heap hres]; rfl
      have r3 : wr.cell? ⟨w.heap.size, 3, none⟩ = some (.slice none 0 0) := by rw [Lib.cell_of_heap hres]; rfl
      have f0 := Lib.frozen_of_heap hres 0
      have f1 := Lib.frozen_of_heap hres 1
      have f2 := Lib.frozen_of_heap hres 2
      have f3 := Lib.frozen_of_heap hres 3
      have hle : w.heap.size ≤ w.heap.size := Nat.le_refl _
      have hb4 := (((HD.bel.setCell (p := ⟨w.heap.size, 0, none⟩) hle (vs 0)).setCell (p := ⟨w.heap.size, 1, none⟩) hle (vs 1)).setCell (p := ⟨w.heap.size, 2, none⟩) hle (vs 2)).setCell (p := ⟨w.heap.size, 3, none⟩) hle (vs 3)
      have hrow4 : ((((wr.setCell ⟨w.heap.size, 0, none⟩ (vs 0)).setCell ⟨w.heap.size, 1, none⟩ (vs 1)).setCell ⟨w.heap.size, 2, none⟩ (vs 2)).setCell ⟨w.heap.size, 3, none⟩ (vs 3)).heap[w.heap.size]? = some (.cells #[vs 0, vs 1, vs 2, vs 3] 107 (0, 0)) := by
        simp [World.setCell, Array.getElem?_modify, hres]
      have hown : ∀ i, i < 4 → OwnC ((((wr.setCell ⟨w.heap.size, 0, none⟩ (vs 0)).setCell ⟨w.heap.size, 1, none⟩ (vs 1)).setCell ⟨w.heap.size, 2, none⟩ (vs 2)).setCell ⟨w.heap.size, 3, none⟩ (vs 3)) (w.heap.size + 2) (vs i) (partL k S i) := fun i hi => by
        have hne : (vs i).ownBlock ≠ some w.heap.size := fun e => by have := (World.ownsRow.lt (hqs.own i hi) _ e).1; omega
        exact World.ownsRow.kept (World.ownsRow.kept (World.ownsRow.kept (World.ownsRow.kept (hqs.own i hi) (but_set _ _) (.inr hne)) (but_set _ _) (.inr hne)) (but_set _ _) (.inr hne)) (but_set _ _) (.inr hne)
      obtain ⟨A0, c0, e0, -, -⟩ := Cel.Own.rd (hqs.own 0 (by decide))
      obtain ⟨A1, c1, e1, -, -⟩ := Cel.Own.rd (hqs.own 1 (by decide))
      obtain ⟨A2, c2, e2, -, -⟩ := Cel.Own.rd (hqs.own 2 (by decide))
      obtain ⟨A3, c3, e3, -, -⟩ := Cel.Own.rd (hqs.own 3 (by decide))
      have HV := Lib.hid (show (Value.agg #[vs 0, vs 1, vs 2, vs 3]) = .agg #[.slice A0 (partL k S 0).length c0, .slice A1 (partL k S 1).length c1, .slice A2 (partL k S 2).length c2, .slice A3 (partL k S 3).length c3] by rw [e0, e1, e2, e3])
      rw [e0] at q0
      rw [e1] at q1
      rw [e2] at q2
      rw [e3] at q3
      rw [e0, e1, e2, e3] at hown hb4 hrow4
      have HO := Lib.hid hown
      have HB4 := Lib.hid hb4
      have HROW := Lib.hid hrow4
      clear hqs HD HH hres hb4 hrow4 hown e0 e1 e2 e3
      go_wp2_with fail
      refine bodyPost_ret (results_cell1 rfl _ _ _ _ _ _ _ rfl HROW.out Try.underlying107 rfl (by kernel_rfl)) rfl ?_
      refine ⟨vs, by rw [HV.out], fun i hi => ?_, HB4.out⟩
      obtain ⟨A4, c4, e4, hc4, hR4⟩ := Cel.Own.rd (HO.out i hi)
      refine ⟨A4, c4, e4, hc4, hR4, fun a ha => ?_⟩
      have := World.ownsRow.lt (HO.out i hi) a.block (by rw [e4, ha]; rfl)
      omega
end Go.Proofs.Ytklccoodfhejbaa
