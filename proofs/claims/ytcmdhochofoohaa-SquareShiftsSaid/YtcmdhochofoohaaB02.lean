/-
  Texts that the claims of this seat share, part 2.
-/
import Derived.Test.YtcmdhochofoohaaB01
set_option linter.unusedVariables false
set_option linter.unusedSimpArgs false
namespace Go.Proofs.Ytcmdhochofoohaa
set_option linter.unusedVariables false
set_option linter.unusedSimpArgs false
open Go.RowKit Go.Sort

theorem but_set {b : Nat} {w : World} (j : Nat) (u : Value) : w.grownBy (w.setCell ⟨b, j, none⟩ u) (some b) := by
  have h := (Below.refl b w).setCell (p := ⟨b, j, none⟩) (Nat.le_refl _) u
  refine ⟨h.os, h.tape, h.output, h.size, fun k hk hne => ?_⟩
  have hkb : k ≠ b := fun e => hne (by rw [e])
  simp [World.setCell, Array.getElem?_modify, Ne.symm hkb]

theorem below_drewN6 (w : World) : Below w.heap.size w w.drew := (Below.refl _ _).drew
theorem ownN_kind {w : World} {B T s : Nat} {v : Value} {n : Nat} {xs : List Value} (h : w.ownsRow B T s v n xs) : ∀ k, v.ownBlock = some k → B ≤ k ∧ k < w.heap.size ∧ ∃ c fz, w.heap[k]? = some (.cells c T fz) := by
  intro k hk
  have hl := World.ownsRow.lt h k hk
  rcases h.2 with ⟨rfl, h0⟩ | ⟨g, cap, cur, rfl, hB, hg, _⟩
  · simp [Value.ownBlock] at hk
  · simp [Value.ownBlock] at hk
    subst hk
    exact ⟨hl.1, hl.2, _, _, hg⟩
/-- What is known once the nodes are copied. -/
structure NewAt (w wr : World) (A : Option Addr) (n c : Nat) (room : Int) (k : Kd) (l : List Nd) (g B : Nat) (v : Value) : Prop where
  head : PutHead w wr A n c room k
  row : wr.heap[g]? = some (.cells #[v, .int .i64 room] 25 (0, 0))
  own : OwnN wr B v l
  lo : w.heap.size + 3 ≤ B
  gB : B ≤ g ∨ w.heap.size + 3 ≤ g
  hB : B ≤ wr.heap.size
theorem PutHead.size {w wr : World} {A : Option Addr} {n c : Nat} {room : Int} {k : Kd} (h : PutHead w wr A n c room k) : w.heap.size + 3 ≤ wr.heap.size := lt_heap6 h.res
theorem NewAt.ne {w wr : World} {A : Option Addr} {n c : Nat} {room : Int} {k : Kd} {l : List Nd} {g B : Nat} {v : Value} (h : NewAt w wr A n c room k l g B v) : v.ownBlock ≠ some g := by
  intro e
  obtain ⟨_, _, cs, fz, hc⟩ := ownN_kind h.own g e
  rw [h.row] at hc
  injection hc with hc
  injection hc with _ hc _
  exact absurd hc (by decide)
def res0 : Obj := .cells #[.slice none 0 0, .int .i64 0] 25
theorem set_row {w : World} {g T : Nat} {a b u v : Value} (h : w.heap[g]? = some (.cells #[a, b] T (0, 0))) : ((w.setCell ⟨g, 0, none⟩ u).setCell ⟨g, 1, none⟩ v).heap[g]? = some (.cells #[u, v] T (0, 0)) := by
  simp [World.setCell, Array.getElem?_modify, h]
/-- the copy is made first -/
theorem newAt_copy {w w1 wa : World} {A : Option Addr} {n c : Nat} {room : Int} {k : Kd} {l : List Nd} {v : Value} (H : PutHead w w1 A n c room k) (ho : OwnN wa w1.heap.size v l) (hg : w1.drew.grownBy wa none) :
    NewAt w (wa.alloc (.cells #[v, .int .i64 room] 25)) A n c room k l wa.heap.size w1.heap.size v := by
  have hb0 : Below w1.heap.size w1 wa := (below_drewN6 w1).grown hg (Nat.le_refl _) (fun k e => by cases e)
  have hb1 := hb0.alloc hb0.size (.cells #[v, .int .i64 room] 25)
  exact ⟨H.below hb1, heap_alloc_new wa _, World.ownsRow.alloc ho _, H.size, .inl hb0.size, hb1.size⟩
/-- the new store's row is made first -/
theorem newAt_row {w w1 wb : World} {A : Option Addr} {n c : Nat} {room : Int} {k : Kd} {l : List Nd} {v : Value} (H : PutHead w w1 A n c room k) (ho : OwnN wb (w1.heap.size + 1) v l) (hg : (w1.drew.alloc (.cells #[.slice none 0 0, .int .i64 0] 25)).grownBy wb none) :
    NewAt w ((wb.setCell ⟨w1.heap.size, 0, none⟩ v).setCell ⟨w1.heap.size, 1, none⟩ (.int .i64 room)) A n c room k l w1.heap.size (w1.heap.size + 1) v := by
  have hsz : (w1.drew.alloc (.cells #[.slice none 0 0, .int .i64 0] 25)).heap.size = w1.heap.size + 1 := by
    show (w1.heap.push _).size = _
    simp
  have hb0 : Below w1.heap.size w1 wb := ((below_drewN6 w1).alloc (Nat.le_refl _) _).grown hg (by omega) (fun k e => by cases e)
  have hrow : wb.heap[w1.heap.size]? = some (.cells #[.slice none 0 0, .int .i64 0] 25 (0, 0)) := by
    rw [hg.block w1.heap.size (by omega) (by simp)]
    exact heap_alloc_new w1.drew _
  have hb2 := (hb0.setCell (p := ⟨w1.heap.size, 0, none⟩) (Nat.le_refl _) v).setCell (p := ⟨w1.heap.size, 1, none⟩) (Nat.le_refl _) (.int .i64 room)
  have hne : v.ownBlock = none ∨ v.ownBlock ≠ some w1.heap.size := by
    cases hv : v.ownBlock with
    | none => exact .inl rfl
    | some q => exact .inr (fun e => by injection e with e; have := (ownN_kind ho q hv).1; omega)
  refine ⟨H.below hb2, set_row hrow, ?_, by have := H.size; omega, .inr H.size, ?_⟩
  · exact World.ownsRow.kept (World.ownsRow.kept ho (but_set 0 _) hne) (but_set 1 _) hne
  · have := lt_heap6 (set_row (u := v) (v := .int .i64 room) hrow)
    omega
/-- one node more, and the row told -/
theorem newAt_push {w wr w' : World} {A : Option Addr} {n c : Nat} {room : Int} {k : Kd} {l : List Nd} {g B : Nat} {v v' : Value} {o : Obj} {x : Nd} (h : NewAt w wr A n c room k l g B v) (ho : OwnN w' B v' (l ++ [x])) (hg : (wr.alloc o).grownBy w' v.ownBlock) :
    NewAt w (w'.setCell ⟨g, 0, none⟩ v') A n c room k (l ++ [x]) g B v' := by
  have hgl := lt_heap6 h.row
  have hsz : (wr.alloc o).heap.size = wr.heap.size + 1 := by simp
  have hbB : Below B wr w' := ((Below.refl B wr).alloc h.hB o).grown hg (by have := h.hB; omega) (fun q e => (ownN_kind h.own q e).1)
  have hrow : w'.heap[g]? = some (.cells #[v, .int .i64 room] 25 (0, 0)) := by
    rw [hg.block g (by omega) (fun e => h.ne e.symm), Lib.alloc_old _ _ _ hgl]
    exact h.row
  have hne : v'.ownBlock ≠ some g := by
    intro e
    obtain ⟨_, _, cs, fz, hc⟩ := ownN_kind ho g e
    rw [hrow] at hc
    injection hc with hc
    injection hc with _ hc _
    exact absurd hc (by decide)
  have hlo := h.lo
  have hg3 : w.heap.size + 3 ≤ g := by rcases h.gB with h1 | h1 <;> omega
  have hkeep : ∀ q, q < w.heap.size + 3 → (w'.setCell ⟨g, 0, none⟩ v').heap[q]? = wr.heap[q]? := by
    intro q hq
    rw [Below.heap_setCell _ _ _ _ (by simp; omega)]
    exact hbB.block q (by omega)
  have hbel : Below w.heap.size w (w'.setCell ⟨g, 0, none⟩ v') := (h.head.bel.trans (hbB.mono (by omega))).setCell (by show _ ≤ g; omega) _
  refine ⟨⟨(hkeep _ (by omega)).trans h.head.store, (hkeep _ (by omega)).trans h.head.kids, (hkeep _ (by omega)).trans h.head.res, hbel⟩, ?_, World.ownsRow.kept ho (but_set 0 _) (.inr hne), h.lo, h.gB, ?_⟩
  · simp [World.setCell, Array.getElem?_modify, hrow]
  · have h1 := hbB.size
    have h2 : (w'.setCell ⟨g, 0, none⟩ v').heap.size = w'.heap.size := by simp [World.setCell]
    have := h.hB
    omega
/-- the row, before the new node is told in it -/
theorem newAt_keep {w wr w' : World} {A : Option Addr} {n c : Nat} {room : Int} {k : Kd} {l : List Nd} {g B : Nat} {v : Value} {o : Obj} (h : NewAt w wr A n c room k l g B v) (hg : (wr.alloc o).grownBy w' v.ownBlock) :
    w'.heap[g]? = some (.cells #[v, .int .i64 room] 25 (0, 0)) := by
  have hgl := lt_heap6 h.row
  have hsz : (wr.alloc o).heap.size = wr.heap.size + 1 := by simp
  rw [hg.block g (by omega) (fun e => h.ne e.symm), Lib.alloc_old _ _ _ hgl]
  exact h.row
/-- A region that draws its order, by a script, to what is known at its end. -/
theorem region_tree_to {P : Program} {id : Nat} {Q : Exit → Act → World → Prop} {a : Act} {w : World} {l : List Oper} (R : Act → Act → World → Prop) (s : Qt.Scr) (hm : P.follows .mixedOrders = true) (hsel : Region.noSelect l.toArray = true)
    (hB : Qt.treeB .any l.toArray s (Array.replicate l.toArray.size false) = true) (hlen : s.len = l.length)
    (h : Qt.treeW P l.toArray (R a) s a w.drew) (hQ : ∀ a' w', R a a' w' → Q .normal a' w') : (Code.region id l.toArray true).wp P Q a w := by
  refine wp_region_any hm ?_
  have := Qt.any_tree (P := P) (md := .any) (Kf := R a) hsel s _ a w.drew hB h
  rw [hlen] at this
  have e := Qt.any_qn hQ _ _ _ _ this
  simpa using e
end Go.Proofs.Ytcmdhochofoohaa
namespace Go.Proofs.Ytcmdhochofoohaa
set_option linter.unusedVariables false
set_option linter.unusedSimpArgs false
open Go.RowKit Go.Sort

set_option maxHeartbeats 4000000 in
set_option maxRecDepth 100000 in
theorem refPut6_any (A : Option Addr) (l : List Nd) (c : Nat) (room : Int) (k : Kd) (w : World) (hR : RdN w w.heap.size A l) (hl : l.length ≤ 100000) (hc : l.length ≤ c)
    (hb : ∀ i, i < l.length → 0 ≤ (l.getD i deadN).1 ∧ (l.getD i deadN).1 ≤ 42 ∧ 0 ≤ (l.getD i deadN).2.2 ∧ (l.getD i deadN).2.2 ≤ 4611686018427387903) :
    Calls Try.prog 48 #[storeV A l.length c room, kidsV k] w (PutR (put6 l room k) room w) := by
  have HH0 := Lib.hid (putHead_0 w A l.length c room k)
  obtain ⟨r, hr⟩ : ∃ r, r = put6 l room k := ⟨_, rfl⟩
  have hno := fun i hi h => put_no (l := l) (room := room) (k := k) (i := i) hi h
  rw [← hr] at hno ⊢
  have hat := fun W hR => refAt_any A l c room k W hR (by omega)
  have HNO := Lib.hid hno
  have HB := Lib.hid hb
  have HRR := Lib.hid hR
  have HR := Lib.hid hr
  unfold storeV kidsV
  clear hr hno hb
  go_enter Try.func48, Try.ntmps48
  go_wp2
  go_loopw [7, 8] (fun p i wr => ∃ j : Nat, j ≤ 4 ∧ p = .int .i64 (popTo l k j) ∧ i = .int .i64 j ∧ 0 ≤ popTo l k j ∧ popTo l k j ≤ 4611686018427387903 ∧ Hid (PutHead w wr A l.length c room k ∧ ∀ q, q < j → kidB l l.length (ndAt l k.1).1 (kd k q) = true)) (fun _ i _ => 4 - (intOf i).toNat)
  case atStart => exact ⟨0, by omega, rfl, rfl, Int.le_refl _, (show (0 : Int) ≤ 4611686018427387903 by decide), HH0.out, fun q hq => absurd hq (Nat.not_lt_zero q)⟩
  case round =>
    obtain ⟨j, hj, rfl, rfl, hp0, hp1, HH⟩ := hrel
    have H := HH.out.1
    by_cases hlt : j < 4
    · have hltz : (j : Int) < 4 := by omega
      have kc := H.kid hlt
      have k00 := H.kid (i := 0) (by decide)
      have hsucc : popTo l k (j + 1) = min (popTo l k j + (ndAt l (kd k j)).2.2) 4611686018427387903 := rfl
      have hno := HNO.out j hlt
      obtain ⟨K, hK⟩ : ∃ K, K = kd k j := ⟨_, rfl⟩
      rw [← hK] at kc hsucc hno
      have e1 := Qt.cell_in kc
      have e3 := Qt.cell_in H.s0
      by_cases hneg : K < 0
      · have hf := hno (by unfold kidB; rw [decide_eq_false (by omega)]; rfl)
        clear hK
        subst hf
        clear hno HNO HB HH0 HH hsucc hat k00 HR
        go_wp2_with fail
        refine Qt.below_all (by kernel_rfl) (by kernel_rfl) ?_
        repeat (go_big_quiet_step (fail))
        refine wpQuiet_nil ?_
        intro w1 hb1
        have H1 := H.below hb1
        have s0 := H1.s0
        have s1 := H1.s1
        have r0 := H1.r0
        have r1 := H1.r1
        have f0 := H1.free 0
        have f1 := H1.free 1
        have ht : ((w1.setCell ⟨w.heap.size + 1 + 1, 0, none⟩ (.slice A l.length c)).setCell ⟨w.heap.size + 1 + 1, 1, none⟩ (.int .i64 room)).heap[w.heap.size + 1 + 1]? = some (.cells #[.slice A l.length c, .int .i64 room] 25 (0, 0)) ∧ Below w.heap.size w ((w1.setCell ⟨w.heap.size + 1 + 1, 0, none⟩ (.slice A l.length c)).setCell ⟨w.heap.size + 1 + 1, 1, none⟩ (.int .i64 room)) := H1.told (.slice A l.length c) (.int .i64 room)
        clear e1 kc hb1 H H1 e3
        go_wp2
        generalize (w1.setCell ⟨w.heap.size + 1 + 1, 0, none⟩ (.slice A l.length c)).setCell ⟨w.heap.size + 1 + 1, 1, none⟩ (.int .i64 room) = w9 at *
        clear r0 r1 f0 f1 s0 s1
        refine bodyPost_ret (results_cell3 rfl _ _ _ _ _ _ _ rfl ht.1 Try.underlying25 rfl (by kernel_rfl)) rfl ?_
        exact ⟨_, rfl, ⟨A, c, rfl, hc, (HRR.out.below ht.2 (Nat.le_refl _)).more ht.2.size⟩, ht.2⟩
      · obtain ⟨m, rfl⟩ : ∃ m : Nat, K = (m : Int) := ⟨K.toNat, by omega⟩
        have hm0 : ¬ (m : Int) < 0 := hneg
        have hd0 : decide ((m : Int) < 0) = false := decide_eq_false hneg
        by_cases hge : (l.length : Int) ≤ (m : Int)
        · have hf := hno (by unfold kidB; rw [decide_eq_true (by omega), decide_eq_false (by omega)]; rfl)
          have hd1 : decide (l.length ≤ m) = true := decide_eq_true (by omega)
          clear hK
          subst hf
          clear hno HNO HB HH0 HH hsucc hat k00 HR
          go_wp2_with fail
          refine Qt.below_all (by kernel_rfl) (by kernel_rfl) ?_
          repeat (go_big_quiet_step (fail))
          refine wpQuiet_nil ?_
          intro w1 hb1
          have H1 := H.below hb1
          have s0 := H1.s0
          have s1 := H1.s1
          have r0 := H1.r0
          have r1 := H1.r1
          have f0 := H1.free 0
          have f1 := H1.free 1
          have ht : ((w1.setCell ⟨w.heap.size + 1 + 1, 0, none⟩ (.slice A l.length c)).setCell ⟨w.heap.size + 1 + 1, 1, none⟩ (.int .i64 room)).heap[w.heap.size + 1 + 1]? = some (.cells #[.slice A l.length c, .int .i64 room] 25 (0, 0)) ∧ Below w.heap.size w ((w1.setCell ⟨w.heap.size + 1 + 1, 0, none⟩ (.slice A l.length c)).setCell ⟨w.heap.size + 1 + 1, 1, none⟩ (.int .i64 room)) := H1.told (.slice A l.length c) (.int .i64 room)
          clear e1 kc hb1 H H1 e3 hd0 hd1
          go_wp2
          generalize (w1.setCell ⟨w.heap.size + 1 + 1, 0, none⟩ (.slice A l.length c)).setCell ⟨w.heap.size + 1 + 1, 1, none⟩ (.int .i64 room) = w9 at *
          clear r0 r1 f0 f1 s0 s1
          refine bodyPost_ret (results_cell3 rfl _ _ _ _ _ _ _ rfl ht.1 Try.underlying25 rfl (by kernel_rfl)) rfl ?_
          exact ⟨_, rfl, ⟨A, c, rfl, hc, (HRR.out.below ht.2 (Nat.le_refl _)).more ht.2.size⟩, ht.2⟩
        · have hml : m < l.length := by omega
          have hd1 : decide (l.length ≤ m) = false := decide_eq_false (by omega)
          have hmz : (m : Int) < (l.length : Int) := by omega
          obtain ⟨b0, off, rfl, hbB, hcell⟩ := HRR.out.at_ (by omega)
          obtain ⟨m0, m1, m2, m3, m4, m5⟩ := hcell m hml
          obtain ⟨b1, b2, b3, b4⟩ := HB.out m hml
          have hnd : ndAt l (m : Int) = l.getD m deadN := ndAt_nat l m
          rw [hnd] at hsucc
          -- the first kid
          have hk0 : ∃ z : Nat, k.1 = (z : Int) ∧ z < l.length := by
            rcases Nat.eq_zero_or_pos j with h0 | h0
            · subst h0
              exact ⟨m, hK.symm, hml⟩
            · have := kidB_iff.1 (HH.out.2 0 h0)
              simp only [kd] at this
              exact ⟨k.1.toNat, by omega, by omega⟩
          obtain ⟨z, hz, hzl⟩ := hk0
          have hzz : (z : Int) < (l.length : Int) := by omega
          obtain ⟨z0, _, _, _, _, _⟩ := hcell z hzl
          obtain ⟨d1, d2, _, _⟩ := HB.out z hzl
          have hnz : ndAt l (z : Int) = l.getD z deadN := ndAt_nat l z
          have hkb : kidB l l.length (ndAt l k.1).1 (m : Int) = decide ((l.getD m deadN).1 = (l.getD z deadN).1) := by
            unfold kidB
            rw [decide_eq_true (by omega), decide_eq_true (by omega), hnd, hz, hnz]
            rfl
          rw [hkb] at hno
          have HKK := Lib.hid hK
          have k00 : wr.cell? ⟨w.heap.size + 1, 0, none⟩ = some (.int .i64 z) := by have := k00; simp only [kd] at this; rw [this, hz]
          have m0 := Qt.keep H.bel m0
          have m5 := Qt.keep H.bel m5
          have z0 := Qt.keep H.bel z0
          have HKB := Lib.hid hkb
          clear hK hcell m1 m2 m3 m4 hnd hnz hz hkb
          generalize (l.getD m deadN).1 = lv at *
          generalize (l.getD z deadN).1 = lz at *
          generalize (l.getD m deadN).2.2 = pp at *
          have e2 := Qt.cell_in m0
          have e4 := Qt.cell_in k00
          have e5 := Qt.cell_in z0
          by_cases hlv : lv = lz
          · subst hlv
            have hnew : ∀ q, q < j + 1 → kidB l l.length (ndAt l k.1).1 (kd k q) = true := by
              intro q hq
              rcases Nat.lt_or_ge q j with h1 | h1
              · exact HH.out.2 q h1
              · obtain rfl : q = j := by omega
                rw [← HKK.out, HKB.out]
                exact decide_eq_true rfl
            have HNW := Lib.hid hnew
            clear hno hnew HH
            go_wp2_with fail
            refine Qt.below_all (by kernel_rfl) (by kernel_rfl) ?_
            repeat (go_big_quiet_step (fail))
            refine wpQuiet_nil ?_
            intro w1 hb1
            have H1 := H.below hb1
            have m5 := Qt.keep hb1 m5
            clear e1 kc e2 e3 e4 e5 m0 z0 hd0 hd1 H hb1 k00
            have kc := H1.kid hlt
            rw [← HKK.out] at kc
            have e1 := Qt.cell_in kc
            have e3 := Qt.cell_in H1.s0
            have e5 := Qt.cell_in m5
            go_wp2_with fail
            refine Qt.below_all (by kernel_rfl) (by kernel_rfl) ?_
            repeat (go_big_quiet_step (fail))
            refine wpQuiet_nil ?_
            intro w2 hb2
            have HN : Hid (PutHead w w2 (some ⟨b0, off, none⟩) l.length c room k ∧ ∀ q, q < j + 1 → kidB l l.length (ndAt l k.1).1 (kd k q) = true) := ⟨H1.below hb2, HNW.out⟩
            have hpn : 0 ≤ popTo l k (j + 1) ∧ popTo l k (j + 1) ≤ 4611686018427387903 := by rw [hsucc]; omega
            have HSC := Lib.hid hsucc
            clear e1 e3 e5 kc m5 H1 hb2 hsucc
            go_wp2
            go_roundw
            case measure => simp [intOf]; omega
            case rel => exact ⟨j + 1, by omega, congrArg (Value.int .i64) (by rw [HSC.out]; omega), by go_num, hpn.1, hpn.2, HN.out⟩
          · have hf := hno (decide_eq_false hlv)
            have hd2 : (lv == lz) = false := beq_eq_false_iff_ne.2 hlv
            subst hf
            clear hno HNO HB HH0 HH hsucc hat k00 HR
            go_wp2_with fail
            refine Qt.below_all (by kernel_rfl) (by kernel_rfl) ?_
            repeat (go_big_quiet_step (fail))
            refine wpQuiet_nil ?_
            intro w1 hb1
            have H1 := H.below hb1
            have s0 := H1.s0
            have s1 := H1.s1
            have r0 := H1.r0
            have r1 := H1.r1
            have f0 := H1.free 0
            have f1 := H1.free 1
            have ht : ((w1.setCell ⟨w.heap.size + 1 + 1, 0, none⟩ (.slice (some ⟨b0, off, none⟩) l.length c)).setCell ⟨w.heap.size + 1 + 1, 1, none⟩ (.int .i64 room)).heap[w.heap.size + 1 + 1]? = some (.cells #[.slice (some ⟨b0, off, none⟩) l.length c, .int .i64 room] 25 (0, 0)) ∧ Below w.heap.size w ((w1.setCell ⟨w.heap.size + 1 + 1, 0, none⟩ (.slice (some ⟨b0, off, none⟩) l.length c)).setCell ⟨w.heap.size + 1 + 1, 1, none⟩ (.int .i64 room)) := H1.told (.slice (some ⟨b0, off, none⟩) l.length c) (.int .i64 room)
            clear e1 kc hb1 H H1 e3 hd0 hd1 e2 e4 e5 m0 m5 z0 hd2
            go_wp2
            generalize (w1.setCell ⟨w.heap.size + 1 + 1, 0, none⟩ (.slice (some ⟨b0, off, none⟩) l.length c)).setCell ⟨w.heap.size + 1 + 1, 1, none⟩ (.int .i64 room) = w9 at *
            clear r0 r1 f0 f1 s0 s1
            refine bodyPost_ret (results_cell3 rfl _ _ _ _ _ _ _ rfl ht.1 Try.underlying25 rfl (by kernel_rfl)) rfl ?_
            exact ⟨_, rfl, ⟨_, c, rfl, hc, (HRR.out.below ht.2 (Nat.le_refl _)).more ht.2.size⟩, ht.2⟩
    · obtain rfl : j = 4 := by omega
      have hltz : ¬ ((4 : Nat) : Int) < 4 := by decide
      have hall : ∀ i, i < 4 → kidB l l.length (ndAt l k.1).1 (kd k i) = true := HH.out.2
      obtain ⟨hy1, hy2⟩ := put_yes (room := room) hall
      rw [← HR.out] at hy1 hy2
      have hk0 := kidB_iff.1 (hall 0 (by decide))
      simp only [kd] at hk0
      obtain ⟨z, hz⟩ : ∃ z : Nat, k.1 = (z : Int) := ⟨k.1.toNat, by omega⟩
      have hzl : z < l.length := by omega
      have hzz : (z : Int) < (l.length : Int) := by omega
      obtain ⟨b0, off, rfl, hbB, hcell⟩ := HRR.out.at_ (by omega)
      obtain ⟨z0, _, _, _, _, _⟩ := hcell z hzl
      obtain ⟨d1, d2, _, _⟩ := HB.out z hzl
      have hnz : ndAt l (z : Int) = l.getD z deadN := ndAt_nat l z
      have hlz : (ndAt l k.1).1 = (l.getD z deadN).1 := by rw [hz, hnz]
      rw [hlz] at hy1 hy2
      have z0 := Qt.keep H.bel z0
      clear hcell hnz hk0 hall HNO hlz HB HH0 HH HR
      have c0 := H.kid (i := 0) (by decide)
      have c1 := H.kid (i := 1) (by decide)
      have c2 := H.kid (i := 2) (by decide)
      have c3 := H.kid (i := 3) (by decide)
      simp only [kd] at c0 c1 c2 c3
      rw [hz] at c0
      have hat4 : ∀ W, RdN W W.heap.size (some ⟨b0, off, none⟩) l → Calls Try.prog 76 #[.agg #[.slice (some ⟨b0, off, none⟩) l.length c, .int .i64 room], .agg #[.int .i64 (z : Int), .int .i64 k.2.1, .int .i64 k.2.2.1, .int .i64 k.2.2.2]] W fun e w' => e = .returned (.int .i64 (atV (at6 l k))) ∧ Below W.heap.size W w' := by
        intro W hRW
        rw [← hz]
        exact hat W hRW
      have HZ := Lib.hid hz
      clear hz hat
      generalize (l.getD z deadN).1 = lz at *
      generalize popTo l k 4 = pt at *
      have s0 := H.s0
      by_cases h42 : 42 < lz + 1
      · have hf := hy1 h42
        subst hf
        have H1 := H
        have s0 := H1.s0
        have s1 := H1.s1
        have r0 := H1.r0
        have r1 := H1.r1
        have f0 := H1.free 0
        have f1 := H1.free 1
        have ht : ((wr.setCell ⟨w.heap.size + 1 + 1, 0, none⟩ (.slice (some ⟨b0, off, none⟩) l.length c)).setCell ⟨w.heap.size + 1 + 1, 1, none⟩ (.int .i64 room)).heap[w.heap.size + 1 + 1]? = some (.cells #[.slice (some ⟨b0, off, none⟩) l.length c, .int .i64 room] 25 (0, 0)) ∧ Below w.heap.size w ((wr.setCell ⟨w.heap.size + 1 + 1, 0, none⟩ (.slice (some ⟨b0, off, none⟩) l.length c)).setCell ⟨w.heap.size + 1 + 1, 1, none⟩ (.int .i64 room)) := H1.told (.slice (some ⟨b0, off, none⟩) l.length c) (.int .i64 room)
        clear H H1 hy1 hy2 hat4
        go_wp2
        generalize (wr.setCell ⟨w.heap.size + 1 + 1, 0, none⟩ (.slice (some ⟨b0, off, none⟩) l.length c)).setCell ⟨w.heap.size + 1 + 1, 1, none⟩ (.int .i64 room) = w9 at *
        clear r0 r1 f0 f1 s0 s1
        refine bodyPost_ret (results_cell3 rfl _ _ _ _ _ _ _ rfl ht.1 Try.underlying25 rfl (by kernel_rfl)) rfl ?_
        exact ⟨_, rfl, ⟨_, c, rfl, hc, (HRR.out.below ht.2 (Nat.le_refl _)).more ht.2.size⟩, ht.2⟩
      · obtain ⟨hy3, hy4⟩ := hy2 h42
        have hatt := hat4 wr ((HRR.out.below H.bel (Nat.le_refl _)).more H.bel.size)
        have s1 := H.s1
        cases hao : at6 l k with
        | some n =>
          have hf := hy3 n hao
          subst hf
          rw [hao] at hatt
          have hn0 : (0 : Int) ≤ (n : Int) := by omega
          unfold atV at hatt
          simp only at hatt
          clear hy1 hy2 hy3 hy4 hat4 hao
          go_wp2_with fail
          refine hatt.mono ?_
          rintro e w1 ⟨rfl, hb1⟩
          have H1 := H.below hb1
          clear hatt hb1 c0 c1 c2 c3 s0 s1 z0 H
          have s0 := H1.s0
          have s1 := H1.s1
          have r0 := H1.r0
          have r1 := H1.r1
          have f0 := H1.free 0
          have f1 := H1.free 1
          have ht : ((w1.setCell ⟨w.heap.size + 1 + 1, 0, none⟩ (.slice (some ⟨b0, off, none⟩) l.length c)).setCell ⟨w.heap.size + 1 + 1, 1, none⟩ (.int .i64 room)).heap[w.heap.size + 1 + 1]? = some (.cells #[.slice (some ⟨b0, off, none⟩) l.length c, .int .i64 room] 25 (0, 0)) ∧ Below w.heap.size w ((w1.setCell ⟨w.heap.size + 1 + 1, 0, none⟩ (.slice (some ⟨b0, off, none⟩) l.length c)).setCell ⟨w.heap.size + 1 + 1, 1, none⟩ (.int .i64 room)) := H1.told (.slice (some ⟨b0, off, none⟩) l.length c) (.int .i64 room)
          clear H1
          go_wp2
          generalize (w1.setCell ⟨w.heap.size + 1 + 1, 0, none⟩ (.slice (some ⟨b0, off, none⟩) l.length c)).setCell ⟨w.heap.size + 1 + 1, 1, none⟩ (.int .i64 room) = w9 at *
          clear r0 r1 f0 f1 s0 s1
          refine bodyPost_ret (results_cell3 rfl _ _ _ _ _ _ _ rfl ht.1 Try.underlying25 rfl (by kernel_rfl)) rfl ?_
          exact ⟨_, rfl, ⟨_, c, rfl, hc, (HRR.out.below ht.2 (Nat.le_refl _)).more ht.2.size⟩, ht.2⟩
        | none =>
          rw [hao] at hatt
          obtain ⟨hy5, hy6⟩ := hy4 hao
          unfold atV at hatt
          simp only at hatt
          clear hy1 hy2 hy3 hy4 hat4 hao
          by_cases hrl : room ≤ (l.length : Int)
          · have hf := hy5 hrl
            subst hf
            clear hy5 hy6
            go_wp2_with fail
            refine hatt.mono ?_
            rintro e w1 ⟨rfl, hb1⟩
            have H1 := H.below hb1
            clear hatt hb1 c0 c1 c2 c3 s0 s1 z0 H
            have s0 := H1.s0
            have s1 := H1.s1
            have r0 := H1.r0
            have r1 := H1.r1
            have f0 := H1.free 0
            have f1 := H1.free 1
            have ht : ((w1.setCell ⟨w.heap.size + 1 + 1, 0, none⟩ (.slice (some ⟨b0, off, none⟩) l.length c)).setCell ⟨w.heap.size + 1 + 1, 1, none⟩ (.int .i64 room)).heap[w.heap.size + 1 + 1]? = some (.cells #[.slice (some ⟨b0, off, none⟩) l.length c, .int .i64 room] 25 (0, 0)) ∧ Below w.heap.size w ((w1.setCell ⟨w.heap.size + 1 + 1, 0, none⟩ (.slice (some ⟨b0, off, none⟩) l.length c)).setCell ⟨w.heap.size + 1 + 1, 1, none⟩ (.int .i64 room)) := H1.told (.slice (some ⟨b0, off, none⟩) l.length c) (.int .i64 room)
            clear H1
            go_wp2
            generalize (w1.setCell ⟨w.heap.size + 1 + 1, 0, none⟩ (.slice (some ⟨b0, off, none⟩) l.length c)).setCell ⟨w.heap.size + 1 + 1, 1, none⟩ (.int .i64 room) = w9 at *
            clear r0 r1 f0 f1 s0 s1
            refine bodyPost_ret (results_cell3 rfl _ _ _ _ _ _ _ rfl ht.1 Try.underlying25 rfl (by kernel_rfl)) rfl ?_
            exact ⟨_, rfl, ⟨_, c, rfl, hc, (HRR.out.below ht.2 (Nat.le_refl _)).more ht.2.size⟩, ht.2⟩
          · have hf := hy6 hrl
            clear hy5 hy6
            go_wp2_with fail
            refine hatt.mono ?_
            rintro e w1 ⟨rfl, hb1⟩
            have H1 := H.below hb1
            clear hatt hb1 c0 c1 c2 c3 s0 s1 z0 H
            have s0 := H1.s0
            have s1 := H1.s1
            go_wp2_with fail
            have hbd : Below w.heap.size w w1.drew := H1.bel.drew
            have hnil : OwnN w1.drew w1.heap.size (.slice none 0 0) [] := World.ownsRow_nil _ _ _ _
            have hRa : NowN w1.drew (some ⟨b0, off, none⟩) l := (HRR.out.below hbd (Nat.le_refl _)).more hbd.size
            obtain ⟨va, wa, ra, oa, ga⟩ := appN_any (out := []) c (Nat.le_refl _) hnil hRa (by simp; omega)
            rw [List.nil_append] at oa
            obtain ⟨Aa, ca, rfl, _, _⟩ := OwnN.reads oa
            have hbo : Below w.heap.size w (w1.drew.alloc (.cells #[.slice none 0 0, .int .i64 0] 25)) := hbd.alloc (by have := H1.bel.size; exact this) _
            have hszo : (w1.drew.alloc (.cells #[.slice none 0 0, .int .i64 0] 25)).heap.size = w1.heap.size + 1 := by
              show (w1.heap.push _).size = _
              simp
            have hnilb : OwnN (w1.drew.alloc (.cells #[.slice none 0 0, .int .i64 0] 25)) (w1.heap.size + 1) (.slice none 0 0) [] := World.ownsRow_nil _ _ _ _
            have hRb : NowN (w1.drew.alloc (.cells #[.slice none 0 0, .int .i64 0] 25)) (some ⟨b0, off, none⟩) l := (HRR.out.below hbo (Nat.le_refl _)).more hbo.size
            obtain ⟨vb, wb, rb, ob, gb⟩ := appN_any (out := []) c (by omega) hnilb hRb (by simp; omega)
            rw [List.nil_append] at ob
            obtain ⟨Ab, cb, rfl, _, _⟩ := OwnN.reads ob
            have hlt1 := H1.size
            have s0o : ∀ o, (w1.alloc o).cell? ⟨w.heap.size, 0, none⟩ = some (.slice (some ⟨b0, off, none⟩) l.length c) := fun o => (World.cell?_alloc_lt _ _ _ (by show w.heap.size < _; omega)).trans s0
            have s1o : ∀ o, (w1.alloc o).cell? ⟨w.heap.size, 1, none⟩ = some (.int .i64 room) := fun o => (World.cell?_alloc_lt _ _ _ (by show w.heap.size < _; omega)).trans s1
            have hba : Below w1.heap.size w1 wa := (below_drewN6 w1).grown ga (Nat.le_refl _) (fun k e => by cases e)
            have sa1 : wa.cell? ⟨w.heap.size, 1, none⟩ = some (.int .i64 room) := (hba.cell (p := ⟨w.heap.size, 1, none⟩) (by show w.heap.size < _; omega)).trans s1
            have sa1o : ∀ o, (wa.alloc o).cell? ⟨w.heap.size, 1, none⟩ = some (.int .i64 room) := fun o => (World.cell?_alloc_lt _ _ _ (by show w.heap.size < _; have := hba.size; omega)).trans sa1
            have hbb : Below w1.heap.size w1 wb := ((below_drewN6 w1).alloc (Nat.le_refl _) _).grown gb (by omega) (fun k e => by cases e)
            have sb1 : wb.cell? ⟨w.heap.size, 1, none⟩ = some (.int .i64 room) := (hbb.cell (p := ⟨w.heap.size, 1, none⟩) (by show w.heap.size < _; omega)).trans s1
            have hrow : wb.heap[w1.heap.size]? = some (.cells #[.slice none 0 0, .int .i64 0] 25 (0, 0)) := by
              rw [gb.block w1.heap.size (by omega) (by intro e; cases e)]
              exact heap_alloc_new w1.drew _
            have cb0 : wb.cell? ⟨w1.heap.size, 0, none⟩ = some (.slice none 0 0) := by rw [Lib.cell_of_heap hrow]; rfl
            have cb1 : wb.cell? ⟨w1.heap.size, 1, none⟩ = some (.int .i64 0) := by rw [Lib.cell_of_heap hrow]; rfl
            have fb0 := Lib.frozen_of_heap hrow 0
            have fb1 := Lib.frozen_of_heap hrow 1
            clear hbd hnil hRa hbo hszo hnilb hRb hba hbb hrow
            refine region_tree_to (fun a0 a9 w9 => ∃ (g B : Nat) (A9 : Option Addr) (c9 : Nat), a9 = ((((((a0.put (some 84) (.pointer (some ⟨w.heap.size, 1, none⟩))).put (some 85) (.int .i64 room)).put (some 86) (.pointer (some ⟨w.heap.size, 0, none⟩))).put (some 87) (.slice (some ⟨b0, off, none⟩) l.length c)).put (some 88) (.slice A9 l.length c9)).put (some 89) (.agg #[.slice A9 l.length c9, .int .i64 room])).put (some 11) (.pointer (some ⟨g, 0, none⟩)) ∧ NewAt w w9 (some ⟨b0, off, none⟩) l.length c room k l g B (.slice A9 l.length c9)) (.pure 0 (.pure 2 (.three 1 3 6 (.two 3 6 (.two 4 6 (.pure 5 (.only 6 (.only 7 .done))) (.only 4 (.pure 5 (.only 7 .done)))) (.only 3 (.only 4 (.pure 5 (.only 7 .done))))) (.three 1 4 6 (.two 4 6 (.pure 5 (.only 6 (.only 7 .done))) (.only 4 (.pure 5 (.only 7 .done)))) (.two 1 6 (.pure 5 (.only 6 (.only 7 .done))) (.only 1 (.pure 5 (.only 7 .done)))) (.two 1 4 (.only 4 (.pure 5 (.only 7 .done))) (.only 1 (.pure 5 (.only 7 .done))))) (.two 1 3 (.only 3 (.only 4 (.pure 5 (.only 7 .done)))) (.two 1 4 (.only 4 (.pure 5 (.only 7 .done))) (.only 1 (.pure 5 (.only 7 .done)))))))) (by kernel_rfl) (by kernel_rfl) (by kernel_rfl) (by rfl) ?_ ?_
            · refine ⟨_, some 84, .pointer (some ⟨w.heap.size, 1, none⟩), rfl, rfl, ⟨rfl, fun _ => by first | rfl | (simp only [execOp]; go_simp)⟩, ?_⟩
              simp only [Act.put, List.setIfInBounds_toArray, List.set_cons_succ, List.set_cons_zero]
              refine ⟨_, some 86, .pointer (some ⟨w.heap.size, 0, none⟩), rfl, rfl, ⟨rfl, fun _ => by first | rfl | (simp only [execOp]; go_simp)⟩, ?_⟩
              simp only [Act.put, List.setIfInBounds_toArray, List.set_cons_succ, List.set_cons_zero]
              refine ⟨?_, ?_, ?_⟩
              · refine ⟨_, rfl, ?_⟩
                go_wp2_with fail
                refine ⟨rfl, ?_⟩
                constructor
                · refine ⟨_, rfl, ?_⟩
                  go_wp2_with fail
                  refine ⟨rfl, ?_⟩
                  constructor
                  · refine ⟨_, rfl, ?_⟩
                    refine Lib.wpList_append_run _ rfl (.const (.slice none 0 0)) (.tmp 87) 23 23 rfl (.slice none 0 0) (.slice (some ⟨b0, off, none⟩) l.length c) rfl rfl _ _ ra ?_
                    refine ⟨rfl, ?_⟩
                    refine ⟨_, some 89, .agg #[.slice Aa l.length ca, .int .i64 room], rfl, rfl, ⟨rfl, fun _ => by first | rfl | (simp only [execOp]; go_simp)⟩, ?_⟩
                    simp only [Act.put, List.setIfInBounds_toArray, List.set_cons_succ, List.set_cons_zero]
                    refine ⟨_, rfl, ?_⟩
                    go_wp2_with fail
                    refine ⟨rfl, ?_⟩
                    refine ⟨_, rfl, ?_⟩
                    go_wp2_with fail
                    refine ⟨rfl, ?_⟩
                    simp only [Qt.treeW]
                    exact ⟨_, _, Aa, ca, by first | rfl | simp only [Act.put, List.setIfInBounds_toArray, List.set_cons_succ, List.set_cons_zero], newAt_copy H1 oa ga⟩
                  · refine ⟨_, rfl, ?_⟩
                    go_wp2_with fail
                    refine ⟨rfl, ?_⟩
                    refine ⟨_, rfl, ?_⟩
                    refine Lib.wpList_append_run _ rfl (.const (.slice none 0 0)) (.tmp 87) 23 23 rfl (.slice none 0 0) (.slice (some ⟨b0, off, none⟩) l.length c) rfl rfl _ _ rb ?_
                    refine ⟨rfl, ?_⟩
                    refine ⟨_, some 89, .agg #[.slice Ab l.length cb, .int .i64 room], rfl, rfl, ⟨rfl, fun _ => by first | rfl | (simp only [execOp]; go_simp)⟩, ?_⟩
                    simp only [Act.put, List.setIfInBounds_toArray, List.set_cons_succ, List.set_cons_zero]
                    refine ⟨_, rfl, ?_⟩
                    go_wp2_with fail
                    refine ⟨rfl, ?_⟩
                    simp only [Qt.treeW]
                    exact ⟨_, _, Ab, cb, by first | rfl | simp only [Act.put, List.setIfInBounds_toArray, List.set_cons_succ, List.set_cons_zero], newAt_row H1 ob gb⟩
                · refine ⟨_, rfl, ?_⟩
                  go_wp2_with fail
                  refine ⟨rfl, ?_⟩
                  refine ⟨_, rfl, ?_⟩
                  go_wp2_with fail
                  refine ⟨rfl, ?_⟩
                  refine ⟨_, rfl, ?_⟩
                  refine Lib.wpList_append_run _ rfl (.const (.slice none 0 0)) (.tmp 87) 23 23 rfl (.slice none 0 0) (.slice (some ⟨b0, off, none⟩) l.length c) rfl rfl _ _ rb ?_
                  refine ⟨rfl, ?_⟩
                  refine ⟨_, some 89, .agg #[.slice Ab l.length cb, .int .i64 room], rfl, rfl, ⟨rfl, fun _ => by first | rfl | (simp only [execOp]; go_simp)⟩, ?_⟩
                  simp only [Act.put, List.setIfInBounds_toArray, List.set_cons_succ, List.set_cons_zero]
                  refine ⟨_, rfl, ?_⟩
                  go_wp2_with fail
                  refine ⟨rfl, ?_⟩
                  simp only [Qt.treeW]
                  exact ⟨_, _, Ab, cb, by first | rfl | simp only [Act.put, List.setIfInBounds_toArray, List.set_cons_succ, List.set_cons_zero], newAt_row H1 ob gb⟩
              · refine ⟨_, rfl, ?_⟩
                go_wp2_with fail
                refine ⟨rfl, ?_⟩
                refine ⟨?_, ?_, ?_⟩
                · refine ⟨_, rfl, ?_⟩
                  go_wp2_with fail
                  refine ⟨rfl, ?_⟩
                  constructor
                  · refine ⟨_, rfl, ?_⟩
                    refine Lib.wpList_append_run _ rfl (.const (.slice none 0 0)) (.tmp 87) 23 23 rfl (.slice none 0 0) (.slice (some ⟨b0, off, none⟩) l.length c) rfl rfl _ _ ra ?_
                    refine ⟨rfl, ?_⟩
                    refine ⟨_, some 89, .agg #[.slice Aa l.length ca, .int .i64 room], rfl, rfl, ⟨rfl, fun _ => by first | rfl | (simp only [execOp]; go_simp)⟩, ?_⟩
                    simp only [Act.put, List.setIfInBounds_toArray, List.set_cons_succ, List.set_cons_zero]
                    refine ⟨_, rfl, ?_⟩
                    go_wp2_with fail
                    refine ⟨rfl, ?_⟩
                    refine ⟨_, rfl, ?_⟩
                    go_wp2_with fail
                    refine ⟨rfl, ?_⟩
                    simp only [Qt.treeW]
                    exact ⟨_, _, Aa, ca, by first | rfl | simp only [Act.put, List.setIfInBounds_toArray, List.set_cons_succ, List.set_cons_zero], newAt_copy H1 oa ga⟩
                  · refine ⟨_, rfl, ?_⟩
                    go_wp2_with fail
                    refine ⟨rfl, ?_⟩
                    refine ⟨_, rfl, ?_⟩
                    refine Lib.wpList_append_run _ rfl (.const (.slice none 0 0)) (.tmp 87) 23 23 rfl (.slice none 0 0) (.slice (some ⟨b0, off, none⟩) l.length c) rfl rfl _ _ rb ?_
                    refine ⟨rfl, ?_⟩
                    refine ⟨_, some 89, .agg #[.slice Ab l.length cb, .int .i64 room], rfl, rfl, ⟨rfl, fun _ => by first | rfl | (simp only [execOp]; go_simp)⟩, ?_⟩
                    simp only [Act.put, List.setIfInBounds_toArray, List.set_cons_succ, List.set_cons_zero]
                    refine ⟨_, rfl, ?_⟩
                    go_wp2_with fail
                    refine ⟨rfl, ?_⟩
                    simp only [Qt.treeW]
                    exact ⟨_, _, Ab, cb, by first | rfl | simp only [Act.put, List.setIfInBounds_toArray, List.set_cons_succ, List.set_cons_zero], newAt_row H1 ob gb⟩
                · refine ⟨_, rfl, ?_⟩
                  refine Lib.wpList_append_run _ rfl (.const (.slice none 0 0)) (.tmp 87) 23 23 rfl (.slice none 0 0) (.slice (some ⟨b0, off, none⟩) l.length c) rfl rfl _ _ ra ?_
                  refine ⟨rfl, ?_⟩
                  constructor
                  · refine ⟨_, rfl, ?_⟩
                    go_wp2_with fail
                    refine ⟨rfl, ?_⟩
                    refine ⟨_, some 89, .agg #[.slice Aa l.length ca, .int .i64 room], rfl, rfl, ⟨rfl, fun _ => by first | rfl | (simp only [execOp]; go_simp)⟩, ?_⟩
                    simp only [Act.put, List.setIfInBounds_toArray, List.set_cons_succ, List.set_cons_zero]
                    refine ⟨_, rfl, ?_⟩
                    go_wp2_with fail
                    refine ⟨rfl, ?_⟩
                    refine ⟨_, rfl, ?_⟩
                    go_wp2_with fail
                    refine ⟨rfl, ?_⟩
                    simp only [Qt.treeW]
                    exact ⟨_, _, Aa, ca, by first | rfl | simp only [Act.put, List.setIfInBounds_toArray, List.set_cons_succ, List.set_cons_zero], newAt_copy H1 oa ga⟩
                  · refine ⟨_, rfl, ?_⟩
                    go_wp2_with fail
                    refine ⟨rfl, ?_⟩
                    refine ⟨_, rfl, ?_⟩
                    go_wp2_with fail
                    refine ⟨rfl, ?_⟩
                    refine ⟨_, some 89, .agg #[.slice Aa l.length ca, .int .i64 room], rfl, rfl, ⟨rfl, fun _ => by first | rfl | (simp only [execOp]; go_simp)⟩, ?_⟩
                    simp only [Act.put, List.setIfInBounds_toArray, List.set_cons_succ, List.set_cons_zero]
                    refine ⟨_, rfl, ?_⟩
                    go_wp2_with fail
                    refine ⟨rfl, ?_⟩
                    simp only [Qt.treeW]
                    exact ⟨_, _, Aa, ca, by first | rfl | simp only [Act.put, List.setIfInBounds_toArray, List.set_cons_succ, List.set_cons_zero], newAt_copy H1 oa ga⟩
                · refine ⟨_, rfl, ?_⟩
                  go_wp2_with fail
                  refine ⟨rfl, ?_⟩
                  constructor
                  · refine ⟨_, rfl, ?_⟩
                    go_wp2_with fail
                    refine ⟨rfl, ?_⟩
                    refine ⟨_, rfl, ?_⟩
                    refine Lib.wpList_append_run _ rfl (.const (.slice none 0 0)) (.tmp 87) 23 23 rfl (.slice none 0 0) (.slice (some ⟨b0, off, none⟩) l.length c) rfl rfl _ _ rb ?_
                    refine ⟨rfl, ?_⟩
                    refine ⟨_, some 89, .agg #[.slice Ab l.length cb, .int .i64 room], rfl, rfl, ⟨rfl, fun _ => by first | rfl | (simp only [execOp]; go_simp)⟩, ?_⟩
                    simp only [Act.put, List.setIfInBounds_toArray, List.set_cons_succ, List.set_cons_zero]
                    refine ⟨_, rfl, ?_⟩
                    go_wp2_with fail
                    refine ⟨rfl, ?_⟩
                    simp only [Qt.treeW]
                    exact ⟨_, _, Ab, cb, by first | rfl | simp only [Act.put, List.setIfInBounds_toArray, List.set_cons_succ, List.set_cons_zero], newAt_row H1 ob gb⟩
                  · refine ⟨_, rfl, ?_⟩
                    refine Lib.wpList_append_run _ rfl (.const (.slice none 0 0)) (.tmp 87) 23 23 rfl (.slice none 0 0) (.slice (some ⟨b0, off, none⟩) l.length c) rfl rfl _ _ rb ?_
                    refine ⟨rfl, ?_⟩
                    refine ⟨_, rfl, ?_⟩
                    go_wp2_with fail
                    refine ⟨rfl, ?_⟩
                    refine ⟨_, some 89, .agg #[.slice Ab l.length cb, .int .i64 room], rfl, rfl, ⟨rfl, fun _ => by first | rfl | (simp only [execOp]; go_simp)⟩, ?_⟩
                    simp only [Act.put, List.setIfInBounds_toArray, List.set_cons_succ, List.set_cons_zero]
                    refine ⟨_, rfl, ?_⟩
                    go_wp2_with fail
                    refine ⟨rfl, ?_⟩
                    simp only [Qt.treeW]
                    exact ⟨_, _, Ab, cb, by first | rfl | simp only [Act.put, List.setIfInBounds_toArray, List.set_cons_succ, List.set_cons_zero], newAt_row H1 ob gb⟩
              · refine ⟨_, rfl, ?_⟩
                go_wp2_with fail
                refine ⟨rfl, ?_⟩
                constructor
                · refine ⟨_, rfl, ?_⟩
                  go_wp2_with fail
                  refine ⟨rfl, ?_⟩
                  refine ⟨_, rfl, ?_⟩
                  go_wp2_with fail
                  refine ⟨rfl, ?_⟩
                  refine ⟨_, rfl, ?_⟩
                  refine Lib.wpList_append_run _ rfl (.const (.slice none 0 0)) (.tmp 87) 23 23 rfl (.slice none 0 0) (.slice (some ⟨b0, off, none⟩) l.length c) rfl rfl _ _ rb ?_
                  refine ⟨rfl, ?_⟩
                  refine ⟨_, some 89, .agg #[.slice Ab l.length cb, .int .i64 room], rfl, rfl, ⟨rfl, fun _ => by first | rfl | (simp only [execOp]; go_simp)⟩, ?_⟩
                  simp only [Act.put, List.setIfInBounds_toArray, List.set_cons_succ, List.set_cons_zero]
                  refine ⟨_, rfl, ?_⟩
                  go_wp2_with fail
                  refine ⟨rfl, ?_⟩
                  simp only [Qt.treeW]
                  exact ⟨_, _, Ab, cb, by first | rfl | simp only [Act.put, List.setIfInBounds_toArray, List.set_cons_succ, List.set_cons_zero], newAt_row H1 ob gb⟩
                · refine ⟨_, rfl, ?_⟩
                  go_wp2_with fail
                  refine ⟨rfl, ?_⟩
                  constructor
                  · refine ⟨_, rfl, ?_⟩
                    go_wp2_with fail
                    refine ⟨rfl, ?_⟩
                    refine ⟨_, rfl, ?_⟩
                    refine Lib.wpList_append_run _ rfl (.const (.slice none 0 0)) (.tmp 87) 23 23 rfl (.slice none 0 0) (.slice (some ⟨b0, off, none⟩) l.length c) rfl rfl _ _ rb ?_
                    refine ⟨rfl, ?_⟩
                    refine ⟨_, some 89, .agg #[.slice Ab l.length cb, .int .i64 room], rfl, rfl, ⟨rfl, fun _ => by first | rfl | (simp only [execOp]; go_simp)⟩, ?_⟩
                    simp only [Act.put, List.setIfInBounds_toArray, List.set_cons_succ, List.set_cons_zero]
                    refine ⟨_, rfl, ?_⟩
                    go_wp2_with fail
                    refine ⟨rfl, ?_⟩
                    simp only [Qt.treeW]
                    exact ⟨_, _, Ab, cb, by first | rfl | simp only [Act.put, List.setIfInBounds_toArray, List.set_cons_succ, List.set_cons_zero], newAt_row H1 ob gb⟩
                  · refine ⟨_, rfl, ?_⟩
                    refine Lib.wpList_append_run _ rfl (.const (.slice none 0 0)) (.tmp 87) 23 23 rfl (.slice none 0 0) (.slice (some ⟨b0, off, none⟩) l.length c) rfl rfl _ _ rb ?_
                    refine ⟨rfl, ?_⟩
                    refine ⟨_, rfl, ?_⟩
                    go_wp2_with fail
                    refine ⟨rfl, ?_⟩
                    refine ⟨_, some 89, .agg #[.slice Ab l.length cb, .int .i64 room], rfl, rfl, ⟨rfl, fun _ => by first | rfl | (simp only [execOp]; go_simp)⟩, ?_⟩
                    simp only [Act.put, List.setIfInBounds_toArray, List.set_cons_succ, List.set_cons_zero]
                    refine ⟨_, rfl, ?_⟩
                    go_wp2_with fail
                    refine ⟨rfl, ?_⟩
                    simp only [Qt.treeW]
                    exact ⟨_, _, Ab, cb, by first | rfl | simp only [Act.put, List.setIfInBounds_toArray, List.set_cons_succ, List.set_cons_zero], newAt_row H1 ob gb⟩
            · rintro a9 w9 ⟨g, B, A9, c9, rfl, HNA⟩
              clear ra rb oa ob ga gb s0o s1o sa1 sa1o sb1 cb0 cb1 fb0 fb1 hlt1 s0 s1 H1
              simp only [Act.put, List.setIfInBounds_toArray, List.set_cons_succ, List.set_cons_zero]
              have H9 := HNA.head
              have rg := HNA.row
              have g0 : w9.cell? ⟨g, 0, none⟩ = some (.slice A9 l.length c9) := by rw [Lib.cell_of_heap rg]; rfl
              have c0 := H9.kid (i := 0) (by decide)
              have c1 := H9.kid (i := 1) (by decide)
              have c2 := H9.kid (i := 2) (by decide)
              have c3 := H9.kid (i := 3) (by decide)
              simp only [kd] at c0 c1 c2 c3
              rw [HZ.out] at c0
              obtain ⟨v2, w2, rp, op, gp, _⟩ := pushN_any (out := l) (v := .slice A9 l.length c9) ((lz + 1, ((z : Int), k.2.1, k.2.2.1, k.2.2.2), pt) : Nd) HNA.hB HNA.own (by omega)
              have rk := newAt_keep HNA gp
              have HN2 := newAt_push HNA op gp
              obtain ⟨A3, c3', rfl, _, _⟩ := OwnN.reads op
              have hx1 : (l ++ [((lz + 1, ((z : Int), k.2.1, k.2.2.1, k.2.2.2), pt) : Nd)]).length = l.length + 1 := by simp
              have hkk : ((lz + 1, ((z : Int), k.2.1, k.2.2.1, k.2.2.2), pt) : Nd) = (lz + 1, k, pt) := by rw [← HZ.out]
              have g1 : w2.cell? ⟨g, 0, none⟩ = some (.slice A9 l.length c9) := by rw [Lib.cell_of_heap rk]; rfl
              have f1 := Lib.frozen_of_heap rk 0
              rw [hx1] at rp HN2
              clear op gp rk rg hx1
              go_wp2_with (at_builtin; refine Lib.wpList_append_run _ rfl (.tmp 91) (.tmp 96) 23 23 rfl _ _ rfl rfl _ _ rp ?_)
              clear rp c0 c1 c2 c3 g0 g1 f1
              generalize w2.setCell ⟨g, 0, none⟩ (.slice A3 (l.length + 1) c3') = w10 at *
              have H10 := HN2.head
              have rg := HN2.row
              have q0 : w10.cell? ⟨g, 0, none⟩ = some (.slice A3 (l.length + 1) c3') := by rw [Lib.cell_of_heap rg]; rfl
              have q1 : w10.cell? ⟨g, 1, none⟩ = some (.int .i64 room) := by rw [Lib.cell_of_heap rg]; rfl
              have s0 := H10.s0
              have r0 := H10.r0
              have r1 := H10.r1
              have f0 := H10.free 0
              have f1 := H10.free 1
              have hne : (Value.slice A3 (l.length + 1) c3').ownBlock = none ∨ (Value.slice A3 (l.length + 1) c3').ownBlock ≠ some (w.heap.size + 2) := by
                cases hv : (Value.slice A3 (l.length + 1) c3').ownBlock with
                | none => exact .inl rfl
                | some q => exact .inr (fun e => by injection e with e; have := (ownN_kind HN2.own q hv).1; have := HN2.lo; omega)
              have hfin : OwnN ((w10.setCell ⟨w.heap.size + 2, 0, none⟩ (.slice A3 (l.length + 1) c3')).setCell ⟨w.heap.size + 2, 1, none⟩ (.int .i64 room)).drew B (.slice A3 (l.length + 1) c3') (l ++ [((lz + 1, ((z : Int), k.2.1, k.2.2.1, k.2.2.2), pt) : Nd)]) :=
                OwnN.below (World.ownsRow.kept (World.ownsRow.kept HN2.own (but_set 0 _) hne) (but_set 1 _) hne) (below_drewN6 _)
              rw [hkk] at hfin
              have ht := H10.told (.slice A3 (l.length + 1) c3') (.int .i64 room)
              have HT : Hid (((w10.setCell ⟨w.heap.size + 1 + 1, 0, none⟩ (.slice A3 (l.length + 1) c3')).setCell ⟨w.heap.size + 1 + 1, 1, none⟩ (.int .i64 room)).drew.heap[w.heap.size + 1 + 1]? = some (.cells #[.slice A3 (l.length + 1) c3', .int .i64 room] 25 (0, 0)) ∧ Below w.heap.size w ((w10.setCell ⟨w.heap.size + 1 + 1, 0, none⟩ (.slice A3 (l.length + 1) c3')).setCell ⟨w.heap.size + 1 + 1, 1, none⟩ (.int .i64 room)).drew ∧ ReadsN ((w10.setCell ⟨w.heap.size + 1 + 1, 0, none⟩ (.slice A3 (l.length + 1) c3')).setCell ⟨w.heap.size + 1 + 1, 1, none⟩ (.int .i64 room)).drew (.slice A3 (l.length + 1) c3') (l ++ [(lz + 1, k, pt)])) := ⟨ht.1, ht.2.drew, OwnN.reads hfin⟩
              subst hf
              clear HNA HN2 H9 H10 rg hne hfin ht hkk
              refine Qt.region_tree (.pure 1 (.two 0 2 (.two 2 4 (.pure 3 (.only 4 (.only 5 (.only 6 .done)))) (.only 2 (.pure 3 (.only 5 (.only 6 .done))))) (.pure 3 (.only 0 (.only 4 (.only 5 (.only 6 .done))))))) (by kernel_rfl) (by kernel_rfl) (by kernel_rfl) (by rfl) ?_
              refine ⟨_, some 100, .pointer (some ⟨w.heap.size, 0, none⟩), rfl, rfl, ⟨rfl, fun _ => by first | rfl | (simp only [execOp]; go_simp)⟩, ?_⟩
              simp only [Act.put, List.setIfInBounds_toArray, List.set_cons_succ, List.set_cons_zero]
              constructor
              · refine ⟨_, rfl, ?_⟩
                go_wp2_with fail
                refine ⟨rfl, ?_⟩
                constructor
                · refine ⟨_, rfl, ?_⟩
                  go_wp2_with fail
                  refine ⟨rfl, ?_⟩
                  refine ⟨_, some 102, .int .i64 (l.length : Int), rfl, rfl, ⟨rfl, fun _ => by first | rfl | (simp only [execOp]; go_simp)⟩, ?_⟩
                  simp only [Act.put, List.setIfInBounds_toArray, List.set_cons_succ, List.set_cons_zero]
                  refine ⟨_, rfl, ?_⟩
                  go_wp2_with fail
                  refine ⟨rfl, ?_⟩
                  refine ⟨_, rfl, ?_⟩
                  go_wp2_with fail
                  refine ⟨rfl, ?_⟩
                  refine ⟨_, rfl, ?_⟩
                  go_wp2_with fail
                  refine ⟨rfl, ?_⟩
                  simp only [Qt.treeW]
                  go_wp2
                  generalize ((w10.setCell ⟨w.heap.size + 1 + 1, 0, none⟩ (.slice A3 (l.length + 1) c3')).setCell ⟨w.heap.size + 1 + 1, 1, none⟩ (.int .i64 room)).drew = w11 at *
                  refine bodyPost_ret (results_cell3 rfl _ _ _ _ _ _ _ rfl HT.out.1 Try.underlying25 rfl (by kernel_rfl)) rfl ?_
                  exact ⟨_, rfl, HT.out.2.2, HT.out.2.1⟩
                · refine ⟨_, rfl, ?_⟩
                  go_wp2_with fail
                  refine ⟨rfl, ?_⟩
                  refine ⟨_, rfl, ?_⟩
                  go_wp2_with fail
                  refine ⟨rfl, ?_⟩
                  refine ⟨_, some 102, .int .i64 (l.length : Int), rfl, rfl, ⟨rfl, fun _ => by first | rfl | (simp only [execOp]; go_simp)⟩, ?_⟩
                  simp only [Act.put, List.setIfInBounds_toArray, List.set_cons_succ, List.set_cons_zero]
                  refine ⟨_, rfl, ?_⟩
                  go_wp2_with fail
                  refine ⟨rfl, ?_⟩
                  refine ⟨_, rfl, ?_⟩
                  go_wp2_with fail
                  refine ⟨rfl, ?_⟩
                  simp only [Qt.treeW]
                  go_wp2
                  generalize ((w10.setCell ⟨w.heap.size + 1 + 1, 0, none⟩ (.slice A3 (l.length + 1) c3')).setCell ⟨w.heap.size + 1 + 1, 1, none⟩ (.int .i64 room)).drew = w11 at *
                  refine bodyPost_ret (results_cell3 rfl _ _ _ _ _ _ _ rfl HT.out.1 Try.underlying25 rfl (by kernel_rfl)) rfl ?_
                  exact ⟨_, rfl, HT.out.2.2, HT.out.2.1⟩
              · refine ⟨_, rfl, ?_⟩
                go_wp2_with fail
                refine ⟨rfl, ?_⟩
                refine ⟨_, some 102, .int .i64 (l.length : Int), rfl, rfl, ⟨rfl, fun _ => by first | rfl | (simp only [execOp]; go_simp)⟩, ?_⟩
                simp only [Act.put, List.setIfInBounds_toArray, List.set_cons_succ, List.set_cons_zero]
                refine ⟨_, rfl, ?_⟩
                go_wp2_with fail
                refine ⟨rfl, ?_⟩
                refine ⟨_, rfl, ?_⟩
                go_wp2_with fail
                refine ⟨rfl, ?_⟩
                refine ⟨_, rfl, ?_⟩
                go_wp2_with fail
                refine ⟨rfl, ?_⟩
                refine ⟨_, rfl, ?_⟩
                go_wp2_with fail
                refine ⟨rfl, ?_⟩
                simp only [Qt.treeW]
                go_wp2
                generalize ((w10.setCell ⟨w.heap.size + 1 + 1, 0, none⟩ (.slice A3 (l.length + 1) c3')).setCell ⟨w.heap.size + 1 + 1, 1, none⟩ (.int .i64 room)).drew = w11 at *
                refine bodyPost_ret (results_cell3 rfl _ _ _ _ _ _ _ rfl HT.out.1 Try.underlying25 rfl (by kernel_rfl)) rfl ?_
                exact ⟨_, rfl, HT.out.2.2, HT.out.2.1⟩
end Go.Proofs.Ytcmdhochofoohaa
namespace Go.Proofs.Ytcmdhochofoohaa
set_option linter.unusedVariables false
set_option linter.unusedSimpArgs false
open Go.RowKit Go.Sort

/-- nodes do not lie in a row that is too short -/
theorem rdN_ne {w : World} {B q T : Nat} {A : Option Addr} {l : List Nd} {cs : Array Value} {fz : Nat × Nat} (h : RdN w B A l) (hrow : w.heap[q]? = some (.cells cs T fz)) (hsz : cs.size ≤ 5) : ∀ j, j < l.length → ∃ b off, A = some ⟨b, off, none⟩ ∧ b ≠ q ∧ b < B ∧ NdAt w b (off + j * 6) (l.getD j deadN) := by
  intro j hj
  obtain ⟨b, off, e, hlt, h0⟩ := h j hj
  refine ⟨b, off, e, ?_, hlt, h0⟩
  rintro rfl
  obtain ⟨_, _, _, _, _, h5⟩ := h0
  rw [Lib.cell_of_heap hrow (off + j * 6 + 5), Array.getElem?_eq_none (by omega)] at h5
  cases h5
theorem rdN_told {w : World} {B q T : Nat} {A : Option Addr} {l : List Nd} {x y u v : Value} (h : RdN w B A l) (hrow : w.heap[q]? = some (.cells #[x, y] T (0, 0))) : RdN ((w.setCell ⟨q, 0, none⟩ u).setCell ⟨q, 1, none⟩ v) B A l := by
  intro j hj
  obtain ⟨b, off, e, hne, hlt, h0, h1, h2, h3, h4, h5⟩ := rdN_ne h hrow (Nat.le_of_ble_eq_true rfl) j hj
  have hb : ((w.setCell ⟨q, 0, none⟩ u).setCell ⟨q, 1, none⟩ v).heap[b]? = w.heap[b]? := (Below.heap_setCell _ _ _ _ hne).trans (Below.heap_setCell _ _ _ _ hne)
  have hc : ∀ o, ((w.setCell ⟨q, 0, none⟩ u).setCell ⟨q, 1, none⟩ v).cell? ⟨b, o, none⟩ = w.cell? ⟨b, o, none⟩ := fun o => World.cell?_of_block (w := w) hb
  exact ⟨b, off, e, hlt, (hc _).trans h0, (hc _).trans h1, (hc _).trans h2, (hc _).trans h3, (hc _).trans h4, (hc _).trans h5⟩

set_option maxHeartbeats 4000000 in
set_option maxRecDepth 100000 in
theorem refIntern6_any (A : Option Addr) (l : List Nd) (c : Nat) (room : Int) (k : Kd) (w : World) (hR : RdN w w.heap.size A l) (hl : l.length ≤ 100000) (hc : l.length ≤ c)
    (hw : ∀ i, i < l.length → -9223372036854775808 ≤ (l.getD i deadN).1 ∧ (l.getD i deadN).1 ≤ 9223372036854775807) :
    Calls Try.prog 20 #[storeV A l.length c room, kidsV k] w (PutR (intern6 l room k) room w) := by
  have HH0 := putHead_0 w A l.length c room k
  have hright := fun W (hR : RdN W W.heap.size A l) => refRight6_any A l c room W hR (by omega) hw
  unfold storeV at hright
  cases hr : right6 l room with
  | false =>
    have he : intern6 l room k = (l, 0, 1) := by unfold intern6; rw [if_neg (by rw [hr]; decide)]
    rw [he]
    rw [hr] at hright
    have hcall := hright _ ((hR.below HH0.bel (Nat.le_refl _)).more HH0.bel.size)
    unfold storeV kidsV
    clear hright hr he hw
    go_enter Try.func20, Try.ntmps20
    go_wp2_with fail
    refine hcall.mono ?_
    generalize ((w.alloc (.cells #[.slice A l.length c, .int .i64 room] 25)).alloc (.cells #[.int .i64 k.1, .int .i64 k.2.1, .int .i64 k.2.2.1, .int .i64 k.2.2.2] 26)).alloc (.cells #[.slice none 0 0, .int .i64 0] 25) = w0 at *
    rintro e w1 ⟨rfl, hb1⟩
    have H1 := HH0.below hb1
    have s0 := H1.s0
    have s1 := H1.s1
    have r0 := H1.r0
    have r1 := H1.r1
    have f0 := H1.free 0
    have f1 := H1.free 1
    have ht : ((w1.setCell ⟨w.heap.size + 1 + 1, 0, none⟩ (.slice A l.length c)).setCell ⟨w.heap.size + 1 + 1, 1, none⟩ (.int .i64 room)).heap[w.heap.size + 1 + 1]? = some (.cells #[.slice A l.length c, .int .i64 room] 25 (0, 0)) ∧ Below w.heap.size w ((w1.setCell ⟨w.heap.size + 1 + 1, 0, none⟩ (.slice A l.length c)).setCell ⟨w.heap.size + 1 + 1, 1, none⟩ (.int .i64 room)) := H1.told (.slice A l.length c) (.int .i64 room)
    clear hcall HH0 H1 hb1
    go_wp2
    generalize (w1.setCell ⟨w.heap.size + 1 + 1, 0, none⟩ (.slice A l.length c)).setCell ⟨w.heap.size + 1 + 1, 1, none⟩ (.int .i64 room) = w9 at *
    clear r0 r1 f0 f1 s0 s1
    refine bodyPost_ret (results_cell3 rfl _ _ _ _ _ _ _ rfl ht.1 Try.underlying25 rfl (by kernel_rfl)) rfl ?_
    exact ⟨_, rfl, ⟨A, c, rfl, hc, (hR.below ht.2 (Nat.le_refl _)).more ht.2.size⟩, ht.2⟩
  | true =>
    have hR6 := right_iff.1 hr
    rw [intern_right hR6]
    rw [hr] at hright
    have hput := fun W hR => refPut6_any A l c room k W hR hl hc (right_bd hR6)
    have hcall := hright _ ((hR.below HH0.bel (Nat.le_refl _)).more HH0.bel.size)
    unfold storeV kidsV
    unfold storeV kidsV at hput
    obtain ⟨p, hp⟩ : ∃ p, p = put6 l room k := ⟨_, rfl⟩
    rw [← hp] at hput ⊢
    clear hright hr hw hR6 hp
    go_enter Try.func20, Try.ntmps20
    go_wp2_with fail
    refine hcall.mono ?_
    generalize ((w.alloc (.cells #[.slice A l.length c, .int .i64 room] 25)).alloc (.cells #[.int .i64 k.1, .int .i64 k.2.1, .int .i64 k.2.2.1, .int .i64 k.2.2.2] 26)).alloc (.cells #[.slice none 0 0, .int .i64 0] 25) = w0 at *
    rintro e w1 ⟨rfl, hb1⟩
    have H1 := HH0.below hb1
    have s0 := H1.s0
    have s1 := H1.s1
    have c0 := H1.kid (i := 0) (by decide)
    have c1 := H1.kid (i := 1) (by decide)
    have c2 := H1.kid (i := 2) (by decide)
    have c3 := H1.kid (i := 3) (by decide)
    simp only [kd] at c0 c1 c2 c3
    have hput1 := hput w1 ((hR.below H1.bel (Nat.le_refl _)).more H1.bel.size)
    clear hcall HH0 hb1 hput
    go_wp2_with fail
    refine hput1.mono ?_
    rintro e w2 ⟨v, rfl, ⟨A2, c2', rfl, hc2, hR2⟩, hb2⟩
    have H2 := H1.below hb2
    have r0 := H2.r0
    have r1 := H2.r1
    have f0 := H2.free 0
    have f1 := H2.free 1
    have ht : ((w2.setCell ⟨w.heap.size + 1 + 1, 0, none⟩ (.slice A2 p.1.length c2')).setCell ⟨w.heap.size + 1 + 1, 1, none⟩ (.int .i64 room)).heap[w.heap.size + 1 + 1]? = some (.cells #[.slice A2 p.1.length c2', .int .i64 room] 25 (0, 0)) ∧ Below w.heap.size w ((w2.setCell ⟨w.heap.size + 1 + 1, 0, none⟩ (.slice A2 p.1.length c2')).setCell ⟨w.heap.size + 1 + 1, 1, none⟩ (.int .i64 room)) := H2.told (.slice A2 p.1.length c2') (.int .i64 room)
    have hfin : RdN ((w2.setCell ⟨w.heap.size + 1 + 1, 0, none⟩ (.slice A2 p.1.length c2')).setCell ⟨w.heap.size + 1 + 1, 1, none⟩ (.int .i64 room)) w2.heap.size A2 p.1 := rdN_told hR2 H2.res
    have hsz : ((w2.setCell ⟨w.heap.size + 1 + 1, 0, none⟩ (.slice A2 p.1.length c2')).setCell ⟨w.heap.size + 1 + 1, 1, none⟩ (.int .i64 room)).heap.size = w2.heap.size := by simp [World.setCell]
    have HF := Lib.hid (hfin.more (Nat.le_of_eq hsz.symm))
    clear hput1 hb2 H1 H2 c0 c1 c2 c3 s0 s1 hR2 hfin hsz
    go_wp2
    generalize (w2.setCell ⟨w.heap.size + 1 + 1, 0, none⟩ (.slice A2 p.1.length c2')).setCell ⟨w.heap.size + 1 + 1, 1, none⟩ (.int .i64 room) = w9 at *
    clear r0 r1 f0 f1
    refine bodyPost_ret (results_cell3 rfl _ _ _ _ _ _ _ rfl ht.1 Try.underlying25 rfl (by kernel_rfl)) rfl ?_
    exact ⟨_, rfl, ⟨A2, c2', rfl, hc2, HF.out⟩, ht.2⟩
end Go.Proofs.Ytcmdhochofoohaa
