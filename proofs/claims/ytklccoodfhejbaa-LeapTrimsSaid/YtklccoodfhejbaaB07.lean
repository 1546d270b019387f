/-
  Texts that the claims of this seat share, part 7.
-/
import Derived.Test.YtklccoodfhejbaaB04
set_option linter.unusedVariables false
set_option linter.unusedSimpArgs false
namespace Go.Proofs.Ytklccoodfhejbaa
set_option maxRecDepth 100000
set_option linter.unusedVariables false
set_option linter.unusedSimpArgs false
open Go.RowKit Go.Sort
open Go.Maps (Keyed)

/-- The store's box, and the answer's. -/
structure IoHead (w wr : World) (A : Option Addr) (n c : Nat) (room : Int) : Prop where
  store : wr.heap[w.heap.size]? = some (.cells #[.slice A n c, .int .i64 room] 26 (0, 0))
  res : wr.heap[w.heap.size + 1]? = some (.cells #[.slice none 0 0, .int .i64 0, .map none] 95 (0, 0))
  bel : Below w.heap.size w wr
section
variable {w wr w' : World} {A : Option Addr} {n c : Nat} {room : Int}
theorem IoHead.below (h : IoHead w wr A n c room) (hb : Below wr.heap.size wr w') : IoHead w w' A n c room :=
  ⟨(hb.block _ (lt_heap6 h.store)).trans h.store, (hb.block _ (lt_heap6 h.res)).trans h.res, Qt.more h.bel h.bel.size hb⟩
theorem IoHead.size (h : IoHead w wr A n c room) : w.heap.size + 2 ≤ wr.heap.size := lt_heap6 h.res
theorem IoHead.low (h : IoHead w wr A n c room) (hb : Below (w.heap.size + 2) wr w') : IoHead w w' A n c room :=
  ⟨(hb.block _ (by omega)).trans h.store, (hb.block _ (by omega)).trans h.res, h.bel.trans (hb.mono (by omega))⟩
theorem IoHead.s0 (h : IoHead w wr A n c room) : wr.cell? ⟨w.heap.size, 0, none⟩ = some (.slice A n c) := by rw [Lib.cell_of_heap h.store]; rfl
theorem IoHead.s1 (h : IoHead w wr A n c room) : wr.cell? ⟨w.heap.size, 1, none⟩ = some (.int .i64 room) := by rw [Lib.cell_of_heap h.store]; rfl
theorem IoHead.r0 (h : IoHead w wr A n c room) : wr.cell? ⟨w.heap.size + 1, 0, none⟩ = some (.slice none 0 0) := by rw [Lib.cell_of_heap h.res]; rfl
theorem IoHead.r1 (h : IoHead w wr A n c room) : wr.cell? ⟨w.heap.size + 1, 1, none⟩ = some (.int .i64 0) := by rw [Lib.cell_of_heap h.res]; rfl
theorem IoHead.r2 (h : IoHead w wr A n c room) : wr.cell? ⟨w.heap.size + 1, 2, none⟩ = some (.map none) := by rw [Lib.cell_of_heap h.res]; rfl
theorem IoHead.free (h : IoHead w wr A n c room) (j : Nat) : wr.frozen? ⟨w.heap.size + 1, j, none⟩ = false := Lib.frozen_of_heap h.res j
end
/-- three cells are told -/
abbrev three3 (w : World) (b : Nat) (x y z : Value) : World := ((w.setCell ⟨b, 0, none⟩ x).setCell ⟨b, 1, none⟩ y).setCell ⟨b, 2, none⟩ z
theorem row3 {w : World} {b T : Nat} {x y z x' y' z' : Value} (h : w.heap[b]? = some (.cells #[x, y, z] T (0, 0))) (x' y' z' : Value) : (three3 w b x' y' z').heap[b]? = some (.cells #[x', y', z'] T (0, 0)) := by
  simp [three3, World.setCell, Array.getElem?_modify, h]
theorem IoHead.told {w wr : World} {A : Option Addr} {n c : Nat} {room : Int} (h : IoHead w wr A n c room) (x y z : Value) :
    (three3 wr (w.heap.size + 1) x y z).heap[w.heap.size + 1]? = some (.cells #[x, y, z] 95 (0, 0)) ∧ Below w.heap.size w (three3 wr (w.heap.size + 1) x y z) :=
  ⟨row3 (x' := x) (y' := y) (z' := z) h.res x y z, ((h.bel.setCell (by show _ ≤ _ + 1; omega) _).setCell (by show _ ≤ _ + 1; omega) _).setCell (by show _ ≤ _ + 1; omega) _⟩
/-- What is there already, while the index is made: the two nodes, the map, the index's own box. -/
structure IoAt (w wr : World) (A : Option Addr) (n c : Nat) (room : Int) (q b g : Option Nat) : Prop where
  head : IoHead w wr A n c room
  own : ∀ x, q = some x → OwnN wr (w.heap.size + 2) (.slice (some ⟨x, 0, none⟩) 2 2) new6
  map : ∀ x, b = some x → MapAt wr x 0 (.map []) ∧ w.heap.size + 2 ≤ x
  row : ∀ x, g = some x → IxRow wr x (.slice none 0 0) 0 (.map none) ∧ w.heap.size + 2 ≤ x
theorem ownN_low {w : World} {B B' : Nat} {v : Value} {l : List Nd} (h : OwnN w B v l) (hB : B' ≤ B) : OwnN w B' v l := by
  refine ⟨h.1, ?_⟩
  rcases h.2 with h0 | ⟨q, cap, cur, h1, h2, h3⟩
  · exact .inl h0
  · exact .inr ⟨q, cap, cur, h1, Nat.le_trans hB h2, h3⟩
section
variable {w wr w' : World} {A : Option Addr} {n c : Nat} {room : Int} {q b g : Option Nat}
theorem IoAt.below (h : IoAt w wr A n c room q b g) (hb : Below wr.heap.size wr w') : IoAt w w' A n c room q b g :=
  ⟨h.head.below hb, fun x hx => (h.own x hx).below hb, fun x hx => ⟨(h.map x hx).1.kept (row := none) ⟨hb.os, hb.tape, hb.output, hb.size, fun k hk _ => hb.block k hk⟩ (by simp), (h.map x hx).2⟩, fun x hx => ⟨(h.row x hx).1.below hb (lt_heap6 (h.row x hx).1), (h.row x hx).2⟩⟩
theorem IoAt.new {Q : Nat} (h : IoAt w wr A n c room none b g) (hb : Below wr.heap.size wr w') (ho : OwnN w' wr.heap.size (.slice (some ⟨Q, 0, none⟩) 2 2) new6) : IoAt w w' A n c room (some Q) b g := by
  have h1 := h.below hb
  refine ⟨h1.head, fun x hx => ?_, h1.map, h1.row⟩
  injection hx with hx
  subst hx
  exact ownN_low ho h.head.size
theorem IoAt.made (h : IoAt w wr A n c room q none g) : ∃ M X, wr.heap.size = M ∧ wr.alloc (.map #[] 0) = X ∧ IoAt w X A n c room q (some M) g := by
  have h1 := h.below ((Below.refl _ _).alloc (Nat.le_refl _) (.map #[] 0))
  refine ⟨_, _, rfl, rfl, h1.head, h1.own, fun x hx => ?_, h1.row⟩
  injection hx with hx
  subst hx
  exact ⟨World.ownsMap_made _ _ _ _, h.head.size⟩
theorem IoAt.alld (h : IoAt w wr A n c room q b none) : ∃ G X, wr.heap.size = G ∧ wr.alloc (.cells #[.slice none 0 0, .int .i64 0, .map none] 95) = X ∧ IoAt w X A n c room q b (some G) := by
  have h1 := h.below ((Below.refl _ _).alloc (Nat.le_refl _) (.cells #[.slice none 0 0, .int .i64 0, .map none] 95))
  refine ⟨_, _, rfl, rfl, h1.head, h1.own, h1.map, fun x hx => ?_⟩
  injection hx with hx
  subst hx
  exact ⟨heap_alloc_new wr _, h.head.size⟩
theorem IoAt.fin {Q M G : Nat} (h : IoAt w wr A n c room (some Q) (some M) (some G)) :
    IxAt (w.heap.size + 2) (three3 wr G (.slice (some ⟨Q, 0, none⟩) 2 2) (.int .i64 room) (.map (some M))) G M new6 room (.slice (some ⟨Q, 0, none⟩) 2 2) (.map []) ∧ IoHead w (three3 wr G (.slice (some ⟨Q, 0, none⟩) 2 2) (.int .i64 room) (.map (some M))) A n c room := by
  have ho := h.own Q rfl
  obtain ⟨hm, hM⟩ := h.map M rfl
  obtain ⟨hr, hG⟩ := h.row G rfl
  have hsz := h.head.size
  have hQ : Q ≠ G := by
    intro e
    obtain ⟨_, _, cs, fz, hc⟩ := ownN_kind ho Q rfl
    unfold IxRow at hr
    rw [e, hr] at hc
    injection hc with hc
    injection hc with _ hc _
    exact absurd hc (by decide)
  have hMG : M ≠ G := by
    intro e
    obtain ⟨es, cc, hb⟩ := map_kind hm
    unfold IxRow at hr
    rw [e, hr] at hb
    injection hb with hb
    cases hb
  have hne : (Value.slice (some ⟨Q, 0, none⟩) 2 2).ownBlock = none ∨ (Value.slice (some ⟨Q, 0, none⟩) 2 2).ownBlock ≠ some G := .inr (fun e => hQ (by simpa [Value.ownBlock] using e))
  have hbel : Below (w.heap.size + 2) wr (three3 wr G (.slice (some ⟨Q, 0, none⟩) 2 2) (.int .i64 room) (.map (some M))) :=
    (((Below.refl _ _).setCell (p := ⟨G, 0, none⟩) hG _).setCell (p := ⟨G, 1, none⟩) hG _).setCell (p := ⟨G, 2, none⟩) hG _
  refine ⟨⟨row3 (x' := .slice (some ⟨Q, 0, none⟩) 2 2) (y' := .int .i64 room) (z' := .map (some M)) hr _ _ _, World.ownsRow.kept (World.ownsRow.kept (World.ownsRow.kept ho (but_set 0 _) hne) (but_set 1 _) hne) (but_set 2 _) hne, ?_, says_new, hG, hM, Nat.le_trans hsz hbel.size⟩, h.head.low hbel⟩
  exact (((hm.setCell (a := ⟨G, 0, none⟩) hMG _).setCell (a := ⟨G, 1, none⟩) hMG _).setCell (a := ⟨G, 2, none⟩) hMG _).mono (by decide)
end
theorem makeMap_run (n : Int) (w : World) : (Instr.makeMap 93 (some (.int .i64 n))).run Try.prog w = .ok (.map (some w.heap.size)) (w.alloc (.map #[] 0)) := by
  kernel_rfl
theorem ioHead_0 (w : World) (A : Option Addr) (n c : Nat) (room : Int) : IoHead w ((w.alloc (.cells #[.slice A n c, .int .i64 room] 26)).alloc (.cells #[.slice none 0 0, .int .i64 0, .map none] 95)) A n c room := by
  have h1 := storeAt_0 w A n c room
  have hs := lt_heap6 h1.store
  have hsz : (w.alloc (.cells #[.slice A n c, .int .i64 room] 26)).heap.size = w.heap.size + 1 := by simp
  refine ⟨(Lib.alloc_old _ _ _ (by omega)).trans h1.store, ?_, h1.bel.alloc (by omega) _⟩
  rw [← hsz]
  exact heap_alloc_new _ _
/-- What IndexOf answers. -/
def IndexR (l : List Nd) (room : Int) (w : World) (e : Ending) (w' : World) : Prop :=
  Below w.heap.size w w' ∧ ((right6 l room = false ∧ e = .returned (.tuple #[.agg #[.slice none 0 0, .int .i64 0, .map none], .bool false])) ∨
    (right6 l room = true ∧ ∃ (v : Value) (b : Nat) (D : DataW Unit), e = .returned (.tuple #[.agg #[v, .int .i64 room, .map (some b)], .bool true]) ∧ OwnN w' w.heap.size v l ∧ MapAt w' b l.length D ∧ Says D l ∧ w.heap.size ≤ b))

set_option maxHeartbeats 16000000 in
set_option maxRecDepth 100000 in
theorem indexOf_any (A : Option Addr) (l : List Nd) (c : Nat) (room : Int) (w : World) (hR : RdN w w.heap.size A l) (hl : l.length ≤ 1000000) (hc : l.length ≤ c) :
    Calls Try.prog 64 #[storeV A l.length c room] w (IndexR l room w) := by
  have HH0 := Lib.hid (ioHead_0 w A l.length c room)
  have hs0 := HH0.out.s0
  have hs1 := HH0.out.s1
  have hbeg := begins_any A l c room _ ((hR.below HH0.out.bel (Nat.le_refl _)).more HH0.out.bel.size) hl hc
  have hmm := makeMap_run
  unfold storeV at hbeg ⊢
  cases hh : headB6 l room with
  | false =>
    have hz : right6 l room = false := by
      rw [Bool.eq_false_iff]
      intro h
      rw [right_head h] at hh
      cases hh
    have HZ := Lib.hid hz
    rw [hh] at hbeg
    clear hz
    go_enter Try.func64, Try.ntmps64
    go_wp2_with (go_at_call 79; refine hbeg.mono ?_; rintro e w1 ⟨rfl, hb1⟩; have H1 := Lib.hid (HH0.out.below hb1); have r0 := H1.out.r0; have r1 := H1.out.r1; have r2 := H1.out.r2; have f0 := H1.out.free 0; have f1 := H1.out.free 1; have f2 := H1.out.free 2; have ht := Lib.hid (H1.out.told (.slice none 0 0) (.int .i64 0) (.map none)); clear hbeg hb1 hs0 hs1)
    refine bodyPost_ret (results_cell2 rfl _ _ _ _ _ _ _ rfl ht.out.1 Try.underlying95 rfl (by kernel_rfl)) rfl ?_
    exact ⟨ht.out.2, .inl ⟨HZ.out, rfl⟩⟩
  | true =>
    rw [hh] at hbeg
    obtain ⟨hnw, hright⟩ := head_new hh
    have hrm : 2 ≤ room ∧ room ≤ 100000 ∧ 2 ≤ l.length ∧ (l.length : Int) ≤ room := by
      unfold headB6 at hh
      simp only [Bool.and_eq_true, decide_eq_true_eq] at hh
      obtain ⟨⟨⟨⟨⟨h1, h2⟩, h3⟩, h4⟩, _⟩, _⟩ := hh
      exact ⟨h1, h2, h3, h4⟩
    have hnew := fun W => new_yes room W ⟨hrm.1, hrm.2.1⟩
    obtain ⟨hrm1, hrm2, hrm3, hrm4⟩ := hrm
    have HN := Lib.hid hnw
    have HRT := Lib.hid hright
    clear hh hnw hright
    go_enter Try.func64, Try.ntmps64
    go_wp2_with (go_at_call 79; refine hbeg.mono ?_; rintro e w1 ⟨rfl, hb1⟩; have H1 := Lib.hid (HH0.out.below hb1); clear hbeg hb1 hs0 hs1)
    refine region_tree_to (fun a0 a9 w9 => ∃ Q M G : Nat, a9 = (((((((((a0.put (some 12) (.pointer (some ⟨w.heap.size, 1, none⟩))).put (some 13) (.int .i64 room)).put (some 14) (.agg #[.slice (some ⟨Q, 0, none⟩) 2 2, .int .i64 room])).put (some 15) (.pointer (some ⟨w.heap.size, 0, none⟩))).put (some 16) (.slice A l.length c)).put (some 17) (.int .i64 (l.length : Int))).put (some 18) (.map (some M))).put (some 19) (.agg #[.slice (some ⟨Q, 0, none⟩) 2 2, .int .i64 room, .map (some M)])).put (some 4) (.pointer (some ⟨G, 0, none⟩))) ∧ IxAt (w.heap.size + 2) w9 G M new6 room (.slice (some ⟨Q, 0, none⟩) 2 2) (.map []) ∧ IoHead w w9 A l.length c room) (.pure 0 (.pure 3 (.three 1 4 8 (.three 2 4 8 (.two 4 8 (.pure 5 (.two 6 8 (.pure 7 (.only 8 (.only 9 .done))) (.only 6 (.pure 7 (.only 9 .done))))) (.only 4 (.pure 5 (.only 6 (.pure 7 (.only 9 .done)))))) (.pure 5 (.three 2 6 8 (.two 6 8 (.pure 7 (.only 8 (.only 9 .done))) (.only 6 (.pure 7 (.only 9 .done)))) (.two 2 8 (.pure 7 (.only 8 (.only 9 .done))) (.only 2 (.pure 7 (.only 9 .done)))) (.two 2 6 (.only 6 (.pure 7 (.only 9 .done))) (.only 2 (.pure 7 (.only 9 .done)))))) (.two 2 4 (.only 4 (.pure 5 (.only 6 (.pure 7 (.only 9 .done))))) (.pure 5 (.two 2 6 (.only 6 (.pure 7 (.only 9 .done))) (.only 2 (.pure 7 (.only 9 .done))))))) (.pure 5 (.three 1 6 8 (.three 2 6 8 (.two 6 8 (.pure 7 (.only 8 (.only 9 .done))) (.only 6 (.pure 7 (.only 9 .done)))) (.two 2 8 (.pure 7 (.only 8 (.only 9 .done))) (.only 2 (.pure 7 (.only 9 .done)))) (.two 2 6 (.only 6 (.pure 7 (.only 9 .done))) (.only 2 (.pure 7 (.only 9 .done))))) (.two 1 8 (.two 2 8 (.pure 7 (.only 8 (.only 9 .done))) (.only 2 (.pure 7 (.only 9 .done)))) (.only 1 (.only 2 (.pure 7 (.only 9 .done))))) (.two 1 6 (.two 2 6 (.only 6 (.pure 7 (.only 9 .done))) (.only 2 (.pure 7 (.only 9 .done)))) (.only 1 (.only 2 (.pure 7 (.only 9 .done))))))) (.two 1 4 (.two 2 4 (.only 4 (.pure 5 (.only 6 (.pure 7 (.only 9 .done))))) (.pure 5 (.two 2 6 (.only 6 (.pure 7 (.only 9 .done))) (.only 2 (.pure 7 (.only 9 .done)))))) (.pure 5 (.two 1 6 (.two 2 6 (.only 6 (.pure 7 (.only 9 .done))) (.only 2 (.pure 7 (.only 9 .done)))) (.only 1 (.only 2 (.pure 7 (.only 9 .done)))))))))) (by kernel_rfl) (by kernel_rfl) (by kernel_rfl) (by rfl) ?_ ?_
    · have H : IoAt w w1.drew A l.length c room none none none := ⟨H1.out.below (below_drewN6 w1), fun x hx => (by cases hx), fun x hx => (by cases hx), fun x hx => (by cases hx)⟩
      generalize w1.drew = wd at *
      clear H1 HH0
      have hgo : True := trivial
      · skip
        refine ⟨_, some 12, .pointer (some ⟨w.heap.size, 1, none⟩), rfl, rfl, ⟨rfl, fun _ => by first | rfl | (simp only [execOp]; go_simp)⟩, ?_⟩
        simp only [Act.put, List.setIfInBounds_toArray, List.set_cons_succ, List.set_cons_zero]
        refine ⟨_, some 15, .pointer (some ⟨w.heap.size, 0, none⟩), rfl, rfl, ⟨rfl, fun _ => by first | rfl | (simp only [execOp]; go_simp)⟩, ?_⟩
        simp only [Act.put, List.setIfInBounds_toArray, List.set_cons_succ, List.set_cons_zero]
        refine ⟨?_, ?_, ?_⟩
        · refine ⟨_, rfl, ?_⟩
          have s1 := H.head.s1
          go_wp2_with fail
          clear s1
          refine ⟨rfl, ?_⟩
          refine ⟨?_, ?_, ?_⟩
          · refine ⟨_, rfl, ?_⟩
            go_wp2_with fail
            refine (hnew _).mono ?_
            rintro e W ⟨Q, rfl, hQ, hown, hbQ⟩
            replace H := H.new hbQ hown
            clear hbQ hown hQ
            go_wp2_with fail
            refine ⟨rfl, ?_⟩
            constructor
            · refine ⟨_, rfl, ?_⟩
              have s0 := H.head.s0
              go_wp2_with fail
              clear s0
              refine ⟨rfl, ?_⟩
              refine ⟨_, some 17, .int .i64 (l.length : Int), rfl, rfl, ⟨rfl, fun _ => by first | rfl | (simp only [execOp]; go_simp)⟩, ?_⟩
              simp only [Act.put, List.setIfInBounds_toArray, List.set_cons_succ, List.set_cons_zero]
              constructor
              · refine ⟨_, rfl, ?_⟩
                go_wp2_with fail
                obtain ⟨M, X, hM, hX, H⟩ := H.made
                rw [hX, hM]
                clear hX hM
                refine ⟨rfl, ?_⟩
                refine ⟨_, some 19, .agg #[.slice (some ⟨Q, 0, none⟩) 2 2, .int .i64 room, .map (some M)], rfl, rfl, ⟨rfl, fun _ => by first | rfl | (simp only [execOp]; go_simp)⟩, ?_⟩
                simp only [Act.put, List.setIfInBounds_toArray, List.set_cons_succ, List.set_cons_zero]
                refine ⟨_, rfl, ?_⟩
                go_wp2_with fail
                obtain ⟨G, X, hG, hX, H⟩ := H.alld
                rw [hX, hG]
                clear hX hG
                refine ⟨rfl, ?_⟩
                refine ⟨_, rfl, ?_⟩
                have r0 := (H.row _ rfl).1.c0
                have r1 := (H.row _ rfl).1.c1
                have r2 := (H.row _ rfl).1.c2
                have f0 := Lib.frozen_of_heap (H.row _ rfl).1 0
                have f1 := Lib.frozen_of_heap (H.row _ rfl).1 1
                have f2 := Lib.frozen_of_heap (H.row _ rfl).1 2
                go_wp2_with fail
                refine ⟨rfl, ?_⟩
                exact ⟨Q, M, G, by first | rfl | simp only [Act.put, List.setIfInBounds_toArray, List.set_cons_succ, List.set_cons_zero], H.fin⟩
              · refine ⟨_, rfl, ?_⟩
                go_wp2_with fail
                obtain ⟨G, X, hG, hX, H⟩ := H.alld
                rw [hX, hG]
                clear hX hG
                refine ⟨rfl, ?_⟩
                refine ⟨_, rfl, ?_⟩
                go_wp2_with fail
                obtain ⟨M, X, hM, hX, H⟩ := H.made
                rw [hX, hM]
                clear hX hM
                refine ⟨rfl, ?_⟩
                refine ⟨_, some 19, .agg #[.slice (some ⟨Q, 0, none⟩) 2 2, .int .i64 room, .map (some M)], rfl, rfl, ⟨rfl, fun _ => by first | rfl | (simp only [execOp]; go_simp)⟩, ?_⟩
                simp only [Act.put, List.setIfInBounds_toArray, List.set_cons_succ, List.set_cons_zero]
                refine ⟨_, rfl, ?_⟩
                have r0 := (H.row _ rfl).1.c0
                have r1 := (H.row _ rfl).1.c1
                have r2 := (H.row _ rfl).1.c2
                have f0 := Lib.frozen_of_heap (H.row _ rfl).1 0
                have f1 := Lib.frozen_of_heap (H.row _ rfl).1 1
                have f2 := Lib.frozen_of_heap (H.row _ rfl).1 2
                go_wp2_with fail
                refine ⟨rfl, ?_⟩
                exact ⟨Q, M, G, by first | rfl | simp only [Act.put, List.setIfInBounds_toArray, List.set_cons_succ, List.set_cons_zero], H.fin⟩
            · refine ⟨_, rfl, ?_⟩
              go_wp2_with fail
              obtain ⟨G, X, hG, hX, H⟩ := H.alld
              rw [hX, hG]
              clear hX hG
              refine ⟨rfl, ?_⟩
              refine ⟨_, rfl, ?_⟩
              have s0 := H.head.s0
              go_wp2_with fail
              clear s0
              refine ⟨rfl, ?_⟩
              refine ⟨_, some 17, .int .i64 (l.length : Int), rfl, rfl, ⟨rfl, fun _ => by first | rfl | (simp only [execOp]; go_simp)⟩, ?_⟩
              simp only [Act.put, List.setIfInBounds_toArray, List.set_cons_succ, List.set_cons_zero]
              refine ⟨_, rfl, ?_⟩
              go_wp2_with fail
              obtain ⟨M, X, hM, hX, H⟩ := H.made
              rw [hX, hM]
              clear hX hM
              refine ⟨rfl, ?_⟩
              refine ⟨_, some 19, .agg #[.slice (some ⟨Q, 0, none⟩) 2 2, .int .i64 room, .map (some M)], rfl, rfl, ⟨rfl, fun _ => by first | rfl | (simp only [execOp]; go_simp)⟩, ?_⟩
              simp only [Act.put, List.setIfInBounds_toArray, List.set_cons_succ, List.set_cons_zero]
              refine ⟨_, rfl, ?_⟩
              have r0 := (H.row _ rfl).1.c0
              have r1 := (H.row _ rfl).1.c1
              have r2 := (H.row _ rfl).1.c2
              have f0 := Lib.frozen_of_heap (H.row _ rfl).1 0
              have f1 := Lib.frozen_of_heap (H.row _ rfl).1 1
              have f2 := Lib.frozen_of_heap (H.row _ rfl).1 2
              go_wp2_with fail
              refine ⟨rfl, ?_⟩
              exact ⟨Q, M, G, by first | rfl | simp only [Act.put, List.setIfInBounds_toArray, List.set_cons_succ, List.set_cons_zero], H.fin⟩
          · refine ⟨_, rfl, ?_⟩
            have s0 := H.head.s0
            go_wp2_with fail
            clear s0
            refine ⟨rfl, ?_⟩
            refine ⟨_, some 17, .int .i64 (l.length : Int), rfl, rfl, ⟨rfl, fun _ => by first | rfl | (simp only [execOp]; go_simp)⟩, ?_⟩
            simp only [Act.put, List.setIfInBounds_toArray, List.set_cons_succ, List.set_cons_zero]
            refine ⟨?_, ?_, ?_⟩
            · refine ⟨_, rfl, ?_⟩
              go_wp2_with fail
              refine (hnew _).mono ?_
              rintro e W ⟨Q, rfl, hQ, hown, hbQ⟩
              replace H := H.new hbQ hown
              clear hbQ hown hQ
              go_wp2_with fail
              refine ⟨rfl, ?_⟩
              constructor
              · refine ⟨_, rfl, ?_⟩
                go_wp2_with fail
                obtain ⟨M, X, hM, hX, H⟩ := H.made
                rw [hX, hM]
                clear hX hM
                refine ⟨rfl, ?_⟩
                refine ⟨_, some 19, .agg #[.slice (some ⟨Q, 0, none⟩) 2 2, .int .i64 room, .map (some M)], rfl, rfl, ⟨rfl, fun _ => by first | rfl | (simp only [execOp]; go_simp)⟩, ?_⟩
                simp only [Act.put, List.setIfInBounds_toArray, List.set_cons_succ, List.set_cons_zero]
                refine ⟨_, rfl, ?_⟩
                go_wp2_with fail
                obtain ⟨G, X, hG, hX, H⟩ := H.alld
                rw [hX, hG]
                clear hX hG
                refine ⟨rfl, ?_⟩
                refine ⟨_, rfl, ?_⟩
                have r0 := (H.row _ rfl).1.c0
                have r1 := (H.row _ rfl).1.c1
                have r2 := (H.row _ rfl).1.c2
                have f0 := Lib.frozen_of_heap (H.row _ rfl).1 0
                have f1 := Lib.frozen_of_heap (H.row _ rfl).1 1
                have f2 := Lib.frozen_of_heap (H.row _ rfl).1 2
                go_wp2_with fail
                refine ⟨rfl, ?_⟩
                exact ⟨Q, M, G, by first | rfl | simp only [Act.put, List.setIfInBounds_toArray, List.set_cons_succ, List.set_cons_zero], H.fin⟩
              · refine ⟨_, rfl, ?_⟩
                go_wp2_with fail
                obtain ⟨G, X, hG, hX, H⟩ := H.alld
                rw [hX, hG]
                clear hX hG
                refine ⟨rfl, ?_⟩
                refine ⟨_, rfl, ?_⟩
                go_wp2_with fail
                obtain ⟨M, X, hM, hX, H⟩ := H.made
                rw [hX, hM]
                clear hX hM
                refine ⟨rfl, ?_⟩
                refine ⟨_, some 19, .agg #[.slice (some ⟨Q, 0, none⟩) 2 2, .int .i64 room, .map (some M)], rfl, rfl, ⟨rfl, fun _ => by first | rfl | (simp only [execOp]; go_simp)⟩, ?_⟩
                simp only [Act.put, List.setIfInBounds_toArray, List.set_cons_succ, List.set_cons_zero]
                refine ⟨_, rfl, ?_⟩
                have r0 := (H.row _ rfl).1.c0
                have r1 := (H.row _ rfl).1.c1
                have r2 := (H.row _ rfl).1.c2
                have f0 := Lib.frozen_of_heap (H.row _ rfl).1 0
                have f1 := Lib.frozen_of_heap (H.row _ rfl).1 1
                have f2 := Lib.frozen_of_heap (H.row _ rfl).1 2
                go_wp2_with fail
                refine ⟨rfl, ?_⟩
                exact ⟨Q, M, G, by first | rfl | simp only [Act.put, List.setIfInBounds_toArray, List.set_cons_succ, List.set_cons_zero], H.fin⟩
            · refine ⟨_, rfl, ?_⟩
              go_wp2_with fail
              obtain ⟨M, X, hM, hX, H⟩ := H.made
              rw [hX, hM]
              clear hX hM
              refine ⟨rfl, ?_⟩
              constructor
              · refine ⟨_, rfl, ?_⟩
                go_wp2_with fail
                refine (hnew _).mono ?_
                rintro e W ⟨Q, rfl, hQ, hown, hbQ⟩
                replace H := H.new hbQ hown
                clear hbQ hown hQ
                go_wp2_with fail
                refine ⟨rfl, ?_⟩
                refine ⟨_, some 19, .agg #[.slice (some ⟨Q, 0, none⟩) 2 2, .int .i64 room, .map (some M)], rfl, rfl, ⟨rfl, fun _ => by first | rfl | (simp only [execOp]; go_simp)⟩, ?_⟩
                simp only [Act.put, List.setIfInBounds_toArray, List.set_cons_succ, List.set_cons_zero]
                refine ⟨_, rfl, ?_⟩
                go_wp2_with fail
                obtain ⟨G, X, hG, hX, H⟩ := H.alld
                rw [hX, hG]
                clear hX hG
                refine ⟨rfl, ?_⟩
                refine ⟨_, rfl, ?_⟩
                have r0 := (H.row _ rfl).1.c0
                have r1 := (H.row _ rfl).1.c1
                have r2 := (H.row _ rfl).1.c2
                have f0 := Lib.frozen_of_heap (H.row _ rfl).1 0
                have f1 := Lib.frozen_of_heap (H.row _ rfl).1 1
                have f2 := Lib.frozen_of_heap (H.row _ rfl).1 2
                go_wp2_with fail
                refine ⟨rfl, ?_⟩
                exact ⟨Q, M, G, by first | rfl | simp only [Act.put, List.setIfInBounds_toArray, List.set_cons_succ, List.set_cons_zero], H.fin⟩
              · refine ⟨_, rfl, ?_⟩
                go_wp2_with fail
                obtain ⟨G, X, hG, hX, H⟩ := H.alld
                rw [hX, hG]
                clear hX hG
                refine ⟨rfl, ?_⟩
                refine ⟨_, rfl, ?_⟩
                go_wp2_with fail
                refine (hnew _).mono ?_
                rintro e W ⟨Q, rfl, hQ, hown, hbQ⟩
                replace H := H.new hbQ hown
                clear hbQ hown hQ
                go_wp2_with fail
                refine ⟨rfl, ?_⟩
                refine ⟨_, some 19, .agg #[.slice (some ⟨Q, 0, none⟩) 2 2, .int .i64 room, .map (some M)], rfl, rfl, ⟨rfl, fun _ => by first | rfl | (simp only [execOp]; go_simp)⟩, ?_⟩
                simp only [Act.put, List.setIfInBounds_toArray, List.set_cons_succ, List.set_cons_zero]
                refine ⟨_, rfl, ?_⟩
                have r0 := (H.row _ rfl).1.c0
                have r1 := (H.row _ rfl).1.c1
                have r2 := (H.row _ rfl).1.c2
                have f0 := Lib.frozen_of_heap (H.row _ rfl).1 0
                have f1 := Lib.frozen_of_heap (H.row _ rfl).1 1
                have f2 := Lib.frozen_of_heap (H.row _ rfl).1 2
                go_wp2_with fail
                refine ⟨rfl, ?_⟩
                exact ⟨Q, M, G, by first | rfl | simp only [Act.put, List.setIfInBounds_toArray, List.set_cons_succ, List.set_cons_zero], H.fin⟩
            · refine ⟨_, rfl, ?_⟩
              go_wp2_with fail
              obtain ⟨G, X, hG, hX, H⟩ := H.alld
              rw [hX, hG]
              clear hX hG
              refine ⟨rfl, ?_⟩
              constructor
              · refine ⟨_, rfl, ?_⟩
                go_wp2_with fail
                refine (hnew _).mono ?_
                rintro e W ⟨Q, rfl, hQ, hown, hbQ⟩
                replace H := H.new hbQ hown
                clear hbQ hown hQ
                go_wp2_with fail
                refine ⟨rfl, ?_⟩
                refine ⟨_, rfl, ?_⟩
                go_wp2_with fail
                obtain ⟨M, X, hM, hX, H⟩ := H.made
                rw [hX, hM]
                clear hX hM
                refine ⟨rfl, ?_⟩
                refine ⟨_, some 19, .agg #[.slice (some ⟨Q, 0, none⟩) 2 2, .int .i64 room, .map (some M)], rfl, rfl, ⟨rfl, fun _ => by first | rfl | (simp only [execOp]; go_simp)⟩, ?_⟩
                simp only [Act.put, List.setIfInBounds_toArray, List.set_cons_succ, List.set_cons_zero]
                refine ⟨_, rfl, ?_⟩
                have r0 := (H.row _ rfl).1.c0
                have r1 := (H.row _ rfl).1.c1
                have r2 := (H.row _ rfl).1.c2
                have f0 := Lib.frozen_of_heap (H.row _ rfl).1 0
                have f1 := Lib.frozen_of_heap (H.row _ rfl).1 1
                have f2 := Lib.frozen_of_heap (H.row _ rfl).1 2
                go_wp2_with fail
                refine ⟨rfl, ?_⟩
                exact ⟨Q, M, G, by first | rfl | simp only [Act.put, List.setIfInBounds_toArray, List.set_cons_succ, List.set_cons_zero], H.fin⟩
              · refine ⟨_, rfl, ?_⟩
                go_wp2_with fail
                obtain ⟨M, X, hM, hX, H⟩ := H.made
                rw [hX, hM]
                clear hX hM
                refine ⟨rfl, ?_⟩
                refine ⟨_, rfl, ?_⟩
                go_wp2_with fail
                refine (hnew _).mono ?_
                rintro e W ⟨Q, rfl, hQ, hown, hbQ⟩
                replace H := H.new hbQ hown
                clear hbQ hown hQ
                go_wp2_with fail
                refine ⟨rfl, ?_⟩
                refine ⟨_, some 19, .agg #[.slice (some ⟨Q, 0, none⟩) 2 2, .int .i64 room, .map (some M)], rfl, rfl, ⟨rfl, fun _ => by first | rfl | (simp only [execOp]; go_simp)⟩, ?_⟩
                simp only [Act.put, List.setIfInBounds_toArray, List.set_cons_succ, List.set_cons_zero]
                refine ⟨_, rfl, ?_⟩
                have r0 := (H.row _ rfl).1.c0
                have r1 := (H.row _ rfl).1.c1
                have r2 := (H.row _ rfl).1.c2
                have f0 := Lib.frozen_of_heap (H.row _ rfl).1 0
                have f1 := Lib.frozen_of_heap (H.row _ rfl).1 1
                have f2 := Lib.frozen_of_heap (H.row _ rfl).1 2
                go_wp2_with fail
                refine ⟨rfl, ?_⟩
                exact ⟨Q, M, G, by first | rfl | simp only [Act.put, List.setIfInBounds_toArray, List.set_cons_succ, List.set_cons_zero], H.fin⟩
          · refine ⟨_, rfl, ?_⟩
            go_wp2_with fail
            obtain ⟨G, X, hG, hX, H⟩ := H.alld
            rw [hX, hG]
            clear hX hG
            refine ⟨rfl, ?_⟩
            constructor
            · refine ⟨_, rfl, ?_⟩
              go_wp2_with fail
              refine (hnew _).mono ?_
              rintro e W ⟨Q, rfl, hQ, hown, hbQ⟩
              replace H := H.new hbQ hown
              clear hbQ hown hQ
              go_wp2_with fail
              refine ⟨rfl, ?_⟩
              refine ⟨_, rfl, ?_⟩
              have s0 := H.head.s0
              go_wp2_with fail
              clear s0
              refine ⟨rfl, ?_⟩
              refine ⟨_, some 17, .int .i64 (l.length : Int), rfl, rfl, ⟨rfl, fun _ => by first | rfl | (simp only [execOp]; go_simp)⟩, ?_⟩
              simp only [Act.put, List.setIfInBounds_toArray, List.set_cons_succ, List.set_cons_zero]
              refine ⟨_, rfl, ?_⟩
              go_wp2_with fail
              obtain ⟨M, X, hM, hX, H⟩ := H.made
              rw [hX, hM]
              clear hX hM
              refine ⟨rfl, ?_⟩
              refine ⟨_, some 19, .agg #[.slice (some ⟨Q, 0, none⟩) 2 2, .int .i64 room, .map (some M)], rfl, rfl, ⟨rfl, fun _ => by first | rfl | (simp only [execOp]; go_simp)⟩, ?_⟩
              simp only [Act.put, List.setIfInBounds_toArray, List.set_cons_succ, List.set_cons_zero]
              refine ⟨_, rfl, ?_⟩
              have r0 := (H.row _ rfl).1.c0
              have r1 := (H.row _ rfl).1.c1
              have r2 := (H.row _ rfl).1.c2
              have f0 := Lib.frozen_of_heap (H.row _ rfl).1 0
              have f1 := Lib.frozen_of_heap (H.row _ rfl).1 1
              have f2 := Lib.frozen_of_heap (H.row _ rfl).1 2
              go_wp2_with fail
              refine ⟨rfl, ?_⟩
              exact ⟨Q, M, G, by first | rfl | simp only [Act.put, List.setIfInBounds_toArray, List.set_cons_succ, List.set_cons_zero], H.fin⟩
            · refine ⟨_, rfl, ?_⟩
              have s0 := H.head.s0
              go_wp2_with fail
              clear s0
              refine ⟨rfl, ?_⟩
              refine ⟨_, some 17, .int .i64 (l.length : Int), rfl, rfl, ⟨rfl, fun _ => by first | rfl | (simp only [execOp]; go_simp)⟩, ?_⟩
              simp only [Act.put, List.setIfInBounds_toArray, List.set_cons_succ, List.set_cons_zero]
              constructor
              · refine ⟨_, rfl, ?_⟩
                go_wp2_with fail
                refine (hnew _).mono ?_
                rintro e W ⟨Q, rfl, hQ, hown, hbQ⟩
                replace H := H.new hbQ hown
                clear hbQ hown hQ
                go_wp2_with fail
                refine ⟨rfl, ?_⟩
                refine ⟨_, rfl, ?_⟩
                go_wp2_with fail
                obtain ⟨M, X, hM, hX, H⟩ := H.made
                rw [hX, hM]
                clear hX hM
                refine ⟨rfl, ?_⟩
                refine ⟨_, some 19, .agg #[.slice (some ⟨Q, 0, none⟩) 2 2, .int .i64 room, .map (some M)], rfl, rfl, ⟨rfl, fun _ => by first | rfl | (simp only [execOp]; go_simp)⟩, ?_⟩
                simp only [Act.put, List.setIfInBounds_toArray, List.set_cons_succ, List.set_cons_zero]
                refine ⟨_, rfl, ?_⟩
                have r0 := (H.row _ rfl).1.c0
                have r1 := (H.row _ rfl).1.c1
                have r2 := (H.row _ rfl).1.c2
                have f0 := Lib.frozen_of_heap (H.row _ rfl).1 0
                have f1 := Lib.frozen_of_heap (H.row _ rfl).1 1
                have f2 := Lib.frozen_of_heap (H.row _ rfl).1 2
                go_wp2_with fail
                refine ⟨rfl, ?_⟩
                exact ⟨Q, M, G, by first | rfl | simp only [Act.put, List.setIfInBounds_toArray, List.set_cons_succ, List.set_cons_zero], H.fin⟩
              · refine ⟨_, rfl, ?_⟩
                go_wp2_with fail
                obtain ⟨M, X, hM, hX, H⟩ := H.made
                rw [hX, hM]
                clear hX hM
                refine ⟨rfl, ?_⟩
                refine ⟨_, rfl, ?_⟩
                go_wp2_with fail
                refine (hnew _).mono ?_
                rintro e W ⟨Q, rfl, hQ, hown, hbQ⟩
                replace H := H.new hbQ hown
                clear hbQ hown hQ
                go_wp2_with fail
                refine ⟨rfl, ?_⟩
                refine ⟨_, some 19, .agg #[.slice (some ⟨Q, 0, none⟩) 2 2, .int .i64 room, .map (some M)], rfl, rfl, ⟨rfl, fun _ => by first | rfl | (simp only [execOp]; go_simp)⟩, ?_⟩
                simp only [Act.put, List.setIfInBounds_toArray, List.set_cons_succ, List.set_cons_zero]
                refine ⟨_, rfl, ?_⟩
                have r0 := (H.row _ rfl).1.c0
                have r1 := (H.row _ rfl).1.c1
                have r2 := (H.row _ rfl).1.c2
                have f0 := Lib.frozen_of_heap (H.row _ rfl).1 0
                have f1 := Lib.frozen_of_heap (H.row _ rfl).1 1
                have f2 := Lib.frozen_of_heap (H.row _ rfl).1 2
                go_wp2_with fail
                refine ⟨rfl, ?_⟩
                exact ⟨Q, M, G, by first | rfl | simp only [Act.put, List.setIfInBounds_toArray, List.set_cons_succ, List.set_cons_zero], H.fin⟩
        · refine ⟨_, rfl, ?_⟩
          have s0 := H.head.s0
          go_wp2_with fail
          clear s0
          refine ⟨rfl, ?_⟩
          refine ⟨_, some 17, .int .i64 (l.length : Int), rfl, rfl, ⟨rfl, fun _ => by first | rfl | (simp only [execOp]; go_simp)⟩, ?_⟩
          simp only [Act.put, List.setIfInBounds_toArray, List.set_cons_succ, List.set_cons_zero]
          refine ⟨?_, ?_, ?_⟩
          · refine ⟨_, rfl, ?_⟩
            have s1 := H.head.s1
            go_wp2_with fail
            clear s1
            refine ⟨rfl, ?_⟩
            refine ⟨?_, ?_, ?_⟩
            · refine ⟨_, rfl, ?_⟩
              go_wp2_with fail
              refine (hnew _).mono ?_
              rintro e W ⟨Q, rfl, hQ, hown, hbQ⟩
              replace H := H.new hbQ hown
              clear hbQ hown hQ
              go_wp2_with fail
              refine ⟨rfl, ?_⟩
              constructor
              · refine ⟨_, rfl, ?_⟩
                go_wp2_with fail
                obtain ⟨M, X, hM, hX, H⟩ := H.made
                rw [hX, hM]
                clear hX hM
                refine ⟨rfl, ?_⟩
                refine ⟨_, some 19, .agg #[.slice (some ⟨Q, 0, none⟩) 2 2, .int .i64 room, .map (some M)], rfl, rfl, ⟨rfl, fun _ => by first | rfl | (simp only [execOp]; go_simp)⟩, ?_⟩
                simp only [Act.put, List.setIfInBounds_toArray, List.set_cons_succ, List.set_cons_zero]
                refine ⟨_, rfl, ?_⟩
                go_wp2_with fail
                obtain ⟨G, X, hG, hX, H⟩ := H.alld
                rw [hX, hG]
                clear hX hG
                refine ⟨rfl, ?_⟩
                refine ⟨_, rfl, ?_⟩
                have r0 := (H.row _ rfl).1.c0
                have r1 := (H.row _ rfl).1.c1
                have r2 := (H.row _ rfl).1.c2
                have f0 := Lib.frozen_of_heap (H.row _ rfl).1 0
                have f1 := Lib.frozen_of_heap (H.row _ rfl).1 1
                have f2 := Lib.frozen_of_heap (H.row _ rfl).1 2
                go_wp2_with fail
                refine ⟨rfl, ?_⟩
                exact ⟨Q, M, G, by first | rfl | simp only [Act.put, List.setIfInBounds_toArray, List.set_cons_succ, List.set_cons_zero], H.fin⟩
              · refine ⟨_, rfl, ?_⟩
                go_wp2_with fail
                obtain ⟨G, X, hG, hX, H⟩ := H.alld
                rw [hX, hG]
                clear hX hG
                refine ⟨rfl, ?_⟩
                refine ⟨_, rfl, ?_⟩
                go_wp2_with fail
                obtain ⟨M, X, hM, hX, H⟩ := H.made
                rw [hX, hM]
                clear hX hM
                refine ⟨rfl, ?_⟩
                refine ⟨_, some 19, .agg #[.slice (some ⟨Q, 0, none⟩) 2 2, .int .i64 room, .map (some M)], rfl, rfl, ⟨rfl, fun _ => by first | rfl | (simp only [execOp]; go_simp)⟩, ?_⟩
                simp only [Act.put, List.setIfInBounds_toArray, List.set_cons_succ, List.set_cons_zero]
                refine ⟨_, rfl, ?_⟩
                have r0 := (H.row _ rfl).1.c0
                have r1 := (H.row _ rfl).1.c1
                have r2 := (H.row _ rfl).1.c2
                have f0 := Lib.frozen_of_heap (H.row _ rfl).1 0
                have f1 := Lib.frozen_of_heap (H.row _ rfl).1 1
                have f2 := Lib.frozen_of_heap (H.row _ rfl).1 2
                go_wp2_with fail
                refine ⟨rfl, ?_⟩
                exact ⟨Q, M, G, by first | rfl | simp only [Act.put, List.setIfInBounds_toArray, List.set_cons_succ, List.set_cons_zero], H.fin⟩
            · refine ⟨_, rfl, ?_⟩
              go_wp2_with fail
              obtain ⟨M, X, hM, hX, H⟩ := H.made
              rw [hX, hM]
              clear hX hM
              refine ⟨rfl, ?_⟩
              constructor
              · refine ⟨_, rfl, ?_⟩
                go_wp2_with fail
                refine (hnew _).mono ?_
                rintro e W ⟨Q, rfl, hQ, hown, hbQ⟩
                replace H := H.new hbQ hown
                clear hbQ hown hQ
                go_wp2_with fail
                refine ⟨rfl, ?_⟩
                refine ⟨_, some 19, .agg #[.slice (some ⟨Q, 0, none⟩) 2 2, .int .i64 room, .map (some M)], rfl, rfl, ⟨rfl, fun _ => by first | rfl | (simp only [execOp]; go_simp)⟩, ?_⟩
                simp only [Act.put, List.setIfInBounds_toArray, List.set_cons_succ, List.set_cons_zero]
                refine ⟨_, rfl, ?_⟩
                go_wp2_with fail
                obtain ⟨G, X, hG, hX, H⟩ := H.alld
                rw [hX, hG]
                clear hX hG
                refine ⟨rfl, ?_⟩
                refine ⟨_, rfl, ?_⟩
                have r0 := (H.row _ rfl).1.c0
                have r1 := (H.row _ rfl).1.c1
                have r2 := (H.row _ rfl).1.c2
                have f0 := Lib.frozen_of_heap (H.row _ rfl).1 0
                have f1 := Lib.frozen_of_heap (H.row _ rfl).1 1
                have f2 := Lib.frozen_of_heap (H.row _ rfl).1 2
                go_wp2_with fail
                refine ⟨rfl, ?_⟩
                exact ⟨Q, M, G, by first | rfl | simp only [Act.put, List.setIfInBounds_toArray, List.set_cons_succ, List.set_cons_zero], H.fin⟩
              · refine ⟨_, rfl, ?_⟩
                go_wp2_with fail
                obtain ⟨G, X, hG, hX, H⟩ := H.alld
                rw [hX, hG]
                clear hX hG
                refine ⟨rfl, ?_⟩
                refine ⟨_, rfl, ?_⟩
                go_wp2_with fail
                refine (hnew _).mono ?_
                rintro e W ⟨Q, rfl, hQ, hown, hbQ⟩
                replace H := H.new hbQ hown
                clear hbQ hown hQ
                go_wp2_with fail
                refine ⟨rfl, ?_⟩
                refine ⟨_, some 19, .agg #[.slice (some ⟨Q, 0, none⟩) 2 2, .int .i64 room, .map (some M)], rfl, rfl, ⟨rfl, fun _ => by first | rfl | (simp only [execOp]; go_simp)⟩, ?_⟩
                simp only [Act.put, List.setIfInBounds_toArray, List.set_cons_succ, List.set_cons_zero]
                refine ⟨_, rfl, ?_⟩
                have r0 := (H.row _ rfl).1.c0
                have r1 := (H.row _ rfl).1.c1
                have r2 := (H.row _ rfl).1.c2
                have f0 := Lib.frozen_of_heap (H.row _ rfl).1 0
                have f1 := Lib.frozen_of_heap (H.row _ rfl).1 1
                have f2 := Lib.frozen_of_heap (H.row _ rfl).1 2
                go_wp2_with fail
                refine ⟨rfl, ?_⟩
                exact ⟨Q, M, G, by first | rfl | simp only [Act.put, List.setIfInBounds_toArray, List.set_cons_succ, List.set_cons_zero], H.fin⟩
            · refine ⟨_, rfl, ?_⟩
              go_wp2_with fail
              obtain ⟨G, X, hG, hX, H⟩ := H.alld
              rw [hX, hG]
              clear hX hG
              refine ⟨rfl, ?_⟩
              constructor
              · refine ⟨_, rfl, ?_⟩
                go_wp2_with fail
                refine (hnew _).mono ?_
                rintro e W ⟨Q, rfl, hQ, hown, hbQ⟩
                replace H := H.new hbQ hown
                clear hbQ hown hQ
                go_wp2_with fail
                refine ⟨rfl, ?_⟩
                refine ⟨_, rfl, ?_⟩
                go_wp2_with fail
                obtain ⟨M, X, hM, hX, H⟩ := H.made
                rw [hX, hM]
                clear hX hM
                refine ⟨rfl, ?_⟩
                refine ⟨_, some 19, .agg #[.slice (some ⟨Q, 0, none⟩) 2 2, .int .i64 room, .map (some M)], rfl, rfl, ⟨rfl, fun _ => by first | rfl | (simp only [execOp]; go_simp)⟩, ?_⟩
                simp only [Act.put, List.setIfInBounds_toArray, List.set_cons_succ, List.set_cons_zero]
                refine ⟨_, rfl, ?_⟩
                have r0 := (H.row _ rfl).1.c0
                have r1 := (H.row _ rfl).1.c1
                have r2 := (H.row _ rfl).1.c2
                have f0 := Lib.frozen_of_heap (H.row _ rfl).1 0
                have f1 := Lib.frozen_of_heap (H.row _ rfl).1 1
                have f2 := Lib.frozen_of_heap (H.row _ rfl).1 2
                go_wp2_with fail
                refine ⟨rfl, ?_⟩
                exact ⟨Q, M, G, by first | rfl | simp only [Act.put, List.setIfInBounds_toArray, List.set_cons_succ, List.set_cons_zero], H.fin⟩
              · refine ⟨_, rfl, ?_⟩
                go_wp2_with fail
                obtain ⟨M, X, hM, hX, H⟩ := H.made
                rw [hX, hM]
                clear hX hM
                refine ⟨rfl, ?_⟩
                refine ⟨_, rfl, ?_⟩
                go_wp2_with fail
                refine (hnew _).mono ?_
                rintro e W ⟨Q, rfl, hQ, hown, hbQ⟩
                replace H := H.new hbQ hown
                clear hbQ hown hQ
                go_wp2_with fail
                refine ⟨rfl, ?_⟩
                refine ⟨_, some 19, .agg #[.slice (some ⟨Q, 0, none⟩) 2 2, .int .i64 room, .map (some M)], rfl, rfl, ⟨rfl, fun _ => by first | rfl | (simp only [execOp]; go_simp)⟩, ?_⟩
                simp only [Act.put, List.setIfInBounds_toArray, List.set_cons_succ, List.set_cons_zero]
                refine ⟨_, rfl, ?_⟩
                have r0 := (H.row _ rfl).1.c0
                have r1 := (H.row _ rfl).1.c1
                have r2 := (H.row _ rfl).1.c2
                have f0 := Lib.frozen_of_heap (H.row _ rfl).1 0
                have f1 := Lib.frozen_of_heap (H.row _ rfl).1 1
                have f2 := Lib.frozen_of_heap (H.row _ rfl).1 2
                go_wp2_with fail
                refine ⟨rfl, ?_⟩
                exact ⟨Q, M, G, by first | rfl | simp only [Act.put, List.setIfInBounds_toArray, List.set_cons_succ, List.set_cons_zero], H.fin⟩
          · refine ⟨_, rfl, ?_⟩
            go_wp2_with fail
            obtain ⟨M, X, hM, hX, H⟩ := H.made
            rw [hX, hM]
            clear hX hM
            refine ⟨rfl, ?_⟩
            constructor
            · refine ⟨_, rfl, ?_⟩
              have s1 := H.head.s1
              go_wp2_with fail
              clear s1
              refine ⟨rfl, ?_⟩
              constructor
              · refine ⟨_, rfl, ?_⟩
                go_wp2_with fail
                refine (hnew _).mono ?_
                rintro e W ⟨Q, rfl, hQ, hown, hbQ⟩
                replace H := H.new hbQ hown
                clear hbQ hown hQ
                go_wp2_with fail
                refine ⟨rfl, ?_⟩
                refine ⟨_, some 19, .agg #[.slice (some ⟨Q, 0, none⟩) 2 2, .int .i64 room, .map (some M)], rfl, rfl, ⟨rfl, fun _ => by first | rfl | (simp only [execOp]; go_simp)⟩, ?_⟩
                simp only [Act.put, List.setIfInBounds_toArray, List.set_cons_succ, List.set_cons_zero]
                refine ⟨_, rfl, ?_⟩
                go_wp2_with fail
                obtain ⟨G, X, hG, hX, H⟩ := H.alld
                rw [hX, hG]
                clear hX hG
                refine ⟨rfl, ?_⟩
                refine ⟨_, rfl, ?_⟩
                have r0 := (H.row _ rfl).1.c0
                have r1 := (H.row _ rfl).1.c1
                have r2 := (H.row _ rfl).1.c2
                have f0 := Lib.frozen_of_heap (H.row _ rfl).1 0
                have f1 := Lib.frozen_of_heap (H.row _ rfl).1 1
                have f2 := Lib.frozen_of_heap (H.row _ rfl).1 2
                go_wp2_with fail
                refine ⟨rfl, ?_⟩
                exact ⟨Q, M, G, by first | rfl | simp only [Act.put, List.setIfInBounds_toArray, List.set_cons_succ, List.set_cons_zero], H.fin⟩
              · refine ⟨_, rfl, ?_⟩
                go_wp2_with fail
                obtain ⟨G, X, hG, hX, H⟩ := H.alld
                rw [hX, hG]
                clear hX hG
                refine ⟨rfl, ?_⟩
                refine ⟨_, rfl, ?_⟩
                go_wp2_with fail
                refine (hnew _).mono ?_
                rintro e W ⟨Q, rfl, hQ, hown, hbQ⟩
                replace H := H.new hbQ hown
                clear hbQ hown hQ
                go_wp2_with fail
                refine ⟨rfl, ?_⟩
                refine ⟨_, some 19, .agg #[.slice (some ⟨Q, 0, none⟩) 2 2, .int .i64 room, .map (some M)], rfl, rfl, ⟨rfl, fun _ => by first | rfl | (simp only [execOp]; go_simp)⟩, ?_⟩
                simp only [Act.put, List.setIfInBounds_toArray, List.set_cons_succ, List.set_cons_zero]
                refine ⟨_, rfl, ?_⟩
                have r0 := (H.row _ rfl).1.c0
                have r1 := (H.row _ rfl).1.c1
                have r2 := (H.row _ rfl).1.c2
                have f0 := Lib.frozen_of_heap (H.row _ rfl).1 0
                have f1 := Lib.frozen_of_heap (H.row _ rfl).1 1
                have f2 := Lib.frozen_of_heap (H.row _ rfl).1 2
                go_wp2_with fail
                refine ⟨rfl, ?_⟩
                exact ⟨Q, M, G, by first | rfl | simp only [Act.put, List.setIfInBounds_toArray, List.set_cons_succ, List.set_cons_zero], H.fin⟩
            · refine ⟨_, rfl, ?_⟩
              go_wp2_with fail
              obtain ⟨G, X, hG, hX, H⟩ := H.alld
              rw [hX, hG]
              clear hX hG
              refine ⟨rfl, ?_⟩
              refine ⟨_, rfl, ?_⟩
              have s1 := H.head.s1
              go_wp2_with fail
              clear s1
              refine ⟨rfl, ?_⟩
              refine ⟨_, rfl, ?_⟩
              go_wp2_with fail
              refine (hnew _).mono ?_
              rintro e W ⟨Q, rfl, hQ, hown, hbQ⟩
              replace H := H.new hbQ hown
              clear hbQ hown hQ
              go_wp2_with fail
              refine ⟨rfl, ?_⟩
              refine ⟨_, some 19, .agg #[.slice (some ⟨Q, 0, none⟩) 2 2, .int .i64 room, .map (some M)], rfl, rfl, ⟨rfl, fun _ => by first | rfl | (simp only [execOp]; go_simp)⟩, ?_⟩
              simp only [Act.put, List.setIfInBounds_toArray, List.set_cons_succ, List.set_cons_zero]
              refine ⟨_, rfl, ?_⟩
              have r0 := (H.row _ rfl).1.c0
              have r1 := (H.row _ rfl).1.c1
              have r2 := (H.row _ rfl).1.c2
              have f0 := Lib.frozen_of_heap (H.row _ rfl).1 0
              have f1 := Lib.frozen_of_heap (H.row _ rfl).1 1
              have f2 := Lib.frozen_of_heap (H.row _ rfl).1 2
              go_wp2_with fail
              refine ⟨rfl, ?_⟩
              exact ⟨Q, M, G, by first | rfl | simp only [Act.put, List.setIfInBounds_toArray, List.set_cons_succ, List.set_cons_zero], H.fin⟩
          · refine ⟨_, rfl, ?_⟩
            go_wp2_with fail
            obtain ⟨G, X, hG, hX, H⟩ := H.alld
            rw [hX, hG]
            clear hX hG
            refine ⟨rfl, ?_⟩
            constructor
            · refine ⟨_, rfl, ?_⟩
              have s1 := H.head.s1
              go_wp2_with fail
              clear s1
              refine ⟨rfl, ?_⟩
              constructor
              · refine ⟨_, rfl, ?_⟩
                go_wp2_with fail
                refine (hnew _).mono ?_
                rintro e W ⟨Q, rfl, hQ, hown, hbQ⟩
                replace H := H.new hbQ hown
                clear hbQ hown hQ
                go_wp2_with fail
                refine ⟨rfl, ?_⟩
                refine ⟨_, rfl, ?_⟩
                go_wp2_with fail
                obtain ⟨M, X, hM, hX, H⟩ := H.made
                rw [hX, hM]
                clear hX hM
                refine ⟨rfl, ?_⟩
                refine ⟨_, some 19, .agg #[.slice (some ⟨Q, 0, none⟩) 2 2, .int .i64 room, .map (some M)], rfl, rfl, ⟨rfl, fun _ => by first | rfl | (simp only [execOp]; go_simp)⟩, ?_⟩
                simp only [Act.put, List.setIfInBounds_toArray, List.set_cons_succ, List.set_cons_zero]
                refine ⟨_, rfl, ?_⟩
                have r0 := (H.row _ rfl).1.c0
                have r1 := (H.row _ rfl).1.c1
                have r2 := (H.row _ rfl).1.c2
                have f0 := Lib.frozen_of_heap (H.row _ rfl).1 0
                have f1 := Lib.frozen_of_heap (H.row _ rfl).1 1
                have f2 := Lib.frozen_of_heap (H.row _ rfl).1 2
                go_wp2_with fail
                refine ⟨rfl, ?_⟩
                exact ⟨Q, M, G, by first | rfl | simp only [Act.put, List.setIfInBounds_toArray, List.set_cons_succ, List.set_cons_zero], H.fin⟩
              · refine ⟨_, rfl, ?_⟩
                go_wp2_with fail
                obtain ⟨M, X, hM, hX, H⟩ := H.made
                rw [hX, hM]
                clear hX hM
                refine ⟨rfl, ?_⟩
                refine ⟨_, rfl, ?_⟩
                go_wp2_with fail
                refine (hnew _).mono ?_
                rintro e W ⟨Q, rfl, hQ, hown, hbQ⟩
                replace H := H.new hbQ hown
                clear hbQ hown hQ
                go_wp2_with fail
                refine ⟨rfl, ?_⟩
                refine ⟨_, some 19, .agg #[.slice (some ⟨Q, 0, none⟩) 2 2, .int .i64 room, .map (some M)], rfl, rfl, ⟨rfl, fun _ => by first | rfl | (simp only [execOp]; go_simp)⟩, ?_⟩
                simp only [Act.put, List.setIfInBounds_toArray, List.set_cons_succ, List.set_cons_zero]
                refine ⟨_, rfl, ?_⟩
                have r0 := (H.row _ rfl).1.c0
                have r1 := (H.row _ rfl).1.c1
                have r2 := (H.row _ rfl).1.c2
                have f0 := Lib.frozen_of_heap (H.row _ rfl).1 0
                have f1 := Lib.frozen_of_heap (H.row _ rfl).1 1
                have f2 := Lib.frozen_of_heap (H.row _ rfl).1 2
                go_wp2_with fail
                refine ⟨rfl, ?_⟩
                exact ⟨Q, M, G, by first | rfl | simp only [Act.put, List.setIfInBounds_toArray, List.set_cons_succ, List.set_cons_zero], H.fin⟩
            · refine ⟨_, rfl, ?_⟩
              go_wp2_with fail
              obtain ⟨M, X, hM, hX, H⟩ := H.made
              rw [hX, hM]
              clear hX hM
              refine ⟨rfl, ?_⟩
              refine ⟨_, rfl, ?_⟩
              have s1 := H.head.s1
              go_wp2_with fail
              clear s1
              refine ⟨rfl, ?_⟩
              refine ⟨_, rfl, ?_⟩
              go_wp2_with fail
              refine (hnew _).mono ?_
              rintro e W ⟨Q, rfl, hQ, hown, hbQ⟩
              replace H := H.new hbQ hown
              clear hbQ hown hQ
              go_wp2_with fail
              refine ⟨rfl, ?_⟩
              refine ⟨_, some 19, .agg #[.slice (some ⟨Q, 0, none⟩) 2 2, .int .i64 room, .map (some M)], rfl, rfl, ⟨rfl, fun _ => by first | rfl | (simp only [execOp]; go_simp)⟩, ?_⟩
              simp only [Act.put, List.setIfInBounds_toArray, List.set_cons_succ, List.set_cons_zero]
              refine ⟨_, rfl, ?_⟩
              have r0 := (H.row _ rfl).1.c0
              have r1 := (H.row _ rfl).1.c1
              have r2 := (H.row _ rfl).1.c2
              have f0 := Lib.frozen_of_heap (H.row _ rfl).1 0
              have f1 := Lib.frozen_of_heap (H.row _ rfl).1 1
              have f2 := Lib.frozen_of_heap (H.row _ rfl).1 2
              go_wp2_with fail
              refine ⟨rfl, ?_⟩
              exact ⟨Q, M, G, by first | rfl | simp only [Act.put, List.setIfInBounds_toArray, List.set_cons_succ, List.set_cons_zero], H.fin⟩
        · refine ⟨_, rfl, ?_⟩
          go_wp2_with fail
          obtain ⟨G, X, hG, hX, H⟩ := H.alld
          rw [hX, hG]
          clear hX hG
          refine ⟨rfl, ?_⟩
          constructor
          · refine ⟨_, rfl, ?_⟩
            have s1 := H.head.s1
            go_wp2_with fail
            clear s1
            refine ⟨rfl, ?_⟩
            constructor
            · refine ⟨_, rfl, ?_⟩
              go_wp2_with fail
              refine (hnew _).mono ?_
              rintro e W ⟨Q, rfl, hQ, hown, hbQ⟩
              replace H := H.new hbQ hown
              clear hbQ hown hQ
              go_wp2_with fail
              refine ⟨rfl, ?_⟩
              refine ⟨_, rfl, ?_⟩
              have s0 := H.head.s0
              go_wp2_with fail
              clear s0
              refine ⟨rfl, ?_⟩
              refine ⟨_, some 17, .int .i64 (l.length : Int), rfl, rfl, ⟨rfl, fun _ => by first | rfl | (simp only [execOp]; go_simp)⟩, ?_⟩
              simp only [Act.put, List.setIfInBounds_toArray, List.set_cons_succ, List.set_cons_zero]
              refine ⟨_, rfl, ?_⟩
              go_wp2_with fail
              obtain ⟨M, X, hM, hX, H⟩ := H.made
              rw [hX, hM]
              clear hX hM
              refine ⟨rfl, ?_⟩
              refine ⟨_, some 19, .agg #[.slice (some ⟨Q, 0, none⟩) 2 2, .int .i64 room, .map (some M)], rfl, rfl, ⟨rfl, fun _ => by first | rfl | (simp only [execOp]; go_simp)⟩, ?_⟩
              simp only [Act.put, List.setIfInBounds_toArray, List.set_cons_succ, List.set_cons_zero]
              refine ⟨_, rfl, ?_⟩
              have r0 := (H.row _ rfl).1.c0
              have r1 := (H.row _ rfl).1.c1
              have r2 := (H.row _ rfl).1.c2
              have f0 := Lib.frozen_of_heap (H.row _ rfl).1 0
              have f1 := Lib.frozen_of_heap (H.row _ rfl).1 1
              have f2 := Lib.frozen_of_heap (H.row _ rfl).1 2
              go_wp2_with fail
              refine ⟨rfl, ?_⟩
              exact ⟨Q, M, G, by first | rfl | simp only [Act.put, List.setIfInBounds_toArray, List.set_cons_succ, List.set_cons_zero], H.fin⟩
            · refine ⟨_, rfl, ?_⟩
              have s0 := H.head.s0
              go_wp2_with fail
              clear s0
              refine ⟨rfl, ?_⟩
              refine ⟨_, some 17, .int .i64 (l.length : Int), rfl, rfl, ⟨rfl, fun _ => by first | rfl | (simp only [execOp]; go_simp)⟩, ?_⟩
              simp only [Act.put, List.setIfInBounds_toArray, List.set_cons_succ, List.set_cons_zero]
              constructor
              · refine ⟨_, rfl, ?_⟩
                go_wp2_with fail
                refine (hnew _).mono ?_
                rintro e W ⟨Q, rfl, hQ, hown, hbQ⟩
                replace H := H.new hbQ hown
                clear hbQ hown hQ
                go_wp2_with fail
                refine ⟨rfl, ?_⟩
                refine ⟨_, rfl, ?_⟩
                go_wp2_with fail
                obtain ⟨M, X, hM, hX, H⟩ := H.made
                rw [hX, hM]
                clear hX hM
                refine ⟨rfl, ?_⟩
                refine ⟨_, some 19, .agg #[.slice (some ⟨Q, 0, none⟩) 2 2, .int .i64 room, .map (some M)], rfl, rfl, ⟨rfl, fun _ => by first | rfl | (simp only [execOp]; go_simp)⟩, ?_⟩
                simp only [Act.put, List.setIfInBounds_toArray, List.set_cons_succ, List.set_cons_zero]
                refine ⟨_, rfl, ?_⟩
                have r0 := (H.row _ rfl).1.c0
                have r1 := (H.row _ rfl).1.c1
                have r2 := (H.row _ rfl).1.c2
                have f0 := Lib.frozen_of_heap (H.row _ rfl).1 0
                have f1 := Lib.frozen_of_heap (H.row _ rfl).1 1
                have f2 := Lib.frozen_of_heap (H.row _ rfl).1 2
                go_wp2_with fail
                refine ⟨rfl, ?_⟩
                exact ⟨Q, M, G, by first | rfl | simp only [Act.put, List.setIfInBounds_toArray, List.set_cons_succ, List.set_cons_zero], H.fin⟩
              · refine ⟨_, rfl, ?_⟩
                go_wp2_with fail
                obtain ⟨M, X, hM, hX, H⟩ := H.made
                rw [hX, hM]
                clear hX hM
                refine ⟨rfl, ?_⟩
                refine ⟨_, rfl, ?_⟩
                go_wp2_with fail
                refine (hnew _).mono ?_
                rintro e W ⟨Q, rfl, hQ, hown, hbQ⟩
                replace H := H.new hbQ hown
                clear hbQ hown hQ
                go_wp2_with fail
                refine ⟨rfl, ?_⟩
                refine ⟨_, some 19, .agg #[.slice (some ⟨Q, 0, none⟩) 2 2, .int .i64 room, .map (some M)], rfl, rfl, ⟨rfl, fun _ => by first | rfl | (simp only [execOp]; go_simp)⟩, ?_⟩
                simp only [Act.put, List.setIfInBounds_toArray, List.set_cons_succ, List.set_cons_zero]
                refine ⟨_, rfl, ?_⟩
                have r0 := (H.row _ rfl).1.c0
                have r1 := (H.row _ rfl).1.c1
                have r2 := (H.row _ rfl).1.c2
                have f0 := Lib.frozen_of_heap (H.row _ rfl).1 0
                have f1 := Lib.frozen_of_heap (H.row _ rfl).1 1
                have f2 := Lib.frozen_of_heap (H.row _ rfl).1 2
                go_wp2_with fail
                refine ⟨rfl, ?_⟩
                exact ⟨Q, M, G, by first | rfl | simp only [Act.put, List.setIfInBounds_toArray, List.set_cons_succ, List.set_cons_zero], H.fin⟩
          · refine ⟨_, rfl, ?_⟩
            have s0 := H.head.s0
            go_wp2_with fail
            clear s0
            refine ⟨rfl, ?_⟩
            refine ⟨_, some 17, .int .i64 (l.length : Int), rfl, rfl, ⟨rfl, fun _ => by first | rfl | (simp only [execOp]; go_simp)⟩, ?_⟩
            simp only [Act.put, List.setIfInBounds_toArray, List.set_cons_succ, List.set_cons_zero]
            constructor
            · refine ⟨_, rfl, ?_⟩
              have s1 := H.head.s1
              go_wp2_with fail
              clear s1
              refine ⟨rfl, ?_⟩
              constructor
              · refine ⟨_, rfl, ?_⟩
                go_wp2_with fail
                refine (hnew _).mono ?_
                rintro e W ⟨Q, rfl, hQ, hown, hbQ⟩
                replace H := H.new hbQ hown
                clear hbQ hown hQ
                go_wp2_with fail
                refine ⟨rfl, ?_⟩
                refine ⟨_, rfl, ?_⟩
                go_wp2_with fail
                obtain ⟨M, X, hM, hX, H⟩ := H.made
                rw [hX, hM]
                clear hX hM
                refine ⟨rfl, ?_⟩
                refine ⟨_, some 19, .agg #[.slice (some ⟨Q, 0, none⟩) 2 2, .int .i64 room, .map (some M)], rfl, rfl, ⟨rfl, fun _ => by first | rfl | (simp only [execOp]; go_simp)⟩, ?_⟩
                simp only [Act.put, List.setIfInBounds_toArray, List.set_cons_succ, List.set_cons_zero]
                refine ⟨_, rfl, ?_⟩
                have r0 := (H.row _ rfl).1.c0
                have r1 := (H.row _ rfl).1.c1
                have r2 := (H.row _ rfl).1.c2
                have f0 := Lib.frozen_of_heap (H.row _ rfl).1 0
                have f1 := Lib.frozen_of_heap (H.row _ rfl).1 1
                have f2 := Lib.frozen_of_heap (H.row _ rfl).1 2
                go_wp2_with fail
                refine ⟨rfl, ?_⟩
                exact ⟨Q, M, G, by first | rfl | simp only [Act.put, List.setIfInBounds_toArray, List.set_cons_succ, List.set_cons_zero], H.fin⟩
              · refine ⟨_, rfl, ?_⟩
                go_wp2_with fail
                obtain ⟨M, X, hM, hX, H⟩ := H.made
                rw [hX, hM]
                clear hX hM
                refine ⟨rfl, ?_⟩
                refine ⟨_, rfl, ?_⟩
                go_wp2_with fail
                refine (hnew _).mono ?_
                rintro e W ⟨Q, rfl, hQ, hown, hbQ⟩
                replace H := H.new hbQ hown
                clear hbQ hown hQ
                go_wp2_with fail
                refine ⟨rfl, ?_⟩
                refine ⟨_, some 19, .agg #[.slice (some ⟨Q, 0, none⟩) 2 2, .int .i64 room, .map (some M)], rfl, rfl, ⟨rfl, fun _ => by first | rfl | (simp only [execOp]; go_simp)⟩, ?_⟩
                simp only [Act.put, List.setIfInBounds_toArray, List.set_cons_succ, List.set_cons_zero]
                refine ⟨_, rfl, ?_⟩
                have r0 := (H.row _ rfl).1.c0
                have r1 := (H.row _ rfl).1.c1
                have r2 := (H.row _ rfl).1.c2
                have f0 := Lib.frozen_of_heap (H.row _ rfl).1 0
                have f1 := Lib.frozen_of_heap (H.row _ rfl).1 1
                have f2 := Lib.frozen_of_heap (H.row _ rfl).1 2
                go_wp2_with fail
                refine ⟨rfl, ?_⟩
                exact ⟨Q, M, G, by first | rfl | simp only [Act.put, List.setIfInBounds_toArray, List.set_cons_succ, List.set_cons_zero], H.fin⟩
            · refine ⟨_, rfl, ?_⟩
              go_wp2_with fail
              obtain ⟨M, X, hM, hX, H⟩ := H.made
              rw [hX, hM]
              clear hX hM
              refine ⟨rfl, ?_⟩
              refine ⟨_, rfl, ?_⟩
              have s1 := H.head.s1
              go_wp2_with fail
              clear s1
              refine ⟨rfl, ?_⟩
              refine ⟨_, rfl, ?_⟩
              go_wp2_with fail
              refine (hnew _).mono ?_
              rintro e W ⟨Q, rfl, hQ, hown, hbQ⟩
              replace H := H.new hbQ hown
              clear hbQ hown hQ
              go_wp2_with fail
              refine ⟨rfl, ?_⟩
              refine ⟨_, some 19, .agg #[.slice (some ⟨Q, 0, none⟩) 2 2, .int .i64 room, .map (some M)], rfl, rfl, ⟨rfl, fun _ => by first | rfl | (simp only [execOp]; go_simp)⟩, ?_⟩
              simp only [Act.put, List.setIfInBounds_toArray, List.set_cons_succ, List.set_cons_zero]
              refine ⟨_, rfl, ?_⟩
              have r0 := (H.row _ rfl).1.c0
              have r1 := (H.row _ rfl).1.c1
              have r2 := (H.row _ rfl).1.c2
              have f0 := Lib.frozen_of_heap (H.row _ rfl).1 0
              have f1 := Lib.frozen_of_heap (H.row _ rfl).1 1
              have f2 := Lib.frozen_of_heap (H.row _ rfl).1 2
              go_wp2_with fail
              refine ⟨rfl, ?_⟩
              exact ⟨Q, M, G, by first | rfl | simp only [Act.put, List.setIfInBounds_toArray, List.set_cons_succ, List.set_cons_zero], H.fin⟩
    · rintro a9 w9 ⟨Q, M, G, rfl, HX, HIO⟩
      simp only [Act.put, List.setIfInBounds_toArray, List.set_cons_succ, List.set_cons_zero]
      have HP : Hid (Ix (w.heap.size + 2) w9 G M (l.take 2) room ∧ Right6 (l.take 2) room ∧ IoHead w w9 A l.length c room) := ⟨⟨_, _, HN.out ▸ HX⟩, HRT.out, HIO⟩
      have g0 := HX.row.c0
      clear hmm hnew HX HIO H1 HH0 HN HRT
      go_wp2
      clear g0
      go_loopw [5] (fun a wr => ∃ j : Nat, 2 ≤ j ∧ j ≤ l.length ∧ a = .int .i64 j ∧ Hid (Ix (w.heap.size + 2) wr G M (l.take j) room ∧ Right6 (l.take j) room ∧ IoHead w wr A l.length c room)) (fun a _ => l.length - (intOf a).toNat)
      case atStart => exact ⟨2, Nat.le_refl _, by omega, rfl, HP.out⟩
      case round =>
        obtain ⟨j, hj2, hj, rfl, HH⟩ := hrel
        have s0 := HH.out.2.2.s0
        have hsz := HH.out.2.2.size
        by_cases hlt : j < l.length
        · have hltz : (j : Int) < (l.length : Int) := by omega
          obtain ⟨b0, off, rfl, hbB, hcell⟩ := hR.at_ (by omega)
          obtain ⟨n0, n1, n2, n3, n4, n5⟩ := hcell j hlt
          have HC := Lib.hid (hcell j hlt)
          have m1 := Qt.keep HH.out.2.2.bel n1
          have m2 := Qt.keep HH.out.2.2.bel n2
          have m3 := Qt.keep HH.out.2.2.bel n3
          have m4 := Qt.keep HH.out.2.2.bel n4
          have hcall := intern_any (w.heap.size + 2) G M (l.take j) room (l.getD j deadN).2.1 wr HH.out.1 HH.out.2.1
          have hyes := anew_yes (l := l) (room := room) hj2 hlt (by omega)
          have hfit := fun m e h => anew_fits (l := l) (room := room) (m := m) (e := e) hj2 hlt HH.out.2.1 h
          have hmade := fun m e h => anew_made (l := l) (room := room) (m := m) (e := e) (k := (l.getD j deadN).2.1) hj2 hlt h
          obtain ⟨z, hz⟩ : ∃ z, z = put6 (l.take j) room (l.getD j deadN).2.1 := ⟨_, rfl⟩
          rw [← hz] at hcall hyes hfit hmade
          have HY := Lib.hid hyes
          have HF := Lib.hid hfit
          have HM := Lib.hid hmade
          obtain ⟨m, q, e⟩ := z
          unfold kidsV at hcall
          clear hz hyes hfit hmade n0 n1 n2 n3 n4 n5 hcell
          obtain ⟨x, hx⟩ : ∃ x, x = l.getD j deadN := ⟨_, rfl⟩
          rw [← hx] at hcall m1 m2 m3 m4
          have HX := Lib.hid hx
          clear hx
          go_wp2_with (go_at_call 81; refine hcall.mono ?_; rintro e9 w2 ⟨rfl, hi2, hb2⟩; have HI2 := Lib.hid hi2; have HIO2 := Lib.hid (HH.out.2.2.low hb2); clear hi2 hb2 hcall)
          by_cases hqj : q = (j : Int)
          · subst hqj
            obtain ⟨y9, hm⟩ := HM.out m e rfl
            have hml : m.length = j + 1 := by rw [hm, List.length_append, List.length_take]; simp; omega
            obtain ⟨v, D, hI2⟩ := HI2.out
            obtain ⟨q2, cap, rfl, hcap⟩ := ownN_val hI2.own (by omega)
            have hnd := ownN_nd hI2.own j (by omega)
            have HI3 := Lib.hid hI2
            have hrow := hI2.row.c0
            rw [hml] at hrow
            simp only [Nat.zero_add] at hnd
            obtain ⟨y, hy⟩ : ∃ y, y = m.getD j deadN := ⟨_, rfl⟩
            rw [← hy] at hnd
            obtain ⟨p0, p1, p2, p3, p4, p5⟩ := hnd
            have he := fun W => neqN y x W
            have t0 := Qt.cell_in hrow
            have t1 := Qt.cell_in HIO2.out.s0
            have q0 := Qt.cell_in p0
            have q1 := Qt.cell_in p1
            have q2' := Qt.cell_in p2
            have q3 := Qt.cell_in p3
            have q4 := Qt.cell_in p4
            have q5 := Qt.cell_in p5
            have hc := HC.out
            rw [← HX.out] at hc
            obtain ⟨c0, c1, c2, c3, c4, c5⟩ := hc
            have k0 := Qt.cell_in (Qt.keep HIO2.out.bel c0)
            have k1 := Qt.cell_in (Qt.keep HIO2.out.bel c1)
            have k2 := Qt.cell_in (Qt.keep HIO2.out.bel c2)
            have k3 := Qt.cell_in (Qt.keep HIO2.out.bel c3)
            have k4 := Qt.cell_in (Qt.keep HIO2.out.bel c4)
            have k5 := Qt.cell_in (Qt.keep HIO2.out.bel c5)
            have hjj : (j : Int) < ((j + 1 : Nat) : Int) := by omega
            have hjn : j < j + 1 := by omega
            have HYY := Lib.hid hy
            have HML := Lib.hid hml
            clear m1 m2 m3 m4 c0 c1 c2 c3 c4 c5 p0 p1 p2 p3 p4 p5 hI2 hy hm hrow s0 hml
            by_cases hyx : y = x
            · rw [decide_eq_true hyx] at he
              have HF9 := Lib.hid (HF.out m e rfl (by rw [← HYY.out, hyx, HX.out]))
              clear hyx
              refine Qt.below_all (by kernel_rfl) (by kernel_rfl) ?_
              repeat (go_big_quiet_step (fail))
              refine wpQuiet_nil ?_
              intro w3 hb3
              clear he t0 t1 q0 q1 q2' q3 q4 q5 k0 k1 k2 k3 k4 k5
              have HN3 : Hid (Ix (w.heap.size + 2) w3 G M (l.take (j + 1)) room ∧ Right6 (l.take (j + 1)) room ∧ IoHead w w3 (some ⟨b0, off, none⟩) l.length c room) := ⟨HF9.out.1 ▸ ⟨_, _, HI3.out.below hb3⟩, HF9.out.2.1, HIO2.out.below hb3⟩
              clear HF9 HI3 HIO2 hb3 HH
              go_wp2
              go_roundw
              case measure => simp [intOf]; omega
              case rel => exact ⟨j + 1, by omega, by omega, by go_num, HN3.out⟩
            · rw [decide_eq_false hyx] at he
              have hz : right6 l room = false := anew_not hj2 hlt (fun hf => hyx (by
                have := HY.out hf
                injection this with h1 _
                rw [HYY.out, HX.out, h1]
                exact getD_take (Nat.lt_succ_self j)))
              have HZ := Lib.hid hz
              clear hyx hz
              refine Qt.below_all (by kernel_rfl) (by kernel_rfl) ?_
              repeat (go_big_quiet_step (fail))
              refine wpQuiet_nil ?_
              intro w3 hb3
              clear he t0 t1 q0 q1 q2' q3 q4 q5 k0 k1 k2 k3 k4 k5
              have H3 := Lib.hid (HIO2.out.below hb3)
              have s03 := H3.out.s0
              have r0 := H3.out.r0
              have r1 := H3.out.r1
              have r2 := H3.out.r2
              have f0 := H3.out.free 0
              have f1 := H3.out.free 1
              have f2 := H3.out.free 2
              have ht := Lib.hid (H3.out.told (.slice none 0 0) (.int .i64 0) (.map none))
              clear hb3 HH
              go_wp2
              refine bodyPost_ret (results_cell2 rfl _ _ _ _ _ _ _ rfl ht.out.1 Try.underlying95 rfl (by kernel_rfl)) rfl ?_
              exact ⟨ht.out.2, .inl ⟨HZ.out, rfl⟩⟩
          · have hz : right6 l room = false := anew_not hj2 hlt (fun hf => hqj (by
              have := HY.out hf
              injection this with h1 h2
              injection h2 with h2 _))
            have HZ := Lib.hid hz
            have hbq : (q != (j : Int)) = true := bne_iff_ne.2 hqj
            clear hz m1 m2 m3 m4 s0
            refine Qt.below_all (by kernel_rfl) (by kernel_rfl) ?_
            repeat (go_big_quiet_step (fail))
            refine wpQuiet_nil ?_
            intro w3 hb3
            have H3 := Lib.hid (HIO2.out.below hb3)
            have s03 := H3.out.s0
            have r0 := H3.out.r0
            have r1 := H3.out.r1
            have r2 := H3.out.r2
            have f0 := H3.out.free 0
            have f1 := H3.out.free 1
            have f2 := H3.out.free 2
            have ht := Lib.hid (H3.out.told (.slice none 0 0) (.int .i64 0) (.map none))
            clear hb3 HH
            go_wp2
            refine bodyPost_ret (results_cell2 rfl _ _ _ _ _ _ _ rfl ht.out.1 Try.underlying95 rfl (by kernel_rfl)) rfl ?_
            exact ⟨ht.out.2, .inl ⟨HZ.out, rfl⟩⟩
        · obtain rfl : j = l.length := by omega
          have hltz : ¬ (l.length : Int) < (l.length : Int) := by omega
          obtain ⟨v, D, hI⟩ := HH.out.1
          have hr := anew_all HH.out.2.1
          rw [List.take_length] at hI
          have g0 := hI.row.c0
          have g1 := hI.row.c1
          have g2 := hI.row.c2
          have H3 := Lib.hid HH.out.2.2
          have r0 := H3.out.r0
          have r1 := H3.out.r1
          have r2 := H3.out.r2
          have f0 := H3.out.free 0
          have f1 := H3.out.free 1
          have f2 := H3.out.free 2
          have ht := Lib.hid (H3.out.told v (.int .i64 room) (.map (some M)))
          have HI := Lib.hid hI
          have HR := Lib.hid hr
          obtain ⟨q2, cap, rfl, hcap⟩ := ownN_val hI.own (by omega)
          have hfin : OwnN (three3 wr (w.heap.size + 1) (.slice (some ⟨q2, 0, none⟩) l.length cap) (.int .i64 room) (.map (some M))) (w.heap.size + 2) (.slice (some ⟨q2, 0, none⟩) l.length cap) l ∧ MapAt (three3 wr (w.heap.size + 1) (.slice (some ⟨q2, 0, none⟩) l.length cap) (.int .i64 room) (.map (some M))) M l.length D := by
            have hlo : w.heap.size + 2 ≤ q2 := (ownN_kind hI.own q2 rfl).1
            have hne : (Value.slice (some ⟨q2, 0, none⟩) l.length cap).ownBlock = none ∨ (Value.slice (some ⟨q2, 0, none⟩) l.length cap).ownBlock ≠ some (w.heap.size + 1) := .inr (fun e => by simp [Value.ownBlock] at e; omega)
            have hM : M ≠ w.heap.size + 1 := by have := hI.bB; omega
            exact ⟨World.ownsRow.kept (World.ownsRow.kept (World.ownsRow.kept hI.own (but_set 0 _) hne) (but_set 1 _) hne) (but_set 2 _) hne, ((hI.map.setCell (a := ⟨w.heap.size + 1, 0, none⟩) hM _).setCell (a := ⟨w.heap.size + 1, 1, none⟩) hM _).setCell (a := ⟨w.heap.size + 1, 2, none⟩) hM _⟩
          have HFN := Lib.hid hfin
          clear HH hI hr hfin
          go_wp2
          refine bodyPost_ret (results_cell2 rfl _ _ _ _ _ _ _ rfl ht.out.1 Try.underlying95 rfl (by kernel_rfl)) rfl ?_
          exact ⟨ht.out.2, .inr ⟨HR.out, _, _, _, rfl, ownN_low HFN.out.1 (by omega), HFN.out.2, HI.out.says, by have := HI.out.bB; omega⟩⟩
end Go.Proofs.Ytklccoodfhejbaa
