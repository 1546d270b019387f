/-
  The law NodeEmpty.
-/
import Derived.Test.YtdlkeginnmhecaaB10
import Derived.Test.YtdlkeginnmhecaaB11
namespace Go.Proofs.Ytdlkeginnmhecaa
set_option linter.unusedVariables false
set_option linter.unusedSimpArgs false
open Go.RowKit Go.Sort

theorem storeR_box {l : List Nd} {room : Int} {w : World} {e : Ending} {w' : World} (h : StoreR l room w e w') : ∃ A c, e = .returned (.agg #[.slice A l.length c, .int .i64 room]) ∧ l.length ≤ c ∧ NowN w' A l ∧ Below w.heap.size w w' := by
  obtain ⟨v, rfl, ⟨A, c, rfl, hc, hN⟩, hb⟩ := h
  exact ⟨A, c, rfl, hc, hN, hb⟩
theorem RdR.more {w : World} {B B' : Nat} {A : Option Addr} {l : List Raw5} (h : RdR w B A l) (hB : B ≤ B') : RdR w B' A l := fun j hj => by
  obtain ⟨b, off, e, hlt, h0⟩ := h j hj
  exact ⟨b, off, e, Nat.lt_of_lt_of_le hlt hB, h0⟩
theorem below_drew (w : World) : Below w.heap.size w w.drew := ⟨rfl, rfl, rfl, Nat.le_refl _, fun k _ => rfl⟩
/-- A region that draws its order, by a script with calm operations, to what is known at its end. -/
theorem region_calm_to {P : Program} {id : Nat} {Q : Exit → Act → World → Prop} {a : Act} {w : World} {l : List Oper} (C : World → Prop) (R : Act → Act → World → Prop) (s : Qt.Scc) (hm : P.follows .mixedOrders = true) (hsel : Region.noSelect l.toArray = true)
    (hB : Qt.treeCB .any l.toArray s (Array.replicate l.toArray.size false) = true) (hlen : s.len = l.length) (hC : C w.drew)
    (h : Qt.treeCW P l.toArray C (R a) s a w.drew) (hQ : ∀ a' w', R a a' w' → Q .normal a' w') : (Code.region id l.toArray true).wp P Q a w :=
  Qt.region_calm C (R a) s hm hsel hB hlen hC h hQ
theorem stB_put {w : World} {b : Nat} {A : Option Addr} {l : List Nd} {c : Nat} {room r : Int} {v : Value} (h : w.heap[b]? = some (.cells #[v, .int .i64 r] 25 (0, 0))) (hN : NowN w A l) (hc : l.length ≤ c) :
    StB ((w.setCell ⟨b, 0, none⟩ (.slice A l.length c)).setCell ⟨b, 1, none⟩ (.int .i64 room)) b A l c room :=
  ⟨by simp [World.setCell, Array.getElem?_modify, h], (rdN_told hN h).more (by simp [World.setCell]), hc⟩
set_option maxHeartbeats 16000000 in
set_option maxRecDepth 100000 in
theorem nodeEmpty_law (room : Int) (A : Option Addr) (raw : List Raw5) (c : Nat) (one two : Int) (w : World) (hI : I64 room) (hR : RdR w w.heap.size A raw) (hl : raw.length ≤ 9223372036854775807) (hF : ∀ j, j < raw.length → Fine5 (raw.getD j dead5)) (h1 : I64 one) (h2 : I64 two) :
    Calls Try.prog 7 #[.int .i64 room, .slice A raw.length c, .int .i64 one, .int .i64 two] w fun e w' => e = .returned (.bool true) ∧ Below w.heap.size w w' := by
  obtain ⟨hS, hSl⟩ := store_right room raw
  have hpb := pick6_bd room 60 (by decide)
  have hst := fun W hR' => store6_any A raw c room W hR' hl hI hF
  obtain ⟨R, hRR⟩ : ∃ R, R = 2 + pick6 room 60 := ⟨_, rfl⟩
  rw [← hRR] at hS hst
  obtain ⟨l, hll⟩ : ∃ l, l = store6 room raw := ⟨_, rfl⟩
  rw [← hll] at hS hst hSl
  have hS' : Right6 l (R + 50) := hS.more (by have := hS.len; omega) (by omega) (by omega)
  have hp1 := pick6_bd one 43 (by decide)
  have hp2 := pick6_bd two 43 (by decide)
  have hk1 := fun W => pick_nat one 43 W h1 (by decide) (by decide)
  have hk2 := fun W => pick_nat two 43 W h2 (by decide) (by decide)
  obtain ⟨p, hp⟩ : ∃ p, p = (pickI one 43).toNat := ⟨_, rfl⟩
  obtain ⟨q, hq⟩ : ∃ q, q = (pickI two 43).toNat := ⟨_, rfl⟩
  rw [← hp] at hk1
  rw [← hq] at hk2
  have hp42 : p ≤ 42 := by rw [hp]; have : pickI one 43 = pick6 one 43 := rfl; omega
  have hq42 : q ≤ 42 := by rw [hq]; have : pickI two 43 = pick6 two 43 := rfl; omega
  obtain ⟨l1, l2, n, m, HE⟩ := empties hS' hp42 hq42 (by have := hS.len; omega)
  have hRb : R + 50 ≤ 1000 ∧ 0 ≤ R := by omega
  have HEh := Lib.hid HE
  have HS := Lib.hid hS
  have HSl := Lib.hid hSl
  have HRR := Lib.hid hR
  clear HE hS hSl hR hp hq hp1 hp2 hpb hRR hll hS' hI hF h1 h2
  go_enter Try.func7, Try.ntmps7
  go_wp2_with fail
  refine (awake6_any w).mono ?_
  rintro e w1 ⟨rfl, hb1⟩
  have hst1 := hst w1 ((HRR.out.below hb1 (Nat.le_refl _)).more hb1.size)
  clear hst
  go_wp2_with fail
  refine hst1.mono ?_
  intro e w2 h
  obtain ⟨A2, c2, rfl, hcap2, N2, hb2⟩ := storeR_box h
  have hB := stB_new N2 hcap2 (R + 50)
  have hb3 := (Below.refl w2.heap.size w2).alloc (Nat.le_refl _) (.cells #[.slice A2 l.length c2, .int .i64 (R + 50)] 25)
  have HB := Lib.hid (Qt.more (Qt.more hb1 hb1.size hb2) (Qt.more hb1 hb1.size hb2).size hb3)
  have HS2 := Lib.hid hB
  have s1 := (stB_new N2 hcap2 R).s1
  have s2 := (stB_new N2 hcap2 R).f1
  clear h hst1 hb1 hb2 hb3 hB N2
  go_wp2_with fail
  generalize (w2.alloc (.cells #[.slice A2 l.length c2, .int .i64 (R + 50)] 25)) = v2 at *
  generalize w2.heap.size = b2 at *
  have s0 := HS2.out.s0
  have s1' := HS2.out.s1
  clear s1 s2
  have hem := fun W hW => nodeEmpty_any A2 l c2 (R + 50) p W hW (by have := HSl.out; omega) hcap2
  rw [HEh.out.one] at hem
  unfold storeV at hem
  refine region_calm_to (fun W => Below v2.heap.size v2 W) (fun (a0 a9 : Act) (w9 : World) => ∃ (A9 : Option Addr) (c9 b9 : Nat), a9 = (((((((((((a0.put (some 30) (.int .i64 one)).put (some 31) (.int .i64 (p : Int))).put (some 29) (.agg #[.slice A2 l.length c2, .int .i64 (R + 50)])).put (some 32) (.tuple #[.agg #[.slice A9 l1.length c9, .int .i64 (R + 50)], .int .i64 n, .int .i64 0])).put (some 28) (.tuple #[.agg #[.slice A9 l1.length c9, .int .i64 (R + 50)], .int .i64 n, .int .i64 0])).put (some 33) (.agg #[.slice A9 l1.length c9, .int .i64 (R + 50)])).put (some 34) (.int .i64 (n : Int))).put (some 35) (.int .i64 0)).put (some 11) (.pointer (some ⟨b9, 0, none⟩))).put (some 12) (.int .i64 (n : Int))).put (some 13) (.int .i64 0)) ∧ StB w9 b9 A9 l1 c9 (R + 50) ∧ Below v2.heap.size v2 w9) (.calm 1 (.calm 2 (.calm 0 (.two 3 8 (.calm 4 (.calm 5 (.calm 6 (.calm 7 (.only 8 (.only 9 (.only 10 (.only 11 .done)))))))) (.only 3 (.calm 4 (.calm 5 (.calm 6 (.calm 7 (.only 9 (.only 10 (.only 11 .done)))))))))))) (by kernel_rfl) (by kernel_rfl) (by kernel_rfl) (by rfl) (below_drew _) ?_ ?_
  · skip
    refine ⟨_, _, .int .i64 one, rfl, rfl, ⟨rfl, fun W hW => by first | exact ⟨rfl, rfl⟩ | (simp only [Act.eval, execOp]; go_simp; try exact ⟨rfl, rfl⟩)⟩, ?_⟩
    simp only [Act.put, List.setIfInBounds_toArray, List.set_cons_succ, List.set_cons_zero]
    refine ⟨_, _, .int .i64 (p : Int), rfl, rfl, ⟨rfl, fun W hW => by simp only [execOp]; go_simp; exact (hk1 W).mono fun e w1 h => ⟨h.1, h.2.symm⟩⟩, ?_⟩
    simp only [Act.put, List.setIfInBounds_toArray, List.set_cons_succ, List.set_cons_zero]
    refine ⟨_, _, (.agg #[.slice A2 l.length c2, .int .i64 (R + 50)]), rfl, rfl, ⟨rfl, fun W hW => by have s0 := (HS2.out.below hW).s0; have s1 := (HS2.out.below hW).s1; simp only [execOp]; go_simp; done⟩, ?_⟩
    simp only [Act.put, List.setIfInBounds_toArray, List.set_cons_succ, List.set_cons_zero]
    constructor
    · refine ⟨_, rfl, ?_⟩
      go_wp2_with fail
      refine (hem _ (HS2.out.rd.below (below_drew _))).mono ?_
      intro e w9 h
      obtain ⟨A9, c9, rfl, hcap9, N9, hb⟩ := putR_box h
      have hBc := Qt.more (below_drew v2) (Nat.le_refl _) hb
      have hS9 := stB_new N9 hcap9 (R + 50)
      have hB9 := hBc.alloc hBc.size (.cells #[.slice A9 l1.length c9, .int .i64 (R + 50)] 25)
      have hB8 := hBc.alloc hBc.size (.cells #[.slice none 0 0, .int .i64 0] 25)
      clear h hb
      go_wp2_with fail
      refine ⟨rfl, hBc, ?_⟩
      refine ⟨_, _, (.tuple #[.agg #[.slice A9 l1.length c9, .int .i64 (R + 50)], .int .i64 n, .int .i64 0]), rfl, rfl, ⟨rfl, fun W hW => by first | exact ⟨rfl, rfl⟩ | (simp only [Act.eval, execOp]; go_simp; try exact ⟨rfl, rfl⟩)⟩, ?_⟩
      simp only [Act.put, List.setIfInBounds_toArray, List.set_cons_succ, List.set_cons_zero]
      refine ⟨_, _, (.agg #[.slice A9 l1.length c9, .int .i64 (R + 50)]), rfl, rfl, ⟨rfl, fun W hW => by first | exact ⟨rfl, rfl⟩ | (simp only [Act.eval, execOp]; go_simp; try exact ⟨rfl, rfl⟩)⟩, ?_⟩
      simp only [Act.put, List.setIfInBounds_toArray, List.set_cons_succ, List.set_cons_zero]
      refine ⟨_, _, .int .i64 (n : Int), rfl, rfl, ⟨rfl, fun W hW => by first | exact ⟨rfl, rfl⟩ | (simp only [Act.eval, execOp]; go_simp; try exact ⟨rfl, rfl⟩)⟩, ?_⟩
      simp only [Act.put, List.setIfInBounds_toArray, List.set_cons_succ, List.set_cons_zero]
      refine ⟨_, _, .int .i64 0, rfl, rfl, ⟨rfl, fun W hW => by first | exact ⟨rfl, rfl⟩ | (simp only [Act.eval, execOp]; go_simp; try exact ⟨rfl, rfl⟩)⟩, ?_⟩
      simp only [Act.put, List.setIfInBounds_toArray, List.set_cons_succ, List.set_cons_zero]
      refine ⟨_, rfl, ?_⟩
      go_wp2_with fail
      refine ⟨rfl, hB8, ?_⟩
      refine ⟨_, rfl, ?_⟩
      go_wp2_with fail
      refine ⟨rfl, hB9, ?_⟩
      refine ⟨_, rfl, ?_⟩
      go_wp2_with fail
      refine ⟨rfl, hB9, ?_⟩
      refine ⟨_, rfl, ?_⟩
      go_wp2_with fail
      refine ⟨rfl, hB9, ?_⟩
      show ∃ (A9 : Option Addr) (c9 b9 : Nat), _
      refine ⟨A9, c9, w9.heap.size, ?_, hS9, hB9⟩
      first | rfl | simp only [Act.put, List.setIfInBounds_toArray, List.set_cons_succ, List.set_cons_zero]
    · refine ⟨_, rfl, ?_⟩
      have hB8 := (below_drew v2).alloc (Nat.le_refl _) (.cells #[.slice none 0 0, .int .i64 0] 25)
      have hrow8 : (v2.drew.alloc (.cells #[.slice none 0 0, .int .i64 0] 25 (0, 0))).heap[v2.heap.size]? = _ := heap_alloc_new v2.drew (.cells #[.slice none 0 0, .int .i64 0] 25 (0, 0))
      go_wp2_with fail
      refine ⟨rfl, hB8, ?_⟩
      refine ⟨_, rfl, ?_⟩
      go_wp2_with fail
      refine (hem _ (HS2.out.rd.below hB8)).mono ?_
      intro e w9 h
      obtain ⟨A9, c9, rfl, hcap9, N9, hb⟩ := putR_box h
      have hBc := Qt.more hB8 hB8.size hb
      have hrow9 := (hb.block _ (lt_heap6 hrow8)).trans hrow8
      have hS9 := stB_put (room := (R + 50)) hrow9 N9 hcap9
      have hB9 := (hBc.setCell (p := ⟨v2.heap.size, 0, none⟩) (Nat.le_refl _) (.slice A9 l1.length c9)).setCell (p := ⟨v2.heap.size, 1, none⟩) (Nat.le_refl _) (.int .i64 (R + 50))
      have f0 : w9.frozen? ⟨v2.heap.size, 0, none⟩ = false := Lib.frozen_of_heap hrow9 0
      have f1 : w9.frozen? ⟨v2.heap.size, 1, none⟩ = false := Lib.frozen_of_heap hrow9 1
      have g0 : w9.cell? ⟨v2.heap.size, 0, none⟩ = some (.slice none 0 0) := by rw [Lib.cell_of_heap hrow9]; rfl
      have g1 : w9.cell? ⟨v2.heap.size, 1, none⟩ = some (.int .i64 0) := by rw [Lib.cell_of_heap hrow9]; rfl
      clear h hb hrow9 hrow8
      go_wp2_with fail
      refine ⟨rfl, hBc, ?_⟩
      refine ⟨_, _, (.tuple #[.agg #[.slice A9 l1.length c9, .int .i64 (R + 50)], .int .i64 n, .int .i64 0]), rfl, rfl, ⟨rfl, fun W hW => by first | exact ⟨rfl, rfl⟩ | (simp only [Act.eval, execOp]; go_simp; try exact ⟨rfl, rfl⟩)⟩, ?_⟩
      simp only [Act.put, List.setIfInBounds_toArray, List.set_cons_succ, List.set_cons_zero]
      refine ⟨_, _, (.agg #[.slice A9 l1.length c9, .int .i64 (R + 50)]), rfl, rfl, ⟨rfl, fun W hW => by first | exact ⟨rfl, rfl⟩ | (simp only [Act.eval, execOp]; go_simp; try exact ⟨rfl, rfl⟩)⟩, ?_⟩
      simp only [Act.put, List.setIfInBounds_toArray, List.set_cons_succ, List.set_cons_zero]
      refine ⟨_, _, .int .i64 (n : Int), rfl, rfl, ⟨rfl, fun W hW => by first | exact ⟨rfl, rfl⟩ | (simp only [Act.eval, execOp]; go_simp; try exact ⟨rfl, rfl⟩)⟩, ?_⟩
      simp only [Act.put, List.setIfInBounds_toArray, List.set_cons_succ, List.set_cons_zero]
      refine ⟨_, _, .int .i64 0, rfl, rfl, ⟨rfl, fun W hW => by first | exact ⟨rfl, rfl⟩ | (simp only [Act.eval, execOp]; go_simp; try exact ⟨rfl, rfl⟩)⟩, ?_⟩
      simp only [Act.put, List.setIfInBounds_toArray, List.set_cons_succ, List.set_cons_zero]
      refine ⟨_, rfl, ?_⟩
      go_wp2_with fail
      refine ⟨rfl, hB9, ?_⟩
      refine ⟨_, rfl, ?_⟩
      go_wp2_with fail
      refine ⟨rfl, hB9, ?_⟩
      refine ⟨_, rfl, ?_⟩
      go_wp2_with fail
      refine ⟨rfl, hB9, ?_⟩
      show ∃ (A9 : Option Addr) (c9 b9 : Nat), _
      refine ⟨A9, c9, v2.heap.size, ?_, hS9, hB9⟩
      first | rfl | simp only [Act.put, List.setIfInBounds_toArray, List.set_cons_succ, List.set_cons_zero]
  rintro a9 v3 ⟨A3, c3, b3, rfl, hS3, hb3⟩
  simp only [Act.put, List.setIfInBounds_toArray, List.set_cons_succ, List.set_cons_zero]
  have HB3 := Lib.hid (Qt.more HB.out HB.out.size hb3)
  have HS3 := Lib.hid hS3
  have HSs3 := Lib.hid (HS2.out.below hb3)
  clear s0 s1' hem HB HS2 hS3 hb3
  have s0 := HS3.out.s0
  have s1' := HS3.out.s1
  have hcap3 := HS3.out.cap
  have hem := fun W hW => nodeEmpty_any A3 l1 c3 (R + 50) q W hW (by have := HEh.out.r1.small; omega) hcap3
  rw [HEh.out.two] at hem
  unfold storeV at hem
  have hS3 := HS3.out
  go_wp2_with fail
  refine region_calm_to (fun W => Below v3.heap.size v3 W) (fun (a0 a9 : Act) (w9 : World) => ∃ (A9 : Option Addr) (c9 b9 : Nat), a9 = (((((((((((a0.put (some 38) (.int .i64 two)).put (some 39) (.int .i64 (q : Int))).put (some 37) (.agg #[.slice A3 l1.length c3, .int .i64 (R + 50)])).put (some 40) (.tuple #[.agg #[.slice A9 l2.length c9, .int .i64 (R + 50)], .int .i64 m, .int .i64 0])).put (some 36) (.tuple #[.agg #[.slice A9 l2.length c9, .int .i64 (R + 50)], .int .i64 m, .int .i64 0])).put (some 41) (.agg #[.slice A9 l2.length c9, .int .i64 (R + 50)])).put (some 42) (.int .i64 (m : Int))).put (some 43) (.int .i64 0)).put (some 14) (.pointer (some ⟨b9, 0, none⟩))).put (some 15) (.int .i64 (m : Int))).put (some 16) (.int .i64 0)) ∧ StB w9 b9 A9 l2 c9 (R + 50) ∧ Below v3.heap.size v3 w9) (.calm 1 (.calm 2 (.calm 0 (.two 3 8 (.calm 4 (.calm 5 (.calm 6 (.calm 7 (.only 8 (.only 9 (.only 10 (.only 11 .done)))))))) (.only 3 (.calm 4 (.calm 5 (.calm 6 (.calm 7 (.only 9 (.only 10 (.only 11 .done)))))))))))) (by kernel_rfl) (by kernel_rfl) (by kernel_rfl) (by rfl) (below_drew _) ?_ ?_
  · skip
    refine ⟨_, _, .int .i64 two, rfl, rfl, ⟨rfl, fun W hW => by first | exact ⟨rfl, rfl⟩ | (simp only [Act.eval, execOp]; go_simp; try exact ⟨rfl, rfl⟩)⟩, ?_⟩
    simp only [Act.put, List.setIfInBounds_toArray, List.set_cons_succ, List.set_cons_zero]
    refine ⟨_, _, .int .i64 (q : Int), rfl, rfl, ⟨rfl, fun W hW => by simp only [execOp]; go_simp; exact (hk2 W).mono fun e w1 h => ⟨h.1, h.2.symm⟩⟩, ?_⟩
    simp only [Act.put, List.setIfInBounds_toArray, List.set_cons_succ, List.set_cons_zero]
    refine ⟨_, _, (.agg #[.slice A3 l1.length c3, .int .i64 (R + 50)]), rfl, rfl, ⟨rfl, fun W hW => by have s0 := (hS3.below hW).s0; have s1 := (hS3.below hW).s1; simp only [execOp]; go_simp; done⟩, ?_⟩
    simp only [Act.put, List.setIfInBounds_toArray, List.set_cons_succ, List.set_cons_zero]
    constructor
    · refine ⟨_, rfl, ?_⟩
      go_wp2_with fail
      refine (hem _ (hS3.rd.below (below_drew _))).mono ?_
      intro e w9 h
      obtain ⟨A9, c9, rfl, hcap9, N9, hb⟩ := putR_box h
      have hBc := Qt.more (below_drew v3) (Nat.le_refl _) hb
      have hS9 := stB_new N9 hcap9 (R + 50)
      have hB9 := hBc.alloc hBc.size (.cells #[.slice A9 l2.length c9, .int .i64 (R + 50)] 25)
      have hB8 := hBc.alloc hBc.size (.cells #[.slice none 0 0, .int .i64 0] 25)
      clear h hb
      go_wp2_with fail
      refine ⟨rfl, hBc, ?_⟩
      refine ⟨_, _, (.tuple #[.agg #[.slice A9 l2.length c9, .int .i64 (R + 50)], .int .i64 m, .int .i64 0]), rfl, rfl, ⟨rfl, fun W hW => by first | exact ⟨rfl, rfl⟩ | (simp only [Act.eval, execOp]; go_simp; try exact ⟨rfl, rfl⟩)⟩, ?_⟩
      simp only [Act.put, List.setIfInBounds_toArray, List.set_cons_succ, List.set_cons_zero]
      refine ⟨_, _, (.agg #[.slice A9 l2.length c9, .int .i64 (R + 50)]), rfl, rfl, ⟨rfl, fun W hW => by first | exact ⟨rfl, rfl⟩ | (simp only [Act.eval, execOp]; go_simp; try exact ⟨rfl, rfl⟩)⟩, ?_⟩
      simp only [Act.put, List.setIfInBounds_toArray, List.set_cons_succ, List.set_cons_zero]
      refine ⟨_, _, .int .i64 (m : Int), rfl, rfl, ⟨rfl, fun W hW => by first | exact ⟨rfl, rfl⟩ | (simp only [Act.eval, execOp]; go_simp; try exact ⟨rfl, rfl⟩)⟩, ?_⟩
      simp only [Act.put, List.setIfInBounds_toArray, List.set_cons_succ, List.set_cons_zero]
      refine ⟨_, _, .int .i64 0, rfl, rfl, ⟨rfl, fun W hW => by first | exact ⟨rfl, rfl⟩ | (simp only [Act.eval, execOp]; go_simp; try exact ⟨rfl, rfl⟩)⟩, ?_⟩
      simp only [Act.put, List.setIfInBounds_toArray, List.set_cons_succ, List.set_cons_zero]
      refine ⟨_, rfl, ?_⟩
      go_wp2_with fail
      refine ⟨rfl, hB8, ?_⟩
      refine ⟨_, rfl, ?_⟩
      go_wp2_with fail
      refine ⟨rfl, hB9, ?_⟩
      refine ⟨_, rfl, ?_⟩
      go_wp2_with fail
      refine ⟨rfl, hB9, ?_⟩
      refine ⟨_, rfl, ?_⟩
      go_wp2_with fail
      refine ⟨rfl, hB9, ?_⟩
      show ∃ (A9 : Option Addr) (c9 b9 : Nat), _
      refine ⟨A9, c9, w9.heap.size, ?_, hS9, hB9⟩
      first | rfl | simp only [Act.put, List.setIfInBounds_toArray, List.set_cons_succ, List.set_cons_zero]
    · refine ⟨_, rfl, ?_⟩
      have hB8 := (below_drew v3).alloc (Nat.le_refl _) (.cells #[.slice none 0 0, .int .i64 0] 25)
      have hrow8 : (v3.drew.alloc (.cells #[.slice none 0 0, .int .i64 0] 25 (0, 0))).heap[v3.heap.size]? = _ := heap_alloc_new v3.drew (.cells #[.slice none 0 0, .int .i64 0] 25 (0, 0))
      go_wp2_with fail
      refine ⟨rfl, hB8, ?_⟩
      refine ⟨_, rfl, ?_⟩
      go_wp2_with fail
      refine (hem _ (hS3.rd.below hB8)).mono ?_
      intro e w9 h
      obtain ⟨A9, c9, rfl, hcap9, N9, hb⟩ := putR_box h
      have hBc := Qt.more hB8 hB8.size hb
      have hrow9 := (hb.block _ (lt_heap6 hrow8)).trans hrow8
      have hS9 := stB_put (room := (R + 50)) hrow9 N9 hcap9
      have hB9 := (hBc.setCell (p := ⟨v3.heap.size, 0, none⟩) (Nat.le_refl _) (.slice A9 l2.length c9)).setCell (p := ⟨v3.heap.size, 1, none⟩) (Nat.le_refl _) (.int .i64 (R + 50))
      have f0 : w9.frozen? ⟨v3.heap.size, 0, none⟩ = false := Lib.frozen_of_heap hrow9 0
      have f1 : w9.frozen? ⟨v3.heap.size, 1, none⟩ = false := Lib.frozen_of_heap hrow9 1
      have g0 : w9.cell? ⟨v3.heap.size, 0, none⟩ = some (.slice none 0 0) := by rw [Lib.cell_of_heap hrow9]; rfl
      have g1 : w9.cell? ⟨v3.heap.size, 1, none⟩ = some (.int .i64 0) := by rw [Lib.cell_of_heap hrow9]; rfl
      clear h hb hrow9 hrow8
      go_wp2_with fail
      refine ⟨rfl, hBc, ?_⟩
      refine ⟨_, _, (.tuple #[.agg #[.slice A9 l2.length c9, .int .i64 (R + 50)], .int .i64 m, .int .i64 0]), rfl, rfl, ⟨rfl, fun W hW => by first | exact ⟨rfl, rfl⟩ | (simp only [Act.eval, execOp]; go_simp; try exact ⟨rfl, rfl⟩)⟩, ?_⟩
      simp only [Act.put, List.setIfInBounds_toArray, List.set_cons_succ, List.set_cons_zero]
      refine ⟨_, _, (.agg #[.slice A9 l2.length c9, .int .i64 (R + 50)]), rfl, rfl, ⟨rfl, fun W hW => by first | exact ⟨rfl, rfl⟩ | (simp only [Act.eval, execOp]; go_simp; try exact ⟨rfl, rfl⟩)⟩, ?_⟩
      simp only [Act.put, List.setIfInBounds_toArray, List.set_cons_succ, List.set_cons_zero]
      refine ⟨_, _, .int .i64 (m : Int), rfl, rfl, ⟨rfl, fun W hW => by first | exact ⟨rfl, rfl⟩ | (simp only [Act.eval, execOp]; go_simp; try exact ⟨rfl, rfl⟩)⟩, ?_⟩
      simp only [Act.put, List.setIfInBounds_toArray, List.set_cons_succ, List.set_cons_zero]
      refine ⟨_, _, .int .i64 0, rfl, rfl, ⟨rfl, fun W hW => by first | exact ⟨rfl, rfl⟩ | (simp only [Act.eval, execOp]; go_simp; try exact ⟨rfl, rfl⟩)⟩, ?_⟩
      simp only [Act.put, List.setIfInBounds_toArray, List.set_cons_succ, List.set_cons_zero]
      refine ⟨_, rfl, ?_⟩
      go_wp2_with fail
      refine ⟨rfl, hB9, ?_⟩
      refine ⟨_, rfl, ?_⟩
      go_wp2_with fail
      refine ⟨rfl, hB9, ?_⟩
      refine ⟨_, rfl, ?_⟩
      go_wp2_with fail
      refine ⟨rfl, hB9, ?_⟩
      show ∃ (A9 : Option Addr) (c9 b9 : Nat), _
      refine ⟨A9, c9, v3.heap.size, ?_, hS9, hB9⟩
      first | rfl | simp only [Act.put, List.setIfInBounds_toArray, List.set_cons_succ, List.set_cons_zero]
  rintro a9 v4 ⟨A4, c4, b4, rfl, hS4, hb4⟩
  simp only [Act.put, List.setIfInBounds_toArray, List.set_cons_succ, List.set_cons_zero]
  have HB4 := Lib.hid (Qt.more HB3.out HB3.out.size hb4)
  have HS4 := Lib.hid hS4
  have HSs4 := Lib.hid (HSs3.out.below hb4)
  clear s0 s1' hem HB3 hS3 hS4 hb4 HSs3 HS3
  have s0 := HS4.out.s0
  have s1' := HS4.out.s1
  have hcap4 := HS4.out.cap
  have hem := fun W hW => nodeEmpty_any A4 l2 c4 (R + 50) p W hW (by have := HEh.out.r2.small; omega) hcap4
  rw [HEh.out.three] at hem
  unfold storeV at hem
  have hS4 := HS4.out
  go_wp2_with fail
  refine region_calm_to (fun W => Below v4.heap.size v4 W) (fun (a0 a9 : Act) (w9 : World) => ∃ (A9 : Option Addr) (c9 b9 : Nat), a9 = (((((((((((a0.put (some 46) (.int .i64 one)).put (some 47) (.int .i64 (p : Int))).put (some 45) (.agg #[.slice A4 l2.length c4, .int .i64 (R + 50)])).put (some 48) (.tuple #[.agg #[.slice A9 l2.length c9, .int .i64 (R + 50)], .int .i64 n, .int .i64 0])).put (some 44) (.tuple #[.agg #[.slice A9 l2.length c9, .int .i64 (R + 50)], .int .i64 n, .int .i64 0])).put (some 49) (.agg #[.slice A9 l2.length c9, .int .i64 (R + 50)])).put (some 50) (.int .i64 (n : Int))).put (some 51) (.int .i64 0)).put (some 17) (.pointer (some ⟨b9, 0, none⟩))).put (some 18) (.int .i64 (n : Int))).put (some 19) (.int .i64 0)) ∧ StB w9 b9 A9 l2 c9 (R + 50) ∧ Below v4.heap.size v4 w9) (.calm 1 (.calm 2 (.calm 0 (.two 3 8 (.calm 4 (.calm 5 (.calm 6 (.calm 7 (.only 8 (.only 9 (.only 10 (.only 11 .done)))))))) (.only 3 (.calm 4 (.calm 5 (.calm 6 (.calm 7 (.only 9 (.only 10 (.only 11 .done)))))))))))) (by kernel_rfl) (by kernel_rfl) (by kernel_rfl) (by rfl) (below_drew _) ?_ ?_
  · skip
    refine ⟨_, _, .int .i64 one, rfl, rfl, ⟨rfl, fun W hW => by first | exact ⟨rfl, rfl⟩ | (simp only [Act.eval, execOp]; go_simp; try exact ⟨rfl, rfl⟩)⟩, ?_⟩
    simp only [Act.put, List.setIfInBounds_toArray, List.set_cons_succ, List.set_cons_zero]
    refine ⟨_, _, .int .i64 (p : Int), rfl, rfl, ⟨rfl, fun W hW => by simp only [execOp]; go_simp; exact (hk1 W).mono fun e w1 h => ⟨h.1, h.2.symm⟩⟩, ?_⟩
    simp only [Act.put, List.setIfInBounds_toArray, List.set_cons_succ, List.set_cons_zero]
    refine ⟨_, _, (.agg #[.slice A4 l2.length c4, .int .i64 (R + 50)]), rfl, rfl, ⟨rfl, fun W hW => by have s0 := (hS4.below hW).s0; have s1 := (hS4.below hW).s1; simp only [execOp]; go_simp; done⟩, ?_⟩
    simp only [Act.put, List.setIfInBounds_toArray, List.set_cons_succ, List.set_cons_zero]
    constructor
    · refine ⟨_, rfl, ?_⟩
      go_wp2_with fail
      refine (hem _ (hS4.rd.below (below_drew _))).mono ?_
      intro e w9 h
      obtain ⟨A9, c9, rfl, hcap9, N9, hb⟩ := putR_box h
      have hBc := Qt.more (below_drew v4) (Nat.le_refl _) hb
      have hS9 := stB_new N9 hcap9 (R + 50)
      have hB9 := hBc.alloc hBc.size (.cells #[.slice A9 l2.length c9, .int .i64 (R + 50)] 25)
      have hB8 := hBc.alloc hBc.size (.cells #[.slice none 0 0, .int .i64 0] 25)
      clear h hb
      go_wp2_with fail
      refine ⟨rfl, hBc, ?_⟩
      refine ⟨_, _, (.tuple #[.agg #[.slice A9 l2.length c9, .int .i64 (R + 50)], .int .i64 n, .int .i64 0]), rfl, rfl, ⟨rfl, fun W hW => by first | exact ⟨rfl, rfl⟩ | (simp only [Act.eval, execOp]; go_simp; try exact ⟨rfl, rfl⟩)⟩, ?_⟩
      simp only [Act.put, List.setIfInBounds_toArray, List.set_cons_succ, List.set_cons_zero]
      refine ⟨_, _, (.agg #[.slice A9 l2.length c9, .int .i64 (R + 50)]), rfl, rfl, ⟨rfl, fun W hW => by first | exact ⟨rfl, rfl⟩ | (simp only [Act.eval, execOp]; go_simp; try exact ⟨rfl, rfl⟩)⟩, ?_⟩
      simp only [Act.put, List.setIfInBounds_toArray, List.set_cons_succ, List.set_cons_zero]
      refine ⟨_, _, .int .i64 (n : Int), rfl, rfl, ⟨rfl, fun W hW => by first | exact ⟨rfl, rfl⟩ | (simp only [Act.eval, execOp]; go_simp; try exact ⟨rfl, rfl⟩)⟩, ?_⟩
      simp only [Act.put, List.setIfInBounds_toArray, List.set_cons_succ, List.set_cons_zero]
      refine ⟨_, _, .int .i64 0, rfl, rfl, ⟨rfl, fun W hW => by first | exact ⟨rfl, rfl⟩ | (simp only [Act.eval, execOp]; go_simp; try exact ⟨rfl, rfl⟩)⟩, ?_⟩
      simp only [Act.put, List.setIfInBounds_toArray, List.set_cons_succ, List.set_cons_zero]
      refine ⟨_, rfl, ?_⟩
      go_wp2_with fail
      refine ⟨rfl, hB8, ?_⟩
      refine ⟨_, rfl, ?_⟩
      go_wp2_with fail
      refine ⟨rfl, hB9, ?_⟩
      refine ⟨_, rfl, ?_⟩
      go_wp2_with fail
      refine ⟨rfl, hB9, ?_⟩
      refine ⟨_, rfl, ?_⟩
      go_wp2_with fail
      refine ⟨rfl, hB9, ?_⟩
      show ∃ (A9 : Option Addr) (c9 b9 : Nat), _
      refine ⟨A9, c9, w9.heap.size, ?_, hS9, hB9⟩
      first | rfl | simp only [Act.put, List.setIfInBounds_toArray, List.set_cons_succ, List.set_cons_zero]
    · refine ⟨_, rfl, ?_⟩
      have hB8 := (below_drew v4).alloc (Nat.le_refl _) (.cells #[.slice none 0 0, .int .i64 0] 25)
      have hrow8 : (v4.drew.alloc (.cells #[.slice none 0 0, .int .i64 0] 25 (0, 0))).heap[v4.heap.size]? = _ := heap_alloc_new v4.drew (.cells #[.slice none 0 0, .int .i64 0] 25 (0, 0))
      go_wp2_with fail
      refine ⟨rfl, hB8, ?_⟩
      refine ⟨_, rfl, ?_⟩
      go_wp2_with fail
      refine (hem _ (hS4.rd.below hB8)).mono ?_
      intro e w9 h
      obtain ⟨A9, c9, rfl, hcap9, N9, hb⟩ := putR_box h
      have hBc := Qt.more hB8 hB8.size hb
      have hrow9 := (hb.block _ (lt_heap6 hrow8)).trans hrow8
      have hS9 := stB_put (room := (R + 50)) hrow9 N9 hcap9
      have hB9 := (hBc.setCell (p := ⟨v4.heap.size, 0, none⟩) (Nat.le_refl _) (.slice A9 l2.length c9)).setCell (p := ⟨v4.heap.size, 1, none⟩) (Nat.le_refl _) (.int .i64 (R + 50))
      have f0 : w9.frozen? ⟨v4.heap.size, 0, none⟩ = false := Lib.frozen_of_heap hrow9 0
      have f1 : w9.frozen? ⟨v4.heap.size, 1, none⟩ = false := Lib.frozen_of_heap hrow9 1
      have g0 : w9.cell? ⟨v4.heap.size, 0, none⟩ = some (.slice none 0 0) := by rw [Lib.cell_of_heap hrow9]; rfl
      have g1 : w9.cell? ⟨v4.heap.size, 1, none⟩ = some (.int .i64 0) := by rw [Lib.cell_of_heap hrow9]; rfl
      clear h hb hrow9 hrow8
      go_wp2_with fail
      refine ⟨rfl, hBc, ?_⟩
      refine ⟨_, _, (.tuple #[.agg #[.slice A9 l2.length c9, .int .i64 (R + 50)], .int .i64 n, .int .i64 0]), rfl, rfl, ⟨rfl, fun W hW => by first | exact ⟨rfl, rfl⟩ | (simp only [Act.eval, execOp]; go_simp; try exact ⟨rfl, rfl⟩)⟩, ?_⟩
      simp only [Act.put, List.setIfInBounds_toArray, List.set_cons_succ, List.set_cons_zero]
      refine ⟨_, _, (.agg #[.slice A9 l2.length c9, .int .i64 (R + 50)]), rfl, rfl, ⟨rfl, fun W hW => by first | exact ⟨rfl, rfl⟩ | (simp only [Act.eval, execOp]; go_simp; try exact ⟨rfl, rfl⟩)⟩, ?_⟩
      simp only [Act.put, List.setIfInBounds_toArray, List.set_cons_succ, List.set_cons_zero]
      refine ⟨_, _, .int .i64 (n : Int), rfl, rfl, ⟨rfl, fun W hW => by first | exact ⟨rfl, rfl⟩ | (simp only [Act.eval, execOp]; go_simp; try exact ⟨rfl, rfl⟩)⟩, ?_⟩
      simp only [Act.put, List.setIfInBounds_toArray, List.set_cons_succ, List.set_cons_zero]
      refine ⟨_, _, .int .i64 0, rfl, rfl, ⟨rfl, fun W hW => by first | exact ⟨rfl, rfl⟩ | (simp only [Act.eval, execOp]; go_simp; try exact ⟨rfl, rfl⟩)⟩, ?_⟩
      simp only [Act.put, List.setIfInBounds_toArray, List.set_cons_succ, List.set_cons_zero]
      refine ⟨_, rfl, ?_⟩
      go_wp2_with fail
      refine ⟨rfl, hB9, ?_⟩
      refine ⟨_, rfl, ?_⟩
      go_wp2_with fail
      refine ⟨rfl, hB9, ?_⟩
      refine ⟨_, rfl, ?_⟩
      go_wp2_with fail
      refine ⟨rfl, hB9, ?_⟩
      show ∃ (A9 : Option Addr) (c9 b9 : Nat), _
      refine ⟨A9, c9, v4.heap.size, ?_, hS9, hB9⟩
      first | rfl | simp only [Act.put, List.setIfInBounds_toArray, List.set_cons_succ, List.set_cons_zero]
  rintro a9 v5 ⟨A5, c5, b5, rfl, hS5, hb5⟩
  simp only [Act.put, List.setIfInBounds_toArray, List.set_cons_succ, List.set_cons_zero]
  have HB5 := Lib.hid (Qt.more HB4.out HB4.out.size hb5)
  have HS5 := Lib.hid hS5
  have HSs5 := Lib.hid (HSs4.out.below hb5)
  have HSb5 := Lib.hid (HS4.out.below hb5)
  clear s0 s1' hem HB4 hS4 hS5 hb5 HSs4 HS4
  have z0 := HS5.out.s0
  have hn := HEh.out.n_
  have hm := HEh.out.m_
  have hnz : (n : Int) < (l2.length : Int) := by omega
  have hmz : (m : Int) < (l2.length : Int) := by omega
  go_wp2_with fail
  have d1 : decide ((n : Int) < 0) = false := decide_eq_false (by omega)
  have d2 : decide (l2.length ≤ n) = false := decide_eq_false (by omega)
  have d3 : decide ((m : Int) < 0) = false := decide_eq_false (by omega)
  have d4 : decide (l2.length ≤ m) = false := decide_eq_false (by omega)
  obtain ⟨g5, o5, rfl, hg5, hnd⟩ := HS5.out.nd (by omega)
  have x0 := (hnd n hn).1
  have x5 := (hnd n hn).2.2.2.2.2
  have y0 := (hnd m hm).1
  rw [HEh.out.ln] at x0
  rw [HEh.out.pop] at x5
  rw [HEh.out.lm] at y0
  have q0 := Qt.cell_in z0
  have q1 := Qt.cell_in HS5.out.s1
  have q2 := Qt.cell_in HSb5.out.s0
  have q3 := Qt.cell_in HSb5.out.s1
  have q4 := Qt.cell_in HSs5.out.s0
  have q5 := Qt.cell_in x0
  have q6 := Qt.cell_in x5
  have q7 := Qt.cell_in y0
  have hsm := fun W (hW : Below v5.heap.size v5 W) => refSame6_any A4 l2 c4 (R + 50) (some ⟨g5, o5, none⟩) l2 c5 (R + 50) W (HSb5.out.rd.below hW) (HS5.out.rd.below hW) (by have := HEh.out.r2.small; omega) (by have := HEh.out.r2.small; omega)
  rw [decide_eq_true (⟨rfl, rfl⟩ : R + 50 = R + 50 ∧ l2 = l2)] at hsm
  unfold storeV at hsm
  have hle := HEh.out.len
  have hle2 : (l2.length : Int) ≤ (l.length : Int) + max (p : Int) (q : Int) := by omega
  have hl42 : (l.length : Int) ≤ 42 := by have := HSl.out; omega
  have hnm := HEh.out.same
  clear hnd x0 x5 y0 z0 hn hm hle
  by_cases hpq : n = m
  · obtain rfl := hnm.1 hpq
    subst hpq
    have hle3 : (l2.length : Int) ≤ (l.length : Int) + (p : Int) := by omega
    refine Qt.below_all (by kernel_rfl) (by kernel_rfl) ?_
    simp only [List.append_eq, List.cons_append, List.nil_append]
    iterate 69 (go_big_quiet_step (first
      | (go_at_call_of 20 (Value.int IntKind.i64 one); exact Qt.at_same fun W _ => hk1 W)
      | (go_at_call_of 20 (Value.int IntKind.i64 two); exact Qt.at_same fun W _ => hk2 W)
      | (go_at_call 11; exact Qt.at_call' hsm)))
    refine wpQuiet_nil ?_
    intro w6 hb6
    have hB6 := Qt.more HB5.out HB5.out.size hb6
    go_wp2_with fail
    go_ret
    exact ⟨rfl, hB6⟩
  · have hz1 : ((n : Int) == (m : Int)) = false := beq_eq_false_iff_ne.2 (by omega)
    have hpq2 : p ≠ q := fun e => hpq (hnm.2 e)
    have hz2 : ((p : Int) == (q : Int)) = false := beq_eq_false_iff_ne.2 (by omega)
    refine Qt.below_all (by kernel_rfl) (by kernel_rfl) ?_
    simp only [List.append_eq, List.cons_append, List.nil_append]
    iterate 69 (go_big_quiet_step (first
      | (go_at_call_of 20 (Value.int IntKind.i64 one); exact Qt.at_same fun W _ => hk1 W)
      | (go_at_call_of 20 (Value.int IntKind.i64 two); exact Qt.at_same fun W _ => hk2 W)
      | (go_at_call 11; exact Qt.at_call' hsm)))
    refine wpQuiet_nil ?_
    intro w6 hb6
    have hB6 := Qt.more HB5.out HB5.out.size hb6
    go_wp2_with fail
    go_ret
    exact ⟨rfl, hB6⟩
end Go.Proofs.Ytdlkeginnmhecaa
