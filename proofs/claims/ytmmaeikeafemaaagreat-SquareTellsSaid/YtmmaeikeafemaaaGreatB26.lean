/-
  Texts that the claims of this seat share, part 26.
-/
import Derived.Test.YtmmaeikeafemaaaGreatB25
import Derived.Test.YtmmaeikeafemaaaGreatB19
import Derived.Test.YtmmaeikeafemaaaGreatB24
import Derived.Test.YtmmaeikeafemaaaGreatB14
import Derived.Test.YtmmaeikeafemaaaGreatB15
import Derived.ProofKit
import Derived.OpenShut
import Derived.ChangeOld
import Derived.Deep.Slices
import Derived.Deep.Fields
import Derived.Deep.Strs
import Derived.Test.YtmmaeikeafemaaaGreatRows
set_option linter.unusedVariables false
set_option linter.unusedSimpArgs false
namespace Go.Proofs.YtmmaeikeafemaaaGreat
set_option maxRecDepth 100000
set_option linter.unusedVariables false
set_option linter.unusedSimpArgs false
open Go.RowKit Go.Sort

theorem make_ok2 {l : List Nd} {room : Int} {e : Nat} {S : List (Int × Int)} (hr : Right6 l room) (hlow : e ≤ 41) (hS : Cel.rightB S = true) (hin : ∀ s ∈ S, insideB e s = true) (hroom : ((l.length + S.length * (e + 1) + (e + 1) : Nat) : Int) ≤ room) :
    ∃ (m : List Nd) (n t : Nat), make7 l room S ((e : Int) + 1) = (m, (n : Int), 0) ∧ Grows l m ∧ Sq m room e n S ∧ t ≤ e + 1 ∧ (∃ x, Emp m t x) ∧ m.length ≤ l.length + S.length * (e + 1) + t := by
  obtain ⟨m, n, h', e1, hm⟩ := build_res (room := room) (K := e + 1) (by omega) (e + 1) (Nat.le_refl _) l 0 (S.map (inwardC e)) hr (by omega) ⟨0, rfl⟩ (by rw [List.length_map]; omega)
  refine ⟨m, n, h', ?_, hm.grows, ⟨hm.right, hm.is, hlow, hS, hin, hm.alive⟩, hm.hi, hm.emp, ?_⟩
  · unfold make7 grown6
    rw [if_pos (right_iff.2 hr), makeZ_yes hlow hS hin, e1, if_pos rfl]
  · have := hm.len
    rw [List.length_map] at *
    omega
/-- What Square tells. -/
structure SqL (room : Int) (raw : List Raw5) (rs : List (Int × Int)) (lev : Int) (R : Int) (m : List Nd) (n e t : Nat) : Prop where
  room_ : R = 2 + pick6 room 60 + 500
  rlo : 502 ≤ R
  rhi : R ≤ 561
  lev_ : 4 + pickI lev 4 = (e : Int) + 1
  elo : 3 ≤ e
  ehi : e ≤ 6
  made : make7 (store6 room raw) R (Cel.rawSet rs) (4 + pickI lev 4) = (m, (n : Int), 0)
  sq : Sq m R e n (Cel.rawSet rs)
  thi : t ≤ e + 1
  emp : ∃ x, Emp m t x
  len : (m.length : Int) ≤ R - 80 + t
  few : m.length ≤ 600
  set60 : (Cel.rawSet rs).length ≤ 60
theorem square_ok (room : Int) (raw : List Raw5) (rs : List (Int × Int)) (lev : Int) : ∃ R m n e t, SqL room raw rs lev R m n e t := by
  obtain ⟨hS, hSl⟩ := store_right room raw
  have hpb := pick6_bd room 60 (by decide)
  obtain ⟨hS1, hS2, hS3⟩ := raw_set rs
  have hq := pickI_bd lev 4 (by decide)
  obtain ⟨e, he, he6⟩ : ∃ e : Nat, 4 + pickI lev 4 = (e : Int) + 1 ∧ 3 ≤ e ∧ e ≤ 6 := ⟨(pickI lev 4 + 3).toNat, by omega, by omega, by omega⟩
  have hb : (Cel.rawSet rs).length * (e + 1) ≤ 60 * 7 := Nat.mul_le_mul hS2 (by omega)
  have hlr := hS.len
  obtain ⟨m, n, t, e1, g, sq, ht, hE, hlen⟩ := make_ok2 (l := store6 room raw) (room := 2 + pick6 room 60 + 500) (e := e) (hS.more (by omega) (by omega) (by omega)) (by omega) hS1 (hS3 e he6.1) (by omega)
  exact ⟨_, m, n, e, t, rfl, by omega, by omega, he, he6.1, he6.2, by rw [he]; exact e1, sq, ht, hE, by omega, by omega, hS2⟩
set_option maxHeartbeats 16000000 in
theorem square7_any {room : Int} {raw : List Raw5} {rs : List (Int × Int)} {lev R : Int} {m : List Nd} {n e t : Nat} (HL : SqL room raw rs lev R m n e t) (A : Option Addr) (c : Nat) (B : Option Addr) (d : Nat) (w : World) (hI : I64 room) (hR : RdR w w.heap.size A raw) (hl : raw.length ≤ 9223372036854775807) (hF : ∀ j, j < raw.length → Fine5 (raw.getD j dead5))
    (hB : RdC w w.heap.size B rs) (hBl : rs.length ≤ 9223372036854775807) (hBc : rs.length ≤ d) (hBw : ∀ p ∈ rs, Cel.I64 p.1 ∧ Cel.I64 p.2) (hL : I64 lev) :
    Calls Tryz.prog 5 #[.int .i64 room, .slice A raw.length c, .slice B rs.length d, .int .i64 lev] w fun r w' => ∃ A' c', r = .returned (.tuple #[.agg #[.slice A' m.length c', .int .i64 R], .int .i64 (n : Int)]) ∧ m.length ≤ c' ∧ NowN w' A' m ∧ Below w.heap.size w w' := by
  obtain ⟨hS, hSl⟩ := store_right room raw
  have hpb := pick6_bd room 60 (by decide)
  have hal0 := (Below.refl w.heap.size w).alloc (Nat.le_refl _) (.cells #[.slice none 0 0, .int .i64 0] 26)
  have hst := store6_any A raw c room _ ((hR.below hal0 (Nat.le_refl _)).more hal0.size) hl hI hF
  have hR0 := HL.room_
  have hrl := HL.rlo
  have hrh := HL.rhi
  obtain ⟨Q, hQ⟩ : ∃ Q, Q = 2 + pick6 room 60 := ⟨_, rfl⟩
  rw [← hQ] at hS hst hR0
  obtain ⟨l, hll⟩ : ∃ l, l = store6 room raw := ⟨_, rfl⟩
  have hma := HL.made
  rw [← hll] at hS hst hSl hma
  have hset1 := fun W hW => Cel.set_any B rs d W hW hBl hBc hBw
  obtain ⟨S, hSS⟩ : ∃ S, S = Cel.rawSet rs := ⟨_, rfl⟩
  have hS60 := HL.set60
  rw [← hSS] at hset1 hma hS60
  have hpk := fun W => pick7_any lev 4 W hL.1 hL.2 (by decide) (by decide)
  have hq := pickI_bd lev 4 (by decide)
  obtain ⟨q, hqq⟩ : ∃ q, q = pickI lev 4 := ⟨_, rfl⟩
  rw [← hqq] at hpk hq hma
  have hrow0 : (w.alloc (.cells #[.slice none 0 0, .int .i64 0] 26)).heap[w.heap.size]? = some (.cells #[.slice none 0 0, .int .i64 0] 26 (0, 0)) := heap_new rfl
  have HROW := Lib.hid hrow0
  have HAL := Lib.hid hal0
  have HRS := Lib.hid ((Cel.Rd.below hB hal0 (Nat.le_refl _)).more hal0.size)
  have hlv := lev_bd hS
  have HLV := Lib.hid hlv
  have hw500 : IntKind.i64.wrap (Q + 500) = R := by rw [IntKind.wrap_i64]; omega
  have hw4 : IntKind.i64.wrap (4 + q) = 4 + q := by rw [IntKind.wrap_i64]; omega
  have HMA := Lib.hid hma
  have HSL := Lib.hid (show l.length ≤ 42 ∧ S.length ≤ 60 from ⟨hSl, hS60⟩)
  clear hrow0 hal0 hR hB hlv hma hSl hS60 hS hpb hQ hll hSS hqq HL hI hF hBw hL hR0 hBl hl
  go_enter Tryz.func5, Tryz.ntmps5
  go_wp2_with fail
  refine hst.mono ?_
  generalize (w.alloc (.cells #[.slice none 0 0, .int .i64 0] 26)) = w1 at *
  intro r w2 h
  obtain ⟨A2, c2, rfl, hcap2, N2, hb2⟩ := storeR_box h
  have hal := (Below.refl w2.heap.size w2).alloc (Nat.le_refl _) (.cells #[.slice A2 l.length c2, .int .i64 R] 26)
  have hb' := Qt.more (B := w1.heap.size) hb2 hb2.size hal
  have HS2 := Lib.hid (stB_new N2 hcap2 R)
  have HRS2 := Lib.hid ((HRS.out.below hb' (Nat.le_refl _)).more hb'.size)
  have HB2 := Lib.hid (Qt.more HAL.out HAL.out.size hb')
  have HROW2 := Lib.hid ((hb'.block _ (lt_heap6 HROW.out)).trans HROW.out)
  clear h hst hb2 hb' HRS N2 hal HROW
  go_wp2_with fail
  generalize (w2.alloc (.cells #[.slice A2 l.length c2, .int .i64 R] 26)) = v2 at *
  generalize w2.heap.size = b2 at *
  have hmk := fun A8 c8 W (hW : Below v2.heap.size v2 W) (hM : RdC W W.heap.size A8 S) (hc8 : S.length ≤ c8) => refMake7_any A2 l c2 R A8 S c8 (4 + q) W ((HS2.out.below hW).rd) (by have := HSL.out; omega) hcap2 HLV.out hM (by have := HSL.out; omega) hc8
  rw [HMA.out] at hmk
  unfold storeV at hmk
  have hset := fun W (hW : Below v2.heap.size v2 W) => hset1 W ((HRS2.out.below hW (Nat.le_refl _)).more hW.size)
  clear hset1 HMA
  refine region_calm_to (fun W => Below v2.heap.size v2 W) (fun (a0 a9 : Act) (w9 : World) => ∃ (A8 : Option Addr) (c8 : Nat) (A9 : Option Addr) (c9 b9 : Nat), a9 = ((((((((((((((a0.put (some 22) (.agg #[.slice A2 l.length c2, .int .i64 R])).put (some 23) (.slice B rs.length d)).put (some 25) (.int .i64 lev)).put (some 24) (.slice A8 S.length c8)).put (some 26) (.int .i64 q)).put (some 27) (.int .i64 (4 + q))).put (some 28) (.tuple #[(.agg #[.slice A9 m.length c9, .int .i64 R]), .int .i64 (n : Int), .int .i64 0])).put (some 21) (.tuple #[(.agg #[.slice A9 m.length c9, .int .i64 R]), .int .i64 (n : Int), .int .i64 0])).put (some 29) (.agg #[.slice A9 m.length c9, .int .i64 R])).put (some 30) (.int .i64 (n : Int))).put (some 31) (.int .i64 0)).put (some 11) (.pointer (some ⟨b9, 0, none⟩))).put (some 12) (.int .i64 (n : Int))).put (some 13) (.int .i64 0)) ∧ StB w9 b9 A9 m c9 R ∧ Below v2.heap.size v2 w9) (.calm 0 (.calm 1 (.calm 3 (.two 2 11 (.calm 4 (.calm 5 (.two 6 11 (.calm 7 (.calm 8 (.calm 9 (.calm 10 (.only 11 (.only 12 (.only 13 (.only 14 .done)))))))) (.only 6 (.calm 7 (.calm 8 (.calm 9 (.calm 10 (.only 12 (.only 13 (.only 14 .done))))))))))) (.only 2 (.calm 4 (.calm 5 (.only 6 (.calm 7 (.calm 8 (.calm 9 (.calm 10 (.only 12 (.only 13 (.only 14 .done))))))))))))))) (by kernel_rfl) (by kernel_rfl) (by kernel_rfl) (by rfl) (below_drew _) ?_ ?_
  · skip
    refine ⟨_, _, (.agg #[.slice A2 l.length c2, .int .i64 R]), rfl, rfl, ⟨rfl, fun W hW => by have s0 := (HS2.out.below hW).s0; have s1 := (HS2.out.below hW).s1; simp only [execOp]; go_simp; done⟩, ?_⟩
    simp only [Act.put, List.setIfInBounds_toArray, List.set_cons_succ, List.set_cons_zero]
    refine ⟨_, _, (.slice B rs.length d), rfl, rfl, ⟨rfl, fun W hW => by first | exact ⟨rfl, rfl⟩ | (simp only [Act.eval, execOp]; go_simp; try exact ⟨rfl, rfl⟩)⟩, ?_⟩
    simp only [Act.put, List.setIfInBounds_toArray, List.set_cons_succ, List.set_cons_zero]
    refine ⟨_, _, .int .i64 lev, rfl, rfl, ⟨rfl, fun W hW => by first | exact ⟨rfl, rfl⟩ | (simp only [Act.eval, execOp]; go_simp; try exact ⟨rfl, rfl⟩)⟩, ?_⟩
    simp only [Act.put, List.setIfInBounds_toArray, List.set_cons_succ, List.set_cons_zero]
    constructor
    · skip
      refine ⟨_, rfl, ?_⟩
      go_wp2_with fail
      refine (hset _ (below_drew v2)).mono ?_
      intro e w8 h
      obtain ⟨_, rfl, ⟨A8, c8, rfl, hc8, hR8⟩, hb⟩ := h
      have hBc1 := Qt.more (below_drew v2) (Nat.le_refl _) hb
      have hb_0_1 := hb
      go_wp2_with fail
      refine ⟨rfl, hBc1, ?_⟩
      refine ⟨_, _, .int .i64 q, rfl, rfl, ⟨rfl, fun W hW => by simp only [execOp]; go_simp; exact (hpk W).mono fun e w1 h => ⟨h.1, h.2.symm⟩⟩, ?_⟩
      simp only [Act.put, List.setIfInBounds_toArray, List.set_cons_succ, List.set_cons_zero]
      refine ⟨_, _, .int .i64 (4 + q), rfl, rfl, ⟨rfl, fun W hW => by first | exact ⟨rfl, rfl⟩ | (simp only [Act.eval, execOp]; go_simp; try exact ⟨rfl, rfl⟩)⟩, ?_⟩
      simp only [Act.put, List.setIfInBounds_toArray, List.set_cons_succ, List.set_cons_zero]
      constructor
      · skip
        refine ⟨_, rfl, ?_⟩
        go_wp2_with fail
        refine (hmk A8 c8 _ hBc1 ((Cel.Rd.below hR8 ((Below.refl w8.heap.size w8)) (Nat.le_refl _)).more ((Below.refl w8.heap.size w8)).size) hc8).mono ?_
        intro e w9 h
        obtain ⟨A9, c9, rfl, hcap9, N9, hb⟩ := putR_box h
        clear h
        have hBc2 := Qt.more hBc1 (hBc1).size hb
        have hb_1_2 := hb
        go_wp2_with fail
        refine ⟨rfl, hBc2, ?_⟩
        refine ⟨_, _, (.tuple #[(.agg #[.slice A9 m.length c9, .int .i64 R]), .int .i64 (n : Int), .int .i64 0]), rfl, rfl, ⟨rfl, fun W hW => by first | exact ⟨rfl, rfl⟩ | (simp only [Act.eval, execOp]; go_simp; try exact ⟨rfl, rfl⟩)⟩, ?_⟩
        simp only [Act.put, List.setIfInBounds_toArray, List.set_cons_succ, List.set_cons_zero]
        refine ⟨_, _, (.agg #[.slice A9 m.length c9, .int .i64 R]), rfl, rfl, ⟨rfl, fun W hW => by first | exact ⟨rfl, rfl⟩ | (simp only [Act.eval, execOp]; go_simp; try exact ⟨rfl, rfl⟩)⟩, ?_⟩
        simp only [Act.put, List.setIfInBounds_toArray, List.set_cons_succ, List.set_cons_zero]
        refine ⟨_, _, .int .i64 (n : Int), rfl, rfl, ⟨rfl, fun W hW => by first | exact ⟨rfl, rfl⟩ | (simp only [Act.eval, execOp]; go_simp; try exact ⟨rfl, rfl⟩)⟩, ?_⟩
        simp only [Act.put, List.setIfInBounds_toArray, List.set_cons_succ, List.set_cons_zero]
        refine ⟨_, _, .int .i64 0, rfl, rfl, ⟨rfl, fun W hW => by first | exact ⟨rfl, rfl⟩ | (simp only [Act.eval, execOp]; go_simp; try exact ⟨rfl, rfl⟩)⟩, ?_⟩
        simp only [Act.put, List.setIfInBounds_toArray, List.set_cons_succ, List.set_cons_zero]
        refine ⟨_, rfl, ?_⟩
        have hBa3 := (hBc2).alloc (hBc2).size (.cells #[.slice none 0 0, .int .i64 0] 26)
        have hra3 : (w9.alloc (.cells #[.slice none 0 0, .int .i64 0] 26 (0, 0))).heap[w9.heap.size]? = _ := heap_alloc_new w9 (.cells #[.slice none 0 0, .int .i64 0] 26 (0, 0))
        go_wp2_with fail
        refine ⟨rfl, hBa3, ?_⟩
        have hle_w9 : v2.heap.size ≤ w9.heap.size := (hBc2).size
        have hB9 := (hBc2).alloc (hBc2).size (.cells #[.slice A9 m.length c9, .int .i64 R] 26)
        have hS9 := stB_new N9 hcap9 R
        refine ⟨_, rfl, ?_⟩
        go_wp2_with fail
        refine ⟨rfl, hB9, ?_⟩
        refine ⟨_, rfl, ?_⟩
        go_wp2_with fail
        refine ⟨rfl, hB9, ?_⟩
        refine ⟨_, rfl, ?_⟩
        go_wp2_with fail
        refine ⟨rfl, hB9, ?_⟩
        show ∃ (A8 : Option Addr) (c8 : Nat) (A9 : Option Addr) (c9 b9 : Nat), _
        refine ⟨A8, c8, A9, c9, w9.heap.size, ?_, hS9, hB9⟩
        first | rfl | simp only [Act.put, List.setIfInBounds_toArray, List.set_cons_succ, List.set_cons_zero]
      · skip
        refine ⟨_, rfl, ?_⟩
        have hBa2 := (hBc1).alloc (hBc1).size (.cells #[.slice none 0 0, .int .i64 0] 26)
        have hra2 : (w8.alloc (.cells #[.slice none 0 0, .int .i64 0] 26 (0, 0))).heap[w8.heap.size]? = _ := heap_alloc_new w8 (.cells #[.slice none 0 0, .int .i64 0] 26 (0, 0))
        go_wp2_with fail
        refine ⟨rfl, hBa2, ?_⟩
        have hle_w8 : v2.heap.size ≤ w8.heap.size := (hBc1).size
        refine ⟨_, rfl, ?_⟩
        go_wp2_with fail
        refine (hmk A8 c8 _ hBa2 ((Cel.Rd.below hR8 ((((Below.refl w8.heap.size w8)).alloc ((Below.refl w8.heap.size w8)).size (.cells #[.slice none 0 0, .int .i64 0] 26))) (Nat.le_refl _)).more ((((Below.refl w8.heap.size w8)).alloc ((Below.refl w8.heap.size w8)).size (.cells #[.slice none 0 0, .int .i64 0] 26))).size) hc8).mono ?_
        intro e w9 h
        obtain ⟨A9, c9, rfl, hcap9, N9, hb⟩ := putR_box h
        clear h
        have hBc4 := Qt.more hBa2 (hBa2).size hb
        have hrw4 := (hb.block _ (lt_heap6 hra2)).trans hra2
        have hb_1_4 := hb
        have f0 : w9.frozen? ⟨w8.heap.size, 0, none⟩ = false := Lib.frozen_of_heap hrw4 0
        have f1 : w9.frozen? ⟨w8.heap.size, 1, none⟩ = false := Lib.frozen_of_heap hrw4 1
        have g0 : w9.cell? ⟨w8.heap.size, 0, none⟩ = some (.slice none 0 0) := by rw [Lib.cell_of_heap hrw4]; rfl
        have g1 : w9.cell? ⟨w8.heap.size, 1, none⟩ = some (.int .i64 0) := by rw [Lib.cell_of_heap hrw4]; rfl
        go_wp2_with fail
        refine ⟨rfl, hBc4, ?_⟩
        refine ⟨_, _, (.tuple #[(.agg #[.slice A9 m.length c9, .int .i64 R]), .int .i64 (n : Int), .int .i64 0]), rfl, rfl, ⟨rfl, fun W hW => by first | exact ⟨rfl, rfl⟩ | (simp only [Act.eval, execOp]; go_simp; try exact ⟨rfl, rfl⟩)⟩, ?_⟩
        simp only [Act.put, List.setIfInBounds_toArray, List.set_cons_succ, List.set_cons_zero]
        refine ⟨_, _, (.agg #[.slice A9 m.length c9, .int .i64 R]), rfl, rfl, ⟨rfl, fun W hW => by first | exact ⟨rfl, rfl⟩ | (simp only [Act.eval, execOp]; go_simp; try exact ⟨rfl, rfl⟩)⟩, ?_⟩
        simp only [Act.put, List.setIfInBounds_toArray, List.set_cons_succ, List.set_cons_zero]
        refine ⟨_, _, .int .i64 (n : Int), rfl, rfl, ⟨rfl, fun W hW => by first | exact ⟨rfl, rfl⟩ | (simp only [Act.eval, execOp]; go_simp; try exact ⟨rfl, rfl⟩)⟩, ?_⟩
        simp only [Act.put, List.setIfInBounds_toArray, List.set_cons_succ, List.set_cons_zero]
        refine ⟨_, _, .int .i64 0, rfl, rfl, ⟨rfl, fun W hW => by first | exact ⟨rfl, rfl⟩ | (simp only [Act.eval, execOp]; go_simp; try exact ⟨rfl, rfl⟩)⟩, ?_⟩
        simp only [Act.put, List.setIfInBounds_toArray, List.set_cons_succ, List.set_cons_zero]
        have hB9 := ((hBc4.setCell (p := ⟨w8.heap.size, 0, none⟩) (hle_w8) (.slice A9 m.length c9)).setCell (p := ⟨w8.heap.size, 1, none⟩) (hle_w8) (.int .i64 R))
        have hS9 := stB_put (room := R) hrw4 N9 hcap9
        refine ⟨_, rfl, ?_⟩
        go_wp2_with fail
        refine ⟨rfl, hB9, ?_⟩
        refine ⟨_, rfl, ?_⟩
        go_wp2_with fail
        refine ⟨rfl, hB9, ?_⟩
        refine ⟨_, rfl, ?_⟩
        go_wp2_with fail
        refine ⟨rfl, hB9, ?_⟩
        show ∃ (A8 : Option Addr) (c8 : Nat) (A9 : Option Addr) (c9 b9 : Nat), _
        refine ⟨A8, c8, A9, c9, w8.heap.size, ?_, hS9, hB9⟩
        first | rfl | simp only [Act.put, List.setIfInBounds_toArray, List.set_cons_succ, List.set_cons_zero]
    · skip
      refine ⟨_, rfl, ?_⟩
      have hBa1 := ((below_drew v2)).alloc (Nat.le_refl _) (.cells #[.slice none 0 0, .int .i64 0] 26)
      have hra1 : (v2.drew.alloc (.cells #[.slice none 0 0, .int .i64 0] 26 (0, 0))).heap[v2.heap.size]? = _ := heap_alloc_new v2.drew (.cells #[.slice none 0 0, .int .i64 0] 26 (0, 0))
      go_wp2_with fail
      refine ⟨rfl, hBa1, ?_⟩
      refine ⟨_, rfl, ?_⟩
      go_wp2_with fail
      refine (hset _ hBa1).mono ?_
      intro e w8 h
      obtain ⟨_, rfl, ⟨A8, c8, rfl, hc8, hR8⟩, hb⟩ := h
      have hBc6 := Qt.more hBa1 (hBa1).size hb
      have hrw6 := (hb.block _ (lt_heap6 hra1)).trans hra1
      have hb_0_6 := hb
      go_wp2_with fail
      refine ⟨rfl, hBc6, ?_⟩
      refine ⟨_, _, .int .i64 q, rfl, rfl, ⟨rfl, fun W hW => by simp only [execOp]; go_simp; exact (hpk W).mono fun e w1 h => ⟨h.1, h.2.symm⟩⟩, ?_⟩
      simp only [Act.put, List.setIfInBounds_toArray, List.set_cons_succ, List.set_cons_zero]
      refine ⟨_, _, .int .i64 (4 + q), rfl, rfl, ⟨rfl, fun W hW => by first | exact ⟨rfl, rfl⟩ | (simp only [Act.eval, execOp]; go_simp; try exact ⟨rfl, rfl⟩)⟩, ?_⟩
      simp only [Act.put, List.setIfInBounds_toArray, List.set_cons_succ, List.set_cons_zero]
      refine ⟨_, rfl, ?_⟩
      go_wp2_with fail
      refine (hmk A8 c8 _ hBc6 ((Cel.Rd.below hR8 ((Below.refl w8.heap.size w8)) (Nat.le_refl _)).more ((Below.refl w8.heap.size w8)).size) hc8).mono ?_
      intro e w9 h
      obtain ⟨A9, c9, rfl, hcap9, N9, hb⟩ := putR_box h
      clear h
      have hBc7 := Qt.more hBc6 (hBc6).size hb
      have hrw7 := (hb.block _ (lt_heap6 hrw6)).trans hrw6
      have hb_1_7 := hb
      have f0 : w9.frozen? ⟨v2.heap.size, 0, none⟩ = false := Lib.frozen_of_heap hrw7 0
      have f1 : w9.frozen? ⟨v2.heap.size, 1, none⟩ = false := Lib.frozen_of_heap hrw7 1
      have g0 : w9.cell? ⟨v2.heap.size, 0, none⟩ = some (.slice none 0 0) := by rw [Lib.cell_of_heap hrw7]; rfl
      have g1 : w9.cell? ⟨v2.heap.size, 1, none⟩ = some (.int .i64 0) := by rw [Lib.cell_of_heap hrw7]; rfl
      go_wp2_with fail
      refine ⟨rfl, hBc7, ?_⟩
      refine ⟨_, _, (.tuple #[(.agg #[.slice A9 m.length c9, .int .i64 R]), .int .i64 (n : Int), .int .i64 0]), rfl, rfl, ⟨rfl, fun W hW => by first | exact ⟨rfl, rfl⟩ | (simp only [Act.eval, execOp]; go_simp; try exact ⟨rfl, rfl⟩)⟩, ?_⟩
      simp only [Act.put, List.setIfInBounds_toArray, List.set_cons_succ, List.set_cons_zero]
      refine ⟨_, _, (.agg #[.slice A9 m.length c9, .int .i64 R]), rfl, rfl, ⟨rfl, fun W hW => by first | exact ⟨rfl, rfl⟩ | (simp only [Act.eval, execOp]; go_simp; try exact ⟨rfl, rfl⟩)⟩, ?_⟩
      simp only [Act.put, List.setIfInBounds_toArray, List.set_cons_succ, List.set_cons_zero]
      refine ⟨_, _, .int .i64 (n : Int), rfl, rfl, ⟨rfl, fun W hW => by first | exact ⟨rfl, rfl⟩ | (simp only [Act.eval, execOp]; go_simp; try exact ⟨rfl, rfl⟩)⟩, ?_⟩
      simp only [Act.put, List.setIfInBounds_toArray, List.set_cons_succ, List.set_cons_zero]
      refine ⟨_, _, .int .i64 0, rfl, rfl, ⟨rfl, fun W hW => by first | exact ⟨rfl, rfl⟩ | (simp only [Act.eval, execOp]; go_simp; try exact ⟨rfl, rfl⟩)⟩, ?_⟩
      simp only [Act.put, List.setIfInBounds_toArray, List.set_cons_succ, List.set_cons_zero]
      have hB9 := ((hBc7.setCell (p := ⟨v2.heap.size, 0, none⟩) (Nat.le_refl _) (.slice A9 m.length c9)).setCell (p := ⟨v2.heap.size, 1, none⟩) (Nat.le_refl _) (.int .i64 R))
      have hS9 := stB_put (room := R) hrw7 N9 hcap9
      refine ⟨_, rfl, ?_⟩
      go_wp2_with fail
      refine ⟨rfl, hB9, ?_⟩
      refine ⟨_, rfl, ?_⟩
      go_wp2_with fail
      refine ⟨rfl, hB9, ?_⟩
      refine ⟨_, rfl, ?_⟩
      go_wp2_with fail
      refine ⟨rfl, hB9, ?_⟩
      show ∃ (A8 : Option Addr) (c8 : Nat) (A9 : Option Addr) (c9 b9 : Nat), _
      refine ⟨A8, c8, A9, c9, v2.heap.size, ?_, hS9, hB9⟩
      first | rfl | simp only [Act.put, List.setIfInBounds_toArray, List.set_cons_succ, List.set_cons_zero]
  rintro a9 w3 ⟨A8, c8, A9, c9, b9, rfl, hS9, hb9⟩
  simp only [Act.put, List.setIfInBounds_toArray, List.set_cons_succ, List.set_cons_zero]
  have HS := Lib.hid hS9
  have HBF := Lib.hid (Qt.more HB2.out HB2.out.size hb9)
  have hrow3 := (hb9.block _ (lt_heap6 HROW2.out)).trans HROW2.out
  have g0 := HS.out.s0
  have g1 := HS.out.s1
  have r0 : w3.cell? ⟨w.heap.size, 0, none⟩ = some (.slice none 0 0) := by rw [Lib.cell_of_heap hrow3]; rfl
  have r1 : w3.cell? ⟨w.heap.size, 1, none⟩ = some (.int .i64 0) := by rw [Lib.cell_of_heap hrow3]; rfl
  have f0 := Lib.frozen_of_heap hrow3 0
  have f1 := Lib.frozen_of_heap hrow3 1
  have HT := Lib.hid (stB_put (room := R) hrow3 HS.out.rd HS.out.cap)
  have HBE := Lib.hid ((HBF.out.setCell (p := ⟨w.heap.size, 0, none⟩) (Nat.le_refl _) (.slice A9 m.length c9)).setCell (p := ⟨w.heap.size, 1, none⟩) (Nat.le_refl _) (.int .i64 R))
  clear hset hmk hS9 hb9 HS HBF hrow3
  go_wp2_with fail
  clear r0 r1 f0 f1 g0 g1
  refine bodyPost_ret (results_cell2 rfl _ _ _ _ _ _ _ rfl HT.out.row Tryz.underlying26 rfl (by kernel_rfl)) rfl ?_
  exact ⟨A9, c9, rfl, HT.out.cap, HT.out.rd, HBE.out⟩
end Go.Proofs.YtmmaeikeafemaaaGreat
namespace Go.Proofs.YtmmaeikeafemaaaGreat
set_option maxRecDepth 100000
set_option linter.unusedVariables false
set_option linter.unusedSimpArgs false
open Go.RowKit Go.Sort

theorem eqlBox7 (x y u v : Int) (w : World) : (binOp .eql 45 (.agg #[.int .i64 x, .int .i64 y, .int .i64 u, .int .i64 v]) (.agg #[.int .i64 x, .int .i64 y, .int .i64 u, .int .i64 v])).run Tryz.prog w = .ok (.bool true) w := by
  have u3 := Tryz.underlying3
  have a3 := Tryz.isAgg3
  have z3 := Tryz.sizeOf3
  have hS : Tryz.prog.underlying 45 = some (.struct (Tryz.prog.fieldsOf 45)) := by kernel_rfl
  have hp : Tryz.prog.stoodInHeld 45 = false := by kernel_rfl
  rw [run_eql_struct, show (10000 : Nat) = 9999 + 1 from rfl, run_equalIn_agg w 9999 _ _ _ hS hp]
  simp only [Program.fieldsOf, Tryz.underlying45]
  go_simp
theorem neqBox7 (x y u v : Int) (w : World) : (binOp .neq 45 (.agg #[.int .i64 x, .int .i64 y, .int .i64 u, .int .i64 v]) (.agg #[.int .i64 x, .int .i64 y, .int .i64 u, .int .i64 v])).run Tryz.prog w = .ok (.bool false) w := by
  have h := eqlBox7 x y u v w
  rw [run_eql_struct] at h
  rw [run_neq_struct]
  cases hq : (Op.equalIn 10000 45 (.agg #[.int .i64 x, .int .i64 y, .int .i64 u, .int .i64 v]) (.agg #[.int .i64 x, .int .i64 y, .int .i64 u, .int .i64 v])).run Tryz.prog w with
  | ok b w' =>
    rw [hq] at h
    simp only [Result.andThen_ok] at h ⊢
    injection h with h1 h2
    injection h1 with h1
    rw [h1, h2]
    rfl
  | _ => rw [hq] at h; cases h
theorem StB.other7 {W : World} {ba bb : Nat} {A : Option Addr} {l : List Nd} {c : Nat} {ro : Int} {x y : Value} (h : StB W ba A l c ro) (hrow : W.heap[bb]? = some (.cells #[x, y] 26 (0, 0))) (hne : ba ≠ bb) (u v : Value) : StB ((W.setCell ⟨bb, 0, none⟩ u).setCell ⟨bb, 1, none⟩ v) ba A l c ro :=
  ⟨((Below.heap_setCell _ _ _ _ (by show ba ≠ bb; exact hne)).trans (Below.heap_setCell _ _ _ _ (by show ba ≠ bb; exact hne))).trans h.row, (rdN_told h.rd hrow).more (by simp [World.setCell]), h.cap⟩
theorem set2_row7 {W : World} {ba bb : Nat} {o : Obj} (h : W.heap[bb]? = some o) (hne : bb ≠ ba) (u v : Value) : ((W.setCell ⟨ba, 0, none⟩ u).setCell ⟨ba, 1, none⟩ v).heap[bb]? = some o :=
  ((Below.heap_setCell _ _ _ _ (by show bb ≠ ba; exact hne)).trans (Below.heap_setCell _ _ _ _ (by show bb ≠ ba; exact hne))).trans h
theorem below_set27 {w W : World} {B b : Nat} (h : Below B w W) (hb : B ≤ b) (u v : Value) : Below B w ((W.setCell ⟨b, 0, none⟩ u).setCell ⟨b, 1, none⟩ v) := (h.setCell (p := ⟨b, 0, none⟩) hb u).setCell (p := ⟨b, 1, none⟩) hb v
/-- the document's Box -/
theorem refBox7_any (A : Option Addr) (l : List Nd) (c : Nat) (room n : Int) (w : World) (hR : RdN w w.heap.size A l) (hl : l.length ≤ 1000000) (hc : l.length ≤ c) (hw : ∀ i, i < l.length → -9223372036854775808 ≤ (l.getD i deadN).1 ∧ (l.getD i deadN).1 ≤ 9223372036854775807) :
    Calls Tryz.prog 14 #[storeV A l.length c room, .int .i64 n] w (BoxR (box7 l room n (hasB l n)) w) :=
  refBox7_of A l c room n w hR hl hc hw (fun hr m W hm hW => refBoxes_any A l c room hr m W hm hW) (fun hr m hm hp => boxF_nz hr m hm hp)
/-- two stores in a block -/
structure TwoB (W : World) (b : Nat) (A : Option Addr) (l : List Nd) (c : Nat) (ro : Int) (A' : Option Addr) (l' : List Nd) (c' : Nat) (ro' : Int) : Prop where
  row : W.heap[b]? = some (.cells #[.slice A l.length c, .int .i64 ro, .slice A' l'.length c', .int .i64 ro'] 26 (0, 0))
  r1 : NowN W A l
  r2 : NowN W A' l'
theorem TwoB.below {W W' : World} {b : Nat} {A : Option Addr} {l : List Nd} {c : Nat} {ro : Int} {A' : Option Addr} {l' : List Nd} {c' : Nat} {ro' : Int} (h : TwoB W b A l c ro A' l' c' ro') (hb : Below W.heap.size W W') : TwoB W' b A l c ro A' l' c' ro' :=
  ⟨(hb.block _ (lt_heap6 h.row)).trans h.row, h.r1.below hb, h.r2.below hb⟩
theorem TwoB.one {W : World} {b : Nat} {A : Option Addr} {l : List Nd} {c : Nat} {ro : Int} {A' : Option Addr} {l' : List Nd} {c' : Nat} {ro' : Int} (h : TwoB W b A l c ro A' l' c' ro') (hc : l.length ≤ c) (hc' : l'.length ≤ c') (P : List Nd → Prop) (hP : P l) (hP' : P l') {j : Nat} (hj : j < 2) :
    ∃ As ls cs rs, W.cell? ⟨b, j * 2, none⟩ = some (.slice As ls.length cs) ∧ W.cell? ⟨b, j * 2 + 1, none⟩ = some (.int .i64 rs) ∧ NowN W As ls ∧ ls.length ≤ cs ∧ P ls := by
  rcases (by omega : j = 0 ∨ j = 1) with rfl | rfl
  · exact ⟨A, l, c, ro, by rw [Lib.cell_of_heap h.row]; rfl, by rw [Lib.cell_of_heap h.row]; rfl, h.r1, hc, hP⟩
  · exact ⟨A', l', c', ro', by rw [Lib.cell_of_heap h.row]; rfl, by rw [Lib.cell_of_heap h.row]; rfl, h.r2, hc', hP'⟩
theorem addr_add0 (A : Option Addr) : A.map (·.add 0) = A := by
  cases A with
  | none => rfl
  | some a => rfl
theorem slice_to7 {A : Option Addr} {n c t : Nat} (ht : t ≤ c) (W : World) :
    (Instr.slice 29 (.slice A n c) none (some (.int .i64 (t : Int))) none).run Tryz.prog W = .ok (.slice A t c) W := by
  have hz : (t : Int) ≤ (c : Int) := by omega
  go_simp
  first | done | (rw [addr_add0]; simp) | simp [addr_add0]
theorem rdC_take {W : World} {B : Nat} {A : Option Addr} {l : List (Int × Int)} (h : RdC W B A l) (n : Nat) : RdC W B A (l.take n) := fun j hj => by
  rw [List.length_take] at hj
  have h0 := h j (by omega)
  rw [List.getD_eq_getElem?_getD, List.getElem?_take, if_pos (by omega), ← List.getD_eq_getElem?_getD]
  exact h0
/-- two numbers, three -/
def F2B (w : World) (b : Nat) (x y : Int) : Prop := w.heap[b]? = some (.cells #[.int .i64 x, .int .i64 y] 3 (0, 0))
def F3B (w : World) (b : Nat) (x y z : Int) : Prop := w.heap[b]? = some (.cells #[.int .i64 x, .int .i64 y, .int .i64 z] 3 (0, 0))
theorem F2B.one {w : World} {b : Nat} {x y : Int} (h : F2B w b x y) (P : Int → Prop) (hx : P x) (hy : P y) {j : Nat} (hj : j < 2) : ∃ m : Int, w.cell? ⟨b, j, none⟩ = some (.int .i64 m) ∧ P m := by
  rcases (by omega : j = 0 ∨ j = 1) with rfl | rfl
  · exact ⟨x, by rw [Lib.cell_of_heap h]; rfl, hx⟩
  · exact ⟨y, by rw [Lib.cell_of_heap h]; rfl, hy⟩
theorem F3B.one {w : World} {b : Nat} {x y z : Int} (h : F3B w b x y z) {j : Nat} (hj : j < 3) : ∃ m : Int, w.cell? ⟨b, j, none⟩ = some (.int .i64 m) := by
  rcases (by omega : j = 0 ∨ j = 1 ∨ j = 2) with rfl | rfl | rfl
  · exact ⟨x, by rw [Lib.cell_of_heap h]; rfl⟩
  · exact ⟨y, by rw [Lib.cell_of_heap h]; rfl⟩
  · exact ⟨z, by rw [Lib.cell_of_heap h]; rfl⟩
/-- two slices of cells in a block -/
structure L2B (w : World) (b : Nat) (A : Option Addr) (l : List (Int × Int)) (c : Nat) (A' : Option Addr) (l' : List (Int × Int)) (c' : Nat) : Prop where
  row : w.heap[b]? = some (.cells #[.slice A l.length c, .slice A' l'.length c'] 29 (0, 0))
  r1 : RdC w w.heap.size A l
  r2 : RdC w w.heap.size A' l'
theorem L2B.below {w w' : World} {b : Nat} {A : Option Addr} {l : List (Int × Int)} {c : Nat} {A' : Option Addr} {l' : List (Int × Int)} {c' : Nat} (h : L2B w b A l c A' l' c') (hb : Below w.heap.size w w') : L2B w' b A l c A' l' c' :=
  ⟨(hb.block _ (lt_heap6 h.row)).trans h.row, (Cel.Rd.below h.r1 hb (Nat.le_refl _)).more hb.size, (Cel.Rd.below h.r2 hb (Nat.le_refl _)).more hb.size⟩
theorem L2B.one {w : World} {b : Nat} {A : Option Addr} {l : List (Int × Int)} {c : Nat} {A' : Option Addr} {l' : List (Int × Int)} {c' : Nat} (h : L2B w b A l c A' l' c') (hc : l.length ≤ c) (hc' : l'.length ≤ c') (hl : l.length ≤ 60) (hl' : l'.length ≤ 60) {j : Nat} (hj : j < 2) :
    ∃ Aq q cq, w.cell? ⟨b, j, none⟩ = some (.slice Aq q.length cq) ∧ RdC w w.heap.size Aq q ∧ q.length ≤ cq ∧ q.length ≤ 60 := by
  rcases (by omega : j = 0 ∨ j = 1) with rfl | rfl
  · exact ⟨A, l, c, by rw [Lib.cell_of_heap h.row]; rfl, h.r1, hc, hl⟩
  · exact ⟨A', l', c', by rw [Lib.cell_of_heap h.row]; rfl, h.r2, hc', hl'⟩
/-- two cells in a block -/
def C2B (w : World) (b : Nat) (p q : Int × Int) : Prop := w.heap[b]? = some (.cells #[.int .i64 p.1, .int .i64 p.2, .int .i64 q.1, .int .i64 q.2] 28 (0, 0))
theorem C2B.one {w : World} {b : Nat} {p q : Int × Int} (h : C2B w b p q) (P : Int × Int → Prop) (hp : P p) (hq : P q) {j : Nat} (hj : j < 2) : ∃ x y : Int, w.cell? ⟨b, j * 2, none⟩ = some (.int .i64 x) ∧ w.cell? ⟨b, j * 2 + 1, none⟩ = some (.int .i64 y) ∧ P (x, y) := by
  rcases (by omega : j = 0 ∨ j = 1) with rfl | rfl
  · exact ⟨p.1, p.2, by rw [Lib.cell_of_heap h]; rfl, by rw [Lib.cell_of_heap h]; rfl, hp⟩
  · exact ⟨q.1, q.2, by rw [Lib.cell_of_heap h]; rfl, by rw [Lib.cell_of_heap h]; rfl, hq⟩
/-- What the law keeps in the round of a cell: two boxes for stores, the two cells. -/
structure SeBt (x0 W : World) (ga gb cb : Nat) (kx ky ax ay : Int) : Prop where
  ga_ : ∃ (x : Value) (y : Int), W.heap[ga]? = some (.cells #[x, .int .i64 y] 26 (0, 0))
  gb_ : ∃ (x : Value) (y : Int), W.heap[gb]? = some (.cells #[x, .int .i64 y] 26 (0, 0))
  cc : C2B W cb (kx, ky) (ax, ay)
  bel : Below x0.heap.size x0 W
theorem SeBt.below {x0 W W' : World} {ga gb cb : Nat} {kx ky ax ay : Int} (h : SeBt x0 W ga gb cb kx ky ax ay) (hb : Below W.heap.size W W') : SeBt x0 W' ga gb cb kx ky ax ay := by
  obtain ⟨⟨x, y, h1⟩, ⟨u, v, h2⟩, h3, h4⟩ := h
  exact ⟨⟨x, y, (hb.block _ (lt_heap6 h1)).trans h1⟩, ⟨u, v, (hb.block _ (lt_heap6 h2)).trans h2⟩, (hb.block _ (lt_heap6 h3)).trans h3, Qt.more h4 h4.size hb⟩
/-! ### how long what is answered is -/
theorem grown6_small {l : List Nd} {room : Int} {z : List Nd × Int × Int} (hl : l.length ≤ 1000000) (hz : Right6 l room → Right6 z.1 room) : (grown6 l room z).1.length ≤ 1000000 := by
  unfold grown6
  split
  · next h =>
    have := (hz (right_iff.1 h)).small
    split
    · omega
    · exact hl
  · exact hl
theorem make7_small {l : List Nd} {room : Int} (S : List (Int × Int)) (lev : Int) (hl : l.length ≤ 1000000) : (make7 l room S lev).1.length ≤ 1000000 := by
  unfold make7
  refine grown6_small hl fun hr => ?_
  unfold makeZ
  split
  · split
    · exact build_right _ _ _ hr
    · exact hr
  · exact hr
theorem set7_small {l : List Nd} {room : Int} (n : Int) (c : Int × Int) (a : Bool) (hl : l.length ≤ 1000000) : (set7 l room n c a).1.length ≤ 1000000 := by
  unfold set7
  refine grown6_small hl fun hr => ?_
  unfold setZ
  split
  · split
    · exact setC_right _ _ _ _ _ hr
    · exact hr
  · exact hr
theorem grow7_small {l : List Nd} {room : Int} (n : Int) (hl : l.length ≤ 1000000) : (grow7 l room n).1.length ≤ 1000000 := by
  unfold grow7
  refine grown6_small hl fun hr => ?_
  unfold growZ
  split
  · unfold growC
    split
    · exact four_right (fun i l' _ h' => put_right h' _) (emptyTo_right7 hr _)
    · exact emptyTo_right7 hr _
  · exact hr
theorem cells7_small (l : List Nd) (room n : Int) : (cells7 l room n).1.length ≤ 1000000 := by
  unfold cells7
  split
  · next h =>
    split
    · exact Nat.zero_le _
    · next hp =>
      split
      · exact Nat.zero_le _
      · obtain ⟨h1, h2⟩ := Bool.and_eq_true_iff.1 h
        have hR := right_iff.1 h1
        unfold hasB at h2
        obtain ⟨a1, a2, a3⟩ := of_decide_eq_true h2
        obtain ⟨k, rfl⟩ : ∃ k : Nat, n = (k : Int) := ⟨n.toNat, by omega⟩
        rw [ndAt_nat] at *
        have hIs : Is l (((l.getD k deadN).1.toNat - 1) + 1) k := ⟨by omega, by omega⟩
        have h3 := flat_pop hR _ k (-(2 ^ ((l.getD k deadN).1.toNat - 1)), -(2 ^ ((l.getD k deadN).1.toNat - 1))) hIs
        have h4 := Cel.length_setL (about7 l ((l.getD k deadN).1.toNat - 1) k)
        rw [Int.toNat_natCast]
        show (Cel.setL (about7 l ((l.getD k deadN).1.toNat - 1) k)).length ≤ _
        unfold about7 at h4 ⊢
        omega
  · exact Nat.zero_le _
end Go.Proofs.YtmmaeikeafemaaaGreat
namespace Go.Proofs.YtmmaeikeafemaaaGreat
set_option linter.unusedVariables false
open Go.ChangeShapes Go.WideShapes Go.ChangeAt Go.RowKit Go.Deep

theorem i64_wf6 {a : Int} (h : (Lit.int .i64 a).wf = true) : I64 a := by
  have : IntKind.i64.min ≤ a ∧ a ≤ IntKind.i64.max := by simpa [Lit.wf] using h
  simpa [I64, IntKind.min, IntKind.max, IntKind.signed, IntKind.bits] using this

section
variable {H : Type} {enc : TypeId × Value → H} {w : World} {base : Nat} {spare : Nat → Bool} {held : Bool} {P : Program}
theorem exists_list6 {α : Type} (d : α) {n : Nat} {Q : Nat → α → Prop} (h : ∀ i, i < n → ∃ p, Q i p) : ∃ l : List α, l.length = n ∧ ∀ i, i < n → Q i (l.getD i d) := by
  induction n with
  | zero => exact ⟨[], rfl, fun i hi => absurd hi (Nat.not_lt_zero i)⟩
  | succ n ih =>
    obtain ⟨l, hl, hq⟩ := ih fun i hi => h i (by omega)
    obtain ⟨p, hp⟩ := h n (by omega)
    refine ⟨l ++ [p], by simp [hl], fun i hi => ?_⟩
    by_cases hin : i < n
    · rw [List.getD_eq_getElem?_getD, List.getElem?_append_left (by omega), ← List.getD_eq_getElem?_getD]
      exact hq i hin
    · have : i = n := by omega
      subst this
      rw [List.getD_eq_getElem?_getD, List.getElem?_append_right (by omega), hl]
      simpa using hp
/-- an array of numbers -/
theorem ints_in {t e : TypeId} {n fuel : Nat} {cs : List Value} {x : DataW H × List MemPlace} (ht : P.underlying t = some (.array n e)) (he : P.underlying e = some (.int .i64)) (h1 : P.cellsOf e = 1) (hn : P.cellsOf t = n)
    (h : DataW.trod enc P w base spare held fuel t cs = some x) : ∃ l : List Int, l.length = n ∧ cs = l.map (Value.int .i64) ∧ ∀ i, i < n → I64 (l.getD i 0) := by
  obtain ⟨xs, m, _, _, hlen, hxl, hx⟩ := DataW.trod_array ht h
  rw [hn] at hlen
  have hq : ∀ i, i < n → ∃ u : Int, cs[i]? = some (.int .i64 u) ∧ I64 u := by
    intro i hi
    have h2 := hx i hi
    rw [h1, List.getElem?_eq_getElem (by omega)] at h2
    obtain ⟨u, hu, _, wu⟩ := DataW.trod_int he h2
    refine ⟨u, ?_, i64_wf6 wu⟩
    have h3 : ((cs.drop (i * 1)).take 1)[0]? = some (.int .i64 u) := by rw [hu]; rfl
    simpa using h3
  obtain ⟨l, hl, hlq⟩ := exists_list6 0 hq
  refine ⟨l, hl, ?_, fun i hi => (hlq i hi).2⟩
  refine List.ext_getElem? fun i => ?_
  by_cases hi : i < n
  · rw [(hlq i hi).1, List.getElem?_map, List.getElem?_eq_getElem (by omega), List.getD_eq_getElem?_getD, List.getElem?_eq_getElem (by omega)]
    rfl
  · rw [List.getElem?_eq_none (by omega), List.getElem?_eq_none (by rw [List.length_map]; omega)]
/-- a slice whose elements take some cells each -/
theorem els_in {α : Type} (dec : α → List Value) (d : α) (Q : α → Prop) (n : Nat) (hn0 : 0 < n) {t e : TypeId} {fuel : Nat} {a0 : Option Addr} {len0 cap0 : Nat} {x : DataW H × List MemPlace} (hdec : ∀ a, (dec a).length = n) (ht : P.underlying t = some (.slice e)) (hn : P.cellsOf e = n)
    (he : ∀ fuel cs (y : DataW H × List MemPlace), DataW.trod enc P w base spare held fuel e cs = some y → ∃ a, cs = dec a ∧ Q a)
    (h : DataW.trod enc P w base spare held fuel t [.slice a0 len0 cap0] = some x) :
    ∃ l : List α, l.length = len0 ∧ len0 ≤ cap0 ∧ cap0 ≤ maxLen ∧ (∀ j, j < l.length → ∃ b off, a0 = some ⟨b, off, none⟩ ∧ b < w.heap.size ∧ ∀ i, i < n → w.cell? ⟨b, off + j * n + i, none⟩ = (dec (l.getD j d))[i]?) ∧ ∀ j, j < l.length → Q (l.getD j d) := by
  rcases open_slice ht h with ⟨hcs, _⟩ | ⟨a, len, cap, m, k, D, Pl, hcs, hb, hl, hm, hmm, _, hi⟩
  · simp at hcs
    obtain ⟨rfl, rfl, rfl⟩ := hcs
    exact ⟨[], rfl, Nat.le_refl _, by simp [maxLen], fun j hj => absurd hj (Nat.not_lt_zero j), fun j hj => absurd hj (Nat.not_lt_zero j)⟩
  · simp at hcs
    obtain ⟨rfl, rfl, rfl⟩ := hcs
    have hlm : len0 ≤ m := by rw [hmm]; split <;> omega
    have hq : ∀ i, i < len0 → ∃ p : α, (∀ q, q < n → w.cell? ((a.add (i * n)).add q) = (dec p)[q]?) ∧ Q p := by
      intro i hi'
      obtain ⟨cs', hc, ht'⟩ := hi i (by omega)
      rw [hn] at hc
      obtain ⟨p, rfl, hp⟩ := he _ _ _ ht'
      obtain ⟨_, _, hat⟩ := World.cells?_some hc
      exact ⟨p, fun q hq => hat q (by omega), hp⟩
    obtain ⟨l, hll, hlq⟩ := exists_list6 d hq
    refine ⟨l, hll, hl, hm, fun j hj => ?_, fun j hj => (hlq j (by omega)).2⟩
    obtain ⟨b, off, spot⟩ := a
    have hc := (hlq j (by omega)).1
    have h0 := hc 0 hn0
    rw [List.getElem?_eq_getElem (by rw [hdec]; exact hn0)] at h0
    have h00 := (hlq 0 (by omega)).1 0 hn0
    rw [List.getElem?_eq_getElem (by rw [hdec]; exact hn0)] at h00
    have hspot : spot = none := by simpa [Addr.add] using World.cell?_spot h00
    subst hspot
    refine ⟨b, off, rfl, ?_, fun i hi => ?_⟩
    · rw [Addr.add_lit] at h0
      exact block_lt_of_cell h0
    · have := hc i hi
      rw [Addr.add_lit, Addr.add_lit] at this
      exact this
/-- five numbers -/
def dec5 (r : Raw5) : List Value := [.int .i64 r.1, .int .i64 r.2.1, .int .i64 r.2.2.1, .int .i64 r.2.2.2.1, .int .i64 r.2.2.2.2]
def dec4 (k : Kd) : List Value := [.int .i64 k.1, .int .i64 k.2.1, .int .i64 k.2.2.1, .int .i64 k.2.2.2]
def Fine4 (k : Kd) : Prop := I64 k.1 ∧ I64 k.2.1 ∧ I64 k.2.2.1 ∧ I64 k.2.2.2
def FineN (x : Nd) : Prop := I64 x.1 ∧ Fine4 x.2.1 ∧ I64 x.2.2
theorem five_in {t e : TypeId} {fuel : Nat} {cs : List Value} {x : DataW H × List MemPlace} (ht : P.underlying t = some (.array 5 e)) (he : P.underlying e = some (.int .i64)) (h1 : P.cellsOf e = 1) (hn : P.cellsOf t = 5)
    (h : DataW.trod enc P w base spare held fuel t cs = some x) : ∃ r : Raw5, cs = dec5 r ∧ Fine5 r := by
  obtain ⟨l, hl, rfl, hI⟩ := ints_in ht he h1 hn h
  match l, hl with
  | [a, b, c, d, e], _ => exact ⟨(a, b, c, d, e), rfl, hI 0 (by decide), hI 1 (by decide), hI 2 (by decide), hI 3 (by decide), hI 4 (by decide)⟩
theorem four_in {t e : TypeId} {fuel : Nat} {cs : List Value} {x : DataW H × List MemPlace} (ht : P.underlying t = some (.array 4 e)) (he : P.underlying e = some (.int .i64)) (h1 : P.cellsOf e = 1) (hn : P.cellsOf t = 4)
    (h : DataW.trod enc P w base spare held fuel t cs = some x) : ∃ k : Kd, cs = dec4 k ∧ Fine4 k := by
  obtain ⟨l, hl, rfl, hI⟩ := ints_in ht he h1 hn h
  match l, hl with
  | [a, b, c, d], _ => exact ⟨(a, b, c, d), rfl, hI 0 (by decide), hI 1 (by decide), hI 2 (by decide), hI 3 (by decide)⟩
/-- a node: a number, four, a number -/
theorem node_in {t e t4 : TypeId} {f0 f1 f2 : Field} {fuel : Nat} {cs : List Value} {x : DataW H × List MemPlace} (ht : P.underlying t = some (.struct #[f0, f1, f2])) (e0 : f0.type = e) (e1 : f1.type = t4) (e2 : f2.type = e) (o0 : f0.offset = 0) (o1 : f1.offset = 1) (o2 : f2.offset = 5)
    (h4 : P.underlying t4 = some (.array 4 e)) (he : P.underlying e = some (.int .i64)) (h1 : P.cellsOf e = 1) (hn4 : P.cellsOf t4 = 4) (hn : P.cellsOf t = 6)
    (h : DataW.trod enc P w base spare held fuel t cs = some x) : ∃ a : Nd, cs = cellsN a ∧ FineN a := by
  obtain ⟨y0, y1, y2, m, _, hlen, k0, k1, k2⟩ := trod_struct3 ht h
  rw [hn] at hlen
  rw [e0, o0, h1] at k0
  rw [e1, o1, hn4] at k1
  rw [e2, o2, h1] at k2
  obtain ⟨a, hu, _, wu⟩ := DataW.trod_int he k0
  obtain ⟨k, hk, fk⟩ := four_in h4 he h1 hn4 k1
  obtain ⟨c, hv, _, wv⟩ := DataW.trod_int he k2
  match cs, hlen with
  | [x0, x1, x2, x3, x4, x5], _ =>
    refine ⟨(a, k, c), ?_, i64_wf6 wu, fk, i64_wf6 wv⟩
    simp [dec4] at hu hk hv
    simp [cellsN, hu, hk, hv]
end
theorem raws_in {H : Type} {enc : TypeId × Value → H} {w : World} {base : Nat} {spare : Nat → Bool} {held : Bool} {fuel : Nat} {a0 : Option Addr} {len0 cap0 : Nat} {x : DataW H × List MemPlace}
    (h : DataW.trod enc Tryz.prog w base spare held fuel 22 [.slice a0 len0 cap0] = some x) : ∃ l : List Raw5, l.length = len0 ∧ len0 ≤ cap0 ∧ cap0 ≤ maxLen ∧ RdR w w.heap.size a0 l ∧ ∀ j, j < l.length → Fine5 (l.getD j dead5) := by
  obtain ⟨l, h1, h2, h3, h4, h5⟩ := els_in dec5 dead5 Fine5 5 (by decide) (fun _ => rfl) Tryz.underlying22 (by kernel_rfl) (fun _ _ _ hy => five_in Tryz.underlying89 Tryz.underlying3 (by kernel_rfl) (by kernel_rfl) hy) h
  refine ⟨l, h1, h2, h3, fun j hj => ?_, h5⟩
  obtain ⟨b, off, e, hb, hc⟩ := h4 j hj
  exact ⟨b, off, e, hb, hc 0 (by decide), hc 1 (by decide), hc 2 (by decide), hc 3 (by decide), hc 4 (by decide)⟩
theorem nodes_in {H : Type} {enc : TypeId × Value → H} {w : World} {base : Nat} {spare : Nat → Bool} {held : Bool} {fuel : Nat} {a0 : Option Addr} {len0 cap0 : Nat} {x : DataW H × List MemPlace}
    (h : DataW.trod enc Tryz.prog w base spare held fuel 24 [.slice a0 len0 cap0] = some x) : ∃ l : List Nd, l.length = len0 ∧ len0 ≤ cap0 ∧ cap0 ≤ maxLen ∧ RdN w w.heap.size a0 l ∧ ∀ j, j < l.length → FineN (l.getD j deadN) := by
  obtain ⟨l, h1, h2, h3, h4, h5⟩ := els_in cellsN deadN FineN 6 (by decide) (fun _ => rfl) Tryz.underlying24 (by kernel_rfl) (fun _ _ _ hy => node_in Tryz.underlying57 rfl rfl rfl rfl rfl rfl Tryz.underlying55 Tryz.underlying3 (by kernel_rfl) (by kernel_rfl) (by kernel_rfl) hy) h
  refine ⟨l, h1, h2, h3, fun j hj => ?_, h5⟩
  obtain ⟨b, off, e, hb, hc⟩ := h4 j hj
  exact ⟨b, off, e, hb, hc 0 (by decide), hc 1 (by decide), hc 2 (by decide), hc 3 (by decide), hc 4 (by decide), hc 5 (by decide)⟩
end Go.Proofs.YtmmaeikeafemaaaGreat
namespace Go.Proofs.YtmmaeikeafemaaaGreat
set_option maxRecDepth 100000
set_option linter.unusedVariables false
open Go.ChangeShapes Go.WideShapes Go.ChangeAt Go.RowKit Go.Deep
theorem own : ownKnob Tryz.prog.godebug = none := by kernel_rfl
theorem laidOut : laidOutB Tryz.prog = true := by kernel_rfl
section
variable {H : Type} {enc : TypeId × Value → H} {W : World} {base : Nat} {spare : Nat → Bool} {held : Bool} {P : Program}
end
end Go.Proofs.YtmmaeikeafemaaaGreat
namespace Go.Proofs.YtmmaeikeafemaaaGreat
set_option maxRecDepth 100000
set_option linter.unusedVariables false
open Go.ChangeShapes Go.WideShapes Go.ChangeAt Go.RowKit Go.Deep
theorem num_in {H : Type} {enc : TypeId × Value → H} {w : World} {base : Nat} {spare : Nat → Bool} {held : Bool} {P : Program} {t : TypeId} {fuel : Nat} {cs : List Value} {x : DataW H × List MemPlace} (he : P.underlying t = some (.int .i64))
    (h : DataW.trod enc P w base spare held fuel t cs = some x) : ∃ a : Int, cs = [.int .i64 a] ∧ I64 a := by
  obtain ⟨a, hu, _, wu⟩ := DataW.trod_int he h
  exact ⟨a, hu, i64_wf6 wu⟩
theorem store_val {H : Type} {enc : TypeId × Value → H} {W : World} {base b0 : Nat} {spare : Nat → Bool} {held : Bool} {r : Reach} {v : Value} {d : DataW H} {ps : List MemPlace}
    (hv : Value.okWide Tryz.prog W r b0 26 v) (h : DataW.Trod enc Tryz.prog W base spare held 26 v d ps) :
    ∃ (a : Option Addr) (l : List Nd) (c : Nat) (room : Int), v = storeV a l.length c room ∧ l.length ≤ c ∧ c ≤ maxLen ∧ RdN W W.heap.size a l ∧ (∀ j, j < l.length → FineN (l.getD j deadN)) ∧ I64 room := by
  obtain ⟨xs, rfl, hsz⟩ := okWide_struct Tryz.underlying26 hv
  obtain ⟨fuel, hf⟩ := h
  obtain ⟨y0, y1, n, _, hl, k0, k1⟩ := trod_struct2 Tryz.underlying26 hf
  have hsz2 : xs.size = 2 := hsz.trans (by kernel_rfl)
  obtain ⟨x0, x1, rfl⟩ : ∃ x0 x1, xs = #[x0, x1] := by
    obtain ⟨l⟩ := xs
    match l, hsz2 with
    | [a, b], _ => exact ⟨a, b, rfl⟩
  have k0' : DataW.trod enc Tryz.prog W base spare held n 24 [x0] = some y0 := k0
  have k1' : DataW.trod enc Tryz.prog W base spare held n 3 [x1] = some y1 := k1
  obtain ⟨room, hroom, hI⟩ := num_in Tryz.underlying3 k1'
  have hx1 : x1 = .int .i64 room := by simpa using hroom
  subst hx1
  have hsl : ∃ a len cap, x0 = .slice a len cap := by
    rcases open_slice Tryz.underlying24 k0' with ⟨hcs, _⟩ | ⟨a, len, cap, m, k, D, Pl, hcs, _⟩
    · exact ⟨none, 0, 0, by simpa using hcs⟩
    · exact ⟨_, _, _, by simpa using hcs⟩
  obtain ⟨a, len, cap, rfl⟩ := hsl
  obtain ⟨l, rfl, h2, h3, h4, h5⟩ := nodes_in k0'
  exact ⟨a, l, cap, room, rfl, h2, h3, h4, h5, hI⟩
end Go.Proofs.YtmmaeikeafemaaaGreat
