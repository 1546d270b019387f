/-
  Texts that the claims of this seat share, part 22.
-/
import Derived.Test.YtikgnjcjbjafaaaB21
import Derived.Test.YtikgnjcjbjafaaaB17
import Derived.Laws.ResultCell
import Derived.BigRegion
import Derived.Test.YtikgnjcjbjafaaaB16
set_option linter.unusedVariables false
set_option linter.unusedSimpArgs false
namespace Go.Proofs.Ytikgnjcjbjafaaa
set_option maxRecDepth 100000
set_option linter.unusedVariables false
set_option linter.unusedSimpArgs false
open Go.RowKit Go.Sort

theorem make_ok2 {l : List Nd} {room : Int} {e : Nat} {S : List (Int × Int)} (hr : Right6 l room) (hlow : e ≤ 41) (hS : Cel.rightB S = true) (hin : ∀ s ∈ S, insideB e s = true) (hroom : ((l.length + S.length * (e + 1) + (e + 1) : Nat) : Int) ≤ room) :
    ∃ (m : List Nd) (n t : Nat), make7 l room S ((e : Int) + 1) = (m, (n : Int), 0) ∧ Grows l m ∧ Sq m room e n S ∧ t ≤ e + 1 ∧ (∃ x, Emp m t x) ∧ m.length ≤ l.length + S.length * (e + 1) + t := by
  obtain ⟨m, n, h', e1, hm⟩ := build_res (room := room) (K := e + 1) (by omega) (e + 1) (Nat.le_refl _) l 0 (S.map (inwardC e)) hr (by omega) ⟨0, rfl⟩ (by rw [List.length_map]; omega)
  refine ⟨m, n, h', ?_, hm.grows, ⟨hm.right, hm.is, hlow, hS, hin, hm.alive⟩, hm.hi, hm.emp, ?_⟩
  · unfold make7 grown6
    rw [if_pos (right_iff.2 hr), makeZ_yes hlow hS hin, e1, if_pos rfl]
  · have := hm.len
    rw [List.length_map] at *
    omega
/-- What Square tells. -/
structure SqL (room : Int) (raw : List Raw5) (rs : List (Int × Int)) (lev : Int) (R : Int) (m : List Nd) (n e t : Nat) : Prop where
  room_ : R = 2 + pick6 room 60 + 500
  rlo : 502 ≤ R
  rhi : R ≤ 561
  lev_ : 4 + pickI lev 4 = (e : Int) + 1
  elo : 3 ≤ e
  ehi : e ≤ 6
  made : make7 (store6 room raw) R (Cel.rawSet rs) (4 + pickI lev 4) = (m, (n : Int), 0)
  sq : Sq m R e n (Cel.rawSet rs)
  thi : t ≤ e + 1
  emp : ∃ x, Emp m t x
  len : (m.length : Int) ≤ R - 80 + t
  few : m.length ≤ 600
  set60 : (Cel.rawSet rs).length ≤ 60
theorem square_ok (room : Int) (raw : List Raw5) (rs : List (Int × Int)) (lev : Int) : ∃ R m n e t, SqL room raw rs lev R m n e t := by
  obtain ⟨hS, hSl⟩ := store_right room raw
  have hpb := pick6_bd room 60 (by decide)
  obtain ⟨hS1, hS2, hS3⟩ := raw_set rs
  have hq := pickI_bd lev 4 (by decide)
  obtain ⟨e, he, he6⟩ : ∃ e : Nat, 4 + pickI lev 4 = (e : Int) + 1 ∧ 3 ≤ e ∧ e ≤ 6 := ⟨(pickI lev 4 + 3).toNat, by omega, by omega, by omega⟩
  have hb : (Cel.rawSet rs).length * (e + 1) ≤ 60 * 7 := Nat.mul_le_mul hS2 (by omega)
  have hlr := hS.len
  obtain ⟨m, n, t, e1, g, sq, ht, hE, hlen⟩ := make_ok2 (l := store6 room raw) (room := 2 + pick6 room 60 + 500) (e := e) (hS.more (by omega) (by omega) (by omega)) (by omega) hS1 (hS3 e he6.1) (by omega)
  exact ⟨_, m, n, e, t, rfl, by omega, by omega, he, he6.1, he6.2, by rw [he]; exact e1, sq, ht, hE, by omega, by omega, hS2⟩
set_option maxHeartbeats 16000000 in
theorem square7_any {room : Int} {raw : List Raw5} {rs : List (Int × Int)} {lev R : Int} {m : List Nd} {n e t : Nat} (HL : SqL room raw rs lev R m n e t) (A : Option Addr) (c : Nat) (B : Option Addr) (d : Nat) (w : World) (hI : I64 room) (hR : RdR w w.heap.size A raw) (hl : raw.length ≤ 9223372036854775807) (hF : ∀ j, j < raw.length → Fine5 (raw.getD j dead5))
    (hB : RdC w w.heap.size B rs) (hBl : rs.length ≤ 9223372036854775807) (hBc : rs.length ≤ d) (hBw : ∀ p ∈ rs, Cel.I64 p.1 ∧ Cel.I64 p.2) (hL : I64 lev) :
    Calls Try.prog 14 #[.int .i64 room, .slice A raw.length c, .slice B rs.length d, .int .i64 lev] w fun r w' => ∃ A' c', r = .returned (.tuple #[.agg #[.slice A' m.length c', .int .i64 R], .int .i64 (n : Int)]) ∧ m.length ≤ c' ∧ NowN w' A' m ∧ Below w.heap.size w w' := by
  obtain ⟨hS, hSl⟩ := store_right room raw
  have hpb := pick6_bd room 60 (by decide)
  have hal0 := (Below.refl w.heap.size w).alloc (Nat.le_refl _) (.cells #[.slice none 0 0, .int .i64 0] 27)
  have hst := store6_any A raw c room _ ((hR.below hal0 (Nat.le_refl _)).more hal0.size) hl hI hF
  have hR0 := HL.room_
  have hrl := HL.rlo
  have hrh := HL.rhi
  obtain ⟨Q, hQ⟩ : ∃ Q, Q = 2 + pick6 room 60 := ⟨_, rfl⟩
  rw [← hQ] at hS hst hR0
  obtain ⟨l, hll⟩ : ∃ l, l = store6 room raw := ⟨_, rfl⟩
  have hma := HL.made
  rw [← hll] at hS hst hSl hma
  have hset1 := fun W hW => Cel.set_any B rs d W hW hBl hBc hBw
  obtain ⟨S, hSS⟩ : ∃ S, S = Cel.rawSet rs := ⟨_, rfl⟩
  have hS60 := HL.set60
  rw [← hSS] at hset1 hma hS60
  have hpk := fun W => pick7_any lev 4 W hL.1 hL.2 (by decide) (by decide)
  have hq := pickI_bd lev 4 (by decide)
  obtain ⟨q, hqq⟩ : ∃ q, q = pickI lev 4 := ⟨_, rfl⟩
  rw [← hqq] at hpk hq hma
  have hrow0 : (w.alloc (.cells #[.slice none 0 0, .int .i64 0] 27)).heap[w.heap.size]? = some (.cells #[.slice none 0 0, .int .i64 0] 27 (0, 0)) := heap_new rfl
  have HROW := Lib.hid hrow0
  have HAL := Lib.hid hal0
  have HRS := Lib.hid ((Cel.Rd.below hB hal0 (Nat.le_refl _)).more hal0.size)
  have hlv := lev_bd hS
  have HLV := Lib.hid hlv
  have hw500 : IntKind.i64.wrap (Q + 500) = R := by rw [IntKind.wrap_i64]; omega
  have hw4 : IntKind.i64.wrap (4 + q) = 4 + q := by rw [IntKind.wrap_i64]; omega
  have HMA := Lib.hid hma
  have HSL := Lib.hid (show l.length ≤ 42 ∧ S.length ≤ 60 from ⟨hSl, hS60⟩)
  clear hrow0 hal0 hR hB hlv hma hSl hS60 hS hpb hQ hll hSS hqq HL hI hF hBw hL hR0 hBl hl
  go_enter Try.func14, Try.ntmps14
  go_wp2_with fail
  refine hst.mono ?_
  generalize (w.alloc (.cells #[.slice none 0 0, .int .i64 0] 27)) = w1 at *
  intro r w2 h
  obtain ⟨A2, c2, rfl, hcap2, N2, hb2⟩ := storeR_box h
  have hal := (Below.refl w2.heap.size w2).alloc (Nat.le_refl _) (.cells #[.slice A2 l.length c2, .int .i64 R] 27)
  have hb' := Qt.more (B := w1.heap.size) hb2 hb2.size hal
  have HS2 := Lib.hid (stB_new N2 hcap2 R)
  have HRS2 := Lib.hid ((HRS.out.below hb' (Nat.le_refl _)).more hb'.size)
  have HB2 := Lib.hid (Qt.more HAL.out HAL.out.size hb')
  have HROW2 := Lib.hid ((hb'.block _ (lt_heap6 HROW.out)).trans HROW.out)
  clear h hst hb2 hb' HRS N2 hal HROW
  go_wp2_with fail
  generalize (w2.alloc (.cells #[.slice A2 l.length c2, .int .i64 R] 27)) = v2 at *
  generalize w2.heap.size = b2 at *
  have hmk := fun A8 c8 W (hW : Below v2.heap.size v2 W) (hM : RdC W W.heap.size A8 S) (hc8 : S.length ≤ c8) => refMake7_any A2 l c2 R A8 S c8 (4 + q) W ((HS2.out.below hW).rd) (by have := HSL.out; omega) hcap2 HLV.out hM (by have := HSL.out; omega) hc8
  rw [HMA.out] at hmk
  unfold storeV at hmk
  have hset := fun W (hW : Below v2.heap.size v2 W) => hset1 W ((HRS2.out.below hW (Nat.le_refl _)).more hW.size)
  clear hset1 HMA
  refine region_calm_to (fun W => Below v2.heap.size v2 W) (fun (a0 a9 : Act) (w9 : World) => ∃ (A8 : Option Addr) (c8 : Nat) (A9 : Option Addr) (c9 b9 : Nat), a9 = ((((((((((((((a0.put (some 22) (.agg #[.slice A2 l.length c2, .int .i64 R])).put (some 23) (.slice B rs.length d)).put (some 25) (.int .i64 lev)).put (some 24) (.slice A8 S.length c8)).put (some 26) (.int .i64 q)).put (some 27) (.int .i64 (4 + q))).put (some 28) (.tuple #[(.agg #[.slice A9 m.length c9, .int .i64 R]), .int .i64 (n : Int), .int .i64 0])).put (some 21) (.tuple #[(.agg #[.slice A9 m.length c9, .int .i64 R]), .int .i64 (n : Int), .int .i64 0])).put (some 29) (.agg #[.slice A9 m.length c9, .int .i64 R])).put (some 30) (.int .i64 (n : Int))).put (some 31) (.int .i64 0)).put (some 11) (.pointer (some ⟨b9, 0, none⟩))).put (some 12) (.int .i64 (n : Int))).put (some 13) (.int .i64 0)) ∧ StB w9 b9 A9 m c9 R ∧ Below v2.heap.size v2 w9) (.calm 0 (.calm 1 (.calm 3 (.two 2 11 (.calm 4 (.calm 5 (.two 6 11 (.calm 7 (.calm 8 (.calm 9 (.calm 10 (.only 11 (.only 12 (.only 13 (.only 14 .done)))))))) (.only 6 (.calm 7 (.calm 8 (.calm 9 (.calm 10 (.only 12 (.only 13 (.only 14 .done))))))))))) (.only 2 (.calm 4 (.calm 5 (.only 6 (.calm 7 (.calm 8 (.calm 9 (.calm 10 (.only 12 (.only 13 (.only 14 .done))))))))))))))) (by kernel_rfl) (by kernel_rfl) (by kernel_rfl) (by rfl) (below_drew _) ?_ ?_
  · skip
    refine ⟨_, _, (.agg #[.slice A2 l.length c2, .int .i64 R]), rfl, rfl, ⟨rfl, fun W hW => by have s0 := (HS2.out.below hW).s0; have s1 := (HS2.out.below hW).s1; simp only [execOp]; go_simp; done⟩, ?_⟩
    simp only [Act.put, List.setIfInBounds_toArray, List.set_cons_succ, List.set_cons_zero]
    refine ⟨_, _, (.slice B rs.length d), rfl, rfl, ⟨rfl, fun W hW => by first | exact ⟨rfl, rfl⟩ | (simp only [Act.eval, execOp]; go_simp; try exact ⟨rfl, rfl⟩)⟩, ?_⟩
    simp only [Act.put, List.setIfInBounds_toArray, List.set_cons_succ, List.set_cons_zero]
    refine ⟨_, _, .int .i64 lev, rfl, rfl, ⟨rfl, fun W hW => by first | exact ⟨rfl, rfl⟩ | (simp only [Act.eval, execOp]; go_simp; try exact ⟨rfl, rfl⟩)⟩, ?_⟩
    simp only [Act.put, List.setIfInBounds_toArray, List.set_cons_succ, List.set_cons_zero]
    constructor
    · skip
      refine ⟨_, rfl, ?_⟩
      go_wp2_with fail
      refine (hset _ (below_drew v2)).mono ?_
      intro e w8 h
      obtain ⟨_, rfl, ⟨A8, c8, rfl, hc8, hR8⟩, hb⟩ := h
      have hBc1 := Qt.more (below_drew v2) (Nat.le_refl _) hb
      have hb_0_1 := hb
      go_wp2_with fail
      refine ⟨rfl, hBc1, ?_⟩
      refine ⟨_, _, .int .i64 q, rfl, rfl, ⟨rfl, fun W hW => by simp only [execOp]; go_simp; exact (hpk W).mono fun e w1 h => ⟨h.1, h.2.symm⟩⟩, ?_⟩
      simp only [Act.put, List.setIfInBounds_toArray, List.set_cons_succ, List.set_cons_zero]
      refine ⟨_, _, .int .i64 (4 + q), rfl, rfl, ⟨rfl, fun W hW => by first | exact ⟨rfl, rfl⟩ | (simp only [Act.eval, execOp]; go_simp; try exact ⟨rfl, rfl⟩)⟩, ?_⟩
      simp only [Act.put, List.setIfInBounds_toArray, List.set_cons_succ, List.set_cons_zero]
      constructor
      · skip
        refine ⟨_, rfl, ?_⟩
        go_wp2_with fail
        refine (hmk A8 c8 _ hBc1 ((Cel.Rd.below hR8 ((Below.refl w8.heap.size w8)) (Nat.le_refl _)).more ((Below.refl w8.heap.size w8)).size) hc8).mono ?_
        intro e w9 h
        obtain ⟨A9, c9, rfl, hcap9, N9, hb⟩ := putR_box h
        clear h
        have hBc2 := Qt.more hBc1 (hBc1).size hb
        have hb_1_2 := hb
        go_wp2_with fail
        refine ⟨rfl, hBc2, ?_⟩
        refine ⟨_, _, (.tuple #[(.agg #[.slice A9 m.length c9, .int .i64 R]), .int .i64 (n : Int), .int .i64 0]), rfl, rfl, ⟨rfl, fun W hW => by first | exact ⟨rfl, rfl⟩ | (simp only [Act.eval, execOp]; go_simp; try exact ⟨rfl, rfl⟩)⟩, ?_⟩
        simp only [Act.put, List.setIfInBounds_toArray, List.set_cons_succ, List.set_cons_zero]
        refine ⟨_, _, (.agg #[.slice A9 m.length c9, .int .i64 R]), rfl, rfl, ⟨rfl, fun W hW => by first | exact ⟨rfl, rfl⟩ | (simp only [Act.eval, execOp]; go_simp; try exact ⟨rfl, rfl⟩)⟩, ?_⟩
        simp only [Act.put, List.setIfInBounds_toArray, List.set_cons_succ, List.set_cons_zero]
        refine ⟨_, _, .int .i64 (n : Int), rfl, rfl, ⟨rfl, fun W hW => by first | exact ⟨rfl, rfl⟩ | (simp only [Act.eval, execOp]; go_simp; try exact ⟨rfl, rfl⟩)⟩, ?_⟩
        simp only [Act.put, List.setIfInBounds_toArray, List.set_cons_succ, List.set_cons_zero]
        refine ⟨_, _, .int .i64 0, rfl, rfl, ⟨rfl, fun W hW => by first | exact ⟨rfl, rfl⟩ | (simp only [Act.eval, execOp]; go_simp; try exact ⟨rfl, rfl⟩)⟩, ?_⟩
        simp only [Act.put, List.setIfInBounds_toArray, List.set_cons_succ, List.set_cons_zero]
        refine ⟨_, rfl, ?_⟩
        have hBa3 := (hBc2).alloc (hBc2).size (.cells #[.slice none 0 0, .int .i64 0] 27)
        have hra3 : (w9.alloc (.cells #[.slice none 0 0, .int .i64 0] 27 (0, 0))).heap[w9.heap.size]? = _ := heap_alloc_new w9 (.cells #[.slice none 0 0, .int .i64 0] 27 (0, 0))
        go_wp2_with fail
        refine ⟨rfl, hBa3, ?_⟩
        have hle_w9 : v2.heap.size ≤ w9.heap.size := (hBc2).size
        have hB9 := (hBc2).alloc (hBc2).size (.cells #[.slice A9 m.length c9, .int .i64 R] 27)
        have hS9 := stB_new N9 hcap9 R
        refine ⟨_, rfl, ?_⟩
        go_wp2_with fail
        refine ⟨rfl, hB9, ?_⟩
        refine ⟨_, rfl, ?_⟩
        go_wp2_with fail
        refine ⟨rfl, hB9, ?_⟩
        refine ⟨_, rfl, ?_⟩
        go_wp2_with fail
        refine ⟨rfl, hB9, ?_⟩
        show ∃ (A8 : Option Addr) (c8 : Nat) (A9 : Option Addr) (c9 b9 : Nat), _
        refine ⟨A8, c8, A9, c9, w9.heap.size, ?_, hS9, hB9⟩
        first | rfl | simp only [Act.put, List.setIfInBounds_toArray, List.set_cons_succ, List.set_cons_zero]
      · skip
        refine ⟨_, rfl, ?_⟩
        have hBa2 := (hBc1).alloc (hBc1).size (.cells #[.slice none 0 0, .int .i64 0] 27)
        have hra2 : (w8.alloc (.cells #[.slice none 0 0, .int .i64 0] 27 (0, 0))).heap[w8.heap.size]? = _ := heap_alloc_new w8 (.cells #[.slice none 0 0, .int .i64 0] 27 (0, 0))
        go_wp2_with fail
        refine ⟨rfl, hBa2, ?_⟩
        have hle_w8 : v2.heap.size ≤ w8.heap.size := (hBc1).size
        refine ⟨_, rfl, ?_⟩
        go_wp2_with fail
        refine (hmk A8 c8 _ hBa2 ((Cel.Rd.below hR8 ((((Below.refl w8.heap.size w8)).alloc ((Below.refl w8.heap.size w8)).size (.cells #[.slice none 0 0, .int .i64 0] 27))) (Nat.le_refl _)).more ((((Below.refl w8.heap.size w8)).alloc ((Below.refl w8.heap.size w8)).size (.cells #[.slice none 0 0, .int .i64 0] 27))).size) hc8).mono ?_
        intro e w9 h
        obtain ⟨A9, c9, rfl, hcap9, N9, hb⟩ := putR_box h
        clear h
        have hBc4 := Qt.more hBa2 (hBa2).size hb
        have hrw4 := (hb.block _ (lt_heap6 hra2)).trans hra2
        have hb_1_4 := hb
        have f0 : w9.frozen? ⟨w8.heap.size, 0, none⟩ = false := Lib.frozen_of_heap hrw4 0
        have f1 : w9.frozen? ⟨w8.heap.size, 1, none⟩ = false := Lib.frozen_of_heap hrw4 1
        have g0 : w9.cell? ⟨w8.heap.size, 0, none⟩ = some (.slice none 0 0) := by rw [Lib.cell_of_heap hrw4]; rfl
        have g1 : w9.cell? ⟨w8.heap.size, 1, none⟩ = some (.int .i64 0) := by rw [Lib.cell_of_heap hrw4]; rfl
        go_wp2_with fail
        refine ⟨rfl, hBc4, ?_⟩
        refine ⟨_, _, (.tuple #[(.agg #[.slice A9 m.length c9, .int .i64 R]), .int .i64 (n : Int), .int .i64 0]), rfl, rfl, ⟨rfl, fun W hW => by first | exact ⟨rfl, rfl⟩ | (simp only [Act.eval, execOp]; go_simp; try exact ⟨rfl, rfl⟩)⟩, ?_⟩
        simp only [Act.put, List.setIfInBounds_toArray, List.set_cons_succ, List.set_cons_zero]
        refine ⟨_, _, (.agg #[.slice A9 m.length c9, .int .i64 R]), rfl, rfl, ⟨rfl, fun W hW => by first | exact ⟨rfl, rfl⟩ | (simp only [Act.eval, execOp]; go_simp; try exact ⟨rfl, rfl⟩)⟩, ?_⟩
        simp only [Act.put, List.setIfInBounds_toArray, List.set_cons_succ, List.set_cons_zero]
        refine ⟨_, _, .int .i64 (n : Int), rfl, rfl, ⟨rfl, fun W hW => by first | exact ⟨rfl, rfl⟩ | (simp only [Act.eval, execOp]; go_simp; try exact ⟨rfl, rfl⟩)⟩, ?_⟩
        simp only [Act.put, List.setIfInBounds_toArray, List.set_cons_succ, List.set_cons_zero]
        refine ⟨_, _, .int .i64 0, rfl, rfl, ⟨rfl, fun W hW => by first | exact ⟨rfl, rfl⟩ | (simp only [Act.eval, execOp]; go_simp; try exact ⟨rfl, rfl⟩)⟩, ?_⟩
        simp only [Act.put, List.setIfInBounds_toArray, List.set_cons_succ, List.set_cons_zero]
        have hB9 := ((hBc4.setCell (p := ⟨w8.heap.size, 0, none⟩) (hle_w8) (.slice A9 m.length c9)).setCell (p := ⟨w8.heap.size, 1, none⟩) (hle_w8) (.int .i64 R))
        have hS9 := stB_put (room := R) hrw4 N9 hcap9
        refine ⟨_, rfl, ?_⟩
        go_wp2_with fail
        refine ⟨rfl, hB9, ?_⟩
        refine ⟨_, rfl, ?_⟩
        go_wp2_with fail
        refine ⟨rfl, hB9, ?_⟩
        refine ⟨_, rfl, ?_⟩
        go_wp2_with fail
        refine ⟨rfl, hB9, ?_⟩
        show ∃ (A8 : Option Addr) (c8 : Nat) (A9 : Option Addr) (c9 b9 : Nat), _
        refine ⟨A8, c8, A9, c9, w8.heap.size, ?_, hS9, hB9⟩
        first | rfl | simp only [Act.put, List.setIfInBounds_toArray, List.set_cons_succ, List.set_cons_zero]
    · skip
      refine ⟨_, rfl, ?_⟩
      have hBa1 := ((below_drew v2)).alloc (Nat.le_refl _) (.cells #[.slice none 0 0, .int .i64 0] 27)
      have hra1 : (v2.drew.alloc (.cells #[.slice none 0 0, .int .i64 0] 27 (0, 0))).heap[v2.heap.size]? = _ := heap_alloc_new v2.drew (.cells #[.slice none 0 0, .int .i64 0] 27 (0, 0))
      go_wp2_with fail
      refine ⟨rfl, hBa1, ?_⟩
      refine ⟨_, rfl, ?_⟩
      go_wp2_with fail
      refine (hset _ hBa1).mono ?_
      intro e w8 h
      obtain ⟨_, rfl, ⟨A8, c8, rfl, hc8, hR8⟩, hb⟩ := h
      have hBc6 := Qt.more hBa1 (hBa1).size hb
      have hrw6 := (hb.block _ (lt_heap6 hra1)).trans hra1
      have hb_0_6 := hb
      go_wp2_with fail
      refine ⟨rfl, hBc6, ?_⟩
      refine ⟨_, _, .int .i64 q, rfl, rfl, ⟨rfl, fun W hW => by simp only [execOp]; go_simp; exact (hpk W).mono fun e w1 h => ⟨h.1, h.2.symm⟩⟩, ?_⟩
      simp only [Act.put, List.setIfInBounds_toArray, List.set_cons_succ, List.set_cons_zero]
      refine ⟨_, _, .int .i64 (4 + q), rfl, rfl, ⟨rfl, fun W hW => by first | exact ⟨rfl, rfl⟩ | (simp only [Act.eval, execOp]; go_simp; try exact ⟨rfl, rfl⟩)⟩, ?_⟩
      simp only [Act.put, List.setIfInBounds_toArray, List.set_cons_succ, List.set_cons_zero]
      refine ⟨_, rfl, ?_⟩
      go_wp2_with fail
      refine (hmk A8 c8 _ hBc6 ((Cel.Rd.below hR8 ((Below.refl w8.heap.size w8)) (Nat.le_refl _)).more ((Below.refl w8.heap.size w8)).size) hc8).mono ?_
      intro e w9 h
      obtain ⟨A9, c9, rfl, hcap9, N9, hb⟩ := putR_box h
      clear h
      have hBc7 := Qt.more hBc6 (hBc6).size hb
      have hrw7 := (hb.block _ (lt_heap6 hrw6)).trans hrw6
      have hb_1_7 := hb
      have f0 : w9.frozen? ⟨v2.heap.size, 0, none⟩ = false := Lib.frozen_of_heap hrw7 0
      have f1 : w9.frozen? ⟨v2.heap.size, 1, none⟩ = false := Lib.frozen_of_heap hrw7 1
      have g0 : w9.cell? ⟨v2.heap.size, 0, none⟩ = some (.slice none 0 0) := by rw [Lib.cell_of_heap hrw7]; rfl
      have g1 : w9.cell? ⟨v2.heap.size, 1, none⟩ = some (.int .i64 0) := by rw [Lib.cell_of_heap hrw7]; rfl
      go_wp2_with fail
      refine ⟨rfl, hBc7, ?_⟩
      refine ⟨_, _, (.tuple #[(.agg #[.slice A9 m.length c9, .int .i64 R]), .int .i64 (n : Int), .int .i64 0]), rfl, rfl, ⟨rfl, fun W hW => by first | exact ⟨rfl, rfl⟩ | (simp only [Act.eval, execOp]; go_simp; try exact ⟨rfl, rfl⟩)⟩, ?_⟩
      simp only [Act.put, List.setIfInBounds_toArray, List.set_cons_succ, List.set_cons_zero]
      refine ⟨_, _, (.agg #[.slice A9 m.length c9, .int .i64 R]), rfl, rfl, ⟨rfl, fun W hW => by first | exact ⟨rfl, rfl⟩ | (simp only [Act.eval, execOp]; go_simp; try exact ⟨rfl, rfl⟩)⟩, ?_⟩
      simp only [Act.put, List.setIfInBounds_toArray, List.set_cons_succ, List.set_cons_zero]
      refine ⟨_, _, .int .i64 (n : Int), rfl, rfl, ⟨rfl, fun W hW => by first | exact ⟨rfl, rfl⟩ | (simp only [Act.eval, execOp]; go_simp; try exact ⟨rfl, rfl⟩)⟩, ?_⟩
      simp only [Act.put, List.setIfInBounds_toArray, List.set_cons_succ, List.set_cons_zero]
      refine ⟨_, _, .int .i64 0, rfl, rfl, ⟨rfl, fun W hW => by first | exact ⟨rfl, rfl⟩ | (simp only [Act.eval, execOp]; go_simp; try exact ⟨rfl, rfl⟩)⟩, ?_⟩
      simp only [Act.put, List.setIfInBounds_toArray, List.set_cons_succ, List.set_cons_zero]
      have hB9 := ((hBc7.setCell (p := ⟨v2.heap.size, 0, none⟩) (Nat.le_refl _) (.slice A9 m.length c9)).setCell (p := ⟨v2.heap.size, 1, none⟩) (Nat.le_refl _) (.int .i64 R))
      have hS9 := stB_put (room := R) hrw7 N9 hcap9
      refine ⟨_, rfl, ?_⟩
      go_wp2_with fail
      refine ⟨rfl, hB9, ?_⟩
      refine ⟨_, rfl, ?_⟩
      go_wp2_with fail
      refine ⟨rfl, hB9, ?_⟩
      refine ⟨_, rfl, ?_⟩
      go_wp2_with fail
      refine ⟨rfl, hB9, ?_⟩
      show ∃ (A8 : Option Addr) (c8 : Nat) (A9 : Option Addr) (c9 b9 : Nat), _
      refine ⟨A8, c8, A9, c9, v2.heap.size, ?_, hS9, hB9⟩
      first | rfl | simp only [Act.put, List.setIfInBounds_toArray, List.set_cons_succ, List.set_cons_zero]
  rintro a9 w3 ⟨A8, c8, A9, c9, b9, rfl, hS9, hb9⟩
  simp only [Act.put, List.setIfInBounds_toArray, List.set_cons_succ, List.set_cons_zero]
  have HS := Lib.hid hS9
  have HBF := Lib.hid (Qt.more HB2.out HB2.out.size hb9)
  have hrow3 := (hb9.block _ (lt_heap6 HROW2.out)).trans HROW2.out
  have g0 := HS.out.s0
  have g1 := HS.out.s1
  have r0 : w3.cell? ⟨w.heap.size, 0, none⟩ = some (.slice none 0 0) := by rw [Lib.cell_of_heap hrow3]; rfl
  have r1 : w3.cell? ⟨w.heap.size, 1, none⟩ = some (.int .i64 0) := by rw [Lib.cell_of_heap hrow3]; rfl
  have f0 := Lib.frozen_of_heap hrow3 0
  have f1 := Lib.frozen_of_heap hrow3 1
  have HT := Lib.hid (stB_put (room := R) hrow3 HS.out.rd HS.out.cap)
  have HBE := Lib.hid ((HBF.out.setCell (p := ⟨w.heap.size, 0, none⟩) (Nat.le_refl _) (.slice A9 m.length c9)).setCell (p := ⟨w.heap.size, 1, none⟩) (Nat.le_refl _) (.int .i64 R))
  clear hset hmk hS9 hb9 HS HBF hrow3
  go_wp2_with fail
  clear r0 r1 f0 f1 g0 g1
  refine bodyPost_ret (results_cell2 rfl _ _ _ _ _ _ _ rfl HT.out.row Try.underlying27 rfl (by kernel_rfl)) rfl ?_
  exact ⟨A9, c9, rfl, HT.out.cap, HT.out.rd, HBE.out⟩
end Go.Proofs.Ytikgnjcjbjafaaa
namespace Go.Proofs.Ytikgnjcjbjafaaa.Cel
open Go.RowKit Go.Sort

/-- the least and the greatest X of the first k cells -/
def loX (l : List (Int × Int)) (k : Nat) : Int := (l.take k).foldl (fun m c => min m c.1) (l.getD 0 (0, 0)).1
def hiX (l : List (Int × Int)) (k : Nat) : Int := (l.take k).foldl (fun m c => max m c.1) (l.getD 0 (0, 0)).1
theorem loX_zero (l : List (Int × Int)) : loX l 0 = (l.getD 0 (0, 0)).1 := rfl
theorem hiX_zero (l : List (Int × Int)) : hiX l 0 = (l.getD 0 (0, 0)).1 := rfl
theorem loX_succ {l : List (Int × Int)} {k : Nat} (hk : k < l.length) : loX l (k + 1) = min (loX l k) (l.getD k (0, 0)).1 := by
  unfold loX; rw [take_snoc hk, List.foldl_append]; rfl
theorem hiX_succ {l : List (Int × Int)} {k : Nat} (hk : k < l.length) : hiX l (k + 1) = max (hiX l k) (l.getD k (0, 0)).1 := by
  unfold hiX; rw [take_snoc hk, List.foldl_append]; rfl

theorem fold_min_bd {m : List (Int × Int)} {a : Int} (h : ∀ p ∈ m, inB p = true) (ha : -1099511627776 ≤ a ∧ a ≤ 1099511627776) : -1099511627776 ≤ m.foldl (fun m c => min m c.1) a ∧ m.foldl (fun m c => min m c.1) a ≤ 1099511627776 := by
  induction m generalizing a with
  | nil => exact ha
  | cons p m ih =>
    have hp := (inB_iff _).1 (h p (List.mem_cons_self ..))
    exact ih (fun q hq => h q (List.mem_cons_of_mem _ hq)) (by show _ ≤ min a p.1 ∧ min a p.1 ≤ _; omega)
theorem fold_max_bd {m : List (Int × Int)} {a : Int} (h : ∀ p ∈ m, inB p = true) (ha : -1099511627776 ≤ a ∧ a ≤ 1099511627776) : -1099511627776 ≤ m.foldl (fun m c => max m c.1) a ∧ m.foldl (fun m c => max m c.1) a ≤ 1099511627776 := by
  induction m generalizing a with
  | nil => exact ha
  | cons p m ih =>
    have hp := (inB_iff _).1 (h p (List.mem_cons_self ..))
    exact ih (fun q hq => h q (List.mem_cons_of_mem _ hq)) (by show _ ≤ max a p.1 ∧ max a p.1 ≤ _; omega)
theorem loX_bd {l : List (Int × Int)} (h : ∀ p ∈ l, inB p = true) (h0 : 0 < l.length) (k : Nat) : -1099511627776 ≤ loX l k ∧ loX l k ≤ 1099511627776 := by
  have h1 := (inB_iff _).1 (h _ (getD_mem h0))
  exact fold_min_bd (fun p hp => h p (List.mem_of_mem_take hp)) (by omega)
theorem hiX_bd {l : List (Int × Int)} (h : ∀ p ∈ l, inB p = true) (h0 : 0 < l.length) (k : Nat) : -1099511627776 ≤ hiX l k ∧ hiX l k ≤ 1099511627776 := by
  have h1 := (inB_iff _).1 (h _ (getD_mem h0))
  exact fold_max_bd (fun p hp => h p (List.mem_of_mem_take hp)) (by omega)

def boxV (l : List (Int × Int)) : Value := .agg #[.int .i64 (loX l l.length), .int .i64 (l.getD 0 (0, 0)).2, .int .i64 (hiX l l.length - loX l l.length + 1), .int .i64 ((l.getD (l.length - 1) (0, 0)).2 - (l.getD 0 (0, 0)).2 + 1)]
def noBox : Value := .agg #[.int .i64 0, .int .i64 0, .int .i64 0, .int .i64 0]

/-- a block that is known whole -/
def Whole (w : World) (g T : Nat) (cs : Array Value) : Prop := w.heap[g]? = some (.cells cs T (0, 0))
section
variable {w w' : World} {g T : Nat} {cs : Array Value}
theorem Whole.lt (h : Whole w g T cs) : g < w.heap.size := by
  rcases Nat.lt_or_ge g w.heap.size with h' | h'
  · exact h'
  · unfold Whole at h; rw [Array.getElem?_eq_none h'] at h; cases h
theorem Whole.below (h : Whole w g T cs) (hb : Below w.heap.size w w') : Whole w' g T cs := (hb.block g h.lt).trans h
theorem Whole.cell (h : Whole w g T cs) (i : Nat) : w.cell? ⟨g, i, none⟩ = cs[i]? := cell_of_row w g i cs T (0, 0) h
theorem Whole.free (h : Whole w g T cs) (i : Nat) : w.frozen? ⟨g, i, none⟩ = false := frozen_of_row w g i cs T h
theorem Whole.new (w : World) (T : Nat) (cs : Array Value) : Whole (w.alloc (.cells cs T)) w.heap.size T cs := heap_alloc_new w _
end

/-- a Box's block: its cells, none frozen -/
theorem Whole.four {w : World} {g T : Nat} {a b c d : Value} (h : Whole w g T #[a, b, c, d]) :
    w.cell? ⟨g, 0, none⟩ = some a ∧ w.cell? ⟨g, 1, none⟩ = some b ∧ w.cell? ⟨g, 2, none⟩ = some c ∧ w.cell? ⟨g, 3, none⟩ = some d ∧
    w.frozen? ⟨g, 0, none⟩ = false ∧ w.frozen? ⟨g, 1, none⟩ = false ∧ w.frozen? ⟨g, 2, none⟩ = false ∧ w.frozen? ⟨g, 3, none⟩ = false :=
  ⟨h.cell 0, h.cell 1, h.cell 2, h.cell 3, h.free 0, h.free 1, h.free 2, h.free 3⟩

end Go.Proofs.Ytikgnjcjbjafaaa.Cel
namespace Go.Proofs.Ytikgnjcjbjafaaa.Cel
open Go.RowKit Go.Sort

def aw0 : List (Int × Int) := [(1, 0), (0, 1), (1, 0)]
def aw1 : List (Int × Int) := [(1, 0), (0, 1)]
theorem aw_set : setL aw0 = aw1 := by decide
theorem aw_in : (aw0.any fun p => !inB p) = false := by decide
theorem aw_right : rightB aw1 = true := by decide
theorem aw_in1 : ∀ p ∈ aw1, inB p = true := by decide
theorem aw_rises : Rises aw1 := ((rightB_iff _).1 aw_right).2.2
theorem aw_out : outL (1, 0) aw1 = [(0, 1)] := by decide
theorem aw_sh : shL 5 (-5) aw1 = [(6, -5), (5, -4)] := by decide
theorem aw_shin : (shL 5 (-5) aw1).all inB = true := by decide
theorem aw_box : boxV aw1 = .agg #[.int .i64 0, .int .i64 0, .int .i64 2, .int .i64 2] := by
  have h1 : loX aw1 aw1.length = 0 := by decide
  have h2 : hiX aw1 aw1.length = 1 := by decide
  unfold boxV
  rw [h1, h2]
  rfl

theorem aw_of (B : Nat) (w : World) (hR : Rd w w.heap.size (some ⟨B, 0, none⟩) aw0) :
    Calls Try.prog 54 #[.slice (some ⟨B, 0, none⟩) 3 3] w fun e w' => ∃ g, e = .returned (.tuple #[.slice (some ⟨g, 0, none⟩) 2 2, .int .i64 0]) ∧ Hid (Row w' w.heap.size 32 g 2 2 aw1) ∧ Below w.heap.size w w' := by
  have h := of_in (some ⟨B, 0, none⟩) aw0 3 w hR (by decide) (by decide) aw_in (by rw [aw_set]; decide)
  rw [aw_set] at h
  exact h

theorem aw_of2 (B : Nat) (w : World) (hR : Rd w w.heap.size (some ⟨B, 0, none⟩) [(1099511627777, 0)]) :
    Calls Try.prog 54 #[.slice (some ⟨B, 0, none⟩) 1 1] w fun e w' => e = .returned (.tuple #[.slice none 0 0, .int .i64 2]) ∧ Below w.heap.size w w' :=
  of_out (some ⟨B, 0, none⟩) [(1099511627777, 0)] 1 w hR (by decide) (by decide) (by decide)

/-- three cells laid in a new block -/
theorem rd_three (w : World) (T : Nat) : Rd (w.alloc (.cells #[.int .i64 1, .int .i64 0, .int .i64 0, .int .i64 1, .int .i64 1, .int .i64 0] T)) (w.alloc (.cells #[.int .i64 1, .int .i64 0, .int .i64 0, .int .i64 1, .int .i64 1, .int .i64 0] T)).heap.size (some ⟨w.heap.size, 0, none⟩) aw0 := fun j hj => by
  have hj3 : j < 3 := hj
  refine ⟨w.heap.size, 0, rfl, by simp, ?_, ?_⟩
  · match j, hj3 with
    | 0, _ => simp [aw0]
    | 1, _ => simp [aw0]
    | 2, _ => simp [aw0]
  · match j, hj3 with
    | 0, _ => simp [aw0]
    | 1, _ => simp [aw0]
    | 2, _ => simp [aw0]
theorem rd_one (w : World) (T : Nat) (x y : Int) : Rd (w.alloc (.cells #[.int .i64 x, .int .i64 y] T)) (w.alloc (.cells #[.int .i64 x, .int .i64 y] T)).heap.size (some ⟨w.heap.size, 0, none⟩) [(x, y)] := fun j hj => by
  have hj1 : j = 0 := by simp at hj; omega
  subst hj1
  exact ⟨w.heap.size, 0, rfl, by simp, by simp, by simp⟩
theorem rd_one_at (w : World) (T : Nat) (x y : Int) {B : Nat} (hB : B = w.heap.size) : Rd (w.alloc (.cells #[.int .i64 x, .int .i64 y] T)) (w.alloc (.cells #[.int .i64 x, .int .i64 y] T)).heap.size (some ⟨B, 0, none⟩) [(x, y)] := by
  subst hB; exact rd_one w T x y
theorem rd_two (w : World) (T : Nat) : Rd (w.alloc (.cells #[.int .i64 0, .int .i64 0, .int .i64 0, .int .i64 0] T)) (w.alloc (.cells #[.int .i64 0, .int .i64 0, .int .i64 0, .int .i64 0] T)).heap.size (some ⟨w.heap.size, 0, none⟩) [(0, 0), (0, 0)] := fun j hj => by
  have hj3 : j < 2 := hj
  refine ⟨w.heap.size, 0, rfl, by simp, ?_, ?_⟩
  · match j, hj3 with
    | 0, _ => simp
    | 1, _ => simp
  · match j, hj3 with
    | 0, _ => simp
    | 1, _ => simp

end Go.Proofs.Ytikgnjcjbjafaaa.Cel
namespace Go.Proofs.Ytikgnjcjbjafaaa.Cel
open Go.RowKit Go.Sort

theorem rawSet_in (raw : List (Int × Int)) : ∀ p ∈ rawSet raw, inB p = true := by
  intro p hp
  have h := rawTo_bd ((mem_setL _ _).1 hp)
  rw [inB_iff]
  omega
theorem rawSet_len (raw : List (Int × Int)) : (rawSet raw).length ≤ 60 := Nat.le_trans (length_setL _) (length_rawTo _ _)
theorem rawSet_rises (raw : List (Int × Int)) : Rises (rawSet raw) := rises_setL _
theorem rawSet_right (raw : List (Int × Int)) : rightB (rawSet raw) = true := (rightB_iff _).2 ⟨Nat.le_trans (rawSet_len raw) (by decide), rawSet_in raw, rawSet_rises raw⟩

/-! ### what the box is about -/
theorem loX_le {l : List (Int × Int)} {k j : Nat} (hj : j < k) (hk : k ≤ l.length) : loX l k ≤ (l.getD j (0, 0)).1 := by
  induction k with
  | zero => omega
  | succ k ih =>
    rw [loX_succ (by omega)]
    by_cases h : j = k
    · subst h; omega
    · have := ih (by omega) (by omega); omega
theorem hiX_ge {l : List (Int × Int)} {k j : Nat} (hj : j < k) (hk : k ≤ l.length) : (l.getD j (0, 0)).1 ≤ hiX l k := by
  induction k with
  | zero => omega
  | succ k ih =>
    rw [hiX_succ (by omega)]
    by_cases h : j = k
    · subst h; omega
    · have := ih (by omega) (by omega); omega
theorem loX_hit {l : List (Int × Int)} (h0 : 0 < l.length) {k : Nat} (hk : k ≤ l.length) : ∃ j, j < l.length ∧ (l.getD j (0, 0)).1 = loX l k := by
  induction k with
  | zero => exact ⟨0, h0, rfl⟩
  | succ k ih =>
    obtain ⟨j, hj, e⟩ := ih (by omega)
    rw [loX_succ (by omega)]
    by_cases h : loX l k ≤ (l.getD k (0, 0)).1
    · exact ⟨j, hj, by rw [e]; omega⟩
    · exact ⟨k, by omega, by omega⟩
theorem hiX_hit {l : List (Int × Int)} (h0 : 0 < l.length) {k : Nat} (hk : k ≤ l.length) : ∃ j, j < l.length ∧ (l.getD j (0, 0)).1 = hiX l k := by
  induction k with
  | zero => exact ⟨0, h0, rfl⟩
  | succ k ih =>
    obtain ⟨j, hj, e⟩ := ih (by omega)
    rw [hiX_succ (by omega)]
    by_cases h : (l.getD k (0, 0)).1 ≤ hiX l k
    · exact ⟨j, hj, by rw [e]; omega⟩
    · exact ⟨k, by omega, by omega⟩
theorem rises_y {l : List (Int × Int)} (h : Rises l) {i j : Nat} (hij : i ≤ j) (hj : j < l.length) : (l.getD i (0, 0)).2 ≤ (l.getD j (0, 0)).2 := by
  by_cases e : i = j
  · subst e; exact Int.le_refl _
  · have := rises_get h (i := i) (j := j) (by omega) hj
    rw [lessB_iff] at this
    omega

/-- whether one of the first k cells has p -/
def anyTo (p : Int × Int → Bool) (l : List (Int × Int)) (k : Nat) : Bool := (l.take k).any p
theorem anyTo_succ {p : Int × Int → Bool} {l : List (Int × Int)} {k : Nat} (hk : k < l.length) : anyTo p l (k + 1) = (anyTo p l k || p (l.getD k (0, 0))) := by
  unfold anyTo; rw [take_snoc hk, List.any_append]; simp
theorem anyTo_yes {p : Int × Int → Bool} {l : List (Int × Int)} {j : Nat} (hj : j < l.length) (h : p (l.getD j (0, 0)) = true) : anyTo p l l.length = true := by
  unfold anyTo
  rw [List.take_length, List.any_eq_true]
  exact ⟨_, getD_mem hj, h⟩

theorem Whole.set_ {w : World} {g T : Nat} {cs : Array Value} (h : Whole w g T cs) (i : Nat) (u : Value) : Whole (w.setCell ⟨g, i, none⟩ u) g T (cs.setIfInBounds i u) := heap_setCell_same w g i cs T u h
theorem Whole.far {w : World} {g T : Nat} {cs : Array Value} (h : Whole w g T cs) {p : Addr} (hp : g ≠ p.block) (u : Value) : Whole (w.setCell p u) g T cs := (Below.heap_setCell w p u g hp).trans h
theorem Whole.set4 {w : World} {g T : Nat} {a b c d a' b' c' d' a2 b2 c2 d2 : Value} (h : Whole w g T #[a, b, c, d]) (e0 : a' = a2) (e1 : b' = b2) (e2 : c' = c2) (e3 : d' = d2) :
    Whole ((((w.setCell ⟨g, 0, none⟩ a').setCell ⟨g, 1, none⟩ b').setCell ⟨g, 2, none⟩ c').setCell ⟨g, 3, none⟩ d') g T #[a2, b2, c2, d2] := by
  subst e0 e1 e2 e3
  exact (((h.set_ 0 a').set_ 1 b').set_ 2 c').set_ 3 d'
theorem side_eq {a b : Int} {P : Prop} [Decidable P] (h : a = b ↔ P) : Value.bool (a == b) = Value.bool (false || decide P) := by
  congr 1
  rw [Bool.eq_iff_iff]
  simp [h]

end Go.Proofs.Ytikgnjcjbjafaaa.Cel
