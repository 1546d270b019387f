/-
  Texts that the claims of this seat share, part 19.
-/
import Derived.Test.YtikgnjcjbjafaaaB18
import Derived.Test.YtikgnjcjbjafaaaB09
import Derived.Test.YtikgnjcjbjafaaaB06
import Derived.Test.YtikgnjcjbjafaaaB08
import Derived.Test.YtikgnjcjbjafaaaB11
import Derived.Test.YtikgnjcjbjafaaaB15
set_option linter.unusedVariables false
set_option linter.unusedSimpArgs false
namespace Go.Proofs.Ytikgnjcjbjafaaa
set_option maxRecDepth 100000
set_option linter.unusedVariables false
set_option linter.unusedSimpArgs false
open Go.RowKit Go.Sort

theorem make_ok2 {l : List Nd} {room : Int} {e : Nat} {S : List (Int × Int)} (hr : Right6 l room) (hlow : e ≤ 41) (hS : Cel.rightB S = true) (hin : ∀ s ∈ S, insideB e s = true) (hroom : ((l.length + S.length * (e + 1) + (e + 1) : Nat) : Int) ≤ room) :
    ∃ (m : List Nd) (n t : Nat), make7 l room S ((e : Int) + 1) = (m, (n : Int), 0) ∧ Grows l m ∧ Sq m room e n S ∧ t ≤ e + 1 ∧ (∃ x, Emp m t x) ∧ m.length ≤ l.length + S.length * (e + 1) + t := by
  obtain ⟨m, n, h', e1, hm⟩ := build_res (room := room) (K := e + 1) (by omega) (e + 1) (Nat.le_refl _) l 0 (S.map (inwardC e)) hr (by omega) ⟨0, rfl⟩ (by rw [List.length_map]; omega)
  refine ⟨m, n, h', ?_, hm.grows, ⟨hm.right, hm.is, hlow, hS, hin, hm.alive⟩, hm.hi, hm.emp, ?_⟩
  · unfold make7 grown6
    rw [if_pos (right_iff.2 hr), makeZ_yes hlow hS hin, e1, if_pos rfl]
  · have := hm.len
    rw [List.length_map] at *
    omega
/-- What Square tells. -/
structure SqL (room : Int) (raw : List Raw5) (rs : List (Int × Int)) (lev : Int) (R : Int) (m : List Nd) (n e t : Nat) : Prop where
  room_ : R = 2 + pick6 room 60 + 500
  rlo : 502 ≤ R
  rhi : R ≤ 561
  lev_ : 4 + pickI lev 4 = (e : Int) + 1
  elo : 3 ≤ e
  ehi : e ≤ 6
  made : make7 (store6 room raw) R (Cel.rawSet rs) (4 + pickI lev 4) = (m, (n : Int), 0)
  sq : Sq m R e n (Cel.rawSet rs)
  thi : t ≤ e + 1
  emp : ∃ x, Emp m t x
  len : (m.length : Int) ≤ R - 80 + t
  few : m.length ≤ 600
  set60 : (Cel.rawSet rs).length ≤ 60
theorem square_ok (room : Int) (raw : List Raw5) (rs : List (Int × Int)) (lev : Int) : ∃ R m n e t, SqL room raw rs lev R m n e t := by
  obtain ⟨hS, hSl⟩ := store_right room raw
  have hpb := pick6_bd room 60 (by decide)
  obtain ⟨hS1, hS2, hS3⟩ := raw_set rs
  have hq := pickI_bd lev 4 (by decide)
  obtain ⟨e, he, he6⟩ : ∃ e : Nat, 4 + pickI lev 4 = (e : Int) + 1 ∧ 3 ≤ e ∧ e ≤ 6 := ⟨(pickI lev 4 + 3).toNat, by omega, by omega, by omega⟩
  have hb : (Cel.rawSet rs).length * (e + 1) ≤ 60 * 7 := Nat.mul_le_mul hS2 (by omega)
  have hlr := hS.len
  obtain ⟨m, n, t, e1, g, sq, ht, hE, hlen⟩ := make_ok2 (l := store6 room raw) (room := 2 + pick6 room 60 + 500) (e := e) (hS.more (by omega) (by omega) (by omega)) (by omega) hS1 (hS3 e he6.1) (by omega)
  exact ⟨_, m, n, e, t, rfl, by omega, by omega, he, he6.1, he6.2, by rw [he]; exact e1, sq, ht, hE, by omega, by omega, hS2⟩
set_option maxHeartbeats 16000000 in
theorem square7_any {room : Int} {raw : List Raw5} {rs : List (Int × Int)} {lev R : Int} {m : List Nd} {n e t : Nat} (HL : SqL room raw rs lev R m n e t) (A : Option Addr) (c : Nat) (B : Option Addr) (d : Nat) (w : World) (hI : I64 room) (hR : RdR w w.heap.size A raw) (hl : raw.length ≤ 9223372036854775807) (hF : ∀ j, j < raw.length → Fine5 (raw.getD j dead5))
    (hB : RdC w w.heap.size B rs) (hBl : rs.length ≤ 9223372036854775807) (hBc : rs.length ≤ d) (hBw : ∀ p ∈ rs, Cel.I64 p.1 ∧ Cel.I64 p.2) (hL : I64 lev) :
    Calls Try.prog 14 #[.int .i64 room, .slice A raw.length c, .slice B rs.length d, .int .i64 lev] w fun r w' => ∃ A' c', r = .returned (.tuple #[.agg #[.slice A' m.length c', .int .i64 R], .int .i64 (n : Int)]) ∧ m.length ≤ c' ∧ NowN w' A' m ∧ Below w.heap.size w w' := by
  obtain ⟨hS, hSl⟩ := store_right room raw
  have hpb := pick6_bd room 60 (by decide)
  have hal0 := (Below.refl w.heap.size w).alloc (Nat.le_refl _) (.cells #[.slice none 0 0, .int .i64 0] 27)
  have hst := store6_any A raw c room _ ((hR.below hal0 (Nat.le_refl _)).more hal0.size) hl hI hF
  have hR0 := HL.room_
  have hrl := HL.rlo
  have hrh := HL.rhi
  obtain ⟨Q, hQ⟩ : ∃ Q, Q = 2 + pick6 room 60 := ⟨_, rfl⟩
  rw [← hQ] at hS hst hR0
  obtain ⟨l, hll⟩ : ∃ l, l = store6 room raw := ⟨_, rfl⟩
  have hma := HL.made
  rw [← hll] at hS hst hSl hma
  have hset1 := fun W hW => Cel.set_any B rs d W hW hBl hBc hBw
  obtain ⟨S, hSS⟩ : ∃ S, S = Cel.rawSet rs := ⟨_, rfl⟩
  have hS60 := HL.set60
  rw [← hSS] at hset1 hma hS60
  have hpk := fun W => pick7_any lev 4 W hL.1 hL.2 (by decide) (by decide)
  have hq := pickI_bd lev 4 (by decide)
  obtain ⟨q, hqq⟩ : ∃ q, q = pickI lev 4 := ⟨_, rfl⟩
  rw [← hqq] at hpk hq hma
  have hrow0 : (w.alloc (.cells #[.slice none 0 0, .int .i64 0] 27)).heap[w.heap.size]? = some (.cells #[.slice none 0 0, .int .i64 0] 27 (0, 0)) := heap_new rfl
  have HROW := Lib.hid hrow0
  have HAL := Lib.hid hal0
  have HRS := Lib.hid ((Cel.Rd.below hB hal0 (Nat.le_refl _)).more hal0.size)
  have hlv := lev_bd hS
  have HLV := Lib.hid hlv
  have hw500 : IntKind.i64.wrap (Q + 500) = R := by rw [IntKind.wrap_i64]; omega
  have hw4 : IntKind.i64.wrap (4 + q) = 4 + q := by rw [IntKind.wrap_i64]; omega
  have HMA := Lib.hid hma
  have HSL := Lib.hid (show l.length ≤ 42 ∧ S.length ≤ 60 from ⟨hSl, hS60⟩)
  clear hrow0 hal0 hR hB hlv hma hSl hS60 hS hpb hQ hll hSS hqq HL hI hF hBw hL hR0 hBl hl
  go_enter Try.func14, Try.ntmps14
  go_wp2_with fail
  refine hst.mono ?_
  generalize (w.alloc (.cells #[.slice none 0 0, .int .i64 0] 27)) = w1 at *
  intro r w2 h
  obtain ⟨A2, c2, rfl, hcap2, N2, hb2⟩ := storeR_box h
  have hal := (Below.refl w2.heap.size w2).alloc (Nat.le_refl _) (.cells #[.slice A2 l.length c2, .int .i64 R] 27)
  have hb' := Qt.more (B := w1.heap.size) hb2 hb2.size hal
  have HS2 := Lib.hid (stB_new N2 hcap2 R)
  have HRS2 := Lib.hid ((HRS.out.below hb' (Nat.le_refl _)).more hb'.size)
  have HB2 := Lib.hid (Qt.more HAL.out HAL.out.size hb')
  have HROW2 := Lib.hid ((hb'.block _ (lt_heap6 HROW.out)).trans HROW.out)
  clear h hst hb2 hb' HRS N2 hal HROW
  go_wp2_with fail
  generalize (w2.alloc (.cells #[.slice A2 l.length c2, .int .i64 R] 27)) = v2 at *
  generalize w2.heap.size = b2 at *
  have hmk := fun A8 c8 W (hW : Below v2.heap.size v2 W) (hM : RdC W W.heap.size A8 S) (hc8 : S.length ≤ c8) => refMake7_any A2 l c2 R A8 S c8 (4 + q) W ((HS2.out.below hW).rd) (by have := HSL.out; omega) hcap2 HLV.out hM (by have := HSL.out; omega) hc8
  rw [HMA.out] at hmk
  unfold storeV at hmk
  have hset := fun W (hW : Below v2.heap.size v2 W) => hset1 W ((HRS2.out.below hW (Nat.le_refl _)).more hW.size)
  clear hset1 HMA
  refine region_calm_to (fun W => Below v2.heap.size v2 W) (fun (a0 a9 : Act) (w9 : World) => ∃ (A8 : Option Addr) (c8 : Nat) (A9 : Option Addr) (c9 b9 : Nat), a9 = ((((((((((((((a0.put (some 22) (.agg #[.slice A2 l.length c2, .int .i64 R])).put (some 23) (.slice B rs.length d)).put (some 25) (.int .i64 lev)).put (some 24) (.slice A8 S.length c8)).put (some 26) (.int .i64 q)).put (some 27) (.int .i64 (4 + q))).put (some 28) (.tuple #[(.agg #[.slice A9 m.length c9, .int .i64 R]), .int .i64 (n : Int), .int .i64 0])).put (some 21) (.tuple #[(.agg #[.slice A9 m.length c9, .int .i64 R]), .int .i64 (n : Int), .int .i64 0])).put (some 29) (.agg #[.slice A9 m.length c9, .int .i64 R])).put (some 30) (.int .i64 (n : Int))).put (some 31) (.int .i64 0)).put (some 11) (.pointer (some ⟨b9, 0, none⟩))).put (some 12) (.int .i64 (n : Int))).put (some 13) (.int .i64 0)) ∧ StB w9 b9 A9 m c9 R ∧ Below v2.heap.size v2 w9) (.calm 0 (.calm 1 (.calm 3 (.two 2 11 (.calm 4 (.calm 5 (.two 6 11 (.calm 7 (.calm 8 (.calm 9 (.calm 10 (.only 11 (.only 12 (.only 13 (.only 14 .done)))))))) (.only 6 (.calm 7 (.calm 8 (.calm 9 (.calm 10 (.only 12 (.only 13 (.only 14 .done))))))))))) (.only 2 (.calm 4 (.calm 5 (.only 6 (.calm 7 (.calm 8 (.calm 9 (.calm 10 (.only 12 (.only 13 (.only 14 .done))))))))))))))) (by kernel_rfl) (by kernel_rfl) (by kernel_rfl) (by rfl) (below_drew _) ?_ ?_
  · skip
    refine ⟨_, _, (.agg #[.slice A2 l.length c2, .int .i64 R]), rfl, rfl, ⟨rfl, fun W hW => by have s0 := (HS2.out.below hW).s0; have s1 := (HS2.out.below hW).s1; simp only [execOp]; go_simp; done⟩, ?_⟩
    simp only [Act.put, List.setIfInBounds_toArray, List.set_cons_succ, List.set_cons_zero]
    refine ⟨_, _, (.slice B rs.length d), rfl, rfl, ⟨rfl, fun W hW => by first | exact ⟨rfl, rfl⟩ | (simp only [Act.eval, execOp]; go_simp; try exact ⟨rfl, rfl⟩)⟩, ?_⟩
    simp only [Act.put, List.setIfInBounds_toArray, List.set_cons_succ, List.set_cons_zero]
    refine ⟨_, _, .int .i64 lev, rfl, rfl, ⟨rfl, fun W hW => by first | exact ⟨rfl, rfl⟩ | (simp only [Act.eval, execOp]; go_simp; try exact ⟨rfl, rfl⟩)⟩, ?_⟩
    simp only [Act.put, List.setIfInBounds_toArray, List.set_cons_succ, List.set_cons_zero]
    constructor
    · skip
      refine ⟨_, rfl, ?_⟩
      go_wp2_with fail
      refine (hset _ (below_drew v2)).mono ?_
      intro e w8 h
      obtain ⟨_, rfl, ⟨A8, c8, rfl, hc8, hR8⟩, hb⟩ := h
      have hBc1 := Qt.more (below_drew v2) (Nat.le_refl _) hb
      have hb_0_1 := hb
      go_wp2_with fail
      refine ⟨rfl, hBc1, ?_⟩
      refine ⟨_, _, .int .i64 q, rfl, rfl, ⟨rfl, fun W hW => by simp only [execOp]; go_simp; exact (hpk W).mono fun e w1 h => ⟨h.1, h.2.symm⟩⟩, ?_⟩
      simp only [Act.put, List.setIfInBounds_toArray, List.set_cons_succ, List.set_cons_zero]
      refine ⟨_, _, .int .i64 (4 + q), rfl, rfl, ⟨rfl, fun W hW => by first | exact ⟨rfl, rfl⟩ | (simp only [Act.eval, execOp]; go_simp; try exact ⟨rfl, rfl⟩)⟩, ?_⟩
      simp only [Act.put, List.setIfInBounds_toArray, List.set_cons_succ, List.set_cons_zero]
      constructor
      · skip
        refine ⟨_, rfl, ?_⟩
        go_wp2_with fail
        refine (hmk A8 c8 _ hBc1 ((Cel.Rd.below hR8 ((Below.refl w8.heap.size w8)) (Nat.le_refl _)).more ((Below.refl w8.heap.size w8)).size) hc8).mono ?_
        intro e w9 h
        obtain ⟨A9, c9, rfl, hcap9, N9, hb⟩ := putR_box h
        clear h
        have hBc2 := Qt.more hBc1 (hBc1).size hb
        have hb_1_2 := hb
        go_wp2_with fail
        refine ⟨rfl, hBc2, ?_⟩
        refine ⟨_, _, (.tuple #[(.agg #[.slice A9 m.length c9, .int .i64 R]), .int .i64 (n : Int), .int .i64 0]), rfl, rfl, ⟨rfl, fun W hW => by first | exact ⟨rfl, rfl⟩ | (simp only [Act.eval, execOp]; go_simp; try exact ⟨rfl, rfl⟩)⟩, ?_⟩
        simp only [Act.put, List.setIfInBounds_toArray, List.set_cons_succ, List.set_cons_zero]
        refine ⟨_, _, (.agg #[.slice A9 m.length c9, .int .i64 R]), rfl, rfl, ⟨rfl, fun W hW => by first | exact ⟨rfl, rfl⟩ | (simp only [Act.eval, execOp]; go_simp; try exact ⟨rfl, rfl⟩)⟩, ?_⟩
        simp only [Act.put, List.setIfInBounds_toArray, List.set_cons_succ, List.set_cons_zero]
        refine ⟨_, _, .int .i64 (n : Int), rfl, rfl, ⟨rfl, fun W hW => by first | exact ⟨rfl, rfl⟩ | (simp only [Act.eval, execOp]; go_simp; try exact ⟨rfl, rfl⟩)⟩, ?_⟩
        simp only [Act.put, List.setIfInBounds_toArray, List.set_cons_succ, List.set_cons_zero]
        refine ⟨_, _, .int .i64 0, rfl, rfl, ⟨rfl, fun W hW => by first | exact ⟨rfl, rfl⟩ | (simp only [Act.eval, execOp]; go_simp; try exact ⟨rfl, rfl⟩)⟩, ?_⟩
        simp only [Act.put, List.setIfInBounds_toArray, List.set_cons_succ, List.set_cons_zero]
        refine ⟨_, rfl, ?_⟩
        have hBa3 := (hBc2).alloc (hBc2).size (.cells #[.slice none 0 0, .int .i64 0] 27)
        have hra3 : (w9.alloc (.cells #[.slice none 0 0, .int .i64 0] 27 (0, 0))).heap[w9.heap.size]? = _ := heap_alloc_new w9 (.cells #[.slice none 0 0, .int .i64 0] 27 (0, 0))
        go_wp2_with fail
        refine ⟨rfl, hBa3, ?_⟩
        have hle_w9 : v2.heap.size ≤ w9.heap.size := (hBc2).size
        have hB9 := (hBc2).alloc (hBc2).size (.cells #[.slice A9 m.length c9, .int .i64 R] 27)
        have hS9 := stB_new N9 hcap9 R
        refine ⟨_, rfl, ?_⟩
        go_wp2_with fail
        refine ⟨rfl, hB9, ?_⟩
        refine ⟨_, rfl, ?_⟩
        go_wp2_with fail
        refine ⟨rfl, hB9, ?_⟩
        refine ⟨_, rfl, ?_⟩
        go_wp2_with fail
        refine ⟨rfl, hB9, ?_⟩
        show ∃ (A8 : Option Addr) (c8 : Nat) (A9 : Option Addr) (c9 b9 : Nat), _
        refine ⟨A8, c8, A9, c9, w9.heap.size, ?_, hS9, hB9⟩
        first | rfl | simp only [Act.put, List.setIfInBounds_toArray, List.set_cons_succ, List.set_cons_zero]
      · skip
        refine ⟨_, rfl, ?_⟩
        have hBa2 := (hBc1).alloc (hBc1).size (.cells #[.slice none 0 0, .int .i64 0] 27)
        have hra2 : (w8.alloc (.cells #[.slice none 0 0, .int .i64 0] 27 (0, 0))).heap[w8.heap.size]? = _ := heap_alloc_new w8 (.cells #[.slice none 0 0, .int .i64 0] 27 (0, 0))
        go_wp2_with fail
        refine ⟨rfl, hBa2, ?_⟩
        have hle_w8 : v2.heap.size ≤ w8.heap.size := (hBc1).size
        refine ⟨_, rfl, ?_⟩
        go_wp2_with fail
        refine (hmk A8 c8 _ hBa2 ((Cel.Rd.below hR8 ((((Below.refl w8.heap.size w8)).alloc ((Below.refl w8.heap.size w8)).size (.cells #[.slice none 0 0, .int .i64 0] 27))) (Nat.le_refl _)).more ((((Below.refl w8.heap.size w8)).alloc ((Below.refl w8.heap.size w8)).size (.cells #[.slice none 0 0, .int .i64 0] 27))).size) hc8).mono ?_
        intro e w9 h
        obtain ⟨A9, c9, rfl, hcap9, N9, hb⟩ := putR_box h
        clear h
        have hBc4 := Qt.more hBa2 (hBa2).size hb
        have hrw4 := (hb.block _ (lt_heap6 hra2)).trans hra2
        have hb_1_4 := hb
        have f0 : w9.frozen? ⟨w8.heap.size, 0, none⟩ = false := Lib.frozen_of_heap hrw4 0
        have f1 : w9.frozen? ⟨w8.heap.size, 1, none⟩ = false := Lib.frozen_of_heap hrw4 1
        have g0 : w9.cell? ⟨w8.heap.size, 0, none⟩ = some (.slice none 0 0) := by rw [Lib.cell_of_heap hrw4]; rfl
        have g1 : w9.cell? ⟨w8.heap.size, 1, none⟩ = some (.int .i64 0) := by rw [Lib.cell_of_heap hrw4]; rfl
        go_wp2_with fail
        refine ⟨rfl, hBc4, ?_⟩
        refine ⟨_, _, (.tuple #[(.agg #[.slice A9 m.length c9, .int .i64 R]), .int .i64 (n : Int), .int .i64 0]), rfl, rfl, ⟨rfl, fun W hW => by first | exact ⟨rfl, rfl⟩ | (simp only [Act.eval, execOp]; go_simp; try exact ⟨rfl, rfl⟩)⟩, ?_⟩
        simp only [Act.put, List.setIfInBounds_toArray, List.set_cons_succ, List.set_cons_zero]
        refine ⟨_, _, (.agg #[.slice A9 m.length c9, .int .i64 R]), rfl, rfl, ⟨rfl, fun W hW => by first | exact ⟨rfl, rfl⟩ | (simp only [Act.eval, execOp]; go_simp; try exact ⟨rfl, rfl⟩)⟩, ?_⟩
        simp only [Act.put, List.setIfInBounds_toArray, List.set_cons_succ, List.set_cons_zero]
        refine ⟨_, _, .int .i64 (n : Int), rfl, rfl, ⟨rfl, fun W hW => by first | exact ⟨rfl, rfl⟩ | (simp only [Act.eval, execOp]; go_simp; try exact ⟨rfl, rfl⟩)⟩, ?_⟩
        simp only [Act.put, List.setIfInBounds_toArray, List.set_cons_succ, List.set_cons_zero]
        refine ⟨_, _, .int .i64 0, rfl, rfl, ⟨rfl, fun W hW => by first | exact ⟨rfl, rfl⟩ | (simp only [Act.eval, execOp]; go_simp; try exact ⟨rfl, rfl⟩)⟩, ?_⟩
        simp only [Act.put, List.setIfInBounds_toArray, List.set_cons_succ, List.set_cons_zero]
        have hB9 := ((hBc4.setCell (p := ⟨w8.heap.size, 0, none⟩) (hle_w8) (.slice A9 m.length c9)).setCell (p := ⟨w8.heap.size, 1, none⟩) (hle_w8) (.int .i64 R))
        have hS9 := stB_put (room := R) hrw4 N9 hcap9
        refine ⟨_, rfl, ?_⟩
        go_wp2_with fail
        refine ⟨rfl, hB9, ?_⟩
        refine ⟨_, rfl, ?_⟩
        go_wp2_with fail
        refine ⟨rfl, hB9, ?_⟩
        refine ⟨_, rfl, ?_⟩
        go_wp2_with fail
        refine ⟨rfl, hB9, ?_⟩
        show ∃ (A8 : Option Addr) (c8 : Nat) (A9 : Option Addr) (c9 b9 : Nat), _
        refine ⟨A8, c8, A9, c9, w8.heap.size, ?_, hS9, hB9⟩
        first | rfl | simp only [Act.put, List.setIfInBounds_toArray, List.set_cons_succ, List.set_cons_zero]
    · skip
      refine ⟨_, rfl, ?_⟩
      have hBa1 := ((below_drew v2)).alloc (Nat.le_refl _) (.cells #[.slice none 0 0, .int .i64 0] 27)
      have hra1 : (v2.drew.alloc (.cells #[.slice none 0 0, .int .i64 0] 27 (0, 0))).heap[v2.heap.size]? = _ := heap_alloc_new v2.drew (.cells #[.slice none 0 0, .int .i64 0] 27 (0, 0))
      go_wp2_with fail
      refine ⟨rfl, hBa1, ?_⟩
      refine ⟨_, rfl, ?_⟩
      go_wp2_with fail
      refine (hset _ hBa1).mono ?_
      intro e w8 h
      obtain ⟨_, rfl, ⟨A8, c8, rfl, hc8, hR8⟩, hb⟩ := h
      have hBc6 := Qt.more hBa1 (hBa1).size hb
      have hrw6 := (hb.block _ (lt_heap6 hra1)).trans hra1
      have hb_0_6 := hb
      go_wp2_with fail
      refine ⟨rfl, hBc6, ?_⟩
      refine ⟨_, _, .int .i64 q, rfl, rfl, ⟨rfl, fun W hW => by simp only [execOp]; go_simp; exact (hpk W).mono fun e w1 h => ⟨h.1, h.2.symm⟩⟩, ?_⟩
      simp only [Act.put, List.setIfInBounds_toArray, List.set_cons_succ, List.set_cons_zero]
      refine ⟨_, _, .int .i64 (4 + q), rfl, rfl, ⟨rfl, fun W hW => by first | exact ⟨rfl, rfl⟩ | (simp only [Act.eval, execOp]; go_simp; try exact ⟨rfl, rfl⟩)⟩, ?_⟩
      simp only [Act.put, List.setIfInBounds_toArray, List.set_cons_succ, List.set_cons_zero]
      refine ⟨_, rfl, ?_⟩
      go_wp2_with fail
      refine (hmk A8 c8 _ hBc6 ((Cel.Rd.below hR8 ((Below.refl w8.heap.size w8)) (Nat.le_refl _)).more ((Below.refl w8.heap.size w8)).size) hc8).mono ?_
      intro e w9 h
      obtain ⟨A9, c9, rfl, hcap9, N9, hb⟩ := putR_box h
      clear h
      have hBc7 := Qt.more hBc6 (hBc6).size hb
      have hrw7 := (hb.block _ (lt_heap6 hrw6)).trans hrw6
      have hb_1_7 := hb
      have f0 : w9.frozen? ⟨v2.heap.size, 0, none⟩ = false := Lib.frozen_of_heap hrw7 0
      have f1 : w9.frozen? ⟨v2.heap.size, 1, none⟩ = false := Lib.frozen_of_heap hrw7 1
      have g0 : w9.cell? ⟨v2.heap.size, 0, none⟩ = some (.slice none 0 0) := by rw [Lib.cell_of_heap hrw7]; rfl
      have g1 : w9.cell? ⟨v2.heap.size, 1, none⟩ = some (.int .i64 0) := by rw [Lib.cell_of_heap hrw7]; rfl
      go_wp2_with fail
      refine ⟨rfl, hBc7, ?_⟩
      refine ⟨_, _, (.tuple #[(.agg #[.slice A9 m.length c9, .int .i64 R]), .int .i64 (n : Int), .int .i64 0]), rfl, rfl, ⟨rfl, fun W hW => by first | exact ⟨rfl, rfl⟩ | (simp only [Act.eval, execOp]; go_simp; try exact ⟨rfl, rfl⟩)⟩, ?_⟩
      simp only [Act.put, List.setIfInBounds_toArray, List.set_cons_succ, List.set_cons_zero]
      refine ⟨_, _, (.agg #[.slice A9 m.length c9, .int .i64 R]), rfl, rfl, ⟨rfl, fun W hW => by first | exact ⟨rfl, rfl⟩ | (simp only [Act.eval, execOp]; go_simp; try exact ⟨rfl, rfl⟩)⟩, ?_⟩
      simp only [Act.put, List.setIfInBounds_toArray, List.set_cons_succ, List.set_cons_zero]
      refine ⟨_, _, .int .i64 (n : Int), rfl, rfl, ⟨rfl, fun W hW => by first | exact ⟨rfl, rfl⟩ | (simp only [Act.eval, execOp]; go_simp; try exact ⟨rfl, rfl⟩)⟩, ?_⟩
      simp only [Act.put, List.setIfInBounds_toArray, List.set_cons_succ, List.set_cons_zero]
      refine ⟨_, _, .int .i64 0, rfl, rfl, ⟨rfl, fun W hW => by first | exact ⟨rfl, rfl⟩ | (simp only [Act.eval, execOp]; go_simp; try exact ⟨rfl, rfl⟩)⟩, ?_⟩
      simp only [Act.put, List.setIfInBounds_toArray, List.set_cons_succ, List.set_cons_zero]
      have hB9 := ((hBc7.setCell (p := ⟨v2.heap.size, 0, none⟩) (Nat.le_refl _) (.slice A9 m.length c9)).setCell (p := ⟨v2.heap.size, 1, none⟩) (Nat.le_refl _) (.int .i64 R))
      have hS9 := stB_put (room := R) hrw7 N9 hcap9
      refine ⟨_, rfl, ?_⟩
      go_wp2_with fail
      refine ⟨rfl, hB9, ?_⟩
      refine ⟨_, rfl, ?_⟩
      go_wp2_with fail
      refine ⟨rfl, hB9, ?_⟩
      refine ⟨_, rfl, ?_⟩
      go_wp2_with fail
      refine ⟨rfl, hB9, ?_⟩
      show ∃ (A8 : Option Addr) (c8 : Nat) (A9 : Option Addr) (c9 b9 : Nat), _
      refine ⟨A8, c8, A9, c9, v2.heap.size, ?_, hS9, hB9⟩
      first | rfl | simp only [Act.put, List.setIfInBounds_toArray, List.set_cons_succ, List.set_cons_zero]
  rintro a9 w3 ⟨A8, c8, A9, c9, b9, rfl, hS9, hb9⟩
  simp only [Act.put, List.setIfInBounds_toArray, List.set_cons_succ, List.set_cons_zero]
  have HS := Lib.hid hS9
  have HBF := Lib.hid (Qt.more HB2.out HB2.out.size hb9)
  have hrow3 := (hb9.block _ (lt_heap6 HROW2.out)).trans HROW2.out
  have g0 := HS.out.s0
  have g1 := HS.out.s1
  have r0 : w3.cell? ⟨w.heap.size, 0, none⟩ = some (.slice none 0 0) := by rw [Lib.cell_of_heap hrow3]; rfl
  have r1 : w3.cell? ⟨w.heap.size, 1, none⟩ = some (.int .i64 0) := by rw [Lib.cell_of_heap hrow3]; rfl
  have f0 := Lib.frozen_of_heap hrow3 0
  have f1 := Lib.frozen_of_heap hrow3 1
  have HT := Lib.hid (stB_put (room := R) hrow3 HS.out.rd HS.out.cap)
  have HBE := Lib.hid ((HBF.out.setCell (p := ⟨w.heap.size, 0, none⟩) (Nat.le_refl _) (.slice A9 m.length c9)).setCell (p := ⟨w.heap.size, 1, none⟩) (Nat.le_refl _) (.int .i64 R))
  clear hset hmk hS9 hb9 HS HBF hrow3
  go_wp2_with fail
  clear r0 r1 f0 f1 g0 g1
  refine bodyPost_ret (results_cell2 rfl _ _ _ _ _ _ _ rfl HT.out.row Try.underlying27 rfl (by kernel_rfl)) rfl ?_
  exact ⟨A9, c9, rfl, HT.out.cap, HT.out.rd, HBE.out⟩
end Go.Proofs.Ytikgnjcjbjafaaa
namespace Go.Proofs.Ytikgnjcjbjafaaa
set_option maxRecDepth 100000
set_option linter.unusedVariables false
set_option linter.unusedSimpArgs false
open Go.RowKit Go.Sort

set_option maxHeartbeats 8000000 in
set_option maxRecDepth 100000 in
theorem madeB_any (F : Nat) (eg : ∀ args w, (callFunc F args).run Try.prog w = .ok (.enter F args) w) (n : Int) (z : List Nd × Int × Int) (A : Option Addr) (l : List Nd) (c : Nat) (room : Int) (w : World) (hR : RdN w w.heap.size A l) (hl : l.length ≤ 1000000) (hc : l.length ≤ c)
    (hmade : right6 l room = true → ∀ (g b : Nat) (W : World), Below w.heap.size w W → Ix (w.heap.size + 2) W g b l room → w.heap.size + 2 ≤ W.heap.size → Calls Try.prog F #[makerV g, .int .i64 n] W (IxK z (w.heap.size + 2) g b room W)) :
    Calls Try.prog 63 #[storeV A l.length c room, .int .i64 n, .func (.func F) #[] #[]] w (PutR (grown6 l room z) room w) := by
  have HH0 := Lib.hid (empHead_0 w A l.length c room)
  have hs0 := HH0.out.s0
  have hs1 := HH0.out.s1
  have hidx := indexOf_any A l c room _ ((hR.below HH0.out.bel (Nat.le_refl _)).more HH0.out.bel.size) hl hc
  have HMD := Lib.hid hmade
  unfold storeV IndexR at hidx
  unfold storeV
  clear hmade
  cases hr : right6 l room with
  | false =>
    have hz : grown6 l room z = (l, 0, 1) := by unfold grown6; rw [hr]; rfl
    rw [hz]
    rw [hr] at hidx
    clear hz hr
    go_enter Try.func63, Try.ntmps63
    go_wp2_with (go_at_call 85; refine hidx.mono ?_; rintro e w1 ⟨hb1, (⟨_, rfl⟩ | ⟨hh, _⟩)⟩; rotate_left; exact absurd hh (by decide); have H1 := HH0.out.below hb1; have H2 := Lib.hid (H1.below ((Below.refl w1.heap.size w1).alloc (Nat.le_refl _) (.cells #[.slice none 0 0, .int .i64 0, .map none] 115))); have s0 := H2.out.s0; have s1 := H2.out.s1; have r0 := H2.out.r0; have r1 := H2.out.r1; have f0 := H2.out.free 0; have f1 := H2.out.free 1; have ht := Lib.hid (H2.out.told (.slice A l.length c) (.int .i64 room)); clear hidx hb1 hs0 hs1 H1)
    refine bodyPost_ret (results_cell3 rfl _ _ _ _ _ _ _ rfl ht.out.1 Try.underlying27 rfl (by kernel_rfl)) rfl ?_
    exact ⟨_, rfl, ⟨A, c, rfl, hc, (hR.below ht.out.2 (Nat.le_refl _)).more ht.out.2.size⟩, ht.out.2⟩
  | true =>
    rw [hr] at hidx
    have hz : grown6 l room z = (if z.2.2 = 0 then z else (l, 0, z.2.2)) := by unfold grown6; rw [hr]; rfl
    rw [hz]
    have HMM := Lib.hid (HMD.out hr)
    have h2 := (right_iff.1 hr).two
    clear hz hr HMD
    obtain ⟨m, q, ee⟩ := z
    obtain ⟨y, hy⟩ : ∃ y, y = (if ee = 0 then (m, q, ee) else (l, 0, ee)) := ⟨_, rfl⟩
    simp only
    rw [← hy]
    have HY := Lib.hid hy
    clear hy
    go_enter Try.func63, Try.ntmps63
    go_wp2_with fail
    refine hidx.mono ?_
    rintro e w1 ⟨hb1, (⟨hh, _⟩ | ⟨_, v, b, D, rfl, hown, hmap, hsays, hbB⟩)⟩
    · exact absurd hh (by decide)
    obtain ⟨q1, cap, rfl, hcap⟩ := ownN_val hown (by omega)
    have hsz := HH0.out.size
    have H1 := HH0.out.below hb1
    have hbx : Below w1.heap.size w1 (w1.alloc (.cells #[.slice (some ⟨q1, 0, none⟩) l.length cap, .int .i64 room, .map (some b)] 115)) := (Below.refl _ _).alloc (Nat.le_refl _) _
    have H2 := Lib.hid (H1.below hbx)
    have hn2 : w.heap.size + 2 ≤ w1.heap.size := H1.size
    have HX : Hid (Ix (w.heap.size + 2) (w1.alloc (.cells #[.slice (some ⟨q1, 0, none⟩) l.length cap, .int .i64 room, .map (some b)] 115)) w1.heap.size b l room) := ix_boxed (ownN_low hown hsz) hmap hsays (by omega) hn2
    have hcall := HMM.out w1.heap.size b (w1.alloc (.cells #[.slice (some ⟨q1, 0, none⟩) l.length cap, .int .i64 room, .map (some b)] 115)) H2.out.bel HX.out (by simp; omega)
    clear hidx hb1 hs0 hs1 H1 hown hmap hsays hbx hbB
    go_wp2_with fail
    refine hcall.mono ?_
    rintro e w2 ⟨rfl, hi2, hb2k⟩
    have hb2 := hb2k.bel
    clear hb2k
    have hbel2 := H2.out
    have H3 : EmpHead w w2 A l.length c room := ⟨(hb2.block _ (by omega)).trans hbel2.store, (hb2.block _ (by omega)).trans hbel2.res, hbel2.bel.trans (hb2.mono (by omega))⟩
    have HI2 := Lib.hid hi2
    clear hcall hb2 hbel2 hi2 HX HMM H2
    have s0 := H3.s0
    have s1 := H3.s1
    have r0 := H3.r0
    have r1 := H3.r1
    have f0 := H3.free 0
    have f1 := H3.free 1
    by_cases he : ee = 0
    · have hy := HY.out
      rw [if_pos he] at hy
      subst hy he
      obtain ⟨v2, D2, hI⟩ := HI2.out
      have g0 := hI.row.c0
      have g1 := hI.row.c1
      have hm : 0 < m.length ∨ m = [] := by cases m <;> simp
      have hv : ∃ B d, v2 = .slice B m.length d ∧ m.length ≤ d ∧ NowN w2 B m := hI.own.reads
      obtain ⟨B, d, rfl, hd, hNow⟩ := hv
      have hlow : ∀ x, (Value.slice B m.length d).ownBlock = some x → w.heap.size + 2 ≤ x := fun x hx => (ownN_kind hI.own x hx).1
      have ht := Lib.hid (H3.told (.slice B m.length d) (.int .i64 room))
      have hne : (Value.slice B m.length d).ownBlock = none ∨ (Value.slice B m.length d).ownBlock ≠ some (w.heap.size + 1) := by
        cases hx : (Value.slice B m.length d).ownBlock with
        | none => exact .inl rfl
        | some x => exact .inr (fun e => by injection e with e; have := hlow x hx; omega)
      have hfin := World.ownsRow.kept (World.ownsRow.kept hI.own (but_set (b := w.heap.size + 1) 0 (.slice B m.length d)) hne) (but_set (b := w.heap.size + 1) 1 (.int .i64 room)) hne
      have HFN := Lib.hid (OwnN.reads hfin)
      clear hI hNow hlow hne hfin H3
      go_wp2
      refine bodyPost_ret (results_cell3 rfl _ _ _ _ _ _ _ rfl ht.out.1 Try.underlying27 rfl (by kernel_rfl)) rfl ?_
      exact ⟨_, rfl, HFN.out, ht.out.2⟩
    · have hy := HY.out
      rw [if_neg he] at hy
      subst hy
      have ht := Lib.hid (H3.told (.slice A l.length c) (.int .i64 room))
      clear H3
      go_wp2
      refine bodyPost_ret (results_cell3 rfl _ _ _ _ _ _ _ rfl ht.out.1 Try.underlying27 rfl (by kernel_rfl)) rfl ?_
      exact ⟨_, rfl, ⟨A, c, rfl, hc, (hR.below ht.out.2 (Nat.le_refl _)).more ht.out.2.size⟩, ht.out.2⟩

/-- a maker of package base in a box -/
def MB (w : World) (b g : Nat) : Prop := w.heap[b]? = some (.cells #[.pointer (some ⟨g, 0, none⟩)] 98 (0, 0))
theorem MB.kp {w w' : World} {b g : Nat} (h : MB w b g) (hk : Kp w w') : MB w' b g := hk _ _ _ _ h ⟨.inl (by decide), by decide⟩
theorem MB.c {w : World} {b g : Nat} (h : MB w b g) : w.cell? ⟨b, 0, none⟩ = some (.pointer (some ⟨g, 0, none⟩)) := by rw [Lib.cell_of_heap h]; rfl
theorem MB.below {w w' : World} {b g : Nat} (h : MB w b g) (hb : Below w.heap.size w w') : MB w' b g := (hb.block _ (lt_heap6 h)).trans h
/-- the level of a node; below all levels, if there is no such node -/
def levI (l : List Nd) (n : Int) : Int := if 0 ≤ n ∧ n < l.length then (ndAt l n).1 else -1
set_option maxHeartbeats 4000000 in
theorem level_any (room : Int) (n0 g b : Nat) (l : List Nd) (n : Int) (w : World) (hix : Ix n0 w g b l room) (hr : Right6 l room) : Calls Try.prog 100 #[makerV g, .int .i64 n] w fun r w' => r = .returned (.int .i64 (levI l n)) ∧ Below w.heap.size w w' := by
  have hal := (Below.refl w.heap.size w).alloc (Nat.le_refl _) (.cells #[.pointer (some ⟨g, 0, none⟩)] 98)
  have hM : MB (w.alloc (.cells #[.pointer (some ⟨g, 0, none⟩)] 98)) w.heap.size g := heap_alloc_new w _
  obtain ⟨q, cap, g0, g1, hrd, hcap, hnd⟩ := ix_rd (hix.below hal) hr.two
  have m0 := hM.c
  have HA := Lib.hid hal
  have h100 := hr.small
  clear hix hal hM hrd g1
  by_cases h0 : n < 0
  · have hb : levI l n = -1 := if_neg (by omega)
    rw [hb]
    have d0 : decide (n < 0) = true := decide_eq_true h0
    clear hb hnd
    go_enter Try.func100, Try.ntmps100
    go_wp2_with fail
    go_ret
    exact ⟨rfl, HA.out⟩
  have d0 : decide (n < 0) = false := decide_eq_false h0
  by_cases h1 : (l.length : Int) ≤ n
  · have hb : levI l n = -1 := if_neg (by omega)
    rw [hb]
    have d1 : decide ((l.length : Int) ≤ n) = true := decide_eq_true h1
    clear hb hnd
    go_enter Try.func100, Try.ntmps100
    go_wp2_with fail
    go_ret
    exact ⟨rfl, HA.out⟩
  have d1 : decide ((l.length : Int) ≤ n) = false := decide_eq_false h1
  obtain ⟨k, rfl⟩ : ∃ k : Nat, n = (k : Int) := ⟨n.toNat, by omega⟩
  have x0 := (hnd k (by omega)).1
  have hkz : (k : Int) < (l.length : Int) := by omega
  have hb : levI l (k : Int) = (l.getD k deadN).1 := by
    unfold levI
    rw [if_pos (by omega), ndAt_nat]
  rw [hb]
  have d2 : decide (l.length ≤ k) = false := decide_eq_false (by omega)
  generalize (l.getD k deadN).1 = lv at *
  clear hb hnd
  go_enter Try.func100, Try.ntmps100
  go_wp2_with fail
  go_ret
  exact ⟨rfl, HA.out⟩
end Go.Proofs.Ytikgnjcjbjafaaa
namespace Go.Proofs.Ytikgnjcjbjafaaa
set_option maxRecDepth 100000
set_option linter.unusedVariables false
set_option linter.unusedSimpArgs false

/-- a node's kids' kids, row by row -/
def sx (l : List Nd) (n y x : Nat) : Nat := kidN l (kidN l n (y / 2 * 2 + x / 2)) (y % 2 * 2 + x % 2)
/-- the kids of a square at a row and a column -/
def sqK (l : List Nd) (n y x : Nat) : Kd := ((sx l n y x : Nat), (sx l n y (x + 1) : Nat), (sx l n (y + 1) x : Nat), (sx l n (y + 1) (x + 1) : Nat))
theorem kd_sqK (l : List Nd) (n y x : Nat) {j : Nat} (hj : j < 4) : kd (sqK l n y x) j = ((sx l n (y + j / 2) (x + j % 2) : Nat) : Int) := by
  rcases (by omega : j = 0 ∨ j = 1 ∨ j = 2 ∨ j = 3) with rfl | rfl | rfl | rfl <;> rfl
section
variable {l m : List Nd} {room : Int} {e n p : Nat} {S : List (Int × Int)}
theorem sx_is (hr : Right6 l room) (hn : Is l (e + 2) n) {y x : Nat} (hy : y < 4) (hx : x < 4) : Is l e (sx l n y x) := kid_is hr (kid_is hr hn (by omega)) (by omega)
theorem sx_grows (hr : Right6 l room) (hn : Is l (e + 2) n) (g : Grows l m) {y x : Nat} (hy : y < 4) (hx : x < 4) : sx m n y x = sx l n y x := by
  unfold sx
  rw [kidN_grows g hn.lt, kidN_grows g (kid_is hr hn (by omega)).lt]
theorem sqK_grows (hr : Right6 l room) (hn : Is l (e + 2) n) (g : Grows l m) {y x : Nat} (hy : y < 3) (hx : x < 3) : sqK m n y x = sqK l n y x := by
  unfold sqK
  rw [sx_grows hr hn g (by omega) (by omega), sx_grows hr hn g (by omega) (by omega), sx_grows hr hn g (by omega) (by omega), sx_grows hr hn g (by omega) (by omega)]
theorem sq_fit (hr : Right6 l room) (hn : Is l (e + 2) n) (he : e + 2 ≤ 42) {y x : Nat} (hy : y < 3) (hx : x < 3) : Fit4 l (sqK l n y x) := by
  have hall : ∀ j, j < 4 → Is l e (sx l n (y + j / 2) (x + j % 2)) := fun j hj => sx_is hr hn (by omega) (by omega)
  have h0 : (ndAt l (sqK l n y x).1).1 = (e : Int) := by
    show (ndAt l ((sx l n y x : Nat) : Int)).1 = _
    rw [ndAt_nat]
    exact (hall 0 (by decide)).lev
  refine ⟨fun j hj => ?_, by omega⟩
  have hj' := hall j hj
  rw [kd_sqK l n y x hj, h0]
  refine ⟨by omega, by have := hj'.lt; omega, ?_⟩
  rw [ndAt_nat]
  exact hj'.lev
/-- a corner of the nine is a quarter of the node -/
theorem sqK_corner (hr : Right6 l room) (hn : Is l (e + 2) n) {k : Nat} (hk : k < 4) : sqK l n (k / 2 * 2) (k % 2 * 2) = (l.getD (kidN l n k) deadN).2.1 := kd_ext fun j hj => by
  rw [kd_sqK l n _ _ hj, kid_cast hr (kid_is hr hn hk) hj]
  congr 1
  unfold sx
  have e1 : (k / 2 * 2 + j / 2) / 2 * 2 + (k % 2 * 2 + j % 2) / 2 = k := by omega
  have e2 : (k / 2 * 2 + j / 2) % 2 * 2 + (k % 2 * 2 + j % 2) % 2 = j := by omega
  rw [e1, e2]
theorem corner_at (hr : Right6 l room) (hn : Is l (e + 2) n) {k : Nat} (hk : k < 4) : at6 l (sqK l n (k / 2 * 2) (k % 2 * 2)) = some (kidN l n k) := by
  have hi := kid_is hr hn hk
  rw [sqK_corner hr hn hk]
  exact (fits_iff.1 (hr.fits _ (hi.two hr) hi.lt)).first

/-! ### which of a node's cells are alive, by its sixteen -/
theorem div_two (u : Int) (k : Nat) : u / 2 ^ (k + 1) = u / 2 ^ k / 2 := by
  rw [show (2 : Int) ^ (k + 1) = 2 ^ k * 2 from Int.pow_succ .., Int.ediv_ediv_of_nonneg (Int.le_of_lt (pow_pos7 k))]
theorem alive_sx (l : List Nd) (n : Nat) (u : Int × Int) {y x : Nat} (hy : u.2 / 2 ^ e = (y : Int)) (hx : u.1 / 2 ^ e = (x : Int)) (hy4 : y < 4) (hx4 : x < 4) : alive l (e + 2) n u = alive l e (sx l n y x) u := by
  have h1 : q7 (e + 1) u = y / 2 * 2 + x / 2 := by
    unfold q7
    rw [div_two, div_two, hy, hx]
    omega
  have h2 : q7 e u = y % 2 * 2 + x % 2 := by
    unfold q7
    rw [hy, hx]
    omega
  show alive l e (kidN l (kidN l n (q7 (e + 1) u)) (q7 e u)) u = _
  rw [h1, h2]
  rfl
theorem agree_mod (k : Nat) (c : Int × Int) : Agree k c (c.1 % 2 ^ k, c.2 % 2 ^ k) ∧ InSq k (c.1 % 2 ^ k, c.2 % 2 ^ k) := by
  have hp := pow_pos7 k
  have e1 : c.1 % 2 ^ k = c.1 + 2 ^ k * (- (c.1 / 2 ^ k)) := by have := Int.emod_add_mul_ediv c.1 (2 ^ k); rw [Int.mul_neg]; omega
  have e2 : c.2 % 2 ^ k = c.2 + 2 ^ k * (- (c.2 / 2 ^ k)) := by have := Int.emod_add_mul_ediv c.2 (2 ^ k); rw [Int.mul_neg]; omega
  refine ⟨?_, Int.emod_nonneg _ (by omega), Int.emod_lt_of_pos _ hp, Int.emod_nonneg _ (by omega), Int.emod_lt_of_pos _ hp⟩
  rw [e1, e2]
  exact (agree_shift c _ _ k).symm
/-- what is alive need be told within the square alone -/
theorem alive_within {T : List (Int × Int)} {k : Nat} (h : ∀ c, InSq k c → alive m k p c = T.any fun s => agreeB k s c) (c : Int × Int) : alive m k p c = T.any fun s => agreeB k s c := by
  obtain ⟨h1, h2⟩ := agree_mod k c
  rw [alive_agree k p h1, h _ h2]
  congr 1
  funext s
  exact agreeB_right h1.symm
/-- the cells of a set that are in a square about a place, as that one's own -/
def cropL (S : List (Int × Int)) (dx dy : Int) (e : Nat) : List (Int × Int) := (S.map fun c => (c.1 - dx, c.2 - dy)).filter (insideB e)
theorem mem_crop {dx dy : Int} {c : Int × Int} : c ∈ cropL S dx dy e ↔ (c.1 + dx, c.2 + dy) ∈ S ∧ insideB e c = true := by
  unfold cropL
  rw [List.mem_filter, List.mem_map]
  constructor
  · rintro ⟨⟨s, hs, rfl⟩, h⟩
    exact ⟨by simpa using hs, h⟩
  · rintro ⟨h1, h2⟩
    exact ⟨⟨_, h1, Prod.ext (by simp only; omega) (by simp only; omega)⟩, h2⟩
theorem rises_crop (hS : Cel.Rises S) (dx dy : Int) (e : Nat) : Cel.Rises (cropL S dx dy e) := by
  unfold cropL
  refine List.Pairwise.filter _ ?_
  rw [List.pairwise_map]
  refine List.Pairwise.imp ?_ hS
  intro p q hpq
  unfold Cel.lessB at *
  replace hpq := of_decide_eq_true hpq
  exact decide_eq_true (by simp only; omega)
theorem inside_in (he : e ≤ 40) {c : Int × Int} (h : insideB e c = true) : Cel.inB c = true := by
  have h' := of_decide_eq_true h
  have hp : (2 : Int) ^ e ≤ 2 ^ 40 := pow_le7 he
  have e4 : (2 : Int) ^ 40 = 1099511627776 := rfl
  unfold Cel.inB
  exact decide_eq_true (by omega)
end

/-! ### the nine -/
/-- the first of the nine are made; the first error ends it -/
def nineTo (room : Int) (l : List Nd) (n : Nat) : Nat → List Nd × (Nat → Int) × Int
  | 0 => (l, fun _ => 0, 0)
  | i + 1 => if (nineTo room l n i).2.2 = 0 then ((put6 (nineTo room l n i).1 room (sqK l n (i / 3) (i % 3))).1, fun j => if j = i then (put6 (nineTo room l n i).1 room (sqK l n (i / 3) (i % 3))).2.1 else (nineTo room l n i).2.1 j, (put6 (nineTo room l n i).1 room (sqK l n (i / 3) (i % 3))).2.2) else nineTo room l n i
theorem nineTo_right {room : Int} {l : List Nd} {n : Nat} (h : Right6 l room) : ∀ i, Right6 (nineTo room l n i).1 room
  | 0 => h
  | i + 1 => by
    have ih := nineTo_right h (n := n) i
    unfold nineTo
    split
    · exact put_right ih _
    · exact ih
theorem nineTo_stop {room : Int} {l : List Nd} {n i : Nat} (h : ¬ (nineTo room l n i).2.2 = 0) : ∀ d, nineTo room l n (i + d) = nineTo room l n i
  | 0 => rfl
  | d + 1 => by
    have ih := nineTo_stop h d
    show (if (nineTo room l n (i + d)).2.2 = 0 then _ else nineTo room l n (i + d)) = _
    rw [ih, if_neg h]
/-- What is known of the first of the nine. -/
structure NineAt (room : Int) (l : List Nd) (e n i : Nat) (m : List Nd) (p : Nat → Nat) : Prop where
  list : (nineTo room l n i).1 = m
  err : (nineTo room l n i).2.2 = 0
  at_ : ∀ j, j < i → (nineTo room l n i).2.1 j = (p j : Int)
  grows : Grows l m
  right : Right6 m room
  len : m.length ≤ l.length + i
  is : ∀ j, j < i → Is m (e + 1) (p j)
  kids : ∀ j, j < i → at6 m (sqK l n (j / 3) (j % 3)) = some (p j)
theorem NineAt.kid {room : Int} {l m : List Nd} {e n i : Nat} {p : Nat → Nat} (h : NineAt room l e n i m p) {j : Nat} (hj : j < i) : (m.getD (p j) deadN).2.1 = sqK l n (j / 3) (j % 3) := (at_some (h.kids j hj)).2.2.1
/-- made again, in a store that grew -/
theorem NineAt.again {room : Int} {l m b : List Nd} {e n : Nat} {p : Nat → Nat} (hr : Right6 l room) (hn : Is l (e + 2) n) (he : e + 2 ≤ 42) (h : NineAt room l e n 9 m p) (g : Grows m b) {y x : Nat} (hy : y < 3) (hx : x < 3) : put6 b room (sqK b n y x) = (b, ((p (y * 3 + x) : Nat) : Int), 0) := by
  have g' := h.grows.trans g
  have hfit := g'.fit4 (sq_fit hr hn he hy hx)
  rw [sqK_grows hr hn g' hy hx]
  refine put_again hfit ?_
  have := h.kids (y * 3 + x) (by omega)
  rw [show (y * 3 + x) / 3 = y by omega, show (y * 3 + x) % 3 = x by omega] at this
  exact g.at_ this
end Go.Proofs.Ytikgnjcjbjafaaa
