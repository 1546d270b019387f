/-
  The law BaseTells.
-/
import Derived.Test.YtikgnjcjbjafaaaOh
import Derived.Test.YtikgnjcjbjafaaaKf
import Derived.Test.YtikgnjcjbjafaaaAb
namespace Go.Proofs.Ytikgnjcjbjafaaa
set_option maxRecDepth 100000
set_option linter.unusedVariables false
set_option linter.unusedSimpArgs false
open Go.RowKit Go.Sort

theorem grown6_len {l : List Nd} {room : Int} {z : List Nd × Int × Int} {k : Nat} (hz : z.1.length ≤ k) (hl : l.length ≤ k) : (grown6 l room z).1.length ≤ k := by
  unfold grown6
  split
  · split
    · exact hz
    · exact hl
  · exact hl
theorem centre8_len (l : List Nd) (room n : Int) : (centre8 l room n).1.length ≤ l.length + 1 := by
  unfold centre8
  refine grown6_len ?_ (by omega)
  unfold centreZ
  split
  · exact Nat.le_succ _
  · exact put6_len _ _ _
theorem step8_len (l : List Nd) (room n : Int) : (step8 l room n).1.length ≤ l.length + 1 := by
  unfold step8
  refine grown6_len ?_ (by omega)
  unfold stepZ
  split
  · exact put6_len _ _ _
  · exact Nat.le_succ _
theorem nineTo_len (room : Int) (l : List Nd) (n : Nat) : ∀ i, (nineTo room l n i).1.length ≤ l.length + i
  | 0 => Nat.le_refl _
  | i + 1 => by
    have ih := nineTo_len room l n i
    unfold nineTo
    split
    · have := put6_len (nineTo room l n i).1 room (sqK l n (i / 3) (i % 3))
      show (put6 _ _ _).1.length ≤ _
      omega
    · omega
theorem nine8_len (l : List Nd) (room n : Int) : (nine8 l room n).1.length ≤ l.length + 9 := by
  have h := nineTo_len room l n.toNat 9
  have hz : (nineZ room l n).1.length ≤ l.length + 9 := by
    unfold nineZ
    split
    · exact Nat.le_add_right _ _
    · split
      · exact h
      · exact h
  unfold nine8
  generalize nineZ room l n = z at *
  unfold grown9
  split
  · split
    · exact hz
    · exact Nat.le_add_right _ _
  · exact Nat.le_add_right _ _
theorem StB.other {W : World} {ba bb : Nat} {A : Option Addr} {l : List Nd} {c : Nat} {ro : Int} {x y : Value} (h : StB W ba A l c ro) (hrow : W.heap[bb]? = some (.cells #[x, y] 27 (0, 0))) (hne : ba ≠ bb) (u v : Value) : StB ((W.setCell ⟨bb, 0, none⟩ u).setCell ⟨bb, 1, none⟩ v) ba A l c ro :=
  ⟨((Below.heap_setCell _ _ _ _ (by show ba ≠ bb; exact hne)).trans (Below.heap_setCell _ _ _ _ (by show ba ≠ bb; exact hne))).trans h.row, (rdN_told h.rd hrow).more (by simp [World.setCell]), h.cap⟩
theorem set2_row {W : World} {ba bb : Nat} {o : Obj} (h : W.heap[bb]? = some o) (hne : bb ≠ ba) (u v : Value) : ((W.setCell ⟨ba, 0, none⟩ u).setCell ⟨ba, 1, none⟩ v).heap[bb]? = some o :=
  ((Below.heap_setCell _ _ _ _ (by show bb ≠ ba; exact hne)).trans (Below.heap_setCell _ _ _ _ (by show bb ≠ ba; exact hne))).trans h
theorem below_set2 {w W : World} {B b : Nat} (h : Below B w W) (hb : B ≤ b) (u v : Value) : Below B w ((W.setCell ⟨b, 0, none⟩ u).setCell ⟨b, 1, none⟩ v) := (h.setCell (p := ⟨b, 0, none⟩) hb u).setCell (p := ⟨b, 1, none⟩) hb v
theorem neq9 (f : Nat → Int) (w : World) : (binOp .neq 61 (.agg #[.int .i64 (f 0), .int .i64 (f 1), .int .i64 (f 2), .int .i64 (f 3), .int .i64 (f 4), .int .i64 (f 5), .int .i64 (f 6), .int .i64 (f 7), .int .i64 (f 8)]) (.agg #[.int .i64 (f 0), .int .i64 (f 1), .int .i64 (f 2), .int .i64 (f 3), .int .i64 (f 4), .int .i64 (f 5), .int .i64 (f 6), .int .i64 (f 7), .int .i64 (f 8)])).run Try.prog w = .ok (.bool false) w := by
  have h := eql9 f w
  rw [run_eql_struct] at h
  rw [run_neq_struct]
  cases hq : (Op.equalIn 10000 61 (.agg #[.int .i64 (f 0), .int .i64 (f 1), .int .i64 (f 2), .int .i64 (f 3), .int .i64 (f 4), .int .i64 (f 5), .int .i64 (f 6), .int .i64 (f 7), .int .i64 (f 8)]) (.agg #[.int .i64 (f 0), .int .i64 (f 1), .int .i64 (f 2), .int .i64 (f 3), .int .i64 (f 4), .int .i64 (f 5), .int .i64 (f 6), .int .i64 (f 7), .int .i64 (f 8)])).run Try.prog w with
  | ok b w' =>
    rw [hq] at h
    simp only [Result.andThen_ok] at h ⊢
    injection h with h1 h2
    injection h1 with h1
    rw [h1, h2]
    rfl
  | _ => rw [hq] at h; cases h
/-- What the law keeps in the round of a place. -/
structure BtAt (w W : World) (bs : Nat) (A2 : Option Addr) (l : List Nd) (c2 : Nat) (R : Int) (Aa : Option Addr) (la : List Nd) (ca : Nat) (ra : Int) : Prop where
  two : TwoB W bs A2 l c2 R Aa la ca ra
  bel : Below w.heap.size w W
theorem BtAt.below {w W W' : World} {bs : Nat} {A2 : Option Addr} {l : List Nd} {c2 : Nat} {R : Int} {Aa : Option Addr} {la : List Nd} {ca : Nat} {ra : Int} (h : BtAt w W bs A2 l c2 R Aa la ca ra) (hb : Below W.heap.size W W') : BtAt w W' bs A2 l c2 R Aa la ca ra := ⟨h.two.below hb, Qt.more h.bel h.bel.size hb⟩
/-- four numbers -/
def F4B (w : World) (b : Nat) (x y u v : Int) : Prop := w.heap[b]? = some (.cells #[.int .i64 x, .int .i64 y, .int .i64 u, .int .i64 v] 3 (0, 0))
theorem F4B.below {w w' : World} {b : Nat} {x y u v : Int} (h : F4B w b x y u v) (hb : Below w.heap.size w w') : F4B w' b x y u v := (hb.block _ (lt_heap6 h)).trans h
theorem F4B.one {w : World} {b : Nat} {x y u v : Int} (h : F4B w b x y u v) {j : Nat} (hj : j < 4) : ∃ m : Int, w.cell? ⟨b, j, none⟩ = some (.int .i64 m) := by
  rcases (by omega : j = 0 ∨ j = 1 ∨ j = 2 ∨ j = 3) with rfl | rfl | rfl | rfl
  · exact ⟨x, by rw [Lib.cell_of_heap h]; rfl⟩
  · exact ⟨y, by rw [Lib.cell_of_heap h]; rfl⟩
  · exact ⟨u, by rw [Lib.cell_of_heap h]; rfl⟩
  · exact ⟨v, by rw [Lib.cell_of_heap h]; rfl⟩
set_option maxHeartbeats 16000000 in
theorem baseTells_law (room : Int) (A : Option Addr) (raw : List Raw5) (c : Nat) (B : Option Addr) (rs : List (Int × Int)) (d : Nat) (lev : Int) (Aa : Option Addr) (la : List Nd) (ca : Nat) (ra n : Int) (w : World) (hI : I64 room) (hR : RdR w w.heap.size A raw) (hl : raw.length ≤ 9223372036854775807) (hF : ∀ j, j < raw.length → Fine5 (raw.getD j dead5))
    (hB : RdC w w.heap.size B rs) (hBl : rs.length ≤ 9223372036854775807) (hBc : rs.length ≤ d) (hBw : ∀ p ∈ rs, Cel.I64 p.1 ∧ Cel.I64 p.2) (hL : I64 lev)
    (hRa : RdN w w.heap.size Aa la) (hla : la.length ≤ 9223372036854775807) (hca : la.length ≤ ca) (hFa : ∀ j, j < la.length → FineN (la.getD j deadN)) (hIa : I64 ra) (hIn : I64 n) :
    Calls Try.prog 7 #[.int .i64 room, .slice A raw.length c, .slice B rs.length d, .int .i64 lev, storeV Aa la.length ca ra, .int .i64 n] w fun e w' => e = .returned (.bool true) ∧ Below w.heap.size w w' := by
  obtain ⟨R, m0, nq, e, t, HL⟩ := square_ok room raw rs lev
  have hsq := fun W hR' hB' => square7_any HL A c B d W hI hR' hl hF hB' hBl hBc hBw hL
  have HLV := Lib.hid (lev_bd HL.sq.right)
  have HLA := Lib.hid (show ∀ i, i < la.length → -9223372036854775808 ≤ (la.getD i deadN).1 ∧ (la.getD i deadN).1 ≤ 9223372036854775807 from fun i hi => (hFa i hi).1)
  have hm6 : m0.length ≤ 600 := HL.few
  have hnq : nq < m0.length := HL.sq.is.lt
  have HR := Lib.hid hR
  have HB := Lib.hid hB
  have HSQ := Lib.hid hsq
  have hb0 := (Below.refl w.heap.size w).alloc (Nat.le_refl _) (.cells #[.slice Aa la.length ca, .int .i64 ra] 27)
  have HB0 := Lib.hid hb0
  have HA0 := Lib.hid (stB_new (w := w) (A := Aa) (l := la) hRa hca ra)
  unfold storeV
  clear hsq hR hB hRa HL hI hF hBw hL hl hBl hFa hIa hb0 hca
  go_enter Try.func7, Try.ntmps7
  go_wp2_with fail
  generalize (w.alloc (.cells #[.slice Aa la.length ca, .int .i64 ra] 27)) = w0 at *
  refine (awake8_any w0).mono ?_
  rintro r w1 ⟨rfl, hb1⟩
  have HB1 := Lib.hid (Qt.more HB0.out HB0.out.size hb1)
  have HA1 := Lib.hid (HA0.out.below hb1)
  have hs1 := HSQ.out w1 ((HR.out.below HB1.out (Nat.le_refl _)).more HB1.out.size) ((Cel.Rd.below HB.out HB1.out (Nat.le_refl _)).more HB1.out.size)
  clear HR HB HSQ hb1 HB0 HA0
  go_wp2_with fail
  refine hs1.mono ?_
  rintro r w2 ⟨A2, c2, rfl, hcap2, N2, hb2⟩
  have hal := (Below.refl w2.heap.size w2).alloc (Nat.le_refl _) (.cells #[.slice A2 m0.length c2, .int .i64 R] 27)
  have hal2 := hal.alloc hal.size (.cells #[.slice A2 m0.length c2, .int .i64 R, .slice Aa la.length ca, .int .i64 ra] 27)
  have hsz : (w2.alloc (.cells #[.slice A2 m0.length c2, .int .i64 R] 27)).heap.size = w2.heap.size + 1 := by simp
  have hA2 := HA1.out.below hb2
  have HT := Lib.hid (show BtAt w ((w2.alloc (.cells #[.slice A2 m0.length c2, .int .i64 R] 27)).alloc (.cells #[.slice A2 m0.length c2, .int .i64 R, .slice Aa la.length ca, .int .i64 ra] 27)) (w2.heap.size + 1) A2 m0 c2 R Aa la ca ra from
    ⟨⟨heap_new hsz, N2.below hal2, (show NowN w2 Aa la from hA2.rd).below hal2⟩, Qt.more HB1.out HB1.out.size (Qt.more (B := w1.heap.size) hb2 hb2.size hal2)⟩)
  have s0 := hA2.s0
  have s1 := hA2.s1
  have s0 : ∀ o, (w2.alloc o).cell? ⟨w.heap.size, 0, none⟩ = some (.slice Aa la.length ca) := fun o => (World.cell?_alloc_lt w2 o _ (block_lt_of_cell s0)).trans s0
  have s1 : ∀ o, (w2.alloc o).cell? ⟨w.heap.size, 1, none⟩ = some (.int .i64 ra) := fun o => (World.cell?_alloc_lt w2 o _ (block_lt_of_cell s1)).trans s1
  have HCAP := Lib.hid (show m0.length ≤ c2 ∧ la.length ≤ ca from ⟨hcap2, hA2.cap⟩)
  clear hs1 hb2 hal hal2 hsz hA2 HB1 HA1 N2
  go_wp2_with fail
  clear s0 s1
  generalize ((w2.alloc (.cells #[.slice A2 m0.length c2, .int .i64 R] 27)).alloc (.cells #[.slice A2 m0.length c2, .int .i64 R, .slice Aa la.length ca, .int .i64 ra] 27)) = w3 at *
  generalize w2.heap.size = b2 at *
  go_loopw [41] (fun u wr => ∃ j : Nat, j ≤ 2 ∧ u = .int .i64 j ∧ Hid (BtAt w wr (b2 + 1) A2 m0 c2 R Aa la ca ra)) (fun u _ => 2 - (intOf u).toNat)
  case atStart => exact ⟨0, by omega, rfl, HT.out⟩
  case round =>
    obtain ⟨j, hj, rfl, HH⟩ := hrel
    by_cases hj2 : j < 2
    · have hj2z : (j : Int) < 2 := by omega
      obtain ⟨As, ls, cs, ro, c0, c1, N, hcs, hP⟩ := HH.out.two.one HCAP.out.1 HCAP.out.2 (fun ls => ls.length ≤ 9223372036854775807 ∧ ∀ i, i < ls.length → -9223372036854775808 ≤ (ls.getD i deadN).1 ∧ (ls.getD i deadN).1 ≤ 9223372036854775807) ⟨by omega, HLV.out⟩ ⟨hla, HLA.out⟩ hj2
      have hlsb := hP.1
      have HLS := Lib.hid hP.2
      have hal := (Below.refl wr.heap.size wr).alloc (Nat.le_refl _) (.cells #[.slice As ls.length cs, .int .i64 ro] 27)
      have HSx := Lib.hid (stB_new N hcs ro)
      have HTx := Lib.hid (HH.out.below hal)
      have s0 := HSx.out.s0
      have s1 := HSx.out.s1
      obtain ⟨wo, rfl⟩ : ∃ wo : World, wo = wr := ⟨_, rfl⟩
      clear hP hal N HH
      by_cases hbig : 250 < ls.length
      · have hbz : (250 : Int) < (ls.length : Int) := by omega
        go_wp2_with fail
        go_roundw
        case measure => simp [intOf]; omega
        case rel => exact ⟨j + 1, by omega, by go_num, HTx.out⟩
      · have hbz : ¬ (250 : Int) < (ls.length : Int) := by omega
        go_wp2_with fail
        generalize (wo.alloc (.cells #[.slice As ls.length cs, .int .i64 ro] 27)) = v1 at *
        generalize wo.heap.size = bx at *
        clear c0 c1
        have hpb := pickI_bd n ((ls.length : Int) + 1) (by omega)
        have hpk := fun W => pick8_any n ((ls.length : Int) + 1) W hIn.1 hIn.2 (by omega) (by omega)
        obtain ⟨u, hu⟩ : ∃ u : Nat, pickI n ((ls.length : Int) + 1) = (u : Int) := ⟨(pickI n ((ls.length : Int) + 1)).toNat, by omega⟩
        rw [hu] at hpb hpk
        have hw1 : IntKind.i64.wrap ((ls.length : Int) + 1) = (ls.length : Int) + 1 := by rw [IntKind.wrap_i64]; omega
        have hw2 : IntKind.i64.wrap ((ls.length : Int) - 1) = (ls.length : Int) - 1 := by rw [IntKind.wrap_i64]; omega
        have hw3 : IntKind.i64.wrap ((u : Int) / 2) = (u : Int) / 2 := by rw [IntKind.wrap_i64]; omega
        have hw4 : IntKind.i64.wrap ((ls.length : Int) - 1 - (u : Int) / 2) = (ls.length : Int) - 1 - (u : Int) / 2 := by rw [IntKind.wrap_i64]; omega
        have hB9 := (below_drew v1).alloc (Nat.le_refl _) (.cells #[.int .i64 n, .int .i64 (u : Int), .int .i64 (nq : Int), .int .i64 ((ls.length : Int) - 1 - (u : Int) / 2)] 3)
        have hF9 : F4B (v1.drew.alloc (.cells #[.int .i64 n, .int .i64 (u : Int), .int .i64 (nq : Int), .int .i64 ((ls.length : Int) - 1 - (u : Int) / 2)] 3)) v1.heap.size n (u : Int) (nq : Int) ((ls.length : Int) - 1 - (u : Int) / 2) := heap_alloc_new v1.drew _
        have HB9 := Lib.hid hB9
        have HF9 := Lib.hid hF9
        clear hu hpb hB9 hF9 s0 s1
        refine region_calm_to (fun W => Below v1.heap.size v1 W) (fun (a0 a9 : Act) (w9 : World) => a9 = (((((((((((((((((((((((a0.put (some 49) (.int .i64 n)).put (some 50) (.int .i64 n)).put (some 51) (.pointer (some ⟨bx, 0, none⟩))).put (some 52) (.slice As ls.length cs)).put (some 53) (.int .i64 (ls.length : Int))).put (some 54) (.int .i64 ((ls.length : Int) + 1))).put (some 55) (.int .i64 (u : Int))).put (some 56) (.int .i64 (nq : Int))).put (some 57) (.pointer (some ⟨bx, 0, none⟩))).put (some 58) (.slice As ls.length cs)).put (some 59) (.int .i64 (ls.length : Int))).put (some 60) (.int .i64 ((ls.length : Int) - 1))).put (some 61) (.int .i64 n)).put (some 62) (.pointer (some ⟨bx, 0, none⟩))).put (some 63) (.slice As ls.length cs)).put (some 64) (.int .i64 (ls.length : Int))).put (some 65) (.int .i64 ((ls.length : Int) + 1))).put (some 66) (.int .i64 (u : Int))).put (some 67) (.int .i64 ((u : Int) / 2))).put (some 68) (.int .i64 ((ls.length : Int) - 1 - (u : Int) / 2))).put (some 71) (.int .i64 0)).put (some 69) (.slice (some ⟨v1.heap.size, 0, none⟩) 4 4)).put (some 70) (.int .i64 4)) ∧ (F4B w9 v1.heap.size n (u : Int) (nq : Int) ((ls.length : Int) - 1 - (u : Int) / 2) ∧ Below v1.heap.size v1 w9)) (.calm 0 (.calm 1 (.calm 2 (.calm 3 (.calm 4 (.calm 5 (.calm 6 (.calm 7 (.calm 8 (.calm 9 (.calm 10 (.calm 11 (.calm 12 (.calm 13 (.calm 14 (.calm 15 (.calm 16 (.calm 17 (.calm 18 (.calm 19 (.calm 22 (.only 20 (.calm 21 .done))))))))))))))))))))))) (by kernel_rfl) (by kernel_rfl) (by kernel_rfl) (by rfl) (below_drew v1) ?_ ?_
        · skip
          refine ⟨_, _, (.int .i64 n), rfl, rfl, ⟨rfl, fun W hW => by first | exact ⟨rfl, rfl⟩ | (simp only [Act.eval, execOp]; go_simp; try exact ⟨rfl, rfl⟩)⟩, ?_⟩
          simp only [Act.put, List.getElem_toArray, List.getElem_cons_zero, List.getElem_cons_succ, List.setIfInBounds_toArray, List.set_cons_succ, List.set_cons_zero]
          refine ⟨_, _, (.int .i64 n), rfl, rfl, ⟨rfl, fun W hW => by first | exact ⟨rfl, rfl⟩ | (simp only [Act.eval, execOp]; go_simp; try exact ⟨rfl, rfl⟩)⟩, ?_⟩
          simp only [Act.put, List.getElem_toArray, List.getElem_cons_zero, List.getElem_cons_succ, List.setIfInBounds_toArray, List.set_cons_succ, List.set_cons_zero]
          refine ⟨_, _, (.pointer (some ⟨bx, 0, none⟩)), rfl, rfl, ⟨rfl, fun W hW => by first | exact ⟨rfl, rfl⟩ | (simp only [Act.eval, execOp]; go_simp; try exact ⟨rfl, rfl⟩)⟩, ?_⟩
          simp only [Act.put, List.getElem_toArray, List.getElem_cons_zero, List.getElem_cons_succ, List.setIfInBounds_toArray, List.set_cons_succ, List.set_cons_zero]
          refine ⟨_, _, (.slice As ls.length cs), rfl, rfl, ⟨rfl, fun W hW => by have s0 := (HSx.out.below hW).s0; simp only [execOp]; go_simp; done⟩, ?_⟩
          simp only [Act.put, List.getElem_toArray, List.getElem_cons_zero, List.getElem_cons_succ, List.setIfInBounds_toArray, List.set_cons_succ, List.set_cons_zero]
          refine ⟨_, _, (.int .i64 (ls.length : Int)), rfl, rfl, ⟨rfl, fun W hW => by first | exact ⟨rfl, rfl⟩ | (simp only [Act.eval, execOp]; go_simp; try exact ⟨rfl, rfl⟩)⟩, ?_⟩
          simp only [Act.put, List.getElem_toArray, List.getElem_cons_zero, List.getElem_cons_succ, List.setIfInBounds_toArray, List.set_cons_succ, List.set_cons_zero]
          refine ⟨_, _, (.int .i64 ((ls.length : Int) + 1)), rfl, rfl, ⟨rfl, fun W hW => by first | exact ⟨rfl, rfl⟩ | (simp only [Act.eval, execOp]; go_simp; try exact ⟨rfl, rfl⟩)⟩, ?_⟩
          simp only [Act.put, List.getElem_toArray, List.getElem_cons_zero, List.getElem_cons_succ, List.setIfInBounds_toArray, List.set_cons_succ, List.set_cons_zero]
          refine ⟨_, _, (.int .i64 (u : Int)), rfl, rfl, ⟨rfl, fun W hW => by simp only [execOp]; go_simp; exact (hpk W).mono fun e w1 h => ⟨h.1, h.2.symm⟩⟩, ?_⟩
          simp only [Act.put, List.getElem_toArray, List.getElem_cons_zero, List.getElem_cons_succ, List.setIfInBounds_toArray, List.set_cons_succ, List.set_cons_zero]
          refine ⟨_, _, (.int .i64 (nq : Int)), rfl, rfl, ⟨rfl, fun W hW => by first | exact ⟨rfl, rfl⟩ | (simp only [Act.eval, execOp]; go_simp; try exact ⟨rfl, rfl⟩)⟩, ?_⟩
          simp only [Act.put, List.getElem_toArray, List.getElem_cons_zero, List.getElem_cons_succ, List.setIfInBounds_toArray, List.set_cons_succ, List.set_cons_zero]
          refine ⟨_, _, (.pointer (some ⟨bx, 0, none⟩)), rfl, rfl, ⟨rfl, fun W hW => by first | exact ⟨rfl, rfl⟩ | (simp only [Act.eval, execOp]; go_simp; try exact ⟨rfl, rfl⟩)⟩, ?_⟩
          simp only [Act.put, List.getElem_toArray, List.getElem_cons_zero, List.getElem_cons_succ, List.setIfInBounds_toArray, List.set_cons_succ, List.set_cons_zero]
          refine ⟨_, _, (.slice As ls.length cs), rfl, rfl, ⟨rfl, fun W hW => by have s0 := (HSx.out.below hW).s0; simp only [execOp]; go_simp; done⟩, ?_⟩
          simp only [Act.put, List.getElem_toArray, List.getElem_cons_zero, List.getElem_cons_succ, List.setIfInBounds_toArray, List.set_cons_succ, List.set_cons_zero]
          refine ⟨_, _, (.int .i64 (ls.length : Int)), rfl, rfl, ⟨rfl, fun W hW => by first | exact ⟨rfl, rfl⟩ | (simp only [Act.eval, execOp]; go_simp; try exact ⟨rfl, rfl⟩)⟩, ?_⟩
          simp only [Act.put, List.getElem_toArray, List.getElem_cons_zero, List.getElem_cons_succ, List.setIfInBounds_toArray, List.set_cons_succ, List.set_cons_zero]
          refine ⟨_, _, (.int .i64 ((ls.length : Int) - 1)), rfl, rfl, ⟨rfl, fun W hW => by first | exact ⟨rfl, rfl⟩ | (simp only [Act.eval, execOp]; go_simp; try exact ⟨rfl, rfl⟩)⟩, ?_⟩
          simp only [Act.put, List.getElem_toArray, List.getElem_cons_zero, List.getElem_cons_succ, List.setIfInBounds_toArray, List.set_cons_succ, List.set_cons_zero]
          refine ⟨_, _, (.int .i64 n), rfl, rfl, ⟨rfl, fun W hW => by first | exact ⟨rfl, rfl⟩ | (simp only [Act.eval, execOp]; go_simp; try exact ⟨rfl, rfl⟩)⟩, ?_⟩
          simp only [Act.put, List.getElem_toArray, List.getElem_cons_zero, List.getElem_cons_succ, List.setIfInBounds_toArray, List.set_cons_succ, List.set_cons_zero]
          refine ⟨_, _, (.pointer (some ⟨bx, 0, none⟩)), rfl, rfl, ⟨rfl, fun W hW => by first | exact ⟨rfl, rfl⟩ | (simp only [Act.eval, execOp]; go_simp; try exact ⟨rfl, rfl⟩)⟩, ?_⟩
          simp only [Act.put, List.getElem_toArray, List.getElem_cons_zero, List.getElem_cons_succ, List.setIfInBounds_toArray, List.set_cons_succ, List.set_cons_zero]
          refine ⟨_, _, (.slice As ls.length cs), rfl, rfl, ⟨rfl, fun W hW => by have s0 := (HSx.out.below hW).s0; simp only [execOp]; go_simp; done⟩, ?_⟩
          simp only [Act.put, List.getElem_toArray, List.getElem_cons_zero, List.getElem_cons_succ, List.setIfInBounds_toArray, List.set_cons_succ, List.set_cons_zero]
          refine ⟨_, _, (.int .i64 (ls.length : Int)), rfl, rfl, ⟨rfl, fun W hW => by first | exact ⟨rfl, rfl⟩ | (simp only [Act.eval, execOp]; go_simp; try exact ⟨rfl, rfl⟩)⟩, ?_⟩
          simp only [Act.put, List.getElem_toArray, List.getElem_cons_zero, List.getElem_cons_succ, List.setIfInBounds_toArray, List.set_cons_succ, List.set_cons_zero]
          refine ⟨_, _, (.int .i64 ((ls.length : Int) + 1)), rfl, rfl, ⟨rfl, fun W hW => by first | exact ⟨rfl, rfl⟩ | (simp only [Act.eval, execOp]; go_simp; try exact ⟨rfl, rfl⟩)⟩, ?_⟩
          simp only [Act.put, List.getElem_toArray, List.getElem_cons_zero, List.getElem_cons_succ, List.setIfInBounds_toArray, List.set_cons_succ, List.set_cons_zero]
          refine ⟨_, _, (.int .i64 (u : Int)), rfl, rfl, ⟨rfl, fun W hW => by simp only [execOp]; go_simp; exact (hpk W).mono fun e w1 h => ⟨h.1, h.2.symm⟩⟩, ?_⟩
          simp only [Act.put, List.getElem_toArray, List.getElem_cons_zero, List.getElem_cons_succ, List.setIfInBounds_toArray, List.set_cons_succ, List.set_cons_zero]
          refine ⟨_, _, (.int .i64 ((u : Int) / 2)), rfl, rfl, ⟨rfl, fun W hW => by first | exact ⟨rfl, rfl⟩ | (simp only [Act.eval, execOp]; go_simp; try exact ⟨rfl, rfl⟩)⟩, ?_⟩
          simp only [Act.put, List.getElem_toArray, List.getElem_cons_zero, List.getElem_cons_succ, List.setIfInBounds_toArray, List.set_cons_succ, List.set_cons_zero]
          refine ⟨_, _, (.int .i64 ((ls.length : Int) - 1 - (u : Int) / 2)), rfl, rfl, ⟨rfl, fun W hW => by first | exact ⟨rfl, rfl⟩ | (simp only [Act.eval, execOp]; go_simp; try exact ⟨rfl, rfl⟩)⟩, ?_⟩
          simp only [Act.put, List.getElem_toArray, List.getElem_cons_zero, List.getElem_cons_succ, List.setIfInBounds_toArray, List.set_cons_succ, List.set_cons_zero]
          refine ⟨_, _, (.int .i64 0), rfl, rfl, ⟨rfl, fun W hW => by first | exact ⟨rfl, rfl⟩ | (simp only [Act.eval, execOp]; go_simp; try exact ⟨rfl, rfl⟩)⟩, ?_⟩
          simp only [Act.put, List.getElem_toArray, List.getElem_cons_zero, List.getElem_cons_succ, List.setIfInBounds_toArray, List.set_cons_succ, List.set_cons_zero]
          refine ⟨_, rfl, ?_⟩
          go_wp2_with fail
          refine ⟨rfl, HB9.out, ?_⟩
          refine ⟨_, _, (.int .i64 4), rfl, rfl, ⟨rfl, fun W hW => by first | exact ⟨rfl, rfl⟩ | (simp only [Act.eval, execOp]; go_simp; try exact ⟨rfl, rfl⟩)⟩, ?_⟩
          simp only [Act.put, List.getElem_toArray, List.getElem_cons_zero, List.getElem_cons_succ, List.setIfInBounds_toArray, List.set_cons_succ, List.set_cons_zero]
          refine ⟨?_, HF9.out, HB9.out⟩
          first | rfl | simp only [Act.put, List.getElem_toArray, List.getElem_cons_zero, List.getElem_cons_succ, List.setIfInBounds_toArray, List.set_cons_succ, List.set_cons_zero]
        rintro a9 w4 ⟨rfl, hF4, hb4⟩
        simp only [Act.put, List.setIfInBounds_toArray, List.set_cons_succ, List.set_cons_zero]
        have HT4 := Lib.hid (HTx.out.below hb4)
        have HS4 := Lib.hid (HSx.out.below hb4)
        have HF4 := Lib.hid hF4
        clear HTx HSx hF4 hb4 hpk hw1 hw2 hw3 hw4 HB9 HF9
        generalize (ls.length : Int) - 1 - (u : Int) / 2 = xx at *
        generalize v1.heap.size = fb at *
        go_wp2_with fail
        go_loopw [71] (fun v wr => ∃ i : Nat, i ≤ 4 ∧ v = .int .i64 i ∧ Hid (BtAt w wr (b2 + 1) A2 m0 c2 R Aa la ca ra) ∧ Hid (StB wr bx As ls cs ro) ∧ Hid (F4B wr fb n (u : Int) (nq : Int) xx)) (fun v _ => 4 - (intOf v).toNat)
        case atStart => exact ⟨0, by omega, rfl, HT4.out, HS4.out, HF4.out⟩
        case round =>
          obtain ⟨i, hi, rfl, HT, HS, HF⟩ := hrel
          by_cases hi4 : i < 4
          · have hi4z : (i : Int) < 4 := by omega
            obtain ⟨m, hm0⟩ := HF.out.one hi4
            obtain ⟨x0, rfl⟩ : ∃ x0 : World, x0 = wr := ⟨_, rfl⟩
            have s0 := HS.out.s0
            have s1 := HS.out.s1
            have hc := centre8_any As ls cs ro m x0 HS.out.rd (by omega) hcs
            have hk := fun W (hW : Below x0.heap.size x0 W) => refCentre8_any As ls cs ro m W ((HS.out.below hW).rd) (by omega) hcs HLS.out
            have hzl := centre8_len ls ro m
            generalize centre8 ls ro m = z at *
            obtain ⟨zl, zn, ze⟩ := z
            dsimp only at hzl
            unfold storeV at hc hk
            have HK := Lib.hid hk
            have HZL := Lib.hid hzl
            clear hk hzl HT4 HS4 HF4
            go_wp2_with fail
            refine hc.mono ?_
            intro r w5 h
            obtain ⟨A5, c5, rfl, hcap5, N5, hb5⟩ := putR_box h
            have hal := (Below.refl w5.heap.size w5).alloc (Nat.le_refl _) (.cells #[.slice A5 zl.length c5, .int .i64 ro] 27)
            have hE := Qt.more (B := x0.heap.size) hb5 hb5.size hal
            have HA := Lib.hid (stB_new N5 hcap5 ro)
            have hba : x0.heap.size ≤ w5.heap.size := hb5.size
            have t0 := (HS.out.below hE).s0
            have t1 := (HS.out.below hE).s1
            have hkk := HK.out _ hE
            have HE := Lib.hid hE
            clear h hc hb5 hal N5 hE s0 s1 hm0 HK
            go_wp2_with fail
            clear t0 t1
            generalize (w5.alloc (.cells #[.slice A5 zl.length c5, .int .i64 ro] 27)) = v5 at *
            generalize w5.heap.size = ba at *
            refine hkk.mono ?_
            intro r w6 h
            obtain ⟨A6, c6, rfl, hcap6, N6, hb6⟩ := putR_box h
            have hal := (Below.refl w6.heap.size w6).alloc (Nat.le_refl _) (.cells #[.slice A6 zl.length c6, .int .i64 ro] 27)
            have hb' := Qt.more (B := v5.heap.size) hb6 hb6.size hal
            have HBx := Lib.hid (stB_new N6 hcap6 ro)
            have hbb : ba < w6.heap.size := Nat.lt_of_lt_of_le (lt_heap6 HA.out.row) hb6.size
            have HA6 := Lib.hid (HA.out.below hb')
            have HE6 := Lib.hid (Qt.more HE.out HE.out.size hb')
            have p0 := HA6.out.s0
            have p1 := HA6.out.s1
            have q0 := HBx.out.s0
            have q1 := HBx.out.s1
            have hsm := refSame6_any A5 zl c5 ro A6 zl c6 ro _ HA6.out.rd HBx.out.rd (by have := HZL.out; omega) (by have := HZL.out; omega)
            rw [decide_eq_true (⟨rfl, rfl⟩ : ro = ro ∧ zl = zl)] at hsm
            unfold storeV at hsm
            have hd1 : decide (zn = zn) = true := decide_eq_true rfl
            have hd2 : decide (ze = ze) = true := decide_eq_true rfl
            clear h hkk hb6 hal hb' N6 HA HE
            go_wp2_with fail
            clear p0 p1 q0 q1
            generalize (w6.alloc (.cells #[.slice A6 zl.length c6, .int .i64 ro] 27)) = v6 at *
            generalize w6.heap.size = bb at *
            refine hsm.mono ?_
            rintro r w7 ⟨rfl, hb7⟩
            have HA7 := Lib.hid (HA6.out.below hb7)
            have HB7 := Lib.hid (HBx.out.below hb7)
            have HE7 := Lib.hid (Qt.more HE6.out HE6.out.size hb7)
            have s0 := (HS.out.below HE7.out).s0
            have s1 := (HS.out.below HE7.out).s1
            have hc := step8_any As ls cs ro m w7 ((HS.out.below HE7.out).rd) (by omega) hcs
            have hk := fun W (hW : Below x0.heap.size x0 W) => refStep8_any As ls cs ro m W ((HS.out.below hW).rd) (by omega) hcs HLS.out
            have hyl := step8_len ls ro m
            generalize step8 ls ro m = y at *
            obtain ⟨yl, yn, ye⟩ := y
            dsimp only at hyl
            unfold storeV at hc hk
            have HK := Lib.hid hk
            have HYL := Lib.hid hyl
            clear hk hyl hsm hb7 HA6 HBx HE6 hd1 hd2
            go_wp2_with fail
            refine hc.mono ?_
            intro r w8 h
            obtain ⟨A8, c8, rfl, hcap8, N8, hb8⟩ := putR_box h
            have hA8 := HA7.out.below hb8
            have hB8 := HB7.out.below hb8
            have g0 := hA8.s0
            have g1 := hA8.s1
            have f0 := hA8.f0
            have f1 := hA8.f1
            have hne : bb ≠ ba := by omega
            have HE8 := Lib.hid (below_set2 (Qt.more HE7.out HE7.out.size hb8) hba (.slice A8 yl.length c8) (.int .i64 ro))
            have HA9 := Lib.hid (stB_put (room := ro) hA8.row N8 hcap8)
            have HR9 := Lib.hid (set2_row hB8.row hne (.slice A8 yl.length c8) (.int .i64 ro))
            have t0 := (HS.out.below HE8.out).s0
            have t1 := (HS.out.below HE8.out).s1
            have hkk := HK.out _ HE8.out
            clear h hc hb8 N8 hA8 hB8 HA7 HB7 HE7 s0 s1 HK
            go_wp2_with fail
            clear t0 t1 g0 g1 f0 f1
            generalize ((w8.setCell ⟨ba, 0, none⟩ (.slice A8 yl.length c8)).setCell ⟨ba, 1, none⟩ (.int .i64 ro)) = v8 at *
            refine hkk.mono ?_
            intro r w9 h
            obtain ⟨A9, c9, rfl, hcap9, N9', hb9⟩ := putR_box h
            have hA10 := HA9.out.below hb9
            have hrow := (hb9.block _ (lt_heap6 HR9.out)).trans HR9.out
            have g0 := row2_c0 hrow
            have g1 := row2_c1 hrow
            have f0 : w9.frozen? ⟨bb, 0, none⟩ = false := Lib.frozen_of_heap hrow 0
            have f1 : w9.frozen? ⟨bb, 1, none⟩ = false := Lib.frozen_of_heap hrow 1
            have HB11 := Lib.hid (stB_put (room := ro) hrow N9' hcap9)
            have HA11 := Lib.hid (hA10.other hrow (Ne.symm hne) (.slice A9 yl.length c9) (.int .i64 ro))
            have HE11 := Lib.hid (below_set2 (Qt.more HE8.out HE8.out.size hb9) (by omega) (.slice A9 yl.length c9) (.int .i64 ro) : Below x0.heap.size x0 ((w9.setCell ⟨bb, 0, none⟩ (.slice A9 yl.length c9)).setCell ⟨bb, 1, none⟩ (.int .i64 ro)))
            have p0 := HA11.out.s0
            have p1 := HA11.out.s1
            have q0 := HB11.out.s0
            have q1 := HB11.out.s1
            have hsm := refSame6_any A8 yl c8 ro A9 yl c9 ro _ HA11.out.rd HB11.out.rd (by have := HYL.out; omega) (by have := HYL.out; omega)
            rw [decide_eq_true (⟨rfl, rfl⟩ : ro = ro ∧ yl = yl)] at hsm
            unfold storeV at hsm
            have hd1 : decide (yn = yn) = true := decide_eq_true rfl
            have hd2 : decide (ye = ye) = true := decide_eq_true rfl
            clear h hkk hb9 N9' hA10 hrow HA9 HR9 HE8
            go_wp2_with fail
            clear p0 p1 q0 q1 g0 g1 f0 f1
            generalize ((w9.setCell ⟨bb, 0, none⟩ (.slice A9 yl.length c9)).setCell ⟨bb, 1, none⟩ (.int .i64 ro)) = v9 at *
            refine hsm.mono ?_
            rintro r w10 ⟨rfl, hb10⟩
            have HA12 := Lib.hid (HA11.out.below hb10)
            have HB12 := Lib.hid (HB11.out.below hb10)
            have HE12 := Lib.hid (Qt.more HE11.out HE11.out.size hb10)
            have s0 := (HS.out.below HE12.out).s0
            have s1 := (HS.out.below HE12.out).s1
            have hc := nine8_any As ls cs ro m w10 ((HS.out.below HE12.out).rd) (by omega) hcs
            have hk := fun W (hW : Below x0.heap.size x0 W) => refNine8_any As ls cs ro m W ((HS.out.below hW).rd) (by omega) hcs HLS.out
            have hql := nine8_len ls ro m
            generalize nine8 ls ro m = q at *
            obtain ⟨ql, f, qe⟩ := q
            dsimp only at hql
            unfold storeV at hc hk
            have HK := Lib.hid hk
            have HQL := Lib.hid hql
            clear hk hql hsm hb10 HA11 HB11 HE11 hd1 hd2
            go_wp2_with fail
            refine hc.mono ?_
            rintro r w11 ⟨A11, c11, rfl, hcap11, N11, hb11⟩
            dsimp only at hcap11 N11
            have hA13 := HA12.out.below hb11
            have hB13 := HB12.out.below hb11
            have g0 := hA13.s0
            have g1 := hA13.s1
            have f0 := hA13.f0
            have f1 := hA13.f1
            have halt : ba < w11.heap.size := lt_heap6 hA13.row
            have hs12 : ((w11.setCell ⟨ba, 0, none⟩ (.slice A11 ql.length c11)).setCell ⟨ba, 1, none⟩ (.int .i64 ro)).heap.size = w11.heap.size := by simp [World.setCell]
            have hE13 := below_set2 (Qt.more HE12.out HE12.out.size hb11) hba (.slice A11 ql.length c11) (.int .i64 ro)
            have HE13 := Lib.hid (hE13.alloc hE13.size (.cells #[.int .i64 (f 0), .int .i64 (f 1), .int .i64 (f 2), .int .i64 (f 3), .int .i64 (f 4), .int .i64 (f 5), .int .i64 (f 6), .int .i64 (f 7), .int .i64 (f 8)] 61))
            have hal := (Below.refl _ ((w11.setCell ⟨ba, 0, none⟩ (.slice A11 ql.length c11)).setCell ⟨ba, 1, none⟩ (.int .i64 ro))).alloc (Nat.le_refl _) (.cells #[.int .i64 (f 0), .int .i64 (f 1), .int .i64 (f 2), .int .i64 (f 3), .int .i64 (f 4), .int .i64 (f 5), .int .i64 (f 6), .int .i64 (f 7), .int .i64 (f 8)] 61)
            have HA14 := Lib.hid ((stB_put (room := ro) hA13.row (show NowN w11 A11 ql from N11) hcap11).below hal)
            have HB14 := Lib.hid ((hal.block _ (lt_heap6 (set2_row hB13.row hne (.slice A11 ql.length c11) (.int .i64 ro)))).trans (set2_row hB13.row hne (.slice A11 ql.length c11) (.int .i64 ro)))
            have HP14 := Lib.hid (show N9 (((w11.setCell ⟨ba, 0, none⟩ (.slice A11 ql.length c11)).setCell ⟨ba, 1, none⟩ (.int .i64 ro)).alloc (.cells #[.int .i64 (f 0), .int .i64 (f 1), .int .i64 (f 2), .int .i64 (f 3), .int .i64 (f 4), .int .i64 (f 5), .int .i64 (f 6), .int .i64 (f 7), .int .i64 (f 8)] 61)) w11.heap.size f from heap_new hs12)
            have t0 := (HS.out.below HE13.out).s0
            have t1 := (HS.out.below HE13.out).s1
            have hkk := HK.out _ HE13.out
            clear hc hb11 N11 hA13 hB13 HA12 HB12 HE12 s0 s1 HK hE13 hal hs12
            go_wp2_with fail
            clear t0 t1 g0 g1 f0 f1 halt
            generalize (((w11.setCell ⟨ba, 0, none⟩ (.slice A11 ql.length c11)).setCell ⟨ba, 1, none⟩ (.int .i64 ro)).alloc (.cells #[.int .i64 (f 0), .int .i64 (f 1), .int .i64 (f 2), .int .i64 (f 3), .int .i64 (f 4), .int .i64 (f 5), .int .i64 (f 6), .int .i64 (f 7), .int .i64 (f 8)] 61)) = v11 at *
            generalize w11.heap.size = pa at *
            refine hkk.mono ?_
            rintro r w12 ⟨A12, c12, rfl, hcap12, N12, hb12⟩
            dsimp only at hcap12 N12
            have hA15 := HA14.out.below hb12
            have hrow := (hb12.block _ (lt_heap6 HB14.out)).trans HB14.out
            have hP15 := HP14.out.below hb12
            have g0 := row2_c0 hrow
            have g1 := row2_c1 hrow
            have f0 : w12.frozen? ⟨bb, 0, none⟩ = false := Lib.frozen_of_heap hrow 0
            have f1 : w12.frozen? ⟨bb, 1, none⟩ = false := Lib.frozen_of_heap hrow 1
            have hblt : bb < w12.heap.size := lt_heap6 hrow
            have hpb : pa ≠ bb := fun h => by
              rw [h] at hP15
              rw [show N9 w12 bb f = _ from rfl] at hP15
              rw [hP15] at hrow
              injection hrow with hrow
              injection hrow with _ hrow _
              exact absurd hrow (by decide)
            have hs16 : ((w12.setCell ⟨bb, 0, none⟩ (.slice A12 ql.length c12)).setCell ⟨bb, 1, none⟩ (.int .i64 ro)).heap.size = w12.heap.size := by simp [World.setCell]
            have hE16 := below_set2 (Qt.more HE13.out HE13.out.size hb12) (by omega : x0.heap.size ≤ bb) (.slice A12 ql.length c12) (.int .i64 ro)
            have HE16 := Lib.hid (hE16.alloc hE16.size (.cells #[.int .i64 (f 0), .int .i64 (f 1), .int .i64 (f 2), .int .i64 (f 3), .int .i64 (f 4), .int .i64 (f 5), .int .i64 (f 6), .int .i64 (f 7), .int .i64 (f 8)] 61))
            have hal := (Below.refl _ ((w12.setCell ⟨bb, 0, none⟩ (.slice A12 ql.length c12)).setCell ⟨bb, 1, none⟩ (.int .i64 ro))).alloc (Nat.le_refl _) (.cells #[.int .i64 (f 0), .int .i64 (f 1), .int .i64 (f 2), .int .i64 (f 3), .int .i64 (f 4), .int .i64 (f 5), .int .i64 (f 6), .int .i64 (f 7), .int .i64 (f 8)] 61)
            have HB17 := Lib.hid ((stB_put (room := ro) hrow (show NowN w12 A12 ql from N12) hcap12).below hal)
            have HA17 := Lib.hid ((hA15.other hrow (Ne.symm hne) (.slice A12 ql.length c12) (.int .i64 ro)).below hal)
            have HP17 := Lib.hid ((show N9 ((w12.setCell ⟨bb, 0, none⟩ (.slice A12 ql.length c12)).setCell ⟨bb, 1, none⟩ (.int .i64 ro)) pa f from set2_row hP15 hpb _ _).below hal)
            have HQ17 := Lib.hid (show N9 (((w12.setCell ⟨bb, 0, none⟩ (.slice A12 ql.length c12)).setCell ⟨bb, 1, none⟩ (.int .i64 ro)).alloc (.cells #[.int .i64 (f 0), .int .i64 (f 1), .int .i64 (f 2), .int .i64 (f 3), .int .i64 (f 4), .int .i64 (f 5), .int .i64 (f 6), .int .i64 (f 7), .int .i64 (f 8)] 61)) w12.heap.size f from heap_new hs16)
            have p0 := HA17.out.s0
            have p1 := HA17.out.s1
            have q0 := HB17.out.s0
            have q1 := HB17.out.s1
            have hsm := refSame6_any A11 ql c11 ro A12 ql c12 ro _ HA17.out.rd HB17.out.rd (by have := HQL.out; omega) (by have := HQL.out; omega)
            rw [decide_eq_true (⟨rfl, rfl⟩ : ro = ro ∧ ql = ql)] at hsm
            unfold storeV at hsm
            clear hkk hb12 N12 hA15 hrow hP15 HA14 HB14 HP14 HE13 hE16 hal hs16
            go_wp2_with fail
            clear p0 p1 q0 q1 g0 g1 f0 f1 hblt
            generalize (((w12.setCell ⟨bb, 0, none⟩ (.slice A12 ql.length c12)).setCell ⟨bb, 1, none⟩ (.int .i64 ro)).alloc (.cells #[.int .i64 (f 0), .int .i64 (f 1), .int .i64 (f 2), .int .i64 (f 3), .int .i64 (f 4), .int .i64 (f 5), .int .i64 (f 6), .int .i64 (f 7), .int .i64 (f 8)] 61)) = v12 at *
            generalize w12.heap.size = pb at *
            refine hsm.mono ?_
            rintro r w13 ⟨rfl, hb13⟩
            have hP18 := HP17.out.below hb13
            have hQ18 := HQ17.out.below hb13
            have x0 := hP18.c (p := 0) (by decide)
            have y0 := hQ18.c (p := 0) (by decide)
            have x1 := hP18.c (p := 1) (by decide)
            have y1 := hQ18.c (p := 1) (by decide)
            have x2 := hP18.c (p := 2) (by decide)
            have y2 := hQ18.c (p := 2) (by decide)
            have x3 := hP18.c (p := 3) (by decide)
            have y3 := hQ18.c (p := 3) (by decide)
            have x4 := hP18.c (p := 4) (by decide)
            have y4 := hQ18.c (p := 4) (by decide)
            have x5 := hP18.c (p := 5) (by decide)
            have y5 := hQ18.c (p := 5) (by decide)
            have x6 := hP18.c (p := 6) (by decide)
            have y6 := hQ18.c (p := 6) (by decide)
            have x7 := hP18.c (p := 7) (by decide)
            have y7 := hQ18.c (p := 7) (by decide)
            have x8 := hP18.c (p := 8) (by decide)
            have y8 := hQ18.c (p := 8) (by decide)
            have hneq := fun W => neq9 f W
            have hd2 : decide (qe = qe) = true := decide_eq_true rfl
            have HE18 := Lib.hid (Qt.more HE16.out HE16.out.size hb13)
            clear hsm hb13 hP18 hQ18 HP17 HQ17 HA17 HB17 HE16
            go_wp2_with fail
            go_roundw
            case measure => simp [intOf]; omega
            case rel => exact ⟨i + 1, by omega, by go_num, HT.out.below HE18.out, HS.out.below HE18.out, HF.out.below HE18.out⟩
          · obtain rfl : i = 4 := by omega
            have hi4z : ¬ ((4 : Nat) : Int) < 4 := by decide
            go_wp2_with fail
            go_roundw
            case measure => simp [intOf]; omega
            case rel => exact ⟨j + 1, by omega, by go_num, HT.out⟩
    · obtain rfl : j = 2 := by omega
      have hj2z : ¬ ((2 : Nat) : Int) < 2 := by decide
      have HBF := Lib.hid HH.out.bel
      clear HH
      go_wp2_with fail
      go_ret
      exact ⟨rfl, HBF.out⟩
end Go.Proofs.Ytikgnjcjbjafaaa
