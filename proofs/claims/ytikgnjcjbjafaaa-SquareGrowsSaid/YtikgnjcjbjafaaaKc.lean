/-
  The law SquarePops.
-/
import Derived.Test.YtikgnjcjbjafaaaKa
import Derived.Test.YtikgnjcjbjafaaaB24
import Derived.Test.YtikgnjcjbjafaaaB16
namespace Go.Proofs.Ytikgnjcjbjafaaa
set_option maxRecDepth 100000
set_option linter.unusedVariables false
set_option linter.unusedSimpArgs false
open Go.RowKit Go.Sort

/-- a node's box, as its set's is told -/
theorem Sq.box2 {l : List Nd} {room : Int} {e n : Nat} {S : List (Int × Int)} (h : Sq l room e n S) : ∃ (x y u v : Int) (r : Bool), box7 l room n (hasB l n) = ((x, y, u, v), r) ∧ Cel.boxA S = (.agg #[.int .i64 x, .int .i64 y, .int .i64 u, .int .i64 v], r) := by
  have hb := h.box
  obtain ⟨⟨⟨x, y, u, v⟩, r⟩, hz⟩ : ∃ z, z = box7 l room n (hasB l n) := ⟨_, rfl⟩
  rw [← hz] at hb
  exact ⟨x, y, u, v, r, hz.symm, hb.symm⟩
theorem eqlBox (x y u v : Int) (w : World) : (binOp .eql 47 (.agg #[.int .i64 x, .int .i64 y, .int .i64 u, .int .i64 v]) (.agg #[.int .i64 x, .int .i64 y, .int .i64 u, .int .i64 v])).run Try.prog w = .ok (.bool true) w := by
  have u3 := Try.underlying3
  have a3 := Try.isAgg3
  have z3 := Try.sizeOf3
  have hS : Try.prog.underlying 47 = some (.struct (Try.prog.fieldsOf 47)) := by kernel_rfl
  have hp : Try.prog.stoodInHeld 47 = false := by kernel_rfl
  rw [run_eql_struct, show (10000 : Nat) = 9999 + 1 from rfl, run_equalIn_agg w 9999 _ _ _ hS hp]
  simp only [Program.fieldsOf, Try.underlying47]
  go_simp
set_option maxHeartbeats 16000000 in
theorem squarePops_law (room : Int) (A : Option Addr) (raw : List Raw5) (c : Nat) (B : Option Addr) (rs : List (Int × Int)) (d : Nat) (lev : Int) (w : World) (hI : I64 room) (hR : RdR w w.heap.size A raw) (hl : raw.length ≤ 9223372036854775807) (hF : ∀ j, j < raw.length → Fine5 (raw.getD j dead5))
    (hB : RdC w w.heap.size B rs) (hBl : rs.length ≤ 9223372036854775807) (hBc : rs.length ≤ d) (hBw : ∀ p ∈ rs, Cel.I64 p.1 ∧ Cel.I64 p.2) (hL : I64 lev) :
    Calls Try.prog 6 #[.int .i64 room, .slice A raw.length c, .slice B rs.length d, .int .i64 lev] w fun e w' => e = .returned (.bool true) ∧ Below w.heap.size w w' := by
  obtain ⟨R, m, n, e, t, HL⟩ := square_ok room raw rs lev
  have hsq := fun W hR' hB' => square7_any HL A c B d W hI hR' hl hF hB' hBl hBc hBw hL
  have hset := fun W hW => Cel.set_any B rs d W hW hBl hBc hBw
  have hm6 : m.length ≤ 1000000 := by have := HL.few; omega
  have hS60 := HL.set60
  have hnl := HL.sq.is.lt
  have hpop := HL.sq.pop
  have hcel := HL.sq.cells
  have hget := fun k => HL.sq.get k
  have hins := HL.sq.ins
  have hinb := ((Cel.rightB_iff _).1 HL.sq.set).2.1
  obtain ⟨bx, bY, bu, bv, br, hb7, hbA⟩ := HL.sq.box2
  obtain ⟨S, hSS⟩ : ∃ S, S = Cel.rawSet rs := ⟨_, rfl⟩
  rw [← hSS] at hset hS60 hpop hcel hget hins hinb hbA
  have hcell : ∀ j, j < S.length → I64 (S.getD j (0, 0)).1 ∧ I64 (S.getD j (0, 0)).2 ∧ get7 m R n (S.getD j (0, 0)) = (true, 0) := fun j hj => by
    have hm := Cel.getD_mem hj
    have h1 := of_decide_eq_true (hinb _ hm)
    refine ⟨by unfold I64; omega, by unfold I64; omega, ?_⟩
    rw [hget, hins _ hm, decide_eq_true hm]
    rfl
  have HR := Lib.hid hR
  have HB := Lib.hid hB
  have HSQ := Lib.hid hsq
  have HSET := Lib.hid hset
  have HLEN := Lib.hid (show m.length ≤ 1000000 ∧ S.length ≤ 60 ∧ 0 < m.length from ⟨hm6, hS60, by omega⟩)
  have HCL := Lib.hid hcell
  have HC := Lib.hid hcel
  have HB7 := Lib.hid hb7
  have HBA := Lib.hid hbA
  have HPOP := Lib.hid hpop
  have hnz : (n : Int) < (m.length : Int) := by omega
  have HNL := Lib.hid hnl
  clear hsq hR hB hset hcell hcel hb7 hbA hpop hget hins hinb HL hSS hI hF hBw hL hl hBl hm6 hS60 hnl
  go_enter Try.func6, Try.ntmps6
  go_wp2_with fail
  refine (awake7_any w).mono ?_
  rintro r w1 ⟨rfl, hb1⟩
  have HB1 := Lib.hid hb1
  have hs1 := HSQ.out w1 ((HR.out.below hb1 (Nat.le_refl _)).more hb1.size) ((Cel.Rd.below HB.out hb1 (Nat.le_refl _)).more hb1.size)
  have HRS1 := Lib.hid ((Cel.Rd.below HB.out hb1 (Nat.le_refl _)).more hb1.size)
  clear HR HB HSQ hb1
  go_wp2_with fail
  refine hs1.mono ?_
  rintro r w2 ⟨A2, c2, rfl, hcap2, N2, hb2⟩
  have hal := (Below.refl w2.heap.size w2).alloc (Nat.le_refl _) (.cells #[.slice A2 m.length c2, .int .i64 R] 27)
  have hb' := Qt.more (B := w1.heap.size) hb2 hb2.size hal
  have HS2 := Lib.hid (stB_new N2 hcap2 R)
  have HB2 := Lib.hid (Qt.more HB1.out HB1.out.size hb')
  have HRS2 := Lib.hid ((Cel.Rd.below HRS1.out hb' (Nat.le_refl _)).more hb'.size)
  have s0 := HS2.out.s0
  have s1 := HS2.out.s1
  clear hs1 hb2 hb' HB1 N2 hal HRS1
  go_wp2_with fail
  generalize (w2.alloc (.cells #[.slice A2 m.length c2, .int .i64 R] 27)) = v2 at *
  generalize w2.heap.size = b2 at *
  have hc := cells7_any A2 m c2 R n v2 HS2.out.rd HLEN.out.1 hcap2
  rw [HC.out] at hc
  unfold storeV at hc
  refine hc.mono ?_
  intro r w3 h
  obtain ⟨A3, c3, rfl, hcap3, hC3, hb3⟩ := h
  simp only at hcap3 hC3
  have HX3 := Lib.hid hC3
  have HS3 := Lib.hid (HS2.out.below hb3)
  have HB3 := Lib.hid (Qt.more HB2.out HB2.out.size hb3)
  have HRS3 := Lib.hid ((Cel.Rd.below HRS2.out hb3 (Nat.le_refl _)).more hb3.size)
  clear s0 s1 hc hb3 hC3 HS2 HB2 HRS2
  have s0 := HS3.out.s0
  have s1 := HS3.out.s1
  go_wp2_with fail
  have hc := box7_any A2 m c2 R n w3 HS3.out.rd HLEN.out.1 hcap2
  rw [HB7.out] at hc
  unfold storeV BoxR at hc
  refine hc.mono ?_
  rintro r w4 ⟨rfl, hb4⟩
  have hal := (Below.refl w4.heap.size w4).alloc (Nat.le_refl _) (.cells #[.int .i64 bx, .int .i64 bY, .int .i64 bu, .int .i64 bv] 47)
  have hb' := Qt.more (B := w3.heap.size) hb4 hb4.size hal
  have HBX4 := Lib.hid (show BxB (w4.alloc (.cells #[.int .i64 bx, .int .i64 bY, .int .i64 bu, .int .i64 bv] 47)) w4.heap.size bx bY bu bv from heap_alloc_new w4 _)
  have HX4 := Lib.hid ((Cel.Rd.below HX3.out hb' (Nat.le_refl _)).more hb'.size)
  have HS4 := Lib.hid (HS3.out.below hb')
  have HB4 := Lib.hid (Qt.more HB3.out HB3.out.size hb')
  have HRS4 := Lib.hid ((Cel.Rd.below HRS3.out hb' (Nat.le_refl _)).more hb'.size)
  clear s0 s1 hc hb4 hb' hal HX3 HS3 HB3 HRS3
  go_wp2_with fail
  generalize (w4.alloc (.cells #[.int .i64 bx, .int .i64 bY, .int .i64 bu, .int .i64 bv] 47)) = v4 at *
  generalize w4.heap.size = b4 at *
  have hc := Cel.refBox_give (n := S.length) (c := c3) HBA.out HX4.out rfl hcap3 (by have := HLEN.out; omega)
  refine hc.mono ?_
  rintro r w5 ⟨rfl, hb5⟩
  have hal := (Below.refl w5.heap.size w5).alloc (Nat.le_refl _) (.cells #[.int .i64 bx, .int .i64 bY, .int .i64 bu, .int .i64 bv] 47)
  have hb' := Qt.more (B := v4.heap.size) hb5 hb5.size hal
  have HP5 := Lib.hid (show BxB (w5.alloc (.cells #[.int .i64 bx, .int .i64 bY, .int .i64 bu, .int .i64 bv] 47)) w5.heap.size bx bY bu bv from heap_alloc_new w5 _)
  have HBX5 := Lib.hid (HBX4.out.below hb')
  have HX5 := Lib.hid ((Cel.Rd.below HX4.out hb' (Nat.le_refl _)).more hb'.size)
  have HS5 := Lib.hid (HS4.out.below hb')
  have HB5 := Lib.hid (Qt.more HB4.out HB4.out.size hb')
  have HRS5 := Lib.hid ((Cel.Rd.below HRS4.out hb' (Nat.le_refl _)).more hb'.size)
  clear hc hb5 hb' hal HBX4 HX4 HS4 HB4 HRS4
  go_wp2_with fail
  generalize (w5.alloc (.cells #[.int .i64 bx, .int .i64 bY, .int .i64 bu, .int .i64 bv] 47)) = v5 at *
  generalize w5.heap.size = b5 at *
  go_loopw [18] (fun u wr => ∃ i : Nat, i ≤ S.length ∧ u = .int .i64 i ∧ Hid (Below v5.heap.size v5 wr)) (fun u _ => S.length - (intOf u).toNat)
  case atStart => exact ⟨0, Nat.zero_le _, rfl, Below.refl _ _⟩
  case round =>
    obtain ⟨i, hi, rfl, HH⟩ := hrel
    have HW := Lib.hid HH.out
    by_cases hlt : i < S.length
    · have hltz : (i : Int) < (S.length : Int) := by omega
      have hS60 := HLEN.out.2.1
      obtain ⟨h1, h2, h3⟩ := HCL.out i hlt
      have HXr := Lib.hid ((Cel.Rd.below HX5.out HH.out (Nat.le_refl _)).more HH.out.size)
      obtain ⟨q3, o3, hA3, hq3, hcell⟩ := Cel.Rd.at_ HXr.out (by omega)
      obtain ⟨k0, k1⟩ := hcell i hlt
      obtain ⟨⟨x, y⟩, hxy⟩ : ∃ p, p = S.getD i (0, 0) := ⟨_, rfl⟩
      rw [← hxy] at h1 h2 h3 k0 k1
      simp only at h1 h2 k0 k1
      subst hA3
      have hgt := fun W (hW : Below wr.heap.size wr W) => get7_any A2 m c2 R n (x, y) W ((HS5.out.below HH.out).below hW).rd HLEN.out.1 hcap2 h1 h2
      rw [h3] at hgt
      unfold storeV cellV at hgt
      have hk0 := fun W (hW : Below wr.heap.size wr W) => Qt.keep hW k0
      have hk1 := fun W (hW : Below wr.heap.size wr W) => Qt.keep hW k1
      clear hcell hxy h1 h2 h3 HH k0 k1 hq3
      go_wp2_with fail
      refine region_calm_to (fun W => Below wr.heap.size wr W) (fun (a0 a9 : Act) (w9 : World) => a9 = ((((((((((((a0.put (some 54) (.agg #[.slice A2 m.length c2, .int .i64 R])).put (some 55) (.int .i64 (n : Int))).put (some 56) (.slice (some ⟨q3, o3, none⟩) S.length c3)).put (some 57) (.int .i64 (i : Int))).put (some 58) (.pointer (some ⟨q3, o3 + i * 2, none⟩))).put (some 59) (.agg #[.int .i64 x, .int .i64 y])).put (some 60) (.tuple #[.bool true, .int .i64 0])).put (some 53) (.tuple #[.bool true, .int .i64 0])).put (some 61) (.bool true)).put (some 62) (.int .i64 0)).put (some 19) (.bool true)).put (some 20) (.int .i64 0)) ∧ Below wr.heap.size wr w9) (.calm 0 (.calm 1 (.calm 2 (.calm 3 (.calm 4 (.calm 5 (.only 6 (.calm 7 (.calm 8 (.calm 9 (.calm 10 (.calm 11 .done)))))))))))) (by kernel_rfl) (by kernel_rfl) (by kernel_rfl) (by rfl) (below_drew wr) ?_ ?_
      · skip
        refine ⟨_, _, (.agg #[.slice A2 m.length c2, .int .i64 R]), rfl, rfl, ⟨rfl, fun W hW => by have s0 := ((HS5.out.below HW.out).below hW).s0; have s1 := ((HS5.out.below HW.out).below hW).s1; simp only [execOp]; go_simp; done⟩, ?_⟩
        simp only [Act.put, List.setIfInBounds_toArray, List.set_cons_succ, List.set_cons_zero]
        refine ⟨_, _, (.int .i64 (n : Int)), rfl, rfl, ⟨rfl, fun W hW => by first | exact ⟨rfl, rfl⟩ | (simp only [Act.eval, execOp]; go_simp; try exact ⟨rfl, rfl⟩)⟩, ?_⟩
        simp only [Act.put, List.setIfInBounds_toArray, List.set_cons_succ, List.set_cons_zero]
        refine ⟨_, _, (.slice (some ⟨q3, o3, none⟩) S.length c3), rfl, rfl, ⟨rfl, fun W hW => by first | exact ⟨rfl, rfl⟩ | (simp only [Act.eval, execOp]; go_simp; try exact ⟨rfl, rfl⟩)⟩, ?_⟩
        simp only [Act.put, List.setIfInBounds_toArray, List.set_cons_succ, List.set_cons_zero]
        refine ⟨_, _, (.int .i64 (i : Int)), rfl, rfl, ⟨rfl, fun W hW => by first | exact ⟨rfl, rfl⟩ | (simp only [Act.eval, execOp]; go_simp; try exact ⟨rfl, rfl⟩)⟩, ?_⟩
        simp only [Act.put, List.setIfInBounds_toArray, List.set_cons_succ, List.set_cons_zero]
        refine ⟨_, _, (.pointer (some ⟨q3, o3 + i * 2, none⟩)), rfl, rfl, ⟨rfl, fun W hW => by first | exact ⟨rfl, rfl⟩ | (simp only [Act.eval, execOp]; go_simp; try exact ⟨rfl, rfl⟩)⟩, ?_⟩
        simp only [Act.put, List.setIfInBounds_toArray, List.set_cons_succ, List.set_cons_zero]
        refine ⟨_, _, (.agg #[.int .i64 x, .int .i64 y]), rfl, rfl, ⟨rfl, fun W hW => by have s0 := hk0 W hW; have s1 := hk1 W hW; simp only [execOp]; go_simp; done⟩, ?_⟩
        simp only [Act.put, List.setIfInBounds_toArray, List.set_cons_succ, List.set_cons_zero]
        refine ⟨_, rfl, ?_⟩
        go_wp2_with fail
        refine (hgt _ (below_drew wr)).mono ?_
        rintro r w8 ⟨rfl, hb8⟩
        have hC := Qt.more (below_drew wr) (Nat.le_refl _) hb8
        have hC8 := hC
        go_wp2_with fail
        refine ⟨rfl, hC, ?_⟩
        refine ⟨_, _, (.tuple #[.bool true, .int .i64 0]), rfl, rfl, ⟨rfl, fun W hW => by first | exact ⟨rfl, rfl⟩ | (simp only [Act.eval, execOp]; go_simp; try exact ⟨rfl, rfl⟩)⟩, ?_⟩
        simp only [Act.put, List.setIfInBounds_toArray, List.set_cons_succ, List.set_cons_zero]
        refine ⟨_, _, (.bool true), rfl, rfl, ⟨rfl, fun W hW => by first | exact ⟨rfl, rfl⟩ | (simp only [Act.eval, execOp]; go_simp; try exact ⟨rfl, rfl⟩)⟩, ?_⟩
        simp only [Act.put, List.setIfInBounds_toArray, List.set_cons_succ, List.set_cons_zero]
        refine ⟨_, _, (.int .i64 0), rfl, rfl, ⟨rfl, fun W hW => by first | exact ⟨rfl, rfl⟩ | (simp only [Act.eval, execOp]; go_simp; try exact ⟨rfl, rfl⟩)⟩, ?_⟩
        simp only [Act.put, List.setIfInBounds_toArray, List.set_cons_succ, List.set_cons_zero]
        refine ⟨_, _, (.bool true), rfl, rfl, ⟨rfl, fun W hW => by first | exact ⟨rfl, rfl⟩ | (simp only [Act.eval, execOp]; go_simp; try exact ⟨rfl, rfl⟩)⟩, ?_⟩
        simp only [Act.put, List.setIfInBounds_toArray, List.set_cons_succ, List.set_cons_zero]
        refine ⟨_, _, (.int .i64 0), rfl, rfl, ⟨rfl, fun W hW => by first | exact ⟨rfl, rfl⟩ | (simp only [Act.eval, execOp]; go_simp; try exact ⟨rfl, rfl⟩)⟩, ?_⟩
        simp only [Act.put, List.setIfInBounds_toArray, List.set_cons_succ, List.set_cons_zero]
        refine ⟨?_, hC8⟩
        first | rfl | simp only [Act.put, List.setIfInBounds_toArray, List.set_cons_succ, List.set_cons_zero]
      rintro a9 w9 ⟨rfl, hb9⟩
      simp only [Act.put, List.setIfInBounds_toArray, List.set_cons_succ, List.set_cons_zero]
      have HN := Lib.hid (Qt.more HW.out HW.out.size hb9)
      clear hgt hk0 hk1 hb9 HW HXr
      go_wp2_with fail
      go_roundw
      case measure => simp [intOf]; omega
      case rel => exact ⟨i + 1, by omega, by go_num, HN.out⟩
    · obtain rfl : i = S.length := by omega
      have hltz : ¬ (S.length : Int) < (S.length : Int) := by omega
      have HXr := Lib.hid ((Cel.Rd.below HX5.out HH.out (Nat.le_refl _)).more HH.out.size)
      have hse := HSET.out wr ((Cel.Rd.below HRS5.out HH.out (Nat.le_refl _)).more HH.out.size)
      clear HSET HRS5 HX5
      go_wp2_with fail
      refine hse.mono ?_
      rintro r w6 ⟨_, rfl, ⟨A6, c6, rfl, hcap6, N6⟩, hb6⟩
      have HBel := Lib.hid (Qt.more HW.out HW.out.size hb6)
      have hsm := Cel.same_holds (c := c3) (c' := c6) ((Cel.Rd.below HXr.out hb6 (Nat.le_refl _)).more hb6.size) N6 (by have := HLEN.out; omega)
      rw [decide_eq_true rfl] at hsm
      clear hse hb6 N6 HXr HH HW
      go_wp2_with fail
      refine hsm.mono ?_
      rintro r w7 ⟨rfl, hb7⟩
      have HB7' := Lib.hid (Qt.more HBel.out HBel.out.size hb7)
      have HS7 := Lib.hid (HS5.out.below HB7'.out)
      have HBX7 := Lib.hid (HBX5.out.below HB7'.out)
      have HP7 := Lib.hid (HP5.out.below HB7'.out)
      have HBF := Lib.hid (Qt.more HB5.out HB5.out.size HB7'.out)
      obtain ⟨q2, o2, hA2, hq2, hnd⟩ := HS7.out.nd HLEN.out.2.2
      have y5 := (hnd n HNL.out).2.2.2.2.2
      rw [HPOP.out] at y5
      have s0 := HS7.out.s0
      have b0 := HBX7.out.s0
      have b1 := HBX7.out.s1
      have b2' := HBX7.out.s2
      have b3 := HBX7.out.s3
      have p0 := HP7.out.s0
      have p1 := HP7.out.s1
      have p2 := HP7.out.s2
      have p3 := HP7.out.s3
      have heq := fun W => eqlBox bx bY bu bv W
      subst hA2
      clear hsm hb7 HBel HS5 HBX5 HP5 hnd HB5 HB7' HS7 HBX7 HP7
      cases br
      all_goals
        go_wp2_with fail
        go_ret
        exact ⟨rfl, HBF.out⟩
end Go.Proofs.Ytikgnjcjbjafaaa
