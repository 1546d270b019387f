/-
  MemAdds: additions to a word come to their sum, in whatever order.
-/
import Derived.Test.YthfbcjbiemdedaaB02
import Derived.Test.YthfbcjbiemdedaaB03
namespace Go.Proofs.Ythfbcjbiemdedaa
set_option maxRecDepth 100000
set_option linter.unusedVariables false
set_option linter.unusedSimpArgs false
open Go.RowKit Go.Sort

def rawN10 (x : Int) : Int := pickI x 1000 - 500
def nums10 (raw : List Int) (k : Nat) : List Int := (raw.take k).map rawN10
theorem rawN10_bd (x : Int) : -500 ≤ rawN10 x ∧ rawN10 x ≤ 499 := by
  have := pickI_bd x 1000 (by decide)
  unfold rawN10
  omega
theorem nums10_len {raw : List Int} {k : Nat} (h : k ≤ raw.length) : (nums10 raw k).length = k := by unfold nums10; simp; omega
theorem nums10_succ {raw : List Int} {k : Nat} (h : k < raw.length) : nums10 raw (k + 1) = nums10 raw k ++ [rawN10 (raw.getD k 0)] := by
  unfold nums10
  rw [List.take_add_one, List.map_append, List.getD_eq_getElem?_getD, List.getElem?_eq_getElem h]
  rfl
theorem nums10_bd {raw : List Int} {k : Nat} : ∀ x ∈ nums10 raw k, -500 ≤ x ∧ x ≤ 500 := fun x hx => by
  unfold nums10 at hx
  obtain ⟨y, _, rfl⟩ := List.mem_map.1 hx
  have := rawN10_bd y
  omega
theorem sumI_bd (l : List Int) (h : ∀ x ∈ l, -500 ≤ x ∧ x ≤ 500) : -(500 * (l.length : Int)) ≤ sumI l ∧ sumI l ≤ 500 * (l.length : Int) := by
  induction l with
  | nil => simp [sumI]
  | cons x l ih =>
    have h1 := h x (by simp)
    have h2 := ih (fun z hz => h z (by simp [hz]))
    simp only [sumI, List.length_cons]
    omega
theorem adds_fine {l : List Int} (h : ∀ x ∈ l, -500 ≤ x ∧ x ≤ 500) : ∀ j, j < (l.map addA).length → Fine4A ((l.map addA).getD j deadA) := fun j hj => by
  rw [List.length_map] at hj
  have e : (l.map addA).getD j deadA = addA (l.getD j 0) := by
    rw [List.getD_eq_getElem?_getD, List.getD_eq_getElem?_getD, List.getElem?_map, List.getElem?_eq_getElem hj]; rfl
  rw [e]
  have hx := h (l.getD j 0) (by rw [List.getD_eq_getElem?_getD, List.getElem?_eq_getElem hj]; exact List.getElem_mem hj)
  exact fine4 (by omega)
theorem addA_getD {l : List Int} {j : Nat} (hj : j < l.length) : (l.map addA).getD j deadA = addA (l.getD j 0) := by
  rw [List.getD_eq_getElem?_getD, List.getD_eq_getElem?_getD, List.getElem?_map, List.getElem?_eq_getElem hj]; rfl
theorem take_succ10 {l : List Int} {j : Nat} (hj : j < l.length) : sumI (l.take (j + 1)) = sumI (l.take j) + l.getD j 0 := by
  rw [List.take_add_one, sumI_append, List.getD_eq_getElem?_getD, List.getElem?_eq_getElem hj]
  simp [sumI]
theorem exec_fromA {o : Oper} {ev : Operand → Value} {x y : Operand} {v i r : Value} (ho : o.op = .slice 26 x (some y) none none) (hx : ev x = v) (hy : ev y = i) (h : ∀ W, (Instr.slice 26 v (some i) none none).run Try.prog W = .ok r W) (w : World) : (execOp ev o).run Try.prog w = .ok (.value r) w := by
  simp [execOp, ho, hx, hy, Result.andThen, run_sliceAt_slice (P := Try.prog) w 26 _ _ _ _ (by kernel_rfl), h]
theorem exec_toA {o : Oper} {ev : Operand → Value} {x y : Operand} {v i r : Value} (ho : o.op = .slice 26 x none (some y) none) (hx : ev x = v) (hy : ev y = i) (h : ∀ W, (Instr.slice 26 v none (some i) none).run Try.prog W = .ok r W) (w : World) : (execOp ev o).run Try.prog w = .ok (.value r) w := by
  simp [execOp, ho, hx, hy, Result.andThen, run_sliceAt_slice (P := Try.prog) w 26 _ _ _ _ (by kernel_rfl), h]
theorem now_grown {w w' : World} {b off : Nat} {l : List Int} {row : Option Nat} (h : Now w (some ⟨b, off, none⟩) l) (hg : w.grownBy w' row) (hne : row ≠ some b) : Now w' (some ⟨b, off, none⟩) l := fun j hj => by
  obtain ⟨b', o', e, hb, hc⟩ := h j hj
  have e' := e
  injection e with e
  injection e with e1 e2
  subst e1 e2
  exact ⟨b, off, rfl, Nat.lt_of_lt_of_le hb hg.size, hg.cell hc (fun h => hne h.symm)⟩
/-- the first append, to nothing; the second one -/
theorem app1_any {W : World} {AT : Option Addr} {m : List Ac} (c : Nat) (hN : NowA W AT m) (hl : m.length ≤ 1000) : ∃ v W', (Builtin.append_ #[26, 26] 26 #[.slice none 0 0, .slice AT m.length c]).run Try.prog W = .ok v W' ∧ OwnA W' W.heap.size v m ∧ Below W.heap.size W W' := by
  obtain ⟨v, W', h1, h2, h3⟩ := appA_any (out := []) c (Nat.le_refl _) (World.ownsRow_nil W W.heap.size 25 4) hN (by simp; omega)
  exact ⟨v, W', h1, h2, (Below.refl _ _).grown h3 (Nat.le_refl _) (fun k e => by simp [Value.ownBlock] at e)⟩
set_option maxHeartbeats 16000000 in
theorem memAdds_law (A : Option Addr) (raw : List Int) (c : Nat) (at_ : Int) (w : World) (hR : Now w A raw) (hl : raw.length ≤ 9223372036854775807) (hw : ∀ j, j < raw.length → I64 (raw.getD j 0)) (ha : I64 at_) :
    Calls Try.prog 8 #[.slice A raw.length c, .int .i64 at_] w fun e w' => e = .returned (.bool true) ∧ Below w.heap.size w w' := by
  have HR := Lib.hid hR
  have HW := Lib.hid hw
  clear hR hw
  go_enter Try.func8, Try.ntmps8
  go_wp2_with fail
  refine (awake10_any w).mono ?_
  rintro r w1 ⟨rfl, hb1⟩
  have HB1 := Lib.hid hb1
  clear hb1
  go_wp2_with fail
  go_loopw [6, 7, 8] (fun v x i wr => ∃ k : Nat, k ≤ raw.length ∧ k ≤ 30 ∧ i = .int .i64 k ∧ x = .int .i64 (sumI (nums10 raw k)) ∧ Hid (OwnA wr w.heap.size v ((nums10 raw k).map addA) ∧ Below w.heap.size w wr)) (fun _ _ i _ => 30 - (intOf i).toNat)
  case atStart => exact ⟨0, Nat.zero_le _, by omega, rfl, rfl, (show Hid _ from ⟨World.ownsRow_nil _ _ _ _, HB1.out⟩)⟩
  case round =>
    obtain ⟨k, hk, hk30, rfl, rfl, HH⟩ := hrel
    by_cases hlt : k < raw.length ∧ k < 30
    · obtain ⟨hlt1, hlt2⟩ := hlt
      have hltz : (k : Int) < (raw.length : Int) := by omega
      obtain ⟨b, off, rfl, hbB, hcell⟩ := Rd.at_ HR.out (by omega)
      have y0 := (HH.out.2.cell (p := ⟨b, off + k, none⟩) hbB).trans (hcell k hlt1)
      have i0 := HW.out k hlt1
      have hsu := nums10_succ hlt1
      have hsb := sumI_bd (nums10 raw k) nums10_bd
      have hln := nums10_len hk
      rw [hln] at hsb
      obtain ⟨x, hx⟩ : ∃ x, x = raw.getD k 0 := ⟨_, rfl⟩
      rw [← hx] at y0 i0 hsu
      have hp := pick10_any x 1000 wr i0 (by decide) (by decide)
      have hpb := pickI_bd x 1000 (by decide)
      have hrw : rawN10 x = pickI x 1000 - 500 := rfl
      obtain ⟨p, hpp⟩ : ∃ p, p = pickI x 1000 := ⟨_, rfl⟩
      rw [← hpp] at hp hpb hrw
      rw [hrw] at hsu
      obtain ⟨s, hs⟩ : ∃ s, s = sumI (nums10 raw k) := ⟨_, rfl⟩
      rw [← hs] at hsb ⊢
      have hs2 : sumI (nums10 raw (k + 1)) = s + (p - 500) := by rw [hsu, sumI_append, ← hs]; simp [sumI]
      obtain ⟨v', w', hrun, hown, _, hb2⟩ := pushA_any (addA (p - 500)) HH.out.2.size HH.out.1 (by rw [List.length_map, hln]; omega)
      have ho2 : OwnA w' w.heap.size v' ((nums10 raw (k + 1)).map addA) := by rw [hsu, List.map_append]; exact hown
      have HO2 := Lib.hid (And.intro ho2 (HH.out.2.trans hb2))
      have HS2 := Lib.hid hs2
      have HRun := Lib.hid hrun
      clear hcell hsu hln hx hrw hpp hs hs2 hrun hown hb2 ho2 HH i0
      go_wp2_with fail
      refine hp.mono ?_
      rintro r w3 ⟨rfl, rfl⟩
      clear hp
      go_wp2_with (at_builtin; refine Lib.wpList_append_run _ rfl (.tmp 36) (.tmp 39) 26 26 rfl _ _ rfl rfl _ _ HRun.out ?_)
      go_roundw
      case measure => simp [intOf]; omega
      case rel => exact ⟨k + 1, by omega, by omega, by go_num, by rw [HS2.out], HO2⟩
    · skip
      obtain ⟨l, hll⟩ : ∃ l, l = nums10 raw k := ⟨_, rfl⟩
      have hlb : ∀ x ∈ l, -500 ≤ x ∧ x ≤ 500 := by rw [hll]; exact nums10_bd
      have hlk : l.length = k := by rw [hll]; exact nums10_len hk
      have H := HH.out
      rw [← hll] at H ⊢
      obtain ⟨A1, c1, hv, hc1, hm1, hN1, hsh⟩ := ownA_shape H.1
      rw [List.length_map, hlk] at hv hc1 hsh
      subst hv
      have HH1 := Lib.hid H
      have HN1 := Lib.hid hN1
      have hpk := fun W => pick10_any at_ ((k : Int) + 1) W ha (by omega) (by omega)
      have hkb := pickI_bd at_ ((k : Int) + 1) (by omega)
      obtain ⟨t, ht⟩ : ∃ t : Nat, pickI at_ ((k : Int) + 1) = t := ⟨(pickI at_ ((k : Int) + 1)).toNat, by omega⟩
      rw [ht] at hpk hkb
      have htk : t ≤ k := by omega
      have hsum := sumI_bd l hlb
      rw [hlk] at hsum
      have hLB := Lib.hid (And.intro hlb hlk)
      clear ht hkb hll HH H hN1 hlb hlk
      have hex : ((k : Int) < (raw.length : Int) ∧ ¬ (k : Int) < 30) ∨ ¬ (k : Int) < (raw.length : Int) := by omega
      obtain ⟨hg1, hw1⟩ := adds_play l 0 0 (by decide) (by decide) (by decide) hLB.out.1 (by rw [hLB.out.2]; omega)
      have hfd := adds_found l 0 0 (by decide) (by decide) (by decide) hLB.out.1 (by rw [hLB.out.2]; omega)
      have hp1 := playA_good [5, 0, 6] (l.map addA) [5, 0, 6] [] hg1
      have hlb2 : ∀ x ∈ l.drop t ++ l.take t, -500 ≤ x ∧ x ≤ 500 := fun x hx => by
        rcases List.mem_append.1 hx with h | h
        · exact hLB.out.1 x (List.mem_of_mem_drop h)
        · exact hLB.out.1 x (List.mem_of_mem_take h)
      have hlk2 : (l.drop t ++ l.take t).length = k := by rw [List.length_append, List.length_drop, List.length_take, hLB.out.2]; omega
      obtain ⟨hg2, hw2⟩ := adds_play (l.drop t ++ l.take t) 0 0 (by decide) (by decide) (by decide) hlb2 (by rw [hlk2]; omega)
      have hp2 := playA_good [5, 0, 6] ((l.drop t ++ l.take t).map addA) [5, 0, 6] [] hg2
      rw [hw1, List.nil_append] at hp1
      rw [hw2, sumI_turn, List.nil_append] at hp2
      have hfl := foundA_len (l.map addA) [5, 0, 6]
      rw [List.length_map, hLB.out.2] at hfl
      obtain ⟨F1, hF1⟩ : ∃ F1, F1 = foundA [5, 0, 6] (l.map addA) := ⟨_, rfl⟩
      obtain ⟨F2, hF2⟩ : ∃ F2, F2 = foundA [5, 0, 6] ((l.drop t ++ l.take t).map addA) := ⟨_, rfl⟩
      rw [← hF1] at hp1 hfl hfd
      rw [← hF2] at hp2
      rw [hLB.out.2] at hfd
      rw [show (0 : Int) + sumI l = sumI l by omega] at hp1 hp2
      have HPL := Lib.hid (And.intro hp1 hp2)
      have HLB := hLB
      have HF1 := Lib.hid (And.intro hfl hfd)
      have HL2 := Lib.hid (And.intro hlb2 hlk2)
      have HI : Hid (∀ x ∈ [(5 : Int), 0, 6], I64 x) := fun x hx => by simp at hx; unfold I64; omega
      clear hp1 hp2 hF1 hF2 hfl hfd hg1 hw1 hg2 hw2 hLB hlb2 hlk2
      rcases hex with ⟨hltz, h30⟩ | hltz
      all_goals
        go_wp2_with fail
        refine (hpk _).mono ?_
        rintro r w3 ⟨rfl, rfl⟩
        clear hpk
        have hal := (Below.refl wr.heap.size wr).alloc (Nat.le_refl _) (.cells #[.int .i64 5, .int .i64 0, .int .i64 6] 3)
        have h1 := memPlay_any (some ⟨wr.heap.size, 0, none⟩) A1 [5, 0, 6] (l.map addA) 3 c1 _ (now_lit3 wr 5 0 6) (by simp) (by simp) HI.out (HN1.out.now hal) (adds_fine HLB.out.1) (by rw [List.length_map, HLB.out.2]; omega)
        rw [HPL.out.1, List.length_map, HLB.out.2] at h1
        have HB3 := Lib.hid (Qt.more HH1.out.2 HH1.out.2.size hal)
        have HO3 := Lib.hid (HH1.out.1.next hal)
        have hal0 := hal
        clear hal
        go_wp2_with fail
        refine h1.mono ?_
        rintro r w4 ⟨B1, d1, B2, d2, rfl, hd1, hB1, hd2, hB2, hb4⟩
        have HB4 := Lib.hid (Qt.more HB3.out HB3.out.size hb4)
        have HO4 := Lib.hid (HO3.out.next hb4)
        have HR4 := Lib.hid (And.intro hB1 hB2)
        have HX4 := Lib.hid (Qt.more hal0 hal0.size hb4)
        simp only at hd1 hd2
        clear h1 hb4 hB1 hB2 HB3 HO3 hal0
        have hto := sliceA_to (t := t) hsh htk hc1 hm1
        have hN4 : NowA w4 A1 (l.map addA) := HN1.out.now HX4.out
        obtain ⟨AT, cT, hNT, hcT, hfrom⟩ := sliceA_from hsh hN4 (by rw [List.length_map, HLB.out.2]) htk hc1 hm1
        rw [← List.map_drop] at hNT
        have hTK : NowA w4 A1 ((l.take t).map addA) := fun j hj => by
          rw [List.length_map, List.length_take, HLB.out.2] at hj
          obtain ⟨b, off, e, hb, h4⟩ := hN4 j (by rw [List.length_map, HLB.out.2]; omega)
          refine ⟨b, off, e, hb, ?_⟩
          have e5 : ((l.take t).map addA).getD j deadA = (l.map addA).getD j deadA := by
            rw [List.map_take, List.getD_eq_getElem?_getD, List.getD_eq_getElem?_getD, List.getElem?_take, if_pos (by omega)]
          rw [e5]
          exact h4
        have HNT := Lib.hid hNT
        have HTK := Lib.hid hTK
        clear hNT hTK hN4
        go_wp2_with fail
        refine region_calm_to (fun W => Below w4.heap.size w4 W) (fun (a0 a9 : Act) (w9 : World) => ∃ (bq : Nat) (v61 v65 : Value) (A9 A8 : Option Addr) (c9 c8 : Nat), a9 = (((((((((((((((((a0.put (some 57) (.slice (some ⟨bq, 0, none⟩) 3 3)).put (some 58) (.slice A1 k c1)).put (some 59) (.int .i64 (t : Int))).put (some 60) (.slice AT (k - t) cT)).put (some 61) v61).put (some 62) (.slice A1 k c1)).put (some 63) (.int .i64 (t : Int))).put (some 64) (.slice A1 t c1)).put (some 65) v65).put (some 66) (.tuple #[.slice A9 3 c9, .slice A8 F2.length c8, .int .i64 0])).put (some 56) (.tuple #[.slice A9 3 c9, .slice A8 F2.length c8, .int .i64 0])).put (some 67) (.slice A9 3 c9)).put (some 68) (.slice A8 F2.length c8)).put (some 69) (.int .i64 0)).put (some 14) (.slice A9 3 c9)).put (some 15) (.slice A8 F2.length c8)).put (some 16) (.int .i64 0)) ∧ F2.length ≤ c8 ∧ 3 ≤ c9 ∧ Now w9 A9 [5, sumI l, 6] ∧ Below w4.heap.size w4 w9) (.calm 1 (.calm 2 (.calm 3 (.calm 5 (.calm 6 (.calm 7 (.two 0 4 (.only 4 (.only 8 (.only 9 (.calm 10 (.calm 11 (.calm 12 (.calm 13 (.calm 14 (.calm 15 (.calm 16 .done)))))))))) (.two 0 8 (.only 8 (.only 9 (.calm 10 (.calm 11 (.calm 12 (.calm 13 (.calm 14 (.calm 15 (.calm 16 .done))))))))) (.only 0 (.only 9 (.calm 10 (.calm 11 (.calm 12 (.calm 13 (.calm 14 (.calm 15 (.calm 16 .done))))))))))))))))) (by kernel_rfl) (by kernel_rfl) (by kernel_rfl) (by rfl) (below_drew _) ?_ ?_
        · skip
          refine ⟨_, _, (.slice A1 k c1), rfl, rfl, ⟨rfl, fun W hW => by first | exact ⟨rfl, rfl⟩ | (simp only [Act.eval, execOp]; go_simp; try exact ⟨rfl, rfl⟩)⟩, ?_⟩
          simp only [Act.put, List.getElem_toArray, List.getElem_cons_zero, List.getElem_cons_succ, List.setIfInBounds_toArray, List.set_cons_succ, List.set_cons_zero]
          refine ⟨_, _, (.int .i64 (t : Int)), rfl, rfl, ⟨rfl, fun W hW => by first | exact ⟨rfl, rfl⟩ | (simp only [Act.eval, execOp]; go_simp; try exact ⟨rfl, rfl⟩)⟩, ?_⟩
          simp only [Act.put, List.getElem_toArray, List.getElem_cons_zero, List.getElem_cons_succ, List.setIfInBounds_toArray, List.set_cons_succ, List.set_cons_zero]
          refine ⟨_, _, (.slice AT (k - t) cT), rfl, rfl, ⟨rfl, fun W hW => by rw [exec_fromA (x := .tmp 58) (y := .tmp 59) rfl rfl rfl hfrom]; exact ⟨rfl, rfl⟩⟩, ?_⟩
          simp only [Act.put, List.getElem_toArray, List.getElem_cons_zero, List.getElem_cons_succ, List.setIfInBounds_toArray, List.set_cons_succ, List.set_cons_zero]
          refine ⟨_, _, (.slice A1 k c1), rfl, rfl, ⟨rfl, fun W hW => by first | exact ⟨rfl, rfl⟩ | (simp only [Act.eval, execOp]; go_simp; try exact ⟨rfl, rfl⟩)⟩, ?_⟩
          simp only [Act.put, List.getElem_toArray, List.getElem_cons_zero, List.getElem_cons_succ, List.setIfInBounds_toArray, List.set_cons_succ, List.set_cons_zero]
          refine ⟨_, _, (.int .i64 (t : Int)), rfl, rfl, ⟨rfl, fun W hW => by first | exact ⟨rfl, rfl⟩ | (simp only [Act.eval, execOp]; go_simp; try exact ⟨rfl, rfl⟩)⟩, ?_⟩
          simp only [Act.put, List.getElem_toArray, List.getElem_cons_zero, List.getElem_cons_succ, List.setIfInBounds_toArray, List.set_cons_succ, List.set_cons_zero]
          refine ⟨_, _, (.slice A1 t c1), rfl, rfl, ⟨rfl, fun W hW => by rw [exec_toA (x := .tmp 62) (y := .tmp 63) rfl rfl rfl hto]; exact ⟨rfl, rfl⟩⟩, ?_⟩
          simp only [Act.put, List.getElem_toArray, List.getElem_cons_zero, List.getElem_cons_succ, List.setIfInBounds_toArray, List.set_cons_succ, List.set_cons_zero]
          refine ⟨?_, ?_⟩
          · skip
            have hb1 := (below_drew w4).alloc (Nat.le_refl _) (.cells #[.int .i64 5, .int .i64 0, .int .i64 6] 3)
            have hl1 := now_lit3 w4.drew 5 0 6
            obtain ⟨bq, hbq⟩ : ∃ bq, bq = w4.drew.heap.size := ⟨_, rfl⟩
            rw [← hbq] at hl1
            refine ⟨_, rfl, ?_⟩
            go_wp2_with fail
            refine ⟨rfl, hb1, ?_⟩
            obtain ⟨v61, W2, hr1, ho61, hb61⟩ := app1_any cT (HNT.out.now hb1) (by rw [List.length_map, List.length_drop, HLB.out.2]; omega)
            rw [List.length_map, List.length_drop, HLB.out.2] at hr1
            refine ⟨_, rfl, ?_⟩
            refine Lib.wpList_append_run _ rfl (.const (.slice none 0 0)) (.tmp 60) 26 26 rfl (.slice none 0 0) (.slice AT (k - t) cT) rfl rfl _ _ hr1 ?_
            simp only [Act.put, List.getElem_toArray, List.getElem_cons_zero, List.getElem_cons_succ, List.setIfInBounds_toArray, List.set_cons_succ, List.set_cons_zero]
            have hb2 := Qt.more hb1 hb1.size hb61
            refine ⟨rfl, hb2, ?_⟩
            have hl2 := hl1.below hb61
            obtain ⟨v65, W3, hr2, ho65, hg65⟩ := appA_any c1 (hb61.size) (ho61) (HTK.out.now hb2) (by rw [List.length_map, List.length_map, List.length_drop, List.length_take, HLB.out.2]; omega)
            rw [List.length_map, List.length_take, HLB.out.2, Nat.min_eq_left htk] at hr2
            rw [← List.map_append] at ho65
            refine ⟨_, rfl, ?_⟩
            refine Lib.wpList_append_run _ rfl (.tmp 61) (.tmp 64) 26 26 rfl v61 (.slice A1 t c1) rfl rfl _ _ hr2 ?_
            simp only [Act.put, List.getElem_toArray, List.getElem_cons_zero, List.getElem_cons_succ, List.setIfInBounds_toArray, List.set_cons_succ, List.set_cons_zero]
            have hbW := hb2.grown hg65 hb2.size (fun g e => by have := World.ownsRow.lt ho61 g e; have := hb1.size; omega)
            have hlit := now_grown hl2 hg65 (fun e => by have := World.ownsRow.lt ho61 _ e; have hz : w4.drew.heap.size < (w4.drew.alloc (.cells #[.int .i64 5, .int .i64 0, .int .i64 6] 3)).heap.size := (by simp); omega)
            refine ⟨rfl, hbW, ?_⟩
            clear hr1 hr2 ho61 hb61 hg65 hl1 hl2 hb1 hb2
            obtain ⟨A65, c65, rfl, hc65, hN65⟩ := ho65.slice
            have hpl := memPlay_any (some ⟨bq, 0, none⟩) A65 [5, 0, 6] ((l.drop t ++ l.take t).map addA) 3 c65 W3 hlit (by simp) (by simp) HI.out hN65 (adds_fine HL2.out.1) (by rw [List.length_map, HL2.out.2]; omega)
            rw [HPL.out.2, List.length_map, HL2.out.2] at hpl
            rw [List.length_map, HL2.out.2]
            clear hlit hN65 hc65 ho65
            refine ⟨_, rfl, ?_⟩
            subst hbq
            go_wp2_with fail
            refine hpl.mono ?_
            rintro r w9 ⟨A9, c9, A8, c8, rfl, hc9, hN9, hc8, hN8, hb9⟩
            have hb10 := Qt.more hbW hbW.size hb9
            clear hpl hb9
            go_wp2_with fail
            refine ⟨rfl, hb10, ?_⟩
            refine ⟨_, _, (.tuple #[.slice A9 3 c9, .slice A8 F2.length c8, .int .i64 0]), rfl, rfl, ⟨rfl, fun W hW => by first | exact ⟨rfl, rfl⟩ | (simp only [Act.eval, execOp]; go_simp; try exact ⟨rfl, rfl⟩)⟩, ?_⟩
            simp only [Act.put, List.getElem_toArray, List.getElem_cons_zero, List.getElem_cons_succ, List.setIfInBounds_toArray, List.set_cons_succ, List.set_cons_zero]
            refine ⟨_, _, (.slice A9 3 c9), rfl, rfl, ⟨rfl, fun W hW => by first | exact ⟨rfl, rfl⟩ | (simp only [Act.eval, execOp]; go_simp; try exact ⟨rfl, rfl⟩)⟩, ?_⟩
            simp only [Act.put, List.getElem_toArray, List.getElem_cons_zero, List.getElem_cons_succ, List.setIfInBounds_toArray, List.set_cons_succ, List.set_cons_zero]
            refine ⟨_, _, (.slice A8 F2.length c8), rfl, rfl, ⟨rfl, fun W hW => by first | exact ⟨rfl, rfl⟩ | (simp only [Act.eval, execOp]; go_simp; try exact ⟨rfl, rfl⟩)⟩, ?_⟩
            simp only [Act.put, List.getElem_toArray, List.getElem_cons_zero, List.getElem_cons_succ, List.setIfInBounds_toArray, List.set_cons_succ, List.set_cons_zero]
            refine ⟨_, _, (.int .i64 0), rfl, rfl, ⟨rfl, fun W hW => by first | exact ⟨rfl, rfl⟩ | (simp only [Act.eval, execOp]; go_simp; try exact ⟨rfl, rfl⟩)⟩, ?_⟩
            simp only [Act.put, List.getElem_toArray, List.getElem_cons_zero, List.getElem_cons_succ, List.setIfInBounds_toArray, List.set_cons_succ, List.set_cons_zero]
            refine ⟨_, _, (.slice A9 3 c9), rfl, rfl, ⟨rfl, fun W hW => by first | exact ⟨rfl, rfl⟩ | (simp only [Act.eval, execOp]; go_simp; try exact ⟨rfl, rfl⟩)⟩, ?_⟩
            simp only [Act.put, List.getElem_toArray, List.getElem_cons_zero, List.getElem_cons_succ, List.setIfInBounds_toArray, List.set_cons_succ, List.set_cons_zero]
            refine ⟨_, _, (.slice A8 F2.length c8), rfl, rfl, ⟨rfl, fun W hW => by first | exact ⟨rfl, rfl⟩ | (simp only [Act.eval, execOp]; go_simp; try exact ⟨rfl, rfl⟩)⟩, ?_⟩
            simp only [Act.put, List.getElem_toArray, List.getElem_cons_zero, List.getElem_cons_succ, List.setIfInBounds_toArray, List.set_cons_succ, List.set_cons_zero]
            refine ⟨_, _, (.int .i64 0), rfl, rfl, ⟨rfl, fun W hW => by first | exact ⟨rfl, rfl⟩ | (simp only [Act.eval, execOp]; go_simp; try exact ⟨rfl, rfl⟩)⟩, ?_⟩
            simp only [Act.put, List.getElem_toArray, List.getElem_cons_zero, List.getElem_cons_succ, List.setIfInBounds_toArray, List.set_cons_succ, List.set_cons_zero]
            exact ⟨_, _, _, A9, A8, c9, c8, by first | rfl | simp only [Act.put, List.getElem_toArray, List.getElem_cons_zero, List.getElem_cons_succ, List.setIfInBounds_toArray, List.set_cons_succ, List.set_cons_zero], hc8, hc9, hN9, hb10⟩
          · skip
            obtain ⟨v61, W1, hr1, ho61, hb61⟩ := app1_any cT (HNT.out.now (below_drew w4)) (by rw [List.length_map, List.length_drop, HLB.out.2]; omega)
            rw [List.length_map, List.length_drop, HLB.out.2] at hr1
            refine ⟨_, rfl, ?_⟩
            refine Lib.wpList_append_run _ rfl (.const (.slice none 0 0)) (.tmp 60) 26 26 rfl (.slice none 0 0) (.slice AT (k - t) cT) rfl rfl _ _ hr1 ?_
            simp only [Act.put, List.getElem_toArray, List.getElem_cons_zero, List.getElem_cons_succ, List.setIfInBounds_toArray, List.set_cons_succ, List.set_cons_zero]
            have hb1 := Qt.more (below_drew w4) (below_drew w4).size hb61
            refine ⟨rfl, hb1, ?_⟩
            refine ⟨?_, ?_⟩
            · skip
              have hb2 := hb1.alloc hb1.size (.cells #[.int .i64 5, .int .i64 0, .int .i64 6] 3)
              have hl1 := now_lit3 W1 5 0 6
              have ho62 := ho61.next ((Below.refl W1.heap.size W1).alloc (Nat.le_refl _) (.cells #[.int .i64 5, .int .i64 0, .int .i64 6] 3))
              obtain ⟨bq, hbq⟩ : ∃ bq, bq = W1.heap.size := ⟨_, rfl⟩
              rw [← hbq] at hl1
              refine ⟨_, rfl, ?_⟩
              go_wp2_with fail
              refine ⟨rfl, hb2, ?_⟩
              obtain ⟨v65, W3, hr2, ho65, hg65⟩ := appA_any c1 ((Nat.le_trans hb61.size (by simp))) (ho62) (HTK.out.now hb2) (by rw [List.length_map, List.length_map, List.length_drop, List.length_take, HLB.out.2]; omega)
              rw [List.length_map, List.length_take, HLB.out.2, Nat.min_eq_left htk] at hr2
              rw [← List.map_append] at ho65
              refine ⟨_, rfl, ?_⟩
              refine Lib.wpList_append_run _ rfl (.tmp 61) (.tmp 64) 26 26 rfl v61 (.slice A1 t c1) rfl rfl _ _ hr2 ?_
              simp only [Act.put, List.getElem_toArray, List.getElem_cons_zero, List.getElem_cons_succ, List.setIfInBounds_toArray, List.set_cons_succ, List.set_cons_zero]
              have hbW := hb2.grown hg65 hb2.size (fun g e => by have := World.ownsRow.lt ho62 g e; have := (below_drew w4).size; omega)
              have hlit := now_grown hl1 hg65 (fun e => by have := World.ownsRow.lt ho61 _ e; omega)
              refine ⟨rfl, hbW, ?_⟩
              clear hr1 hr2 ho61 ho62 hb61 hg65 hl1 hb1 hb2
              obtain ⟨A65, c65, rfl, hc65, hN65⟩ := ho65.slice
              have hpl := memPlay_any (some ⟨bq, 0, none⟩) A65 [5, 0, 6] ((l.drop t ++ l.take t).map addA) 3 c65 W3 hlit (by simp) (by simp) HI.out hN65 (adds_fine HL2.out.1) (by rw [List.length_map, HL2.out.2]; omega)
              rw [HPL.out.2, List.length_map, HL2.out.2] at hpl
              rw [List.length_map, HL2.out.2]
              clear hlit hN65 hc65 ho65
              refine ⟨_, rfl, ?_⟩
              subst hbq
              go_wp2_with fail
              refine hpl.mono ?_
              rintro r w9 ⟨A9, c9, A8, c8, rfl, hc9, hN9, hc8, hN8, hb9⟩
              have hb10 := Qt.more hbW hbW.size hb9
              clear hpl hb9
              go_wp2_with fail
              refine ⟨rfl, hb10, ?_⟩
              refine ⟨_, _, (.tuple #[.slice A9 3 c9, .slice A8 F2.length c8, .int .i64 0]), rfl, rfl, ⟨rfl, fun W hW => by first | exact ⟨rfl, rfl⟩ | (simp only [Act.eval, execOp]; go_simp; try exact ⟨rfl, rfl⟩)⟩, ?_⟩
              simp only [Act.put, List.getElem_toArray, List.getElem_cons_zero, List.getElem_cons_succ, List.setIfInBounds_toArray, List.set_cons_succ, List.set_cons_zero]
              refine ⟨_, _, (.slice A9 3 c9), rfl, rfl, ⟨rfl, fun W hW => by first | exact ⟨rfl, rfl⟩ | (simp only [Act.eval, execOp]; go_simp; try exact ⟨rfl, rfl⟩)⟩, ?_⟩
              simp only [Act.put, List.getElem_toArray, List.getElem_cons_zero, List.getElem_cons_succ, List.setIfInBounds_toArray, List.set_cons_succ, List.set_cons_zero]
              refine ⟨_, _, (.slice A8 F2.length c8), rfl, rfl, ⟨rfl, fun W hW => by first | exact ⟨rfl, rfl⟩ | (simp only [Act.eval, execOp]; go_simp; try exact ⟨rfl, rfl⟩)⟩, ?_⟩
              simp only [Act.put, List.getElem_toArray, List.getElem_cons_zero, List.getElem_cons_succ, List.setIfInBounds_toArray, List.set_cons_succ, List.set_cons_zero]
              refine ⟨_, _, (.int .i64 0), rfl, rfl, ⟨rfl, fun W hW => by first | exact ⟨rfl, rfl⟩ | (simp only [Act.eval, execOp]; go_simp; try exact ⟨rfl, rfl⟩)⟩, ?_⟩
              simp only [Act.put, List.getElem_toArray, List.getElem_cons_zero, List.getElem_cons_succ, List.setIfInBounds_toArray, List.set_cons_succ, List.set_cons_zero]
              refine ⟨_, _, (.slice A9 3 c9), rfl, rfl, ⟨rfl, fun W hW => by first | exact ⟨rfl, rfl⟩ | (simp only [Act.eval, execOp]; go_simp; try exact ⟨rfl, rfl⟩)⟩, ?_⟩
              simp only [Act.put, List.getElem_toArray, List.getElem_cons_zero, List.getElem_cons_succ, List.setIfInBounds_toArray, List.set_cons_succ, List.set_cons_zero]
              refine ⟨_, _, (.slice A8 F2.length c8), rfl, rfl, ⟨rfl, fun W hW => by first | exact ⟨rfl, rfl⟩ | (simp only [Act.eval, execOp]; go_simp; try exact ⟨rfl, rfl⟩)⟩, ?_⟩
              simp only [Act.put, List.getElem_toArray, List.getElem_cons_zero, List.getElem_cons_succ, List.setIfInBounds_toArray, List.set_cons_succ, List.set_cons_zero]
              refine ⟨_, _, (.int .i64 0), rfl, rfl, ⟨rfl, fun W hW => by first | exact ⟨rfl, rfl⟩ | (simp only [Act.eval, execOp]; go_simp; try exact ⟨rfl, rfl⟩)⟩, ?_⟩
              simp only [Act.put, List.getElem_toArray, List.getElem_cons_zero, List.getElem_cons_succ, List.setIfInBounds_toArray, List.set_cons_succ, List.set_cons_zero]
              exact ⟨_, _, _, A9, A8, c9, c8, by first | rfl | simp only [Act.put, List.getElem_toArray, List.getElem_cons_zero, List.getElem_cons_succ, List.setIfInBounds_toArray, List.set_cons_succ, List.set_cons_zero], hc8, hc9, hN9, hb10⟩
            · skip
              obtain ⟨v65, W2, hr2, ho65, hg65⟩ := appA_any c1 (hb61.size) (ho61) (HTK.out.now hb1) (by rw [List.length_map, List.length_map, List.length_drop, List.length_take, HLB.out.2]; omega)
              rw [List.length_map, List.length_take, HLB.out.2, Nat.min_eq_left htk] at hr2
              rw [← List.map_append] at ho65
              refine ⟨_, rfl, ?_⟩
              refine Lib.wpList_append_run _ rfl (.tmp 61) (.tmp 64) 26 26 rfl v61 (.slice A1 t c1) rfl rfl _ _ hr2 ?_
              simp only [Act.put, List.getElem_toArray, List.getElem_cons_zero, List.getElem_cons_succ, List.setIfInBounds_toArray, List.set_cons_succ, List.set_cons_zero]
              have hb2 := hb1.grown hg65 hb1.size (fun g e => by have := World.ownsRow.lt ho61 g e; have := (below_drew w4).size; omega)
              refine ⟨rfl, hb2, ?_⟩
              have hbW := hb2.alloc hb2.size (.cells #[.int .i64 5, .int .i64 0, .int .i64 6] 3)
              have hlit := now_lit3 W2 5 0 6
              replace ho65 := ho65.next ((Below.refl W2.heap.size W2).alloc (Nat.le_refl _) (.cells #[.int .i64 5, .int .i64 0, .int .i64 6] 3))
              obtain ⟨bq, hbq⟩ : ∃ bq, bq = W2.heap.size := ⟨_, rfl⟩
              rw [← hbq] at hlit
              refine ⟨_, rfl, ?_⟩
              go_wp2_with fail
              refine ⟨rfl, hbW, ?_⟩
              clear hr1 hr2 ho61 hb61 hg65 hb1 hb2
              obtain ⟨A65, c65, rfl, hc65, hN65⟩ := ho65.slice
              have hpl := memPlay_any (some ⟨bq, 0, none⟩) A65 [5, 0, 6] ((l.drop t ++ l.take t).map addA) 3 c65 _ hlit (by simp) (by simp) HI.out hN65 (adds_fine HL2.out.1) (by rw [List.length_map, HL2.out.2]; omega)
              rw [HPL.out.2, List.length_map, HL2.out.2] at hpl
              rw [List.length_map, HL2.out.2]
              clear hlit hN65 hc65 ho65
              refine ⟨_, rfl, ?_⟩
              subst hbq
              go_wp2_with fail
              refine hpl.mono ?_
              rintro r w9 ⟨A9, c9, A8, c8, rfl, hc9, hN9, hc8, hN8, hb9⟩
              have hb10 := Qt.more hbW hbW.size hb9
              clear hpl hb9
              go_wp2_with fail
              refine ⟨rfl, hb10, ?_⟩
              refine ⟨_, _, (.tuple #[.slice A9 3 c9, .slice A8 F2.length c8, .int .i64 0]), rfl, rfl, ⟨rfl, fun W hW => by first | exact ⟨rfl, rfl⟩ | (simp only [Act.eval, execOp]; go_simp; try exact ⟨rfl, rfl⟩)⟩, ?_⟩
              simp only [Act.put, List.getElem_toArray, List.getElem_cons_zero, List.getElem_cons_succ, List.setIfInBounds_toArray, List.set_cons_succ, List.set_cons_zero]
              refine ⟨_, _, (.slice A9 3 c9), rfl, rfl, ⟨rfl, fun W hW => by first | exact ⟨rfl, rfl⟩ | (simp only [Act.eval, execOp]; go_simp; try exact ⟨rfl, rfl⟩)⟩, ?_⟩
              simp only [Act.put, List.getElem_toArray, List.getElem_cons_zero, List.getElem_cons_succ, List.setIfInBounds_toArray, List.set_cons_succ, List.set_cons_zero]
              refine ⟨_, _, (.slice A8 F2.length c8), rfl, rfl, ⟨rfl, fun W hW => by first | exact ⟨rfl, rfl⟩ | (simp only [Act.eval, execOp]; go_simp; try exact ⟨rfl, rfl⟩)⟩, ?_⟩
              simp only [Act.put, List.getElem_toArray, List.getElem_cons_zero, List.getElem_cons_succ, List.setIfInBounds_toArray, List.set_cons_succ, List.set_cons_zero]
              refine ⟨_, _, (.int .i64 0), rfl, rfl, ⟨rfl, fun W hW => by first | exact ⟨rfl, rfl⟩ | (simp only [Act.eval, execOp]; go_simp; try exact ⟨rfl, rfl⟩)⟩, ?_⟩
              simp only [Act.put, List.getElem_toArray, List.getElem_cons_zero, List.getElem_cons_succ, List.setIfInBounds_toArray, List.set_cons_succ, List.set_cons_zero]
              refine ⟨_, _, (.slice A9 3 c9), rfl, rfl, ⟨rfl, fun W hW => by first | exact ⟨rfl, rfl⟩ | (simp only [Act.eval, execOp]; go_simp; try exact ⟨rfl, rfl⟩)⟩, ?_⟩
              simp only [Act.put, List.getElem_toArray, List.getElem_cons_zero, List.getElem_cons_succ, List.setIfInBounds_toArray, List.set_cons_succ, List.set_cons_zero]
              refine ⟨_, _, (.slice A8 F2.length c8), rfl, rfl, ⟨rfl, fun W hW => by first | exact ⟨rfl, rfl⟩ | (simp only [Act.eval, execOp]; go_simp; try exact ⟨rfl, rfl⟩)⟩, ?_⟩
              simp only [Act.put, List.getElem_toArray, List.getElem_cons_zero, List.getElem_cons_succ, List.setIfInBounds_toArray, List.set_cons_succ, List.set_cons_zero]
              refine ⟨_, _, (.int .i64 0), rfl, rfl, ⟨rfl, fun W hW => by first | exact ⟨rfl, rfl⟩ | (simp only [Act.eval, execOp]; go_simp; try exact ⟨rfl, rfl⟩)⟩, ?_⟩
              simp only [Act.put, List.getElem_toArray, List.getElem_cons_zero, List.getElem_cons_succ, List.setIfInBounds_toArray, List.set_cons_succ, List.set_cons_zero]
              exact ⟨_, _, _, A9, A8, c9, c8, by first | rfl | simp only [Act.put, List.getElem_toArray, List.getElem_cons_zero, List.getElem_cons_succ, List.setIfInBounds_toArray, List.set_cons_succ, List.set_cons_zero], hc8, hc9, hN9, hb10⟩
        rintro a9 w9 ⟨bq, v61, v65, A9, A8, c9, c8, rfl, hc8, hc9, hN9, hb9⟩
        simp only [Act.put, List.getElem_toArray, List.getElem_cons_zero, List.getElem_cons_succ, List.setIfInBounds_toArray, List.set_cons_succ, List.set_cons_zero]
        have HB9 := Lib.hid (Qt.more HB4.out HB4.out.size hb9)
        have HO9 := Lib.hid (HO4.out.next hb9)
        have HR9 := Lib.hid (And.intro (HR4.out.1.below hb9) (And.intro (HR4.out.2.below hb9) hN9))
        clear hb9 hN9 HB4 HO4 HR4 hfrom hto HNT HTK
        have hne : ((F1.length : Int) != (k : Int)) = false := by rw [HF1.out.1]; simp
        clear hc8 HX4 HH1 HN1
        go_wp2_with fail
        go_loopw [17, 18] (fun x i wr => ∃ j : Nat, j ≤ k ∧ i = .int .i64 j ∧ x = .int .i64 (sumI (l.take j)) ∧ Below w9.heap.size w9 wr) (fun _ i _ => k - (intOf i).toNat)
        case atStart => exact ⟨0, Nat.zero_le _, rfl, rfl, Below.refl _ _⟩
        case round =>
          obtain ⟨j, hj, rfl, rfl, hbx⟩ := hrel
          by_cases hjk : j < k
          · have hjz : (j : Int) < (k : Int) := by omega
            have hjf : j < F1.length := by rw [HF1.out.1]; exact hjk
            obtain ⟨b2, o2, rfl, hb2, hcx⟩ := Rd.at_ HR9.out.2.1 (by rw [HF1.out.1]; omega)
            have q0 := (hbx.cell (p := ⟨b2, o2 + j, none⟩) hb2).trans (hcx j (by rw [HF1.out.1]; omega))
            rw [HF1.out.2 j hjk, show (0 : Int) + sumI (l.take j) = sumI (l.take j) by omega] at q0
            obtain ⟨A5, c5, he5, _, hN5⟩ := HO9.out.slice
            injection he5 with e1 e2 e3
            subst e1 e3
            obtain ⟨b1, o1, rfl, hb1, _, _, _, hc3⟩ := hN5 j (by rw [List.length_map, HLB.out.2]; omega)
            rw [addA_getD (by rw [HLB.out.2]; omega)] at hc3
            have q1 := (hbx.cell (p := ⟨b1, o1 + j * 4 + 3, none⟩) hb1).trans hc3
            have hts := take_succ10 (l := l) (j := j) (by rw [HLB.out.2]; omega)
            have hlj := HLB.out.1 (l.getD j 0) (by rw [List.getD_eq_getElem?_getD, List.getElem?_eq_getElem (by rw [HLB.out.2]; omega)]; exact List.getElem_mem _)
            have hsj := sumI_bd (l.take j) (fun z hz => HLB.out.1 z (List.mem_of_mem_take hz))
            rw [List.length_take, HLB.out.2] at hsj
            have q1' : wr.cell? ⟨b1, o1 + j * 4 + 3, none⟩ = some (.int .i64 (l.getD j 0)) := q1
            obtain ⟨y, hy⟩ : ∃ y, y = l.getD j 0 := ⟨_, rfl⟩
            obtain ⟨s, hs⟩ : ∃ s, s = sumI (l.take j) := ⟨_, rfl⟩
            rw [← hy] at q1' hts hlj
            rw [← hs] at q0 hts hsj ⊢
            have HTS := Lib.hid hts
            have hsb : -15000 ≤ s ∧ s ≤ 15000 := by omega
            clear hcx hN5 hc3 q1 hts hsj hy hs e2
            go_wp2_with fail
            go_roundw
            case measure => simp [intOf]; omega
            case rel => exact ⟨j + 1, by omega, by go_num, by rw [HTS.out], hbx⟩
          · have hjz : ¬ (j : Int) < (k : Int) := by omega
            go_wp2_with fail
            have hal := (Below.refl wr.heap.size wr).alloc (Nat.le_refl _) (.cells #[.int .i64 5, .int .i64 (sumI l), .int .i64 6] 3)
            have hbz := Qt.more hbx hbx.size hal
            refine (ints_yes (HR9.out.1.below hbz) (now_lit3 wr 5 (sumI l) 6) rfl rfl (by simp) rfl).mono ?_
            rintro r w11 ⟨rfl, hb11⟩
            have hbz1 := Qt.more hbz hbz.size hb11
            have HBZ := Lib.hid (Qt.more HB9.out HB9.out.size hbz1)
            have hin := ints_yes (c := d1) (c' := c9) (HR9.out.1.below hbz1) (HR9.out.2.2.below hbz1) rfl rfl (by simp) rfl
            clear hal hbz hb11 hbz1
            go_wp2_with fail
            refine hin.mono ?_
            rintro r w12 ⟨rfl, hb12⟩
            have HBZ2 := Lib.hid (Qt.more HBZ.out HBZ.out.size hb12)
            clear hin hb12
            go_wp2_with fail
            go_ret
            exact ⟨rfl, HBZ2.out⟩
end Go.Proofs.Ythfbcjbiemdedaa
