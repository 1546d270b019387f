/-
  The document's answer of layer 1: Shift.
-/
import Derived.Test.YtcmdhochofoohaaGb
import Derived.Test.YtcmdhochofoohaaCl
import Derived.Test.YtcmdhochofoohaaB01
namespace Go.Proofs.Ytcmdhochofoohaa.Cel
set_option linter.unusedVariables false
set_option linter.unusedSimpArgs false
open Go.RowKit Go.Sort

/-- what Shift answers -/
def shiftR (l : List (Int × Int)) (dx dy : Int) : Int × List (Int × Int) :=
  if rightB l = true then (if (shL dx dy l).all inB = true then (0, shL dx dy l) else (2, [])) else (1, [])

theorem push_one {w0 w2 w3 : World} {B T : Nat} {v v' : Value} {out : List (Int × Int)} {x y : Int} (hB : B ≤ w2.heap.size) (hb : Below B w0 w2) (hown : Own w2 B T v out) {o : Obj}
    (h3 : w3.ownsRow B T 2 v' (out.length + 1) (fl out ++ [.int .i64 x, .int .i64 y])) (hg : (w2.alloc o).grownBy w3 v.ownBlock) : Own w3 B T v' (out ++ [(x, y)]) ∧ Below B w0 w3 :=
  ⟨own_push h3, (hb.alloc hB _).grown hg (by simp; omega) (fun k e => (World.ownsRow.lt hown k e).1)⟩

/-- so many cells shifted -/
def shTo (dx dy : Int) (l : List (Int × Int)) (k : Nat) : List (Int × Int) := shL dx dy (l.take k)
theorem shTo_succ {dx dy : Int} {l : List (Int × Int)} {k : Nat} (hk : k < l.length) : shTo dx dy l (k + 1) = shTo dx dy l k ++ [((l.getD k (0, 0)).1 + dx, (l.getD k (0, 0)).2 + dy)] := by
  unfold shTo shL; rw [take_snoc hk, List.map_append]; rfl
theorem length_shTo (dx dy : Int) (l : List (Int × Int)) (k : Nat) : (shTo dx dy l k).length ≤ k := by
  unfold shTo; rw [length_shL, List.length_take]; omega
theorem sh_out {dx dy : Int} {l : List (Int × Int)} {k : Nat} {x y : Int} (hk : k < l.length) (hxy : (x, y) = l.getD k (0, 0)) (h : inB (x + dx, y + dy) = false) : (shL dx dy l).all inB = false := by
  rw [List.all_eq_false]
  refine ⟨(x + dx, y + dy), ?_, by rw [h]; exact Bool.false_ne_true⟩
  unfold shL
  exact List.mem_map.2 ⟨(x, y), by rw [hxy]; exact getD_mem hk, rfl⟩
theorem sh_in {dx dy : Int} {l : List (Int × Int)} (h : ∀ j, j < l.length → inB ((l.getD j (0, 0)).1 + dx, (l.getD j (0, 0)).2 + dy) = true) : (shL dx dy l).all inB = true := by
  rw [List.all_eq_true]
  intro p hp
  unfold shL at hp
  obtain ⟨q, hq, rfl⟩ := List.mem_map.1 hp
  obtain ⟨j, hj, he⟩ := List.getElem_of_mem hq
  have := h j hj
  rwa [List.getD_eq_getElem?_getD, List.getElem?_eq_getElem hj, Option.getD_some, he] at this
theorem inB_far {x y dx dy : Int} (h : inB (x, y) = true) (hf : dx < -2199023255552 ∨ 2199023255552 < dx ∨ dy < -2199023255552 ∨ 2199023255552 < dy) : inB (x + dx, y + dy) = false := by
  have := inB_bd h
  rw [Bool.eq_false_iff]
  intro h2
  have := inB_bd h2
  simp only at *
  omega

theorem refShift_bad (A : Option Addr) (l : List (Int × Int)) (c : Nat) (dx dy : Int) (w : World) (hR : Rd w w.heap.size A l) (hl : l.length ≤ 1000000) (hc : l.length ≤ c) (hr : rightB l = false) :
    Calls Try.prog 42 #[.slice A l.length c, .int .i64 dx, .int .i64 dy] w (Ans w (1, [])) := by
  have h := refRight_any A l c w hR hl hc
  rw [hr] at h
  clear hr
  go_enter Try.func42, Try.ntmps42
  go_wp2_with (go_at_call 69; refine h.mono ?_; rintro e w1 ⟨rfl, hb1⟩)
  go_ret2
  exact Ans.nil 1 hb1

set_option maxHeartbeats 2000000 in
set_option maxRecDepth 100000 in
theorem refShift_good (A : Option Addr) (l : List (Int × Int)) (c : Nat) (dx dy : Int) (w : World) (hR : Rd w w.heap.size A l) (hc : l.length ≤ c) (hr : rightB l = true) (hdx : I64 dx) (hdy : I64 dy) :
    Calls Try.prog 42 #[.slice A l.length c, .int .i64 dx, .int .i64 dy] w (Ans w (if (shL dx dy l).all inB = true then (0, shL dx dy l) else (2, []))) := by
  obtain ⟨i0, hi, hz0, hz1, hz2⟩ := info_parts infoCell
  obtain ⟨h2000, hin, -⟩ := (rightB_iff l).1 hr
  have HIN := Lib.hid hin
  have h := refRight_any A l c w hR (by omega) hc
  rw [hr] at h
  obtain ⟨r, hr2⟩ : ∃ r, r = (if (shL dx dy l).all inB = true then ((0 : Int), shL dx dy l) else (2, [])) := ⟨_, rfl⟩
  rw [← hr2]
  have HR := Lib.hid hr2
  have hd1 := hdx.1
  have hd2 := hdx.2
  have hd3 := hdy.1
  have hd4 := hdy.2
  clear hr hr2 hin hdx hdy
  go_enter Try.func42, Try.ntmps42
  go_wp2_with (go_at_call 69; refine h.mono ?_; rintro e w1 ⟨rfl, hb1⟩)
  have HB1 := Lib.hid hb1
  clear hb1 h
  go_loopw [9, 10] (fun v i wr => ∃ k : Nat, k ≤ l.length ∧ i = .int .i64 k ∧ Aside (Own wr w.heap.size 63 v (shTo dx dy l k) ∧ (∀ j, j < k → inB ((l.getD j (0, 0)).1 + dx, (l.getD j (0, 0)).2 + dy) = true)) ∧ Below w.heap.size w wr) (fun _ i _ => l.length - (intOf i).toNat)
  case atStart => exact ⟨0, Nat.zero_le _, rfl, ⟨World.ownsRow_nil _ _ _ _, fun j hj => absurd hj (Nat.not_lt_zero j)⟩, HB1.out⟩
  case round =>
    obtain ⟨k, hk, rfl, HK, hb⟩ := hrel
    by_cases hlt : k < l.length
    · have hltz : (k : Int) < (l.length : Int) := by omega
      obtain ⟨b, off, rfl, hbB, hcell⟩ := hR.at_ (by omega)
      obtain ⟨⟨x, y⟩, hxy⟩ : ∃ p, p = l.getD k (0, 0) := ⟨_, rfl⟩
      have a0 := (hcell k hlt).1
      have a1 := (hcell k hlt).2
      rw [← hxy] at a0 a1
      simp only at a0 a1
      have c0 := Qt.keep hb a0
      have c1 := Qt.keep hb a1
      have k0 := Qt.cell_in c0
      have k1 := Qt.cell_in c1
      have hin := HIN.out (x, y) (by rw [hxy]; exact getD_mem hlt)
      have hbd := inB_bd hin
      simp only at hbd
      obtain ⟨x1, x2, y1, y2⟩ := hbd
      have HXY := Lib.hid hxy
      have HI := Lib.hid hin
      clear hxy a0 a1 hcell hin
      by_cases hfar : dx < -2199023255552 ∨ 2199023255552 < dx ∨ dy < -2199023255552 ∨ 2199023255552 < dy
      · have E : Hid (r = (2, [])) := (show r = (2, []) from by rw [HR.out, sh_out hlt HXY.out (inB_far HI.out hfar)]; rfl)
        have hcases : (decide (dx < -2199023255552) = true) ∨ (decide (dx < -2199023255552) = false ∧ decide (2199023255552 < dx) = true) ∨ (decide (dx < -2199023255552) = false ∧ decide (2199023255552 < dx) = false ∧ decide (dy < -2199023255552) = true) ∨ (decide (dx < -2199023255552) = false ∧ decide (2199023255552 < dx) = false ∧ decide (dy < -2199023255552) = false ∧ decide (2199023255552 < dy) = true) := by
          simp only [decide_eq_true_eq, decide_eq_false_iff_not]; omega
        clear hfar
        rcases hcases with g1 | ⟨g1, g2⟩ | ⟨g1, g2, g3⟩ | ⟨g1, g2, g3, g4⟩
        all_goals
          go_wp2
          refine Qt.below_all (by kernel_rfl) (by kernel_rfl) ?_
          repeat (go_big_quiet_step (fail))
          refine wpQuiet_nil ?_
          intro w2 hb2
          clear k0 k1
          go_wp2
          go_ret2
          rw [E.out]
          exact Ans.nil 2 (Qt.more hb hb.size hb2)
      · have g1 : -2199023255552 ≤ dx ∧ dx ≤ 2199023255552 ∧ -2199023255552 ≤ dy ∧ dy ≤ 2199023255552 := by omega
        have f1 : decide (dx < -2199023255552) = false := by simp only [decide_eq_false_iff_not]; omega
        have f2 : decide (2199023255552 < dx) = false := by simp only [decide_eq_false_iff_not]; omega
        have f3 : decide (dy < -2199023255552) = false := by simp only [decide_eq_false_iff_not]; omega
        have f4 : decide (2199023255552 < dy) = false := by simp only [decide_eq_false_iff_not]; omega
        have t1 : -9223372036854775808 ≤ x + dx ∧ x + dx ≤ 9223372036854775807 := by omega
        have t2 : -9223372036854775808 ≤ y + dy ∧ y + dy ≤ 9223372036854775807 := by omega
        have s1 : IntKind.i64.wrap (x + dx) = x + dx := IntWalk.i64_in _ t1
        have s2 : IntKind.i64.wrap (y + dy) = y + dy := IntWalk.i64_in _ t2
        clear hfar
        cases hnew : inB (x + dx, y + dy)
        · have E : Hid (r = (2, [])) := (show r = (2, []) from by rw [HR.out, sh_out hlt HXY.out hnew]; rfl)
          go_wp2
          refine Qt.below_all (by kernel_rfl) (by kernel_rfl) ?_
          repeat (go_big_quiet_step (first | (go_at_call 70; exact Qt.at_call (refIn_no (x + dx, y + dy) hnew))))
          refine wpQuiet_nil ?_
          intro w2 hb2
          clear k0 k1
          go_wp2
          go_ret2
          rw [E.out]
          exact Ans.nil 2 (Qt.more hb hb.size hb2)
        · obtain ⟨A2, c2, rfl, hc2, -⟩ := Own.rd HK.out.1
          have hlen := length_shTo dx dy l k
          go_wp2
          refine Qt.below_all (by kernel_rfl) (by kernel_rfl) ?_
          repeat (go_big_quiet_step (first | (go_at_call 70; exact Qt.at_call (refIn_yes (x + dx, y + dy) hnew))))
          refine wpQuiet_nil ?_
          intro w2 hb2
          clear k0 k1
          have d0 := Qt.cell_in (Qt.keep hb2 c0)
          have d1 := Qt.cell_in (Qt.keep hb2 c1)
          go_wp2
          refine Qt.region_late (v := .slice A2 (shTo dx dy l k).length c2) 16 (by decide) (by kernel_rfl) (by kernel_rfl) rfl ⟨rfl, fun _ => rfl⟩ ?_
          simp only [List.take_succ_cons, List.take_zero, List.drop_succ_cons, List.drop_zero, Act.put, List.setIfInBounds_toArray, List.set_cons_succ, List.set_cons_zero]
          repeat (go_big_quiet_step (fail))
          refine wpQuiet_nil ?_
          intro w3 hb3
          have B3 := Qt.more (Qt.more hb hb.size hb2) (Nat.le_trans hb.size hb2.size) hb3
          have hown := (HK.out.1.below hb2).below hb3
          have hsz3 : w.heap.size ≤ w3.heap.size := B3.size
          have HK2 := Lib.hid HK.out.2
          clear hb2 hb3 hb HK s1 s2
          go_wp2_with (at_builtin; refine wpList_append_own _ rfl (.tmp 59) (.tmp 75) 53 rfl w.heap.size 63 i0 (.agg #[.int .i64 0, .int .i64 0]) 2 16 Try.underlying53 hi hz0 hz1 hz2 rfl (by decide) _ _ _ rfl (World.ownsRow.alloc hown _) ⟨w3.heap.size, 0, none⟩ 1 1 [.int .i64 (x + dx), .int .i64 (y + dy)] rfl rfl one_new one_cell (by unfold maxLen; omega) (by omega) (by simp; omega) ?_; intro v4 w4 hown4 hgrow4 _)
          have HP := Lib.hid (push_one (v := .slice A2 (shTo dx dy l k).length c2) hsz3 B3 hown hown4 hgrow4)
          have hset : shTo dx dy l k ++ [(x + dx, y + dy)] = shTo dx dy l (k + 1) := by rw [shTo_succ hlt, ← HXY.out]
          rw [hset] at HP
          clear hown4 hgrow4 hown hset d0 d1 c0 c1
          refine ⟨rfl, ?_⟩
          go_wp2
          go_roundw
          case measure => simp [intOf]; omega
          case rel =>
            refine ⟨k + 1, by omega, by go_num, ⟨HP.out.1, fun j hj => ?_⟩, HP.out.2⟩
            by_cases hjk : j = k
            · subst hjk; rw [← HXY.out]; exact hnew
            · exact HK2.out j (by omega)
    · have hltz : ¬ (k : Int) < (l.length : Int) := by omega
      obtain rfl : k = l.length := by omega
      have E : Hid (r = (0, shL dx dy l)) := (show r = (0, shL dx dy l) from by rw [HR.out, if_pos (sh_in HK.out.2)])
      obtain ⟨A2, c2, rfl, hc2, hr2⟩ := Own.rd HK.out.1
      go_wp2
      go_ret2
      rw [E.out]
      have e : shTo dx dy l l.length = shL dx dy l := by unfold shTo; rw [List.take_length]
      rw [e] at hr2 hc2 ⊢
      exact ⟨_, rfl, ⟨A2, c2, rfl, hc2, hr2⟩, hb⟩

theorem refShift_any (A : Option Addr) (l : List (Int × Int)) (c : Nat) (dx dy : Int) (w : World) (hR : Rd w w.heap.size A l) (hl : l.length ≤ 1000000) (hc : l.length ≤ c) (hdx : I64 dx) (hdy : I64 dy) :
    Calls Try.prog 42 #[.slice A l.length c, .int .i64 dx, .int .i64 dy] w (Ans w (shiftR l dx dy)) := by
  unfold shiftR
  cases hr : rightB l
  · exact refShift_bad A l c dx dy w hR hl hc hr
  · rw [if_pos rfl]
    exact refShift_good A l c dx dy w hR hc hr hdx hdy

end Go.Proofs.Ytcmdhochofoohaa.Cel
