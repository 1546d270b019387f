/-
  The document's answer of layer 2: Next.
-/
import Derived.Test.YtikgnjcjbjafaaaGf
import Derived.BigRegion
namespace Go.Proofs.Ytikgnjcjbjafaaa.Cel
open Go.RowKit Go.Sort

theorem refNext_bad (A : Option Addr) (l : List (Int × Int)) (c : Nat) (w : World) (hR : Now w A l) (hl : l.length ≤ 1000000) (hc : l.length ≤ c) (hr : rightB l = false) :
    Calls Try.prog 42 #[.slice A l.length c] w (Ans w (1, [])) := by
  have h1 := refRight_any A l c w hR hl hc
  rw [hr] at h1
  clear hr
  go_enter Try.func42, Try.ntmps42
  go_wp2_with (go_at_call 56; refine h1.mono ?_; rintro e w1 ⟨rfl, hb1⟩)
  go_ret2
  exact Ans.nil 1 hb1

/-- the cells about the first i cells, and the first k about the next one -/
def candTo (l : List (Int × Int)) (i k : Nat) : List (Int × Int) := cand (l.take i) ++ (nine (l.getD i (0, 0))).take k
/-- those of them that are alive -/
def outTo (l : List (Int × Int)) (i k : Nat) : List (Int × Int) := (candTo l i k).filter (aliveB l)
theorem outTo_nine {l : List (Int × Int)} {i : Nat} (hi : i < l.length) : outTo l i 9 = outTo l (i + 1) 0 := by
  unfold outTo candTo cand
  rw [take_snoc hi, List.flatMap_append]
  simp [nine]
theorem outTo_end (l : List (Int × Int)) : outTo l l.length 0 = (cand l).filter (aliveB l) := by simp [outTo, candTo]
theorem candTo_on {l : List (Int × Int)} {i k : Nat} {x y : Int} (hxy : (x, y) = l.getD i (0, 0)) (hk : k < 9) : candTo l i (k + 1) = candTo l i k ++ [(x + (k : Int) % 3 - 1, y + (k : Int) / 3 - 1)] := by
  unfold candTo
  rw [← hxy, List.append_assoc]
  congr 1
  have : k = 0 ∨ k = 1 ∨ k = 2 ∨ k = 3 ∨ k = 4 ∨ k = 5 ∨ k = 6 ∨ k = 7 ∨ k = 8 := by omega
  rcases this with rfl | rfl | rfl | rfl | rfl | rfl | rfl | rfl | rfl <;> simp [nine] <;> omega
theorem outTo_on {l : List (Int × Int)} {i k : Nat} {p : Int × Int} (h : candTo l i (k + 1) = candTo l i k ++ [p]) (b : Bool) (hb : aliveB l p = b) : outTo l i (k + 1) = if b then outTo l i k ++ [p] else outTo l i k := by
  unfold outTo
  rw [h, List.filter_append]
  cases b <;> simp [hb]
theorem length_outTo (l : List (Int × Int)) (i k : Nat) : (outTo l i k).length ≤ 9 * i + k := by
  unfold outTo
  refine Nat.le_trans (List.length_filter_le _ _) ?_
  unfold candTo cand nine
  simp only [List.length_append, List.length_flatMap, List.length_take, List.length_cons, List.length_nil]
  have : ((l.take i).map fun _ => 9).sum ≤ 9 * i := by
    induction i generalizing l with
    | zero => simp
    | succ i ih =>
      cases l with
      | nil => simp
      | cons a l => simp only [List.take_succ_cons, List.map_cons, List.sum_cons]; have := ih l; omega
  have h2 := this
  simp only [Nat.zero_add, Nat.reduceAdd]
  omega

theorem push_own {w0 w2 w3 : World} {B T : Nat} {v v' : Value} {out : List (Int × Int)} {x y : Int} (hB : B ≤ w2.heap.size) (hb : Below B w0 w2) (hown : Own w2 B T v out) {o : Obj}
    (h3 : w3.ownsRow B T 2 v' (out.length + 1) (fl out ++ [.int .i64 x, .int .i64 y])) (hg : (w2.alloc o).grownBy w3 v.ownBlock) : Own w3 B T v' (out ++ [(x, y)]) ∧ Below B w0 w3 :=
  ⟨own_push h3, (hb.alloc hB _).grown hg (by simp; omega) (fun k e => (World.ownsRow.lt hown k e).1)⟩

set_option maxHeartbeats 8000000 in
set_option maxRecDepth 100000 in
theorem refNext_good (A : Option Addr) (l : List (Int × Int)) (c : Nat) (w : World) (hR : Now w A l) (hc : l.length ≤ c) (hr : rightB l = true) :
    Calls Try.prog 42 #[.slice A l.length c] w (Ans w (ofR (nextL l))) := by
  obtain ⟨i0, hi, hz0, hz1, hz2⟩ := info_parts infoCell
  obtain ⟨hl, hin, -⟩ := (rightB_iff l).1 hr
  have HIN := Lib.hid hin
  have h1 := refRight_any A l c w hR (by omega) hc
  rw [hr] at h1
  have HEND : Hid (ofR (nextL l) = ofR ((cand l).filter (aliveB l))) := ofR_ext fun y => by
    rw [mem_nextL, List.mem_filter]
    exact ⟨fun h => ⟨alive_cand h, h⟩, fun h => h.2⟩
  clear hr hin
  go_enter Try.func42, Try.ntmps42
  go_wp2_with (go_at_call 56; refine h1.mono ?_; rintro e w1 ⟨rfl, hb1⟩)
  have HB1 := Lib.hid hb1
  clear hb1 h1
  go_loopw [4, 5] (fun v t wr => ∃ i : Nat, i ≤ l.length ∧ t = .int .i64 i ∧ Aside (Own wr w.heap.size 32 v (outTo l i 0)) ∧ Below w.heap.size w wr) (fun _ t _ => l.length - (intOf t).toNat)
  case atStart => exact ⟨0, Nat.zero_le _, rfl, World.ownsRow_nil _ _ _ _, HB1.out⟩
  case round =>
    obtain ⟨i, hi', rfl, HO, hb⟩ := hrel
    by_cases hlt : i < l.length
    · have hltz : (i : Int) < (l.length : Int) := by omega
      obtain ⟨b, off, rfl, hbB, hcell⟩ := Rd.at_ hR (by omega)
      obtain ⟨⟨x, y⟩, hxy⟩ : ∃ p, p = l.getD i (0, 0) := ⟨_, rfl⟩
      have a0 := (hcell i hlt).1
      have a1 := (hcell i hlt).2
      rw [← hxy] at a0 a1
      simp only at a0 a1
      have A0 := Lib.hid a0
      have A1 := Lib.hid a1
      have hbd := inB_bd (HIN.out (x, y) (by rw [hxy]; exact getD_mem hlt))
      simp only at hbd
      obtain ⟨x1, x2, x3, x4⟩ := hbd
      have HXY := Lib.hid hxy
      clear hxy a0 a1 hcell
      go_wp2
      obtain ⟨wo, rfl⟩ : ∃ wo : World, wo = wr := ⟨_, rfl⟩
      go_loopw [4, 6] (fun v t wr => ∃ k : Nat, k ≤ 9 ∧ t = .int .i64 k ∧ Aside (Own wr w.heap.size 32 v (outTo l i k)) ∧ Below w.heap.size w wr) (fun _ t _ => 9 - (intOf t).toNat)
      case atStart => exact ⟨0, Nat.zero_le _, rfl, HO, hb⟩
      case round =>
        obtain ⟨k, hk, rfl, HO1, hb1⟩ := hrel
        by_cases hk9 : k < 9
        · have hkz : (k : Int) < 9 := by omega
          obtain ⟨X, hX⟩ : ∃ X, X = x + (k : Int) % 3 - 1 := ⟨_, rfl⟩
          obtain ⟨Y, hY⟩ : ∃ Y, Y = y + (k : Int) / 3 - 1 := ⟨_, rfl⟩
          have HX := Lib.hid hX
          have HY := Lib.hid hY
          have hm0 : 0 ≤ (k : Int) % 3 := by omega
          have hm1 : (k : Int) % 3 ≤ 2 := by omega
          have hm2 : 0 ≤ (k : Int) / 3 := by omega
          have hm3 : (k : Int) / 3 ≤ 2 := by omega
          have c0 := Qt.keep hb1 A0.out
          have c1 := Qt.keep hb1 A1.out
          clear hX hY
          go_wp2
          have e0 : (wr.alloc (.cells #[.int .i64 0, .int .i64 0] 32)).cell? ⟨b, off + i * 2, none⟩ = some (.int .i64 x) := (World.cell?_alloc_lt _ _ _ (block_lt_of_cell c0)).trans c0
          have e1 : (wr.alloc (.cells #[.int .i64 0, .int .i64 0] 32)).cell? ⟨b, off + i * 2 + 1, none⟩ = some (.int .i64 y) := (World.cell?_alloc_lt _ _ _ (block_lt_of_cell c1)).trans c1
          go_region
          rw [← HX.out, ← HY.out]
          have hb2 : Below wr.heap.size wr (wr.alloc (.cells #[.int .i64 X, .int .i64 Y] 32)).drew := ((Below.refl _ wr).alloc (Nat.le_refl _) _).drew
          have q0 : (wr.alloc (.cells #[.int .i64 X, .int .i64 Y] 32)).drew.cell? ⟨wr.heap.size, 0, none⟩ = some (.int .i64 X) := by simp
          have q1 : (wr.alloc (.cells #[.int .i64 X, .int .i64 Y] 32)).drew.cell? ⟨wr.heap.size, 1, none⟩ = some (.int .i64 Y) := by simp
          have hsz2 : wr.heap.size < (wr.alloc (.cells #[.int .i64 X, .int .i64 Y] 32)).drew.heap.size := by simp
          obtain ⟨w2, hw2⟩ : ∃ w2, w2 = (wr.alloc (.cells #[.int .i64 X, .int .i64 Y] 32)).drew := ⟨_, rfl⟩
          rw [← hw2] at hb2 q0 q1 hsz2 ⊢
          have HB2 := Lib.hid (Qt.more hb1 hb1.size hb2)
          have HO2 := Lib.hid (Own.below HO1.out hb2)
          have HR2 := Lib.hid (Now.below (Now.below hR hb1) (show Below wr.heap.size wr w2 from hb2))
          have HQ : Hid (-1099511627800 ≤ X ∧ X ≤ 1099511627800 ∧ -1099511627800 ≤ Y ∧ Y ≤ 1099511627800) := ⟨by have := HX.out; omega, by have := HX.out; omega, by have := HY.out; omega, by have := HY.out; omega⟩
          have hon := candTo_on HXY.out hk9
          rw [← HX.out, ← HY.out] at hon
          have HON := Lib.hid hon
          have hnl := nbr_le l (X, Y)
          have hol := length_outTo l i k
          have hws : w.heap.size ≤ wr.heap.size := hb1.size
          clear hw2 hb2 e0 e1 c0 c1 hon hb1 HO1
          have k0 := Qt.cell_in q0
          have k1 := Qt.cell_in q1
          obtain ⟨b2, hb2⟩ : ∃ b, b = aliveB l (X, Y) := ⟨_, rfl⟩
          have hlv : livesB (hasB l (X, Y)) (nbr l (X, Y)) = b2 := by
            rw [hb2]
            unfold aliveB
            congr 1
            rw [Bool.eq_iff_iff, hasB_iff, decide_eq_true_eq]
          have HLV := Lib.hid hlv
          have HOO := Lib.hid (outTo_on HON.out b2 hb2.symm)
          clear hb2 hlv
          cases b2
          all_goals
            go_wp2
            refine Qt.below_all (by kernel_rfl) (by kernel_rfl) ?_
            repeat (go_big_quiet_step (first
              | (go_at_call 22; exact Qt.at_call' fun W hW => refHas_any (some ⟨b, off, none⟩) l c (X, Y) W (HR2.out.below hW) (by omega) hc)
              | (go_at_call 82; exact Qt.at_call' fun W hW => refAround_any (some ⟨b, off, none⟩) l c (X, Y) W (HR2.out.below hW) hl hc HIN.out HQ.out)
              | (go_at_call 81; exact Qt.at_same fun W hW => by have h := refLives_any (hasB l (X, Y)) (nbr l (X, Y)) W; rw [HLV.out] at h; exact h)))
            refine wpQuiet_nil ?_
            intro w3 hb3
            clear k0 k1
            have d0 := Qt.keep hb3 q0
            have d1 := Qt.keep hb3 q1
            have HB3 := Lib.hid (Qt.more HB2.out HB2.out.size hb3)
            have HO3 := Lib.hid (Own.below HO2.out hb3)
            have hsz3 := hb3.size
            clear hb3 q0 q1
          · go_wp2
            go_roundw
            case measure => simp [intOf]; omega
            case rel => exact ⟨k + 1, by omega, by go_num, by rw [HOO.out]; exact HO3.out, HB3.out⟩
          · go_wp2_with (at_builtin; refine wpList_append_own _ rfl (.tmp 47) (.tmp 49) 38 rfl w.heap.size 32 i0 (.agg #[.int .i64 0, .int .i64 0]) 2 16 Try.underlying38 hi hz0 hz1 hz2 rfl (by decide) _ _ _ rfl (World.ownsRow.alloc HO3.out _) ⟨w3.heap.size, 0, none⟩ 1 1 [.int .i64 X, .int .i64 Y] rfl rfl one_new one_cell (by unfold maxLen; omega) (by omega) (by simp; omega) ?_; intro v4 w4 hown4 hgrow4 _)
            have HP := Lib.hid (push_own (by omega) HB3.out HO3.out hown4 hgrow4)
            clear hown4 hgrow4
            go_wp2
            go_roundw
            case measure => simp [intOf]; omega
            case rel => exact ⟨k + 1, by omega, by go_num, by rw [HOO.out]; exact HP.out.1, HP.out.2⟩
        · have hkz : ¬ (k : Int) < 9 := by omega
          obtain rfl : k = 9 := by omega
          have H9 := Lib.hid (outTo_nine hlt)
          go_wp2
          go_roundw
          case measure => simp [intOf]; omega
          case rel => exact ⟨i + 1, by omega, by go_num, by rw [← H9.out]; exact HO1, hb1⟩
    · have hltz : ¬ (i : Int) < (l.length : Int) := by omega
      obtain rfl : i = l.length := by omega
      have hlen := length_outTo l l.length 0
      rw [outTo_end] at HO hlen
      obtain ⟨A2, c2, rfl, hc2, hr2⟩ := Own.rd HO.out
      go_wp2_with (go_at_call 38; refine (refOf_any A2 _ c2 wr hr2 (by omega) hc2).mono ?_; rintro e w5 ⟨v5, rfl, hrd5, hb5⟩)
      go_ret2
      rw [HEND.out]
      exact ⟨v5, rfl, hrd5, Qt.more hb hb.size hb5⟩

theorem refNext_any (A : Option Addr) (l : List (Int × Int)) (c : Nat) (w : World) (hR : Now w A l) (hl : l.length ≤ 1000000) (hc : l.length ≤ c) :
    Calls Try.prog 42 #[.slice A l.length c] w (Ans w (nextR l)) := by
  cases hr : rightB l
  · rw [nextR_bad hr]; exact refNext_bad A l c w hR hl hc hr
  · rw [nextR_yes hr]; exact refNext_good A l c w hR hc hr

end Go.Proofs.Ytikgnjcjbjafaaa.Cel
