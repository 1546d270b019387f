/-
  With, at any list: the code's and the document's answer.
-/
import Derived.Test.YtafoleafhkadiaaGc
import Derived.Test.YtafoleafhkadiaaCu
import Derived.Test.YtafoleafhkadiaaCk
namespace Go.Proofs.Ytafoleafhkadiaa
open Go.RowKit Go.Sort

/-- what With answers of a list that is not too long -/
def withR (l : List (Int × Int)) (q : Int × Int) (al : Bool) : Int × List (Int × Int) :=
  if rightB l = true then (if inB q = true then (0, if al = true then putL q l else outL q l) else (2, [])) else (1, [])

theorem with_ans (A : Option Addr) (l : List (Int × Int)) (c : Nat) (q : Int × Int) (al : Bool) (w : World) (hR : Rd w w.heap.size A l) (hl : l.length ≤ 300) (hc : l.length ≤ c) :
    Calls Try.prog 22 #[.slice A l.length c, .agg #[.int .i64 q.1, .int .i64 q.2], .bool al] w (Ans w (withR l q al)) := by
  unfold withR
  cases hr : rightB l
  · refine (with_bad A l c q al w hR (by omega) hc hr).mono ?_
    rintro e w' ⟨rfl, hb⟩
    exact Ans.nil 1 hb
  · obtain ⟨h2000, hin, hs⟩ := (rightB_iff l).1 hr
    rw [if_pos rfl]
    cases hq : inB q
    · refine (with_out A l c q al w hR (by omega) hc hr hq).mono ?_
      rintro e w' ⟨rfl, hb⟩
      exact Ans.nil 2 hb
    · rw [if_pos rfl]
      cases al
      · refine (with_off A l c q w hR (by omega) hc hr hs hq).mono ?_
        rintro e w' ⟨g, rfl, hr, hb⟩
        exact ⟨_, rfl, ⟨_, _, rfl, Nat.le_refl _, hr.rd⟩, hb⟩
      · refine (with_on A l c q w hR (by omega) hc hr hs hq).mono ?_
        rintro e w' ⟨g, rfl, hr, hb⟩
        exact ⟨_, rfl, ⟨_, _, rfl, Nat.le_refl _, hr.rd⟩, hb⟩

theorem shift_ans (A : Option Addr) (l : List (Int × Int)) (c : Nat) (dx dy : Int) (w : World) (hR : Rd w w.heap.size A l) (hl : l.length ≤ 300) (hc : l.length ≤ c) (hdx : I64 dx) (hdy : I64 dy) :
    Calls Try.prog 26 #[.slice A l.length c, .int .i64 dx, .int .i64 dy] w (Ans w (shiftR l dx dy)) := by
  unfold shiftR
  cases hr : rightB l
  · refine (shift_bad A l c dx dy w hR (by omega) hc hr).mono ?_
    rintro e w' ⟨rfl, hb⟩
    exact Ans.nil 1 hb
  · rw [if_pos rfl]
    refine (shift_any A l c dx dy w hR (by omega) hc hr ((rightB_iff l).1 hr).2.1 hdx hdy).mono ?_
    rintro e w' ⟨hb, h⟩
    by_cases ha : (shL dx dy l).all inB = true
    · rw [if_pos ha] at h ⊢
      obtain ⟨g, rfl, hrow⟩ := h
      exact ⟨_, rfl, ⟨_, l.length, by rw [length_shL], by rw [length_shL]; exact Nat.le_refl _, hrow.rd⟩, hb⟩
    · rw [if_neg ha] at h ⊢
      subst h
      exact Ans.nil 2 hb

theorem outL_take {l : List (Int × Int)} {k : Nat} (hk : k < l.length) (q : Int × Int) : outL q (l.take (k + 1)) = outL q (l.take k) ++ if l.getD k (0, 0) = q then [] else [l.getD k (0, 0)] := by
  rw [take_snoc hk]
  unfold outL
  rw [List.filter_append]
  congr 1
  generalize l.getD k (0, 0) = p
  by_cases h : p = q
  · rw [if_pos h, List.filter_cons_of_neg (by simpa using h)]; rfl
  · rw [if_neg h, List.filter_cons_of_pos (by simpa using h)]; rfl

set_option maxHeartbeats 1000000 in
set_option maxRecDepth 100000 in
theorem refWith_bad (A : Option Addr) (l : List (Int × Int)) (c : Nat) (q : Int × Int) (al : Bool) (w : World) (hR : Rd w w.heap.size A l) (hl : l.length ≤ 300) (hc : l.length ≤ c) (hr : rightB l = false) :
    Calls Try.prog 23 #[.slice A l.length c, .agg #[.int .i64 q.1, .int .i64 q.2], .bool al] w (Ans w (1, [])) := by
  obtain ⟨qx, qy⟩ := q
  have hb0 : Below w.heap.size w (w.alloc (.cells #[.int .i64 qx, .int .i64 qy] 25)) := (Below.refl _ w).alloc (Nat.le_refl _) _
  have h := refRight_any A l c (w.alloc (.cells #[.int .i64 qx, .int .i64 qy] 25)) ((hR.below hb0 (Nat.le_refl _)).more (by simp)) (by omega) hc
  rw [hr] at h
  clear hr
  go_enter Try.func23, Try.ntmps23
  go_wp2_with (go_at_call 18; refine h.mono ?_; rintro e w1 ⟨rfl, hb1⟩)
  go_ret2
  exact Ans.nil 1 (Qt.more hb0 hb0.size hb1)

set_option maxHeartbeats 1000000 in
set_option maxRecDepth 100000 in
theorem refWith_out (A : Option Addr) (l : List (Int × Int)) (c : Nat) (q : Int × Int) (al : Bool) (w : World) (hR : Rd w w.heap.size A l) (hl : l.length ≤ 300) (hc : l.length ≤ c) (hr : rightB l = true) (hq : inB q = false) :
    Calls Try.prog 23 #[.slice A l.length c, .agg #[.int .i64 q.1, .int .i64 q.2], .bool al] w (Ans w (2, [])) := by
  obtain ⟨qx, qy⟩ := q
  have hb0 : Below w.heap.size w (w.alloc (.cells #[.int .i64 qx, .int .i64 qy] 25)) := (Below.refl _ w).alloc (Nat.le_refl _) _
  have h := refRight_any A l c (w.alloc (.cells #[.int .i64 qx, .int .i64 qy] 25)) ((hR.below hb0 (Nat.le_refl _)).more (by simp)) (by omega) hc
  rw [hr] at h
  have hw0 : (w.alloc (.cells #[.int .i64 qx, .int .i64 qy] 25)).cell? ⟨w.heap.size, 0, none⟩ = some (.int .i64 qx) := by simp
  have hw1 : (w.alloc (.cells #[.int .i64 qx, .int .i64 qy] 25)).cell? ⟨w.heap.size, 1, none⟩ = some (.int .i64 qy) := by simp
  have HW0 := Lib.hid hw0
  have HW1 := Lib.hid hw1
  clear hr hw0 hw1
  go_enter Try.func23, Try.ntmps23
  go_wp2_with (first
    | (go_at_call 18; refine h.mono ?_; rintro e w1 ⟨rfl, hb1⟩; have q0 := Qt.keep hb1 HW0.out; have q1 := Qt.keep hb1 HW1.out)
    | (go_at_call 45; refine (refIn_no (qx, qy) hq _).mono ?_; rintro e w2 ⟨rfl, hb2⟩))
  go_ret2
  exact Ans.nil 2 (Qt.more hb0 hb0.size (Qt.more hb1 hb1.size hb2))

set_option maxHeartbeats 1000000 in
set_option maxRecDepth 100000 in
theorem refWith_on (A : Option Addr) (l : List (Int × Int)) (c : Nat) (q : Int × Int) (w : World) (hR : Rd w w.heap.size A l) (hl : l.length ≤ 300) (hc : l.length ≤ c) (hr : rightB l = true) (hq : inB q = true) :
    Calls Try.prog 23 #[.slice A l.length c, .agg #[.int .i64 q.1, .int .i64 q.2], .bool true] w (Ans w (0, putL q l)) := by
  obtain ⟨qx, qy⟩ := q
  have hb0 : Below w.heap.size w (w.alloc (.cells #[.int .i64 qx, .int .i64 qy] 25)) := (Below.refl _ w).alloc (Nat.le_refl _) _
  have hR0 := (hR.below hb0 (Nat.le_refl _)).more hb0.size
  have h := refRight_any A l c (w.alloc (.cells #[.int .i64 qx, .int .i64 qy] 25)) hR0 (by omega) hc
  rw [hr] at h
  have hw0 : (w.alloc (.cells #[.int .i64 qx, .int .i64 qy] 25)).cell? ⟨w.heap.size, 0, none⟩ = some (.int .i64 qx) := by simp
  have hw1 : (w.alloc (.cells #[.int .i64 qx, .int .i64 qy] 25)).cell? ⟨w.heap.size, 1, none⟩ = some (.int .i64 qy) := by simp
  have HW0 := Lib.hid hw0
  have HW1 := Lib.hid hw1
  have HR0 := Lib.hid hR0
  have HB0 := Lib.hid hb0
  have hpl : (putL (qx, qy) l).length ≤ l.length + 1 := length_putL_le _ _
  clear hr hw0 hw1 hR0 hb0 hR
  go_enter Try.func23, Try.ntmps23
  go_wp2_with (first
    | (go_at_call 18; refine h.mono ?_; rintro e w1 ⟨rfl, hb1⟩; have q0 := Qt.keep hb1 HW0.out; have q1 := Qt.keep hb1 HW1.out)
    | (go_at_call 45; refine (refIn_yes (qx, qy) hq _).mono ?_; rintro e w2 ⟨rfl, hb2⟩; have p0 := Qt.keep hb2 q0; have p1 := Qt.keep hb2 q1)
    | (go_at_call 37; refine (put_any A l c (qx, qy) _ (((HR0.out.below hb1 (Nat.le_refl _)).more hb1.size).below hb2 (Nat.le_refl _) |>.more hb2.size) (by omega) hc).mono ?_; rintro e w3 ⟨v3, rfl, hown, hb3⟩; obtain ⟨A3, c3, rfl, hc3, hr3⟩ := Own.rd hown; clear hown))
  have HR3 := Lib.hid hr3
  have HB3 := Lib.hid hb3
  obtain ⟨z, hz⟩ : ∃ z, z = putL (qx, qy) l := ⟨_, rfl⟩
  rw [← hz] at hpl hc3 HR3 ⊢
  have HZ := Lib.hid hz
  clear hz hr3 hb3
  go_loopw [8, 9] (fun v i wr => v = .slice A3 z.length c3 ∧ i = .int .i64 0 ∧ wr = w3) (fun _ _ _ => 0)
  case atStart => exact ⟨rfl, rfl, rfl⟩
  case round =>
    obtain ⟨rfl, rfl, rfl⟩ := hrel
    go_wp2
    all_goals go_ret2
    all_goals rw [← HZ.out]
    all_goals exact ⟨_, rfl, ⟨A3, c3, rfl, hc3, HR3.out⟩, Qt.more HB0.out HB0.out.size (Qt.more hb1 hb1.size (Qt.more hb2 hb2.size HB3.out))⟩

set_option maxHeartbeats 2000000 in
set_option maxRecDepth 100000 in
theorem refWith_off (A : Option Addr) (l : List (Int × Int)) (c : Nat) (q : Int × Int) (w : World) (hR : Rd w w.heap.size A l) (hl : l.length ≤ 300) (hc : l.length ≤ c) (hr : rightB l = true) (hq : inB q = true) :
    Calls Try.prog 23 #[.slice A l.length c, .agg #[.int .i64 q.1, .int .i64 q.2], .bool false] w (Ans w (0, outL q l)) := by
  obtain ⟨cx, cy⟩ := q
  obtain ⟨i0, hi, hz0, hz1, hz2⟩ := info_parts infoCell
  have hb0 : Below w.heap.size w (w.alloc (.cells #[.int .i64 cx, .int .i64 cy] 25)) := (Below.refl _ w).alloc (Nat.le_refl _) _
  have hR0 := (hR.below hb0 (Nat.le_refl _)).more hb0.size
  have h := refRight_any A l c (w.alloc (.cells #[.int .i64 cx, .int .i64 cy] 25)) hR0 (by omega) hc
  rw [hr] at h
  have hw0 : (w.alloc (.cells #[.int .i64 cx, .int .i64 cy] 25)).cell? ⟨w.heap.size, 0, none⟩ = some (.int .i64 cx) := by simp
  have hw1 : (w.alloc (.cells #[.int .i64 cx, .int .i64 cy] 25)).cell? ⟨w.heap.size, 1, none⟩ = some (.int .i64 cy) := by simp
  have hsz0 : w.heap.size < (w.alloc (.cells #[.int .i64 cx, .int .i64 cy] 25)).heap.size := by simp
  have HW0 := Lib.hid hw0
  have HW1 := Lib.hid hw1
  have HB0 := Lib.hid hb0
  have HS0 := Lib.hid hsz0
  clear hr hw0 hw1 hR0 hb0 hsz0
  go_enter Try.func23, Try.ntmps23
  go_wp2_with (first
    | (go_at_call 18; refine h.mono ?_; rintro e w1 ⟨rfl, hb1⟩; have q0 := Qt.keep hb1 HW0.out; have q1 := Qt.keep hb1 HW1.out)
    | (go_at_call 45; refine (refIn_yes (cx, cy) hq _).mono ?_; rintro e w2 ⟨rfl, hb2⟩; have p0 := Qt.keep hb2 q0; have p1 := Qt.keep hb2 q1))
  have HB2 := Lib.hid (Qt.more HB0.out HB0.out.size (Qt.more hb1 hb1.size hb2))
  have HS2 := Lib.hid (Nat.lt_of_lt_of_le HS0.out (Nat.le_trans hb1.size hb2.size))
  have HP0 := Lib.hid p0
  have HP1 := Lib.hid p1
  clear p0 p1 q0 q1 hb1 hb2 HB0 HS0 HW0 HW1 h
  go_loopw [8, 9] (fun v i wr => ∃ (k : Nat), k ≤ l.length ∧ i = .int .i64 k ∧ Own wr (w.heap.size + 1) 25 v (outL (cx, cy) (l.take k)) ∧
      wr.cell? ⟨w.heap.size, 0, none⟩ = some (.int .i64 cx) ∧ wr.cell? ⟨w.heap.size, 1, none⟩ = some (.int .i64 cy) ∧ Below w.heap.size w wr ∧ w.heap.size < wr.heap.size) (fun _ i _ => l.length - (intOf i).toNat)
  case atStart => exact ⟨0, Nat.zero_le _, rfl, World.ownsRow_nil _ _ _ _, HP0.out, HP1.out, HB2.out, HS2.out⟩
  case round =>
    obtain ⟨k, hk, rfl, hown, hcx, hcy, hb, hsz⟩ := hrel
    have hol : (outL (cx, cy) (l.take k)).length ≤ k := Nat.le_trans (List.length_filter_le _ _) (by rw [List.length_take]; omega)
    by_cases hlt : k < l.length
    · have hltz : (k : Int) < (l.length : Int) := by omega
      obtain ⟨b, off, rfl, hbB, hcell⟩ := hR.at_ (by omega)
      have HT := Lib.hid (outL_take hlt (cx, cy))
      obtain ⟨⟨x, y⟩, hxy⟩ : ∃ p, p = l.getD k (0, 0) := ⟨_, rfl⟩
      have a0 := (hcell k hlt).1
      have a1 := (hcell k hlt).2
      rw [← hxy] at a0 a1 HT
      simp only at a0 a1
      have c0 := Qt.keep hb a0
      have c1 := Qt.keep hb a1
      obtain ⟨out, ho⟩ : ∃ out, out = outL (cx, cy) (l.take k) := ⟨_, rfl⟩
      rw [← ho] at HT hown hol
      clear hxy hcell ho
      have k0 := Qt.cell_in hcx
      have k1 := Qt.cell_in hcy
      have k2 := Qt.cell_in c0
      have k3 := Qt.cell_in c1
      have hcase : (x = cx ∧ y = cy) ∨ (x = cx ∧ ¬ y = cy) ∨ ¬ x = cx := by
        by_cases h1 : x = cx <;> by_cases h2 : y = cy <;> simp [h1, h2]
      have HNE : Hid (¬ (x = cx ∧ y = cy) → outL (cx, cy) (l.take (k + 1)) = out ++ [(x, y)]) := (show ¬ (x = cx ∧ y = cy) → outL (cx, cy) (l.take (k + 1)) = out ++ [(x, y)] from fun hn => by
        rw [HT.out, if_neg]
        intro e
        simp only [Prod.mk.injEq] at e
        exact hn e)
      rcases hcase with ⟨rfl, rfl⟩ | ⟨rfl, hy⟩ | hx
      · go_wp2
        refine Qt.below_all (by kernel_rfl) (by kernel_rfl) ?_
        repeat (go_big_quiet_step (fail))
        refine wpQuiet_nil ?_
        intro w2 hb2
        clear k0 k1 k2 k3
        go_wp2
        go_roundw
        case measure => simp [intOf]; omega
        case rel =>
          refine ⟨k + 1, by omega, by go_num, ?_, Qt.keep hb2 hcx, Qt.keep hb2 hcy, Qt.more hb (Nat.le_of_lt hsz) hb2, Nat.lt_of_lt_of_le hsz hb2.size⟩
          rw [HT.out]
          simpa using hown.below hb2
      all_goals
        have HE := Lib.hid (HNE.out (by first | exact fun h => hy h.2 | exact fun h => hx h.1))
        obtain ⟨A2, c2, rfl, hc2, -⟩ := Own.rd hown
        go_wp2
        refine Qt.below_all (by kernel_rfl) (by kernel_rfl) ?_
        repeat (go_big_quiet_step (fail))
        refine wpQuiet_nil ?_
        intro w2 hb2
        have e2 := Qt.keep hb2 c0
        have e3 := Qt.keep hb2 c1
        clear k0 k1 k2 k3
        have hs2 := hb2.size
        go_wp2_with (at_builtin; refine wpList_append_own _ rfl (.tmp 36) (.tmp 41) 23 rfl (w.heap.size + 1) 25 i0 (.agg #[.int .i64 0, .int .i64 0]) 2 16 Try.underlying23 hi hz0 hz1 hz2 rfl (by decide) _ _ _ rfl (World.ownsRow.alloc (hown.below hb2) _) ⟨w2.heap.size, 0, none⟩ 1 1 [.int .i64 x, .int .i64 y] rfl rfl one_new one_cell (by unfold maxLen; omega) (by omega) (by simp; omega) ?_; intro v3 w3 hown3 hgrow _)
        have P := pushed (Qt.more hb (Nat.le_of_lt hsz) hb2) (Nat.lt_of_lt_of_le hsz hb2.size) (Qt.keep hb2 hcx) (Qt.keep hb2 hcy) (hown.below hb2) hown3 hgrow
        clear hown3 hgrow hown hcx hcy e2 e3
        go_wp2
        go_roundw
        case measure => simp [intOf]; omega
        case rel => exact ⟨k + 1, by omega, by go_num, HE.out ▸ P.1, P.2.1, P.2.2.1, P.2.2.2.1, P.2.2.2.2⟩
    · have hltz : ¬ (k : Int) < (l.length : Int) := by omega
      obtain rfl : k = l.length := by omega
      rw [List.take_length] at hown hol
      obtain ⟨A2, c2, rfl, hc2, hr2⟩ := Own.rd hown
      go_wp2
      go_ret2
      exact ⟨_, rfl, ⟨A2, c2, rfl, hc2, hr2⟩, hb⟩

theorem refWith_any (A : Option Addr) (l : List (Int × Int)) (c : Nat) (q : Int × Int) (al : Bool) (w : World) (hR : Rd w w.heap.size A l) (hl : l.length ≤ 300) (hc : l.length ≤ c) :
    Calls Try.prog 23 #[.slice A l.length c, .agg #[.int .i64 q.1, .int .i64 q.2], .bool al] w (Ans w (withR l q al)) := by
  unfold withR
  cases hr : rightB l
  · exact refWith_bad A l c q al w hR hl hc hr
  · rw [if_pos rfl]
    cases hq : inB q
    · exact refWith_out A l c q al w hR hl hc hr hq
    · rw [if_pos rfl]
      cases al
      · exact refWith_off A l c q w hR hl hc hr hq
      · exact refWith_on A l c q w hR hl hc hr hq

end Go.Proofs.Ytafoleafhkadiaa
