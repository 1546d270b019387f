/-
  With: a set with a cell, or without it (here: refused, or without).
-/
import Derived.Test.YtafoleafhkadiaaCj
namespace Go.Proofs.Ytafoleafhkadiaa
open Go.RowKit Go.Sort

theorem stands_found {l : List (Int × Int)} {t : Int × Int} {i : Nat} (hs : Rises l) (hi : i < l.length) (he : l.getD i (0, 0) = t) : l.take i ++ l.drop (i + 1) = outL t l := by
  have hsplit : l = l.take i ++ t :: l.drop (i + 1) := by
    conv => lhs; rw [← List.take_append_drop i l, drop_cons hi, he]
  have hp : Rises (l.take i ++ t :: l.drop (i + 1)) := by rw [← hsplit]; exact hs
  have hp2 := List.pairwise_append.1 hp
  conv => rhs; rw [outL, hsplit]
  rw [List.filter_append, List.filter_cons_of_neg (by simp)]
  congr 1
  · rw [List.filter_eq_self.2]
    intro y hy
    have := hp2.2.2 y hy t (List.mem_cons_self ..)
    simpa using lessB_ne this
  · rw [List.filter_eq_self.2]
    intro y hy
    have := (List.pairwise_cons.1 hp2.2.1).1 y hy
    simpa using (lessB_ne this).symm
theorem stands_not {l : List (Int × Int)} {t : Int × Int} {i : Nat} (hs : Rises l) (h : Stands l t i) (hn : ¬ (i < l.length ∧ l.getD i (0, 0) = t)) : t ∉ l := by
  intro ht
  obtain ⟨j, hj, he⟩ := List.getElem_of_mem ht
  have he' : l.getD j (0, 0) = t := by rw [List.getD_eq_getElem?_getD, List.getElem?_eq_getElem hj]; exact he
  by_cases hji : j < i
  · have := h.low j hji
    rw [he', lessB_irrefl] at this
    cases this
  · by_cases hij : j = i
    · subst hij; exact hn ⟨hj, he'⟩
    · have h1 := rises_get hs (i := i) (j := j) (by omega) hj
      rw [he'] at h1
      rw [h.high i (Nat.le_refl _) (by omega)] at h1
      cases h1
theorem outL_not {l : List (Int × Int)} {t : Int × Int} (h : t ∉ l) : outL t l = l := by
  rw [outL, List.filter_eq_self.2]
  intro y hy
  have : y ≠ t := fun e => h (e ▸ hy)
  simpa using this

theorem right_yes {A : Option Addr} {l : List (Int × Int)} {c : Nat} {w : World} (hR : Rd w w.heap.size A l) (hl : l.length ≤ 1000000) (hc : l.length ≤ c) (h : rightB l = true) :
    Calls Try.prog 17 #[.slice A l.length c] w fun e w' => e = .returned (.bool true) ∧ Below w.heap.size w w' := by
  have := right_any A l c w hR hl hc; rw [h] at this; exact this
theorem right_no {A : Option Addr} {l : List (Int × Int)} {c : Nat} {w : World} (hR : Rd w w.heap.size A l) (hl : l.length ≤ 1000000) (hc : l.length ≤ c) (h : rightB l = false) :
    Calls Try.prog 17 #[.slice A l.length c] w fun e w' => e = .returned (.bool false) ∧ Below w.heap.size w w' := by
  have := right_any A l c w hR hl hc; rw [h] at this; exact this

theorem with_bad (A : Option Addr) (l : List (Int × Int)) (c : Nat) (q : Int × Int) (al : Bool) (w : World) (hR : Rd w w.heap.size A l) (hl : l.length ≤ 1000000) (hc : l.length ≤ c) (hr : rightB l = false) :
    Calls Try.prog 22 #[.slice A l.length c, .agg #[.int .i64 q.1, .int .i64 q.2], .bool al] w fun e w' => e = .returned (.tuple #[.slice none 0 0, .int .i64 1]) ∧ Below w.heap.size w w' := by
  obtain ⟨qx, qy⟩ := q
  have hb0 : Below w.heap.size w (w.alloc (.cells #[.int .i64 qx, .int .i64 qy] 25)) := (Below.refl _ w).alloc (Nat.le_refl _) _
  have h := right_no (w := w.alloc (.cells #[.int .i64 qx, .int .i64 qy] 25)) ((hR.below hb0 (Nat.le_refl _)).more (by simp)) hl hc hr
  clear hr
  go_enter Try.func22, Try.ntmps22
  go_wp2_with (go_at_call 17; refine h.mono ?_; rintro e w' ⟨rfl, hb1⟩)
  go_ret2
  exact ⟨rfl, Qt.more hb0 hb0.size hb1⟩

theorem with_out (A : Option Addr) (l : List (Int × Int)) (c : Nat) (q : Int × Int) (al : Bool) (w : World) (hR : Rd w w.heap.size A l) (hl : l.length ≤ 1000000) (hc : l.length ≤ c) (hr : rightB l = true) (hq : inB q = false) :
    Calls Try.prog 22 #[.slice A l.length c, .agg #[.int .i64 q.1, .int .i64 q.2], .bool al] w fun e w' => e = .returned (.tuple #[.slice none 0 0, .int .i64 2]) ∧ Below w.heap.size w w' := by
  obtain ⟨qx, qy⟩ := q
  have hb0 : Below w.heap.size w (w.alloc (.cells #[.int .i64 qx, .int .i64 qy] 25)) := (Below.refl _ w).alloc (Nat.le_refl _) _
  have h := right_yes (w := w.alloc (.cells #[.int .i64 qx, .int .i64 qy] 25)) ((hR.below hb0 (Nat.le_refl _)).more (by simp)) hl hc hr
  have hq0 : (w.alloc (.cells #[.int .i64 qx, .int .i64 qy] 25)).cell? ⟨w.heap.size, 0, none⟩ = some (.int .i64 qx) := by simp
  have hq1 : (w.alloc (.cells #[.int .i64 qx, .int .i64 qy] 25)).cell? ⟨w.heap.size, 1, none⟩ = some (.int .i64 qy) := by simp
  clear hr
  go_enter Try.func22, Try.ntmps22
  go_wp2_with (first | (go_at_call 17; refine h.mono ?_; rintro e w1 ⟨rfl, hb1⟩; have r0 := Qt.keep hb1 hq0; have r1 := Qt.keep hb1 hq1) | (go_at_call 39; refine (beyond_yes (qx, qy) hq _).mono ?_; rintro e w2 ⟨rfl, hb2⟩))
  go_ret2
  exact ⟨rfl, Qt.more (Qt.more hb0 hb0.size hb1) (Nat.le_trans hb0.size hb1.size) hb2⟩

set_option maxHeartbeats 1000000 in
theorem with_off (A : Option Addr) (l : List (Int × Int)) (c : Nat) (q : Int × Int) (w : World) (hR : Rd w w.heap.size A l) (hl : l.length ≤ 2000) (hc : l.length ≤ c) (hr : rightB l = true) (hs : Rises l) (hq : inB q = true) :
    Calls Try.prog 22 #[.slice A l.length c, .agg #[.int .i64 q.1, .int .i64 q.2], .bool false] w fun e w' =>
      ∃ g, e = .returned (.tuple #[.slice (some ⟨g, 0, none⟩) (outL q l).length (outL q l).length, .int .i64 0]) ∧ Row w' w.heap.size 25 g (outL q l).length (outL q l).length (outL q l) ∧ Below w.heap.size w w' := by
  obtain ⟨qx, qy⟩ := q
  have hb0 : Below w.heap.size w (w.alloc (.cells #[.int .i64 qx, .int .i64 qy] 25)) := (Below.refl _ w).alloc (Nat.le_refl _) _
  have h := right_yes (w := w.alloc (.cells #[.int .i64 qx, .int .i64 qy] 25)) ((hR.below hb0 (Nat.le_refl _)).more (by simp)) (by omega) hc hr
  have hq0 : (w.alloc (.cells #[.int .i64 qx, .int .i64 qy] 25)).cell? ⟨w.heap.size, 0, none⟩ = some (.int .i64 qx) := by simp
  have hq1 : (w.alloc (.cells #[.int .i64 qx, .int .i64 qy] 25)).cell? ⟨w.heap.size, 1, none⟩ = some (.int .i64 qy) := by simp
  have HS := Lib.hid hs
  generalize hO : outL (qx, qy) l = O
  have HOO := Lib.hid hO
  clear hr hs hO
  go_enter Try.func22, Try.ntmps22
  go_wp2_with (first | (go_at_call 17; refine h.mono ?_; rintro e w1 ⟨rfl, hb1⟩; have r0 := Qt.keep hb1 hq0; have r1 := Qt.keep hb1 hq1) | (go_at_call 39; refine (beyond_no (qx, qy) hq _).mono ?_; rintro e w2 ⟨rfl, hb2⟩) | fail)
  have HB2 : Below w.heap.size w w2 := Qt.more (Qt.more hb0 hb0.size hb1) (Nat.le_trans hb0.size hb1.size) hb2
  have s0 := Qt.keep hb2 r0
  have s1 := Qt.keep hb2 r1
  have hsz : w.heap.size < w2.heap.size := Nat.lt_of_lt_of_le (by simp) (Nat.le_trans hb1.size hb2.size)
  clear h hq0 hq1 r0 r1 hb0 hb1 hb2
  refine (places_any A l c w2 ((hR.below HB2 (Nat.le_refl _)).more HB2.size) (by omega) hc).mono ?_
  rintro e w3 ⟨rfl, hr3, hb3⟩
  have t0 := Qt.keep hb3 s0
  have t1 := Qt.keep hb3 s1
  clear s0 s1
  go_wp2_with fail
  refine (search_any _ l _ (qx, qy) w3 hr3 (by omega) HS.out).mono ?_
  rintro e w4 ⟨i, hst, rfl, hb4⟩
  have hr4 := hr3.below hb4
  have HB4 : Below w.heap.size w w4 := Qt.more (Qt.more HB2 HB2.size hb3) (Nat.le_trans HB2.size hb3.size) hb4
  have hgs := hr4.lt
  clear hr3 t0 t1 hb3 hb4
  by_cases hf : i < l.length ∧ l.getD i (0, 0) = (qx, qy)
  · have hd : decide (i < l.length ∧ l.getD i (0, 0) = (qx, qy)) = true := by simpa using hf
    rw [hd]
    have HO := Lib.hid ((stands_found HS.out hf.1 hf.2).trans HOO.out)
    obtain ⟨m, hm⟩ : ∃ m, l.length = i + 1 + m := ⟨l.length - (i + 1), by omega⟩
    rw [hm] at hr4 ⊢
    have hlo : O.length = i + m := by
      rw [← HO.out, List.length_append, List.length_take, List.length_drop]; omega
    have HLO := Lib.hid hlo
    have hil : (i : Int) ≤ 2000 := by omega
    have him : i + m ≤ 2000 := by omega
    clear hd hf hst hm hlo
    go_wp2_with fail
    refine (delete_any _ i m _ l w4 hr4 (by omega) (by omega)).mono ?_
    rintro e w5 ⟨rfl, hr5, hb5⟩
    rw [HO.out] at hr5
    have HB5 : Below w.heap.size w w5 := HB4.trans (hb5.mono HB2.size)
    have ht := told_any _ O (i + 1 + m) w5 hr5.rd (by rw [HLO.out]; omega) (by rw [HLO.out]; omega)
    rw [HLO.out] at ht
    clear hr4 hr5 hb5
    go_wp2_with fail
    refine ht.mono ?_
    rintro e w6 ⟨rfl, hr6, hb6⟩
    go_wp2
    go_ret2
    rw [HLO.out]
    refine ⟨_, rfl, ⟨hr6.1, ?_⟩, Qt.more HB5 HB5.size hb6⟩
    have := Own.mono (l := O) (v := .slice (some ⟨w5.heap.size, 0, none⟩) (i + m) (i + m)) (by unfold Own; rw [HLO.out]; exact hr6.2) HB5.size
    unfold Own at this
    rw [HLO.out] at this
    exact this
  · have hd : decide (i < l.length ∧ l.getD i (0, 0) = (qx, qy)) = false := by simpa using hf
    rw [hd]
    have ho : O = l := HOO.out.symm.trans (outL_not (stands_not HS.out hst hf))
    have HO := Lib.hid ho
    clear hd hf hst ho
    go_wp2_with fail
    refine (told_any _ l _ w4 hr4.rd hl (Nat.le_refl _)).mono ?_
    rintro e w6 ⟨rfl, hr6, hb6⟩
    go_wp2
    go_ret2
    rw [HO.out]
    refine ⟨_, rfl, ⟨hr6.1, ?_⟩, Qt.more HB4 HB4.size hb6⟩
    exact Own.mono (l := l) hr6.2 HB4.size

end Go.Proofs.Ytafoleafhkadiaa
