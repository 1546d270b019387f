/-
  With: a set with a cell.
-/
import Derived.Test.YtafoleafhkadiaaCk
import Derived.Test.YtafoleafhkadiaaCs
namespace Go.Proofs.Ytafoleafhkadiaa
open Go.RowKit Go.Sort

theorem stands_put {l : List (Int × Int)} {t : Int × Int} {i : Nat} (hs : Rises l) (h : Stands l t i) (hn : t ∉ l) : l.take i ++ t :: l.drop i = putL t l := by
  refine rises_ext ?_ (rises_putL t hs) fun y => ?_
  · have hs' : Rises (l.take i ++ l.drop i) := by rw [List.take_append_drop]; exact hs
    obtain ⟨h1, h2, h3⟩ := List.pairwise_append.1 hs'
    refine List.pairwise_append.2 ⟨h1, List.pairwise_cons.2 ⟨fun y hy => ?_, h2⟩, fun x hx y hy => ?_⟩
    · obtain ⟨j, hj, rfl⟩ := List.getElem_of_mem hy
      rw [List.getElem_drop]
      rw [List.length_drop] at hj
      have e := h.high (i + j) (by omega) (by omega)
      rw [List.getD_eq_getElem?_getD, List.getElem?_eq_getElem (by omega), Option.getD_some] at e
      exact lessB_total (fun e2 => hn (e2 ▸ List.getElem_mem _)) e
    · rcases List.mem_cons.1 hy with rfl | hy
      · obtain ⟨j, hj, rfl⟩ := List.getElem_of_mem hx
        rw [List.getElem_take]
        rw [List.length_take] at hj
        have e := h.low j (by omega)
        rwa [List.getD_eq_getElem?_getD, List.getElem?_eq_getElem (by omega), Option.getD_some] at e
      · exact h3 x hx y hy
  · rw [mem_putL, List.mem_append, List.mem_cons]
    constructor
    · rintro (h | h | h)
      · exact .inr (List.mem_of_mem_take h)
      · exact .inl h
      · exact .inr (List.mem_of_mem_drop h)
    · rintro (h | h)
      · exact .inr (.inl h)
      · have : y ∈ l.take i ++ l.drop i := by rw [List.take_append_drop]; exact h
        rcases List.mem_append.1 this with h | h
        · exact .inl h
        · exact .inr (.inr h)
theorem put_in {l : List (Int × Int)} {t : Int × Int} (hs : Rises l) (h : t ∈ l) : putL t l = l :=
  rises_ext (rises_putL t hs) hs fun y => by
    rw [mem_putL]
    exact ⟨fun h' => h'.elim (fun e => e ▸ h) id, .inr⟩
theorem stands_in {l : List (Int × Int)} {t : Int × Int} {i : Nat} (h : i < l.length ∧ l.getD i (0, 0) = t) : t ∈ l := h.2 ▸ getD_mem h.1

/-- .. what comes out of it, as a list at a place of its own -/
def Fresh (w : World) (l : List (Int × Int)) (e : Ending) (w' : World) : Prop :=
  ∃ g, e = .returned (.tuple #[.slice (some ⟨g, 0, none⟩) l.length l.length, .int .i64 0]) ∧ Row w' w.heap.size 25 g l.length l.length l ∧ Below w.heap.size w w'

theorem fresh_told {w0 w w' : World} {l : List (Int × Int)} (hb : Below w0.heap.size w0 w) (hr : Row w' w.heap.size 25 w.heap.size l.length l.length l) (hb' : Below w.heap.size w w') :
    Fresh w0 l (.returned (.tuple #[.slice (some ⟨w.heap.size, 0, none⟩) l.length l.length, .int .i64 0])) w' :=
  ⟨_, rfl, ⟨hr.1, Own.mono (l := l) hr.2 hb.size⟩, Qt.more hb hb.size hb'⟩

set_option maxHeartbeats 1000000 in
theorem with_on (A : Option Addr) (l : List (Int × Int)) (c : Nat) (q : Int × Int) (w : World) (hR : Rd w w.heap.size A l) (hl : l.length ≤ 1999) (hc : l.length ≤ c) (hr : rightB l = true) (hs : Rises l) (hq : inB q = true) :
    Calls Try.prog 22 #[.slice A l.length c, .agg #[.int .i64 q.1, .int .i64 q.2], .bool true] w (Fresh w (putL q l)) := by
  obtain ⟨qx, qy⟩ := q
  have hb0 : Below w.heap.size w (w.alloc (.cells #[.int .i64 qx, .int .i64 qy] 25)) := (Below.refl _ w).alloc (Nat.le_refl _) _
  have h := right_yes (w := w.alloc (.cells #[.int .i64 qx, .int .i64 qy] 25)) ((hR.below hb0 (Nat.le_refl _)).more (by simp)) (by omega) hc hr
  have hq0 : (w.alloc (.cells #[.int .i64 qx, .int .i64 qy] 25)).cell? ⟨w.heap.size, 0, none⟩ = some (.int .i64 qx) := by simp
  have hq1 : (w.alloc (.cells #[.int .i64 qx, .int .i64 qy] 25)).cell? ⟨w.heap.size, 1, none⟩ = some (.int .i64 qy) := by simp
  have HS := Lib.hid hs
  generalize hO : putL (qx, qy) l = O
  have HOO := Lib.hid hO
  clear hr hs hO
  go_enter Try.func22, Try.ntmps22
  go_wp2_with (first | (go_at_call 17; refine h.mono ?_; rintro e w1 ⟨rfl, hb1⟩; have r0 := Qt.keep hb1 hq0; have r1 := Qt.keep hb1 hq1) | (go_at_call 39; refine (beyond_no (qx, qy) hq _).mono ?_; rintro e w2 ⟨rfl, hb2⟩) | fail)
  have HB2 : Below w.heap.size w w2 := Qt.more (Qt.more hb0 hb0.size hb1) (Nat.le_trans hb0.size hb1.size) hb2
  have s0 := Qt.keep hb2 r0
  have s1 := Qt.keep hb2 r1
  have hsz : w.heap.size < w2.heap.size := Nat.lt_of_lt_of_le (by simp) (Nat.le_trans hb1.size hb2.size)
  clear h hq0 hq1 r0 r1 hb0 hb1 hb2
  refine (places_any A l c w2 ((hR.below HB2 (Nat.le_refl _)).more HB2.size) (by omega) hc).mono ?_
  rintro e w3 ⟨rfl, hr3, hb3⟩
  have t0 := Qt.keep hb3 s0
  have t1 := Qt.keep hb3 s1
  clear s0 s1
  go_wp2_with fail
  refine (search_any _ l _ (qx, qy) w3 hr3 (by omega) HS.out).mono ?_
  rintro e w4 ⟨i, hst, rfl, hb4⟩
  have hr4 := hr3.below hb4
  have HB3 : Below w.heap.size w w3 := Qt.more HB2 HB2.size hb3
  have HB4 : Below w.heap.size w w4 := Qt.more HB3 HB3.size hb4
  have u0 := Qt.keep hb4 t0
  have u1 := Qt.keep hb4 t1
  have hgs := hr4.lt
  have hsz4 : w2.heap.size ≤ w4.heap.size := Nat.le_trans hb3.size hb4.size
  clear hr3 t0 t1 hb3 hb4
  by_cases hf : i < l.length ∧ l.getD i (0, 0) = (qx, qy)
  · have hd : decide (i < l.length ∧ l.getD i (0, 0) = (qx, qy)) = true := by simpa using hf
    rw [hd]
    have ho : O = l := HOO.out.symm.trans (put_in HS.out (stands_in hf))
    have HO := Lib.hid ho
    clear hd hf hst ho
    go_wp2_with fail
    refine (told_any _ l _ w4 hr4.rd (by omega) (Nat.le_refl _)).mono ?_
    rintro e w6 ⟨rfl, hr6, hb6⟩
    go_wp2
    go_ret2
    rw [HO.out]
    exact fresh_told HB4 hr6 hb6
  · have hd : decide (i < l.length ∧ l.getD i (0, 0) = (qx, qy)) = false := by simpa using hf
    rw [hd]
    have HO := Lib.hid ((stands_put HS.out hst (stands_not HS.out hst hf)).trans HOO.out)
    have hil := hst.le
    have hlo : O.length = l.length + 1 := by
      rw [← HO.out, List.length_append, List.length_cons, List.length_take, List.length_drop]; omega
    have HLO := Lib.hid hlo
    clear hd hf hst hlo
    go_wp2_with fail
    have hbv : Below w4.heap.size w4 (w4.alloc (.cells #[.int .i64 qx, .int .i64 qy] 62)) := (Below.refl _ w4).alloc (Nat.le_refl _) _
    refine (insert_any _ i l.length w4.heap.size l (qx, qy) _ (B := w2.heap.size) (by simp; omega) (hr4.below hbv) (by omega) hil (by simp) (by simp)).mono ?_
    rintro e w5 ⟨g', cap, rfl, hr5, hb5⟩
    rw [HO.out] at hr5
    have HB5 : Below w.heap.size w w5 := (Qt.more HB4 HB4.size hbv).trans (hb5.mono HB2.size)
    have ht := told_any _ O cap w5 hr5.rd (by rw [HLO.out]; omega) (by rw [HLO.out]; exact hr5.cap_)
    rw [HLO.out] at ht
    clear hr4 hr5 hb5
    go_wp2_with fail
    refine ht.mono ?_
    rintro e w6 ⟨rfl, hr6, hb6⟩
    go_wp2
    go_ret2
    rw [← HLO.out] at hr6 ⊢
    exact fresh_told HB5 hr6 hb6

end Go.Proofs.Ytafoleafhkadiaa
