/-
  append of one slice of cells to another, and pieces of a slice.
-/
import Derived.Test.YtafoleafhkadiaaLi
import Derived.Test.YtafoleafhkadiaaQo
namespace Go.Proofs.Ytafoleafhkadiaa
open Go.RowKit Go.Sort

theorem append_none {w : World} {B : Nat} {v : Value} {out : List (Int × Int)} (c : Nat) (ho : Own w B 25 v out) :
    (Builtin.append_ #[23, 23] 23 #[v, .slice none 0 c]).run Try.prog w = .ok v w := by
  obtain ⟨i0, hi, hz0, hz1, hz2⟩ := info_parts infoCell
  rcases ho.2 with ⟨rfl, _⟩ | ⟨g, cap, cur, rfl, _, _, hnc, _⟩
  · simp [Builtin.append_, run_underlying Try.underlying23, sizeOf, typeInfo, hi, Builtin.lenOf, Builtin.firstCells]
  · simp [Builtin.append_, run_underlying Try.underlying23, sizeOf, typeInfo, hi, Builtin.lenOf, Builtin.firstCells, storeCells, hnc]

theorem fl_at {w : World} {b off : Nat} {m : List (Int × Int)} (h : ∀ j, j < m.length → w.cell? ⟨b, off + j * 2, none⟩ = some (.int .i64 (m.getD j (0, 0)).1) ∧ w.cell? ⟨b, off + j * 2 + 1, none⟩ = some (.int .i64 (m.getD j (0, 0)).2)) :
    ∀ j u, (fl m)[j]? = some u → w.cell? ((⟨b, off, none⟩ : Addr).add j) = some u := by
  intro j u hu
  rw [Addr.add_lit]
  have hj : j < m.length * 2 := by
    rcases Nat.lt_or_ge j (m.length * 2) with h1 | h1
    · exact h1
    · rw [List.getElem?_eq_none (by rw [length_fl]; exact h1)] at hu; cases hu
  obtain ⟨h0, h1⟩ := h (j / 2) (by omega)
  obtain ⟨f0, f1⟩ := fl_get m (j / 2) (by omega)
  by_cases hp : j % 2 = 0
  · have e : j = j / 2 * 2 := by omega
    rw [e] at hu ⊢
    rw [f0] at hu
    rw [← hu]
    exact h0
  · have e : j = j / 2 * 2 + 1 := by omega
    rw [e] at hu ⊢
    rw [f1] at hu
    rw [← hu, ← Nat.add_assoc]
    exact h1

theorem app_any {w : World} {B : Nat} {v : Value} {out m : List (Int × Int)} {A : Option Addr} (c : Nat) (hB : B ≤ w.heap.size) (ho : Own w B 25 v out) (hm : Now w A m) (hl : out.length + m.length ≤ 1000000) :
    ∃ v' w', (Builtin.append_ #[23, 23] 23 #[v, .slice A m.length c]).run Try.prog w = .ok v' w' ∧ Own w' B 25 v' (out ++ m) ∧ w.grownBy w' v.ownBlock := by
  obtain ⟨i0, hi, hz0, hz1, hz2⟩ := info_parts infoCell
  rcases Nat.eq_zero_or_pos m.length with h0 | h0
  · obtain rfl : m = [] := List.eq_nil_of_length_eq_zero h0
    cases A with
    | none => exact ⟨v, w, append_none c ho, by rw [List.append_nil]; exact ho, ⟨rfl, rfl, rfl, Nat.le_refl _, fun _ _ _ => rfl⟩⟩
    | some a =>
      obtain ⟨v', w', hr, h2, h3, _⟩ := run_append_own (P := Try.prog) (w := w) B 23 23 25 i0 (.agg #[.int .i64 0, .int .i64 0]) 2 16 Try.underlying23 hi hz0 hz1 hz2 rfl (by decide) v out.length (fl out) ho a 0 c [] rfl (fun j u h => by simp at h) (fun u h => by cases h) (by unfold maxLen; omega) (by omega) hB
      exact ⟨v', w', hr, by rw [List.append_nil] at h2 ⊢; exact h2, h3⟩
  · obtain ⟨b, off, rfl, _, hcell⟩ := Rd.at_ hm h0
    obtain ⟨v', w', hr, h2, h3, _⟩ := run_append_own (P := Try.prog) (w := w) B 23 23 25 i0 (.agg #[.int .i64 0, .int .i64 0]) 2 16 Try.underlying23 hi hz0 hz1 hz2 rfl (by decide) v out.length (fl out) ho ⟨b, off, none⟩ m.length c (fl m) (length_fl m) (fl_at hcell) (fl_cell1 m) (by unfold maxLen; omega) (by omega) hB
    refine ⟨v', w', hr, ?_, h3⟩
    unfold Own
    rw [fl_append, List.length_append]
    exact h2

theorem Now.drop {w : World} {b off : Nat} {l : List (Int × Int)} (h : Now w (some ⟨b, off, none⟩) l) {t : Nat} (ht : t < l.length) : Now w (some ⟨b, off + t * 2, none⟩) (l.drop t) := by
  intro j hj
  rw [List.length_drop] at hj
  obtain ⟨b', off', e, hlt, h0, h1⟩ := h (t + j) (by omega)
  simp only [Option.some.injEq, Addr.mk.injEq, and_true] at e
  obtain ⟨rfl, rfl⟩ := e
  have hg : (l.drop t).getD j (0, 0) = l.getD (t + j) (0, 0) := by rw [List.getD_eq_getElem?_getD, List.getD_eq_getElem?_getD, List.getElem?_drop]
  refine ⟨_, _, rfl, hlt, ?_, ?_⟩
  · rw [hg, ← h0]; congr 2; omega
  · rw [hg, ← h1]; congr 2; omega
theorem Now.take {w : World} {A : Option Addr} {l : List (Int × Int)} (h : Now w A l) (t : Nat) : Now w A (l.take t) := by
  intro j hj
  rw [List.length_take] at hj
  have hg : (l.take t).getD j (0, 0) = l.getD j (0, 0) := by rw [List.getD_eq_getElem?_getD, List.getD_eq_getElem?_getD, List.getElem?_take, if_pos (by omega)]
  rw [hg]
  exact h j (by omega)

/-- three appends: the end, the whole, the beginning -/
theorem turn_any {w : World} {A AT : Option Addr} {l : List (Int × Int)} {t c cT : Nat} (hl : Now w A l) (hT : Now w AT (l.drop t)) (h60 : l.length ≤ 60) :
    ∃ v1 w1 v2 w2 v3 w3, (Builtin.append_ #[23, 23] 23 #[.slice none 0 0, .slice AT (l.drop t).length cT]).run Try.prog w = .ok v1 w1 ∧
      (Builtin.append_ #[23, 23] 23 #[v1, .slice A l.length c]).run Try.prog w1 = .ok v2 w2 ∧
      (Builtin.append_ #[23, 23] 23 #[v2, .slice A (l.take t).length c]).run Try.prog w2 = .ok v3 w3 ∧
      Hid (Own w3 w.heap.size 25 v3 (l.drop t ++ l ++ l.take t)) ∧ Below w.heap.size w w3 := by
  have hd := List.length_drop (i := t) (l := l)
  have htk := List.length_take (i := t) (l := l)
  have h0 : Own w w.heap.size 25 (.slice none 0 0) [] := World.ownsRow_nil _ _ _ _
  obtain ⟨v1, w1, r1, o1, g1⟩ := app_any (w := w) (v := .slice none 0 0) (out := []) cT (Nat.le_refl _) h0 hT (by simp; omega)
  have b1 : Below w.heap.size w w1 := (Below.refl _ _).grown g1 (Nat.le_refl _) (fun k e => by cases e)
  obtain ⟨v2, w2, r2, o2, g2⟩ := app_any c b1.size o1 (hl.below b1) (by simp; omega)
  have b2 : Below w.heap.size w w2 := b1.grown g2 b1.size (fun k e => (World.ownsRow.lt o1 k e).1)
  obtain ⟨v3, w3, r3, o3, g3⟩ := app_any c b2.size o2 ((hl.below b2).take t) (by simp; omega)
  have b3 : Below w.heap.size w w3 := b2.grown g3 b2.size (fun k e => (World.ownsRow.lt o2 k e).1)
  exact ⟨v1, w1, v2, w2, v3, w3, r1, r2, r3, o3, b3⟩

theorem slice_from {w : World} {A : Option Addr} {l : List (Int × Int)} {c t : Nat} (hs : Shape A l.length c) (hN : Now w A l) (ht : t ≤ l.length) (hc : l.length ≤ c) :
    ∃ AT cT, Now w AT (l.drop t) ∧ ∀ (o : Oper) (ev : Operand → Value) x y, o.op = .slice 23 x (some y) none none → ev x = .slice A l.length c → ev y = .int .i64 (t : Int) → ∀ w, (execOp ev o).run Try.prog w = .ok (.value (.slice AT (l.length - t) cT)) w := by
  rcases hs with ⟨rfl, rfl, h0⟩ | ⟨g, rfl⟩
  · obtain rfl : l = [] := List.eq_nil_of_length_eq_zero h0
    obtain rfl : t = 0 := by simpa using ht
    refine ⟨none, 0, Rd.nil _ _ _, fun o ev x y ho hx hy w => ?_⟩
    simp only [execOp, ho, hx, hy]
    go_simp
  · refine ⟨if c = t then (some ⟨g, 0, none⟩ : Option Addr) else some ⟨g, t * 2, none⟩, c - t, ?_, fun o ev x y ho hx hy w => ?_⟩
    · by_cases htl2 : t < l.length
      · rw [if_neg (by omega)]
        have := Now.drop hN htl2
        rwa [Nat.zero_add] at this
      · rw [List.drop_eq_nil_of_le (by omega)]
        exact Rd.nil _ _ _
    · simp only [execOp, ho, hx, hy]
      go_simp
theorem slice_to {A : Option Addr} {n c t : Nat} (hs : Shape A n c) (ht : t ≤ n) (hc : n ≤ c) (o : Oper) (ev : Operand → Value) (x y : Operand) (ho : o.op = .slice 23 x none (some y) none) (hx : ev x = .slice A n c) (hy : ev y = .int .i64 (t : Int)) (w : World) :
    (execOp ev o).run Try.prog w = .ok (.value (.slice A t c)) w := by
  rcases hs with ⟨rfl, rfl, rfl⟩ | ⟨g, rfl⟩
  · obtain rfl : t = 0 := by omega
    simp only [execOp, ho, hx, hy]
    go_simp
  · have htc : t ≤ c := by omega
    simp only [execOp, ho, hx, hy]
    go_simp

/-- What comes out: a list at a place of its own. -/
def Out (S : List (Int × Int)) (w : World) (e : Ending) (w' : World) : Prop :=
  ∃ g, e = .returned (.tuple #[.slice (some ⟨g, 0, none⟩) S.length S.length, .int .i64 0]) ∧ Hid (Now w' (some ⟨g, 0, none⟩) S) ∧ Below w.heap.size w w'

theorem of_ok {A : Option Addr} {l S : List (Int × Int)} {n c : Nat} {w : World} (hS : setL l = S) (hR : Now w A l) (hn : n = l.length) (hc : n ≤ c) (hl : n ≤ 1000) (hin : ∀ p ∈ l, inB p = true) :
    Calls Try.prog 14 #[.slice A n c] w (Out S w) := by
  subst hn hS
  refine (of_in A l c w hR (by omega) hc (by rw [List.any_eq_false]; intro p hp; rw [hin p hp]; simp) (Nat.le_trans (length_setL l) (by omega))).mono ?_
  rintro e w' ⟨g, he, hr, hb⟩
  exact ⟨g, he, hr.rd, hb⟩
theorem on_ok {A : Option Addr} {l S : List (Int × Int)} {n c : Nat} {x y : Int} {w : World} (hS : putL (x, y) l = S) (hR : Now w A l) (hn : n = l.length) (hc : n ≤ c) (hl : n ≤ 1999) (hr : rightB l = true) (hq : inB (x, y) = true) :
    Calls Try.prog 22 #[.slice A n c, .agg #[.int .i64 x, .int .i64 y], .bool true] w (Out S w) := by
  subst hn hS
  refine (with_on A l c (x, y) w hR hl hc hr ((rightB_iff l).1 hr).2.2 hq).mono ?_
  rintro e w' ⟨g, he, hrow, hb⟩
  exact ⟨g, he, hrow.rd, hb⟩
theorem off_ok {A : Option Addr} {l S : List (Int × Int)} {n c : Nat} {x y : Int} {w : World} (hS : outL (x, y) l = S) (hR : Now w A l) (hn : n = l.length) (hc : n ≤ c) (hr : rightB l = true) (hq : inB (x, y) = true) :
    Calls Try.prog 22 #[.slice A n c, .agg #[.int .i64 x, .int .i64 y], .bool false] w (Out S w) := by
  subst hn hS
  refine (with_off A l c (x, y) w hR ((rightB_iff l).1 hr).1 hc hr ((rightB_iff l).1 hr).2.2 hq).mono ?_
  rintro e w' ⟨g, he, hrow, hb⟩
  exact ⟨g, he, hrow.rd, hb⟩
theorem has_ok {A : Option Addr} {l : List (Int × Int)} {n c : Nat} {x y : Int} {r : Bool} {w : World} (hR : Now w A l) (hn : n = l.length) (hc : n ≤ c) (hl : n ≤ 1000000) (hr : hasB l (x, y) = r) :
    Calls Try.prog 24 #[.slice A n c, .agg #[.int .i64 x, .int .i64 y]] w fun e w' => e = .returned (.bool r) ∧ Below w.heap.size w w' := by
  subst hn hr
  exact has_any A l c (x, y) w hR hl hc

theorem same_eq {A A' : Option Addr} {l m : List (Int × Int)} {c c' : Nat} {w : World} (hR : Now w A l) (hR' : Now w A' m) (hl : l.length ≤ 1000000) (he : l = m) :
    Calls Try.prog 16 #[.slice A l.length c, .slice A' m.length c'] w fun e w' => e = .returned (.bool true) ∧ Below w.heap.size w w' := by
  have := same_holds (c := c) (c' := c') hR hR' hl
  rwa [decide_eq_true he] at this

/-! ### what the sets are -/
theorem mem_outL (q y : Int × Int) (l : List (Int × Int)) : y ∈ outL q l ↔ y ∈ l ∧ y ≠ q := by
  unfold outL; rw [List.mem_filter]; simp
theorem setL_turn (l : List (Int × Int)) (t : Nat) : setL (l.drop t ++ l ++ l.take t) = setL l :=
  rises_ext (rises_setL _) (rises_setL _) fun y => by
    rw [mem_setL, mem_setL, List.mem_append, List.mem_append]
    constructor
    · rintro ((h | h) | h)
      · exact List.mem_of_mem_drop h
      · exact h
      · exact List.mem_of_mem_take h
    · exact fun h => .inl (.inr h)
theorem outL_putL {l : List (Int × Int)} (hs : Rises l) (q : Int × Int) : outL q (putL q l) = outL q l :=
  rises_ext (List.Pairwise.filter _ (rises_putL q hs)) (List.Pairwise.filter _ hs) fun y => by
    rw [mem_outL, mem_outL, mem_putL]
    constructor
    · rintro ⟨h | h, hn⟩
      · exact absurd h hn
      · exact ⟨h, hn⟩
    · rintro ⟨h, hn⟩
      exact ⟨.inr h, hn⟩
theorem rightB_put {l : List (Int × Int)} (h : rightB l = true) (hl : l.length ≤ 1999) {q : Int × Int} (hq : inB q = true) : rightB (putL q l) = true := by
  obtain ⟨h0, h1, h2⟩ := (rightB_iff l).1 h
  refine (rightB_iff _).2 ⟨Nat.le_trans (length_putL_le q l) (by omega), fun c hc => ?_, rises_putL q h2⟩
  rcases (mem_putL q c l).1 hc with e | e
  · rw [e]; exact hq
  · exact h1 c e
theorem length_put_new {l : List (Int × Int)} (hs : Rises l) {q : Int × Int} (hq : q ∉ l) : (putL q l).length = l.length + 1 := by
  have hm : q ∈ putL q l := (mem_putL q q l).2 (.inl rfl)
  obtain ⟨i, hi, he⟩ := List.getElem_of_mem hm
  have h := length_out (rises_putL q hs) hi
  rw [List.getD_eq_getElem?_getD, List.getElem?_eq_getElem hi, Option.getD_some, he, outL_putL hs, outL_not hq] at h
  omega
theorem length_out_in {l : List (Int × Int)} (hs : Rises l) {q : Int × Int} (hq : q ∈ l) : (outL q l).length + 1 = l.length := by
  obtain ⟨i, hi, he⟩ := List.getElem_of_mem hq
  have h := length_out hs hi
  rwa [List.getD_eq_getElem?_getD, List.getElem?_eq_getElem hi, Option.getD_some, he] at h
theorem hasB_yes {l : List (Int × Int)} {q : Int × Int} (h : q ∈ l) : hasB l q = true := (hasB_iff l q).2 h
theorem hasB_no {l : List (Int × Int)} {q : Int × Int} (h : q ∉ l) : hasB l q = false := by
  rw [Bool.eq_false_iff]; exact fun e => h ((hasB_iff l q).1 e)

end Go.Proofs.Ytafoleafhkadiaa
