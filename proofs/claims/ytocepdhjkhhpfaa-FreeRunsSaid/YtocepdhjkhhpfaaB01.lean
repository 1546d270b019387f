/-
  Texts that the claims of this seat share, part 1.
-/
import Derived.Test.YtocepdhjkhhpfaaB00
set_option linter.unusedVariables false
set_option linter.unusedSimpArgs false
namespace Go.Proofs.Ytocepdhjkhhpfaa
set_option maxRecDepth 100000
set_option linter.unusedVariables false
set_option linter.unusedSimpArgs false
open Go.RowKit Go.Sort

theorem grown_below {w w' : World} (h : Below w.heap.size w w') (row : Option Nat) : w.grownBy w' row := ⟨h.os, h.tape, h.output, h.size, fun k hk _ => h.block k hk⟩
theorem lt_heap6' {w : World} {g : Nat} {o : Obj} (h : w.heap[g]? = some o) : g < w.heap.size := (Array.getElem?_eq_some_iff.1 h).1
theorem own_next {w w' : World} {B : Nat} {v : Value} {l : List Int} (h : Own w B v l) (hb : Below w.heap.size w w') : Own w' B v l := h.kept (grown_below hb none) (by cases v.ownBlock <;> simp)
theorem own_row {w : World} {B : Nat} {A : Option Addr} {c : Nat} {l : List Int} (h : Own w B (.slice A l.length c) l) (hl : 0 < l.length) : ∃ g, A = some ⟨g, 0, none⟩ ∧ B ≤ g ∧ g < w.heap.size ∧ (∀ j, w.frozen? ⟨g, j, none⟩ = false) ∧
    ∀ j, j < l.length → w.cell? ⟨g, j, none⟩ = some (.int .i64 (l.getD j 0)) := by
  rcases h.2 with ⟨_, h0⟩ | ⟨g, cap, cur, hv, _⟩
  · omega
  · injection hv with e1 e2 e3
    subst e1 e3
    have hlt := h.lt g rfl
    refine ⟨g, rfl, hlt.1, hlt.2, fun j => h.frozenAt j, fun j hj => ?_⟩
    rw [h.cellAt j (by omega)]
    simp [List.getD_eq_getElem?_getD, List.getElem?_eq_getElem hj]
theorem own_set {w : World} {B g c : Nat} {l : List Int} (h : Own w B (.slice (some ⟨g, 0, none⟩) l.length c) l) (j : Nat) (x : Int) :
    Own (w.setCell ⟨g, j, none⟩ (.int .i64 x)) B (.slice (some ⟨g, 0, none⟩) l.length c) (l.set j x) ∧ w.grownBy (w.setCell ⟨g, j, none⟩ (.int .i64 x)) (some g) := by
  obtain ⟨h1, h2⟩ := h.stored j (.int .i64 x)
  refine ⟨?_, h2⟩
  show World.ownsRow _ _ _ _ _ _ _
  rw [List.length_set, List.map_set]
  exact h1
/-- what Do tells: what was there, whether it was done, the error; the words as they are then -/
def DoR (B : Nat) (v : Value) (d : DoT) (w : World) (r : Ending) (w' : World) : Prop := r = .returned (.tuple #[.int .i64 d.2.1, .bool d.2.2.1, .int .i64 d.2.2.2]) ∧ Own w' B v d.1 ∧ w.grownBy w' v.ownBlock

set_option maxHeartbeats 4000000 in
theorem wdo_any (y : Ac) (m : List Int) (A : Option Addr) (c : Nat) (w : World) {B : Nat} (fy : Fine4A y) (hm : ∀ x ∈ m, I64 x) (hB : B ≤ w.heap.size) (hO : Own w B (.slice A m.length c) m) (hl : m.length ≤ 9223372036854775807) :
    Calls Try.prog 61 #[.slice A m.length c, acV y] w (DoR B (.slice A m.length c) (doA m y) w) := by
  obtain ⟨k, a, o, n⟩ := y
  obtain ⟨-, fa, -, fn⟩ := fy
  simp only at fa fn
  have hkn := fun W => known_any k W
  have HB : Hid (Below w.heap.size w (w.alloc (.cells #[.int .i64 k, .int .i64 a, .int .i64 o, .int .i64 n] 102))) := (Below.refl _ _).alloc (Nat.le_refl _) _
  have HR : Hid ((w.alloc (.cells #[.int .i64 k, .int .i64 a, .int .i64 o, .int .i64 n] 102)).heap[w.heap.size]? = some (.cells #[.int .i64 k, .int .i64 a, .int .i64 o, .int .i64 n] 102 (0, 0))) := heap_alloc_new w _
  have HO := Lib.hid (own_next hO HB.out)
  have HM := Lib.hid hm
  clear hO hm
  have e1 : knownA k = false → doA m (k, a, o, n) = (m, 0, false, 1) := fun h => by unfold doA; rw [if_pos (.inl h)]
  have e2 : 100000 < m.length → doA m (k, a, o, n) = (m, 0, false, 1) := fun h => by unfold doA; rw [if_pos (.inr h)]
  have HE1 := Lib.hid e1
  have HE2 := Lib.hid e2
  clear e1 e2
  go_enter Try.func61, Try.ntmps61
  go_wp2_with fail
  generalize w.alloc (.cells #[.int .i64 k, .int .i64 a, .int .i64 o, .int .i64 n] 102) = w0 at *
  have hfin : ∀ wz, Below w0.heap.size w0 wz → ∀ x is e, doA m (k, a, o, n) = (m, x, is, e) → DoR B (.slice A m.length c) (doA m (k, a, o, n)) w (.returned (.tuple #[.int .i64 x, .bool is, .int .i64 e])) wz := fun wz hz x is e he => by
    rw [he]
    exact ⟨rfl, own_next HO.out hz, (grown_below HB.out _).trans (grown_below hz _)⟩
  have HF := Lib.hid hfin
  clear hfin
  have hb0 := HB.out.size
  have q0 : w0.cell? ⟨w.heap.size, 0, none⟩ = some (.int .i64 k) := by rw [Lib.cell_of_heap HR.out]; rfl
  have q1 : w0.cell? ⟨w.heap.size, 1, none⟩ = some (.int .i64 a) := by rw [Lib.cell_of_heap HR.out]; rfl
  have q2 : w0.cell? ⟨w.heap.size, 2, none⟩ = some (.int .i64 o) := by rw [Lib.cell_of_heap HR.out]; rfl
  have q3 : w0.cell? ⟨w.heap.size, 3, none⟩ = some (.int .i64 n) := by rw [Lib.cell_of_heap HR.out]; rfl
  refine (hkn _).mono ?_
  rintro e w' ⟨rfl, rfl⟩
  clear hkn
  cases hk : knownA k with
  | false =>
    have HK := Lib.hid hk
    clear hk
    go_wp2_with fail
    go_ret3
    exact HF.out _ (Below.refl _ _) _ _ _ (HE1.out HK.out)
  | true =>
  have HK := Lib.hid hk
  clear hk
  by_cases hL : 100000 < m.length
  · have hLz : (100000 : Int) < (m.length : Int) := by omega
    go_wp2_with fail
    go_ret3
    exact HF.out _ (Below.refl _ _) _ _ _ (HE2.out hL)
  have hLz : ¬ (100000 : Int) < (m.length : Int) := by omega
  have HS : Hid (Below w0.heap.size w0 (w0.alloc (.cells #[.int .i64 k, .int .i64 a, .int .i64 o, .int .i64 n, .slice A m.length c] 120))) := (Below.refl _ _).alloc (Nat.le_refl _) _
  have HSR := Lib.hid (step_row (k, a, o, n) A m.length c w0)
  simp only at HSR
  have HLt : Hid (w0.heap.size < (w0.alloc (.cells #[.int .i64 k, .int .i64 a, .int .i64 o, .int .i64 n, .slice A m.length c] 120)).heap.size) := by show _ < _; simp
  go_wp2_with fail
  generalize w0.alloc (.cells #[.int .i64 k, .int .i64 a, .int .i64 o, .int .i64 n, .slice A m.length c] 120) = w1 at *
  generalize hg1 : w0.heap.size = g1 at *
  have HSR1 := HSR.out
  by_cases hat : a < 0 ∨ (m.length : Int) ≤ a
  · have he : doA m (k, a, o, n) = (m, 0, false, 2) := by
      unfold doA
      rw [if_neg (by rintro (h | h); · exact absurd (HK.out.symm.trans h) (by simp)
                     · exact hL h), if_pos hat]
    have HE := Lib.hid he
    clear he
    refine (word_no k a o n A m.length c _ hat).mono ?_
    rintro e w2 ⟨rfl, hb2⟩
    have HB2 := Lib.hid (Qt.more HS.out (by have := HS.out.size; omega) hb2)
    clear hb2 hat
    go_wp2_with fail
    go_ret3
    exact HF.out _ HB2.out _ _ _ HE.out
  obtain ⟨u, rfl⟩ : ∃ u : Nat, a = u := ⟨a.toNat, by omega⟩
  have hu : u < m.length := by omega
  obtain ⟨g, rfl, hgB, hgl, hfz, hcell⟩ := own_row HO.out (by omega)
  refine (word_yes k o n u g 0 m.length c _ hu).mono ?_
  rintro e w2 ⟨rfl, hb2⟩
  have HB2 := Lib.hid (Qt.more HS.out (by have := HS.out.size; omega) hb2)
  have hk2 := Lib.hid (show Below w1.heap.size w1 w2 from hb2)
  have HSR2 := Lib.hid ((hb2.block _ HLt.out).trans HSR1)
  have c0 : w2.cell? ⟨g, u, none⟩ = some (.int .i64 (m.getD u 0)) := (HB2.out.cell (p := ⟨g, u, none⟩) (by show g < _; omega)).trans (hcell u hu)
  have cf : w2.frozen? ⟨g, u, none⟩ = false := (HB2.out.frozen (p := ⟨g, u, none⟩) (by show g < _; omega)).trans (hfz u)
  have s0 : w2.cell? ⟨g1, 0, none⟩ = some (.int .i64 k) := by rw [Lib.cell_of_heap HSR2.out]; rfl
  have s1 : w2.cell? ⟨g1, 1, none⟩ = some (.int .i64 (u : Int)) := by rw [Lib.cell_of_heap HSR2.out]; rfl
  have s2 : w2.cell? ⟨g1, 2, none⟩ = some (.int .i64 o) := by rw [Lib.cell_of_heap HSR2.out]; rfl
  have s3 : w2.cell? ⟨g1, 3, none⟩ = some (.int .i64 n) := by rw [Lib.cell_of_heap HSR2.out]; rfl
  have s4 : w2.cell? ⟨g1, 4, none⟩ = some (.slice (some ⟨g, 0, none⟩) m.length c) := by rw [Lib.cell_of_heap HSR2.out]; rfl
  have hx : I64 (m.getD u 0) := i64_getD0 HM.out u
  have HD : Hid (doA m (k, (u : Int), o, n) = if k = 1 then (m, m.getD u 0, true, 0) else if mayW (toA (k, (u : Int), o, n) (m.getD u 0)) = false then (m, 0, false, 2) else if k = 3 ∧ m.getD u 0 ≠ o then (m, m.getD u 0, false, 0) else (m.set u (toA (k, (u : Int), o, n) (m.getD u 0)), m.getD u 0, true, 0)) := by
    show _ = _
    unfold doA
    rw [if_neg (by rintro (h | h); · exact absurd (HK.out.symm.trans h) (by simp)
                   · exact hL h), if_neg (by simp only; omega)]
    simp only [Int.toNat_natCast]
  obtain ⟨x, hxx⟩ : ∃ x, x = m.getD u 0 := ⟨_, rfl⟩
  rw [← hxx] at c0 hx HD
  have HX := Lib.hid hxx
  clear hxx hcell hfz hb2 HSR1 hat q0 q1 q2 q3
  rw [Nat.zero_add]
  by_cases hk1 : k = 1
  · have he : doA m (k, (u : Int), o, n) = (m, x, true, 0) := by rw [HD.out, if_pos hk1]
    have HE := Lib.hid he
    clear he HD
    subst hk1
    go_wp2_with fail
    go_ret3
    exact HF.out _ HB2.out _ _ _ HE.out
  have hk1' : (k == 1) = false := beq_eq_false_iff_ne.2 hk1
  go_wp2_with fail
  obtain ⟨z, hz⟩ : ∃ z, z = toA (k, (u : Int), o, n) x := ⟨_, rfl⟩
  have hnx := next_any k u o n x (some ⟨g, 0, none⟩) m.length c w2 fn hx
  rw [← hz] at hnx HD
  clear hz
  refine hnx.mono ?_
  rintro e w3 ⟨⟨v, rfl, hv⟩, hb3⟩
  have HB3 := Lib.hid (Qt.more HB2.out (by have := HB2.out.size; omega) (hb3.mono (by have := hk2.out.size; have := HLt.out; omega)))
  clear hnx
  have hk3 : Below w2.heap.size w2 w3 := hb3
  have l2 : g1 < w2.heap.size := lt_heap6' HSR2.out
  have r0 : w3.cell? ⟨g1, 0, none⟩ = some (.int .i64 k) := (hk3.cell (p := ⟨g1, 0, none⟩) l2).trans s0
  have r2 : w3.cell? ⟨g1, 2, none⟩ = some (.int .i64 o) := (hk3.cell (p := ⟨g1, 2, none⟩) l2).trans s2
  have l3 : g < w2.heap.size := block_lt_of_cell c0
  have rf : w3.frozen? ⟨g, u, none⟩ = false := (hk3.frozen (p := ⟨g, u, none⟩) l3).trans cf
  have r3 : w3.cell? ⟨g, u, none⟩ = some (.int .i64 x) := (hk3.cell (p := ⟨g, u, none⟩) l3).trans c0
  clear s0 s1 s2 s3 s4 c0 cf hk3 hb3
  cases hmz : mayW z with
  | false =>
    have he : doA m (k, (u : Int), o, n) = (m, 0, false, 2) := by rw [HD.out, if_neg hk1, if_pos hmz]
    have HE := Lib.hid he
    clear he HD hmz hv
    go_wp2_with fail
    go_ret3
    exact HF.out _ HB3.out _ _ _ HE.out
  | true =>
  have hvz := hv hmz
  clear hv
  subst hvz
  by_cases hsw : k = 3 ∧ x ≠ o
  · have he : doA m (k, (u : Int), o, n) = (m, x, false, 0) := by rw [HD.out, if_neg hk1, if_neg (by rw [hmz]; simp), if_pos hsw]
    have HE := Lib.hid he
    obtain ⟨hk3, hxo⟩ := hsw
    have hxo1 : (x == o) = false := beq_eq_false_iff_ne.2 hxo
    have hxo2 : (x != o) = true := by rw [bne, hxo1]; rfl
    clear he HD hmz
    subst hk3
    go_wp2_with fail
    go_ret3
    exact HF.out _ HB3.out _ _ _ HE.out
  have he : doA m (k, (u : Int), o, n) = (m.set u v, x, true, 0) := by rw [HD.out, if_neg hk1, if_neg (by rw [hmz]; simp), if_neg hsw]
  have HE := Lib.hid he
  have hend : ∀ wz, wz = w3.setCell ⟨g, u, none⟩ (.int .i64 v) → DoR B (.slice (some ⟨g, 0, none⟩) m.length c) (doA m (k, (u : Int), o, n)) w (.returned (.tuple #[.int .i64 x, .bool true, .int .i64 0])) wz := by
    rintro wz rfl
    rw [HE.out]
    have h3 := own_next HO.out (show Below w0.heap.size w0 w3 by rw [hg1]; exact HB3.out)
    obtain ⟨h4, h5⟩ := own_set h3 u v
    exact ⟨rfl, by have := h4; simpa using this, ((grown_below HB.out _).trans (grown_below (show Below w0.heap.size w0 w3 by rw [hg1]; exact HB3.out) _)).trans h5⟩
  have HEnd := Lib.hid hend
  clear he HD hmz hend HF HE1 HE2 HO
  by_cases hk3 : k = 3
  · have hxo : x = o := by
      by_cases hxo : x = o
      · exact hxo
      · exact absurd ⟨hk3, hxo⟩ hsw
    subst hxo hk3
    clear hsw
    go_wp2_with fail
    go_ret3
    exact HEnd.out _ rfl
  · have hk3' : (k == 3) = false := beq_eq_false_iff_ne.2 hk3
    clear hsw
    go_wp2_with fail
    go_ret3
    exact HEnd.out _ rfl
end Go.Proofs.Ytocepdhjkhhpfaa
