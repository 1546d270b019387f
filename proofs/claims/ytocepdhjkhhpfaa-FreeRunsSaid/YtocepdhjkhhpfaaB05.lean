/-
  Texts that the claims of this seat share, part 5.
-/
import Derived.Test.YtocepdhjkhhpfaaB04
set_option linter.unusedVariables false
set_option linter.unusedSimpArgs false
namespace Go.Proofs.Ytocepdhjkhhpfaa
set_option maxRecDepth 100000
set_option linter.unusedVariables false
set_option linter.unusedSimpArgs false
open Go.RowKit Go.Sort

theorem own_mono {w : World} {B B' : Nat} {v : Value} {l : List Int} (h : Own w B v l) (hb : B' ≤ B) : Own w B' v l := by
  refine ⟨h.1, ?_⟩
  rcases h.2 with h2 | ⟨g, cap, cur, h3, h4, h5⟩
  · exact .inl h2
  · exact .inr ⟨g, cap, cur, h3, by omega, h5⟩
/-- a copy of a slice of numbers, by append to nothing -/
theorem copy_run (A : Option Addr) (l : List Int) (c : Nat) (w : World) (hR : Now w A l) (hl : l.length ≤ 17592186044416) :
    ∃ v w', (Builtin.append_ #[23, 23] 23 #[.slice none 0 0, .slice A l.length c]).run Try.prog w = .ok v w' ∧ Own w' w.heap.size v l ∧ Below w.heap.size w w' := by
  obtain ⟨v', w', hr, h1, h2⟩ := appW_any (out := []) c (Nat.le_refl _) (World.ownsRow_nil w w.heap.size 3 1) hR (by simpa using hl)
  exact ⟨v', w', hr, h1, (Below.refl _ w).grown h2 (Nat.le_refl _) (fun k e => by simp [Value.ownBlock] at e)⟩
/-- what is known once the copy is there -/
structure RdoAt (w wr : World) (y : Ac) (m : List Int) (A1 : Option Addr) (c1 : Nat) : Prop where
  row : wr.heap[w.heap.size]? = some (.cells #[.int .i64 y.1, .int .i64 y.2.1, .int .i64 y.2.2.1, .int .i64 y.2.2.2] 102 (0, 0))
  own : Own wr w.heap.size (.slice A1 m.length c1) m
  cap : m.length ≤ c1
  bel : Below w.heap.size w wr
/-- what the document's Do answers: words of its own -/
def DoOwn (d : DoT) (w : World) (r : Ending) (w' : World) : Prop := ∃ A c, r = .returned (.tuple #[.slice A d.1.length c, .int .i64 d.2.1, .bool d.2.2.1, .int .i64 d.2.2.2]) ∧ Own w' w.heap.size (.slice A d.1.length c) d.1 ∧ Below w.heap.size w w'
theorem RdoAt.ans {w wr : World} {y : Ac} {m : List Int} {A1 : Option Addr} {c1 : Nat} (h : RdoAt w wr y m A1 c1) {x : Int} {is : Bool} {e : Int} (he : doA m y = (m, x, is, e)) :
    DoOwn (doA m y) w (.returned (.tuple #[.slice A1 m.length c1, .int .i64 x, .bool is, .int .i64 e])) wr := by
  rw [he]
  exact ⟨A1, c1, rfl, h.own, h.bel⟩
theorem RdoAt.store {w wr : World} {y : Ac} {m : List Int} {g c1 : Nat} (h : RdoAt w wr y m (some ⟨g, 0, none⟩) c1) {x z : Int} {u : Nat} (hg : w.heap.size ≤ g) (he : doA m y = (m.set u z, x, true, 0)) :
    DoOwn (doA m y) w (.returned (.tuple #[.slice (some ⟨g, 0, none⟩) m.length c1, .int .i64 x, .bool true, .int .i64 0])) (wr.setCell ⟨g, u, none⟩ (.int .i64 z)) := by
  rw [he]
  obtain ⟨h1, h2⟩ := own_set h.own u z
  refine ⟨some ⟨g, 0, none⟩, c1, by simp, ?_, h.bel.grown h2 h.bel.size (fun k e => by injection e with e; omega)⟩
  simp only [List.length_set]
  exact h1
theorem round_cases {x n : Int} (hn : I64 n) (hx : I64 x) :
    (0 < n ∧ wrap64 (x + n) < x ∧ mayW (x + n) = false) ∨ (¬ 0 < n ∧ n < 0 ∧ x < wrap64 (x + n) ∧ mayW (x + n) = false) ∨
      (wrap64 (x + n) = x + n ∧ (0 < n → ¬ wrap64 (x + n) < x) ∧ (n < 0 → ¬ x < wrap64 (x + n))) := by
  unfold I64 at hn hx
  have hs : wrap64 (x + n) = x + n ∨ (0 < n ∧ wrap64 (x + n) = x + n - 18446744073709551616 ∧ 9223372036854775807 < x + n) ∨ (n < 0 ∧ wrap64 (x + n) = x + n + 18446744073709551616 ∧ x + n < -9223372036854775808) := by
    unfold wrap64; omega
  rcases hs with hs | ⟨h1, h2, h⟩ | ⟨h1, h2, h⟩
  · exact .inr (.inr ⟨hs, by omega, by omega⟩)
  · exact .inl ⟨h1, by omega, by unfold mayW; rw [decide_eq_false (p := x + n ≤ 1152921504606846975) (by omega), Bool.and_false]⟩
  · exact .inr (.inl ⟨by omega, h1, by omega, by unfold mayW; rw [decide_eq_false (p := -1152921504606846975 ≤ x + n) (by omega), Bool.false_and]⟩)
set_option maxHeartbeats 4000000 in
theorem refDo_any (y : Ac) (m : List Int) (A : Option Addr) (c : Nat) (w : World) (fy : Fine4A y) (hm : ∀ x ∈ m, I64 x) (hR : Now w A m) (hl : m.length ≤ 17592186044416) :
    Calls Try.prog 63 #[.slice A m.length c, acV y] w (DoOwn (doA m y) w) := by
  obtain ⟨k, a, o, n⟩ := y
  obtain ⟨fk, fa, fo, fn⟩ := fy
  simp only at fk fa fo fn
  have HB : Hid (Below w.heap.size w (w.alloc (.cells #[.int .i64 k, .int .i64 a, .int .i64 o, .int .i64 n] 102))) := (Below.refl _ _).alloc (Nat.le_refl _) _
  have HR : Hid ((w.alloc (.cells #[.int .i64 k, .int .i64 a, .int .i64 o, .int .i64 n] 102)).heap[w.heap.size]? = some (.cells #[.int .i64 k, .int .i64 a, .int .i64 o, .int .i64 n] 102 (0, 0))) := heap_alloc_new w _
  obtain ⟨v, w1, hrun, ho, hb1⟩ := copy_run A m c _ (Now.below hR HB.out) hl
  have hl0 : w.heap.size < (w.alloc (.cells #[.int .i64 k, .int .i64 a, .int .i64 o, .int .i64 n] 102)).heap.size := lt_heap6' HR.out
  obtain ⟨A1, c1, rfl, hc1, hN1⟩ := own_slice ho
  have HH : Hid (RdoAt w w1 (k, a, o, n) m A1 c1) := ⟨(hb1.block _ hl0).trans HR.out, own_mono ho (by omega), hc1, Qt.more HB.out HB.out.size hb1⟩
  have HM := Lib.hid hm
  have HN := Lib.hid hR
  have q0 : w1.cell? ⟨w.heap.size, 0, none⟩ = some (.int .i64 k) := by rw [Lib.cell_of_heap HH.out.row]; rfl
  have q1 : w1.cell? ⟨w.heap.size, 1, none⟩ = some (.int .i64 a) := by rw [Lib.cell_of_heap HH.out.row]; rfl
  have q2 : w1.cell? ⟨w.heap.size, 2, none⟩ = some (.int .i64 o) := by rw [Lib.cell_of_heap HH.out.row]; rfl
  have q3 : w1.cell? ⟨w.heap.size, 3, none⟩ = some (.int .i64 n) := by rw [Lib.cell_of_heap HH.out.row]; rfl
  clear hm hR ho hb1 hl0 hN1 hc1
  have HRun := Lib.hid hrun
  clear hrun
  by_cases hk1 : k < 1
  · have HE := Lib.hid (show doA m (k, a, o, n) = (m, 0, false, 1) by unfold doA; rw [if_pos (.inl (by simp [knownA]; omega))])
    go_enter Try.func63, Try.ntmps63
    go_wp2_with (at_builtin; refine Lib.wpList_append_run _ rfl (.const (.slice none 0 0)) (.tmp 11) 23 23 rfl _ _ rfl rfl _ _ HRun.out ?_)
    refine bodyPost_ret (results_tmp4 rfl _ _ _) rfl ?_
    exact HH.out.ans HE.out
  by_cases hk4 : 4 < k
  · have HE := Lib.hid (show doA m (k, a, o, n) = (m, 0, false, 1) by unfold doA; rw [if_pos (.inl (by simp [knownA]; omega))])
    go_enter Try.func63, Try.ntmps63
    go_wp2_with (at_builtin; refine Lib.wpList_append_run _ rfl (.const (.slice none 0 0)) (.tmp 11) 23 23 rfl _ _ rfl rfl _ _ HRun.out ?_)
    refine bodyPost_ret (results_tmp4 rfl _ _ _) rfl ?_
    exact HH.out.ans HE.out
  by_cases hL : 100000 < m.length
  · have HE := Lib.hid (show doA m (k, a, o, n) = (m, 0, false, 1) by unfold doA; rw [if_pos (.inr hL)])
    have hLz : (100000 : Int) < (m.length : Int) := by omega
    go_enter Try.func63, Try.ntmps63
    go_wp2_with (at_builtin; refine Lib.wpList_append_run _ rfl (.const (.slice none 0 0)) (.tmp 11) 23 23 rfl _ _ rfl rfl _ _ HRun.out ?_)
    refine bodyPost_ret (results_tmp4 rfl _ _ _) rfl ?_
    exact HH.out.ans HE.out
  have hLz : ¬ (100000 : Int) < (m.length : Int) := by omega
  have hkn : knownA k = true := by simp [knownA]; omega
  have hno : ¬ (knownA k = false ∨ 100000 < m.length) := by
    rintro (h | h)
    · rw [hkn] at h; cases h
    · exact hL h
  by_cases ha0 : a < 0
  · have HE := Lib.hid (show doA m (k, a, o, n) = (m, 0, false, 2) by unfold doA; rw [if_neg hno, if_pos (.inl ha0)])
    clear hno hkn
    go_enter Try.func63, Try.ntmps63
    go_wp2_with (at_builtin; refine Lib.wpList_append_run _ rfl (.const (.slice none 0 0)) (.tmp 11) 23 23 rfl _ _ rfl rfl _ _ HRun.out ?_)
    refine bodyPost_ret (results_tmp4 rfl _ _ _) rfl ?_
    exact HH.out.ans HE.out
  by_cases ha1 : (m.length : Int) ≤ a
  · have HE := Lib.hid (show doA m (k, a, o, n) = (m, 0, false, 2) by unfold doA; rw [if_neg hno, if_pos (.inr ha1)])
    clear hno hkn
    go_enter Try.func63, Try.ntmps63
    go_wp2_with (at_builtin; refine Lib.wpList_append_run _ rfl (.const (.slice none 0 0)) (.tmp 11) 23 23 rfl _ _ rfl rfl _ _ HRun.out ?_)
    refine bodyPost_ret (results_tmp4 rfl _ _ _) rfl ?_
    exact HH.out.ans HE.out
  obtain ⟨u, rfl⟩ : ∃ u : Nat, a = u := ⟨a.toNat, by omega⟩
  have hu : u < m.length := by omega
  obtain ⟨b, off, rfl, hbB, hcell⟩ := Rd.at_ HN.out (by omega)
  have c0 := (HH.out.bel.cell (p := ⟨b, off + u, none⟩) hbB).trans (hcell u hu)
  have hx : I64 (m.getD u 0) := i64_getD0 HM.out u
  have hD : doA m (k, (u : Int), o, n) = if k = 1 then (m, m.getD u 0, true, 0) else if mayW (toA (k, (u : Int), o, n) (m.getD u 0)) = false then (m, 0, false, 2) else if k = 3 ∧ m.getD u 0 ≠ o then (m, m.getD u 0, false, 0) else (m.set u (toA (k, (u : Int), o, n) (m.getD u 0)), m.getD u 0, true, 0) := by
    unfold doA
    rw [if_neg hno, if_neg (by simp only; omega)]
    simp only [Int.toNat_natCast]
  have HOwn := Lib.hid HH.out.own
  obtain ⟨g, rfl, hgB, hgl, hfz, _⟩ := own_row HOwn.out (by omega)
  have cf := hfz u
  have hcell2 := (own_row HOwn.out (by omega))
  obtain ⟨g', hg', _, _, _, hcl⟩ := hcell2
  obtain rfl : g' = g := by injection hg' with e; injection e with e; exact e.symm
  have c2 := hcl u hu
  clear hg' hcl hfz hcell hkn hno ha0 ha1
  obtain ⟨x, hxx⟩ : ∃ x, x = m.getD u 0 := ⟨_, rfl⟩
  rw [← hxx] at c0 c2 hx hD
  clear hxx
  have HGB := Lib.hid hgB
  have hfits := fun z W => refFits_any10 z W
  have hkk : k = 1 ∨ k = 2 ∨ k = 3 ∨ k = 4 := by omega
  rcases hkk with rfl | rfl | rfl | rfl
  · have HE := Lib.hid (hD.trans (if_pos rfl))
    clear hD hfits
    go_enter Try.func63, Try.ntmps63
    go_wp2_with (at_builtin; refine Lib.wpList_append_run _ rfl (.const (.slice none 0 0)) (.tmp 11) 23 23 rfl _ _ rfl rfl _ _ HRun.out ?_)
    refine bodyPost_ret (results_tmp4 rfl _ _ _) rfl ?_
    exact HH.out.ans HE.out
  · skip
    cases hmz : mayW n with
    | false =>
      have HE := Lib.hid (show doA m (2, (u : Int), o, n) = (m, 0, false, 2) by rw [hD, if_neg (by decide), if_pos (by exact hmz)])
      clear hD
      go_enter Try.func63, Try.ntmps63
      go_wp2_with (at_builtin; refine Lib.wpList_append_run _ rfl (.const (.slice none 0 0)) (.tmp 11) 23 23 rfl _ _ rfl rfl _ _ HRun.out ?_)
      refine (hfits _ _).mono ?_
      rintro r w2 ⟨rfl, rfl⟩
      try rw [hmz]
      clear hfits
      go_wp2_with fail
      refine bodyPost_ret (results_tmp4 rfl _ _ _) rfl ?_
      exact HH.out.ans HE.out
    | true =>
      have HE := Lib.hid (show doA m (2, (u : Int), o, n) = (m.set u n, x, true, 0) by rw [hD, if_neg (by decide), if_neg (by show ¬ mayW n = false; rw [hmz]; simp), if_neg (by intro h; exact absurd h.1 (by decide))]; rfl)
      clear hD
      go_enter Try.func63, Try.ntmps63
      go_wp2_with (at_builtin; refine Lib.wpList_append_run _ rfl (.const (.slice none 0 0)) (.tmp 11) 23 23 rfl _ _ rfl rfl _ _ HRun.out ?_)
      refine (hfits _ _).mono ?_
      rintro r w2 ⟨rfl, rfl⟩
      try rw [hmz]
      clear hfits
      go_wp2_with fail
      refine bodyPost_ret (results_tmp4 rfl _ _ _) rfl ?_
      exact HH.out.store HGB.out HE.out
  · skip
    cases hmz : mayW n with
    | false =>
      have HE := Lib.hid (show doA m (3, (u : Int), o, n) = (m, 0, false, 2) by rw [hD, if_neg (by decide), if_pos (by exact hmz)])
      clear hD
      go_enter Try.func63, Try.ntmps63
      go_wp2_with (at_builtin; refine Lib.wpList_append_run _ rfl (.const (.slice none 0 0)) (.tmp 11) 23 23 rfl _ _ rfl rfl _ _ HRun.out ?_)
      refine (hfits _ _).mono ?_
      rintro r w2 ⟨rfl, rfl⟩
      try rw [hmz]
      clear hfits
      go_wp2_with fail
      refine bodyPost_ret (results_tmp4 rfl _ _ _) rfl ?_
      exact HH.out.ans HE.out
    | true =>
      by_cases hxo : x = o
      · have HE := Lib.hid (show doA m (3, (u : Int), o, n) = (m.set u n, x, true, 0) by rw [hD, if_neg (by decide), if_neg (by show ¬ mayW n = false; rw [hmz]; simp), if_neg (by intro h; exact h.2 hxo)]; rfl)
        subst hxo
        clear hD
        go_enter Try.func63, Try.ntmps63
        go_wp2_with (at_builtin; refine Lib.wpList_append_run _ rfl (.const (.slice none 0 0)) (.tmp 11) 23 23 rfl _ _ rfl rfl _ _ HRun.out ?_)
        refine (hfits _ _).mono ?_
        rintro r w2 ⟨rfl, rfl⟩
        try rw [hmz]
        clear hfits
        go_wp2_with fail
        refine bodyPost_ret (results_tmp4 rfl _ _ _) rfl ?_
        exact HH.out.store HGB.out HE.out
      · have HE := Lib.hid (show doA m (3, (u : Int), o, n) = (m, x, false, 0) by rw [hD, if_neg (by decide), if_neg (by show ¬ mayW n = false; rw [hmz]; simp), if_pos ⟨rfl, hxo⟩])
        have hxo1 : (x == o) = false := beq_eq_false_iff_ne.2 hxo
        have hxo2 : (x != o) = true := by rw [bne, hxo1]; rfl
        clear hD
        go_enter Try.func63, Try.ntmps63
        go_wp2_with (at_builtin; refine Lib.wpList_append_run _ rfl (.const (.slice none 0 0)) (.tmp 11) 23 23 rfl _ _ rfl rfl _ _ HRun.out ?_)
        refine (hfits _ _).mono ?_
        rintro r w2 ⟨rfl, rfl⟩
        try rw [hmz]
        clear hfits
        go_wp2_with fail
        refine bodyPost_ret (results_tmp4 rfl _ _ _) rfl ?_
        exact HH.out.ans HE.out
  · rcases round_cases fn hx with ⟨h1, h2, h3⟩ | ⟨h0, h1, h2, h3⟩ | ⟨h1, h2, h3⟩
    · have HE := Lib.hid (show doA m (4, (u : Int), o, n) = (m, 0, false, 2) by rw [hD, if_neg (by decide), if_pos (by exact h3)])
      clear hD hfits h3
      go_enter Try.func63, Try.ntmps63
      go_wp2_with (at_builtin; refine Lib.wpList_append_run _ rfl (.const (.slice none 0 0)) (.tmp 11) 23 23 rfl _ _ rfl rfl _ _ HRun.out ?_)
      refine bodyPost_ret (results_tmp4 rfl _ _ _) rfl ?_
      exact HH.out.ans HE.out
    · have HE := Lib.hid (show doA m (4, (u : Int), o, n) = (m, 0, false, 2) by rw [hD, if_neg (by decide), if_pos (by exact h3)])
      clear hD hfits h3
      go_enter Try.func63, Try.ntmps63
      go_wp2_with (at_builtin; refine Lib.wpList_append_run _ rfl (.const (.slice none 0 0)) (.tmp 11) 23 23 rfl _ _ rfl rfl _ _ HRun.out ?_)
      refine bodyPost_ret (results_tmp4 rfl _ _ _) rfl ?_
      exact HH.out.ans HE.out
    · by_cases hn0 : 0 < n
      · have h4 := h2 hn0
        have hn1 : ¬ n < 0 := by omega
        clear h2 h3
        rw [show toA (4, (u : Int), o, n) x = x + n from rfl] at hD
        rw [h1] at h4
        cases hmz : mayW (x + n) with
        | false =>
          have HE := Lib.hid (show doA m (4, (u : Int), o, n) = (m, 0, false, 2) by rw [hD, if_neg (by decide), if_pos (by exact hmz)])
          clear hD
          go_enter Try.func63, Try.ntmps63
          go_wp2_with (at_builtin; refine Lib.wpList_append_run _ rfl (.const (.slice none 0 0)) (.tmp 11) 23 23 rfl _ _ rfl rfl _ _ HRun.out ?_)
          refine (hfits _ _).mono ?_
          rintro r w2 ⟨rfl, rfl⟩
          try rw [hmz]
          clear hfits
          go_wp2_with fail
          refine bodyPost_ret (results_tmp4 rfl _ _ _) rfl ?_
          exact HH.out.ans HE.out
        | true =>
          have HE := Lib.hid (show doA m (4, (u : Int), o, n) = (m.set u (x + n), x, true, 0) by rw [hD, if_neg (by decide), if_neg (by show ¬ mayW (x + n) = false; rw [hmz]; simp), if_neg (by intro h; exact absurd h.1 (by decide))])
          clear hD
          go_enter Try.func63, Try.ntmps63
          go_wp2_with (at_builtin; refine Lib.wpList_append_run _ rfl (.const (.slice none 0 0)) (.tmp 11) 23 23 rfl _ _ rfl rfl _ _ HRun.out ?_)
          refine (hfits _ _).mono ?_
          rintro r w2 ⟨rfl, rfl⟩
          try rw [hmz]
          clear hfits
          go_wp2_with fail
          refine bodyPost_ret (results_tmp4 rfl _ _ _) rfl ?_
          exact HH.out.store HGB.out HE.out
      · by_cases hn1 : n < 0
        · have h4 := h3 hn1
          clear h2 h3
          rw [show toA (4, (u : Int), o, n) x = x + n from rfl] at hD
          rw [h1] at h4
          cases hmz : mayW (x + n) with
          | false =>
            have HE := Lib.hid (show doA m (4, (u : Int), o, n) = (m, 0, false, 2) by rw [hD, if_neg (by decide), if_pos (by exact hmz)])
            clear hD
            go_enter Try.func63, Try.ntmps63
            go_wp2_with (at_builtin; refine Lib.wpList_append_run _ rfl (.const (.slice none 0 0)) (.tmp 11) 23 23 rfl _ _ rfl rfl _ _ HRun.out ?_)
            refine (hfits _ _).mono ?_
            rintro r w2 ⟨rfl, rfl⟩
            try rw [hmz]
            clear hfits
            go_wp2_with fail
            refine bodyPost_ret (results_tmp4 rfl _ _ _) rfl ?_
            exact HH.out.ans HE.out
          | true =>
            have HE := Lib.hid (show doA m (4, (u : Int), o, n) = (m.set u (x + n), x, true, 0) by rw [hD, if_neg (by decide), if_neg (by show ¬ mayW (x + n) = false; rw [hmz]; simp), if_neg (by intro h; exact absurd h.1 (by decide))])
            clear hD
            go_enter Try.func63, Try.ntmps63
            go_wp2_with (at_builtin; refine Lib.wpList_append_run _ rfl (.const (.slice none 0 0)) (.tmp 11) 23 23 rfl _ _ rfl rfl _ _ HRun.out ?_)
            refine (hfits _ _).mono ?_
            rintro r w2 ⟨rfl, rfl⟩
            try rw [hmz]
            clear hfits
            go_wp2_with fail
            refine bodyPost_ret (results_tmp4 rfl _ _ _) rfl ?_
            exact HH.out.store HGB.out HE.out
        · clear h2 h3
          rw [show toA (4, (u : Int), o, n) x = x + n from rfl] at hD
          cases hmz : mayW (x + n) with
          | false =>
            have HE := Lib.hid (show doA m (4, (u : Int), o, n) = (m, 0, false, 2) by rw [hD, if_neg (by decide), if_pos (by exact hmz)])
            clear hD
            go_enter Try.func63, Try.ntmps63
            go_wp2_with (at_builtin; refine Lib.wpList_append_run _ rfl (.const (.slice none 0 0)) (.tmp 11) 23 23 rfl _ _ rfl rfl _ _ HRun.out ?_)
            refine (hfits _ _).mono ?_
            rintro r w2 ⟨rfl, rfl⟩
            try rw [hmz]
            clear hfits
            go_wp2_with fail
            refine bodyPost_ret (results_tmp4 rfl _ _ _) rfl ?_
            exact HH.out.ans HE.out
          | true =>
            have HE := Lib.hid (show doA m (4, (u : Int), o, n) = (m.set u (x + n), x, true, 0) by rw [hD, if_neg (by decide), if_neg (by show ¬ mayW (x + n) = false; rw [hmz]; simp), if_neg (by intro h; exact absurd h.1 (by decide))])
            clear hD
            go_enter Try.func63, Try.ntmps63
            go_wp2_with (at_builtin; refine Lib.wpList_append_run _ rfl (.const (.slice none 0 0)) (.tmp 11) 23 23 rfl _ _ rfl rfl _ _ HRun.out ?_)
            refine (hfits _ _).mono ?_
            rintro r w2 ⟨rfl, rfl⟩
            try rw [hmz]
            clear hfits
            go_wp2_with fail
            refine bodyPost_ret (results_tmp4 rfl _ _ _) rfl ?_
            exact HH.out.store HGB.out HE.out
end Go.Proofs.Ytocepdhjkhhpfaa
