/-
  The document's Live.
-/
import Derived.Test.YtcmdhochofoohaaB08
namespace Go.Proofs.Ytcmdhochofoohaa
set_option maxRecDepth 100000
set_option linter.unusedVariables false
set_option linter.unusedSimpArgs false
open Go.RowKit Go.Sort

/-- What is known in the loops over roots and flags. -/
structure FlAt (w wr : World) (A : Option Addr) (n c : Nat) (room : Int) (q : Nat) (f : Nat → Bool) : Prop where
  head : EmpHead w wr A n c room
  flg : RowV wr q 4 (boolsL n f)
  lo : w.heap.size + 2 ≤ q
section
variable {w wr w' : World} {A : Option Addr} {n c : Nat} {room : Int} {q : Nat} {f g : Nat → Bool}
theorem EmpHead.one (h : EmpHead w wr A n c room) {g i : Nat} (hg : w.heap.size + 2 ≤ g) (u : Value) : EmpHead w (wr.setCell ⟨g, i, none⟩ u) A n c room := by
  have hk : ∀ q, q < g → (wr.setCell ⟨g, i, none⟩ u).heap[q]? = wr.heap[q]? := fun q hq => Below.heap_setCell _ _ _ _ (by show q ≠ g; omega)
  exact ⟨(hk _ (by omega)).trans h.store, (hk _ (by omega)).trans h.res, h.bel.setCell (by show _ ≤ g; omega) _⟩
theorem FlAt.below (h : FlAt w wr A n c room q f) (hb : Below wr.heap.size wr w') : FlAt w w' A n c room q f := ⟨h.head.below hb, h.flg.now hb, h.lo⟩
theorem FlAt.set (h : FlAt w wr A n c room q f) (p : Nat) (hg : (fun x => f x || decide (x = p)) = g) : FlAt w (wr.setCell ⟨q, p, none⟩ (.bool true)) A n c room q g := by
  have hr := h.flg.set p (.bool true)
  rw [boolsL_set, hg] at hr
  exact ⟨h.head.one h.lo _, hr, h.lo⟩
theorem flAt_0 (h : EmpHead w wr A n c room) (f : Nat → Bool) : FlAt w (wr.alloc (.cells (boolsL n f).toArray 4)) A n c room wr.heap.size f :=
  ⟨h.below ((Below.refl _ _).alloc (Nat.le_refl _) _), RowV.made wr _ _, h.size⟩
end
theorem NdAt.kid {w : World} {b o : Nat} {x : Nd} (h : NdAt w b o x) {j : Nat} (hj : j < 4) : w.cell? ⟨b, o + 1 + j, none⟩ = some (.int .i64 (kd x.2.1 j)) := by
  obtain ⟨_, h1, h2, h3, h4, _⟩ := h
  rcases (by omega : j = 0 ∨ j = 1 ∨ j = 2 ∨ j = 3) with rfl | rfl | rfl | rfl
  · exact h1
  · exact h2
  · exact h3
  · exact h4
theorem setTo_keep (k : Kd) (f : Nat → Bool) (i x : Nat) (h : f x = true) : setTo k f i x = true := by unfold setTo; rw [h]; rfl
theorem mixK_at (K : Nat → Bool) (lv pp : Int) (k : Kd) (j : Nat) (hj : j < 4) : (cellsN (lv, mixK K k j, pp))[1 + j]? = some (.int .i64 (kd k j)) := by
  rcases (by omega : j = 0 ∨ j = 1 ∨ j = 2 ∨ j = 3) with rfl | rfl | rfl | rfl <;> rfl
/-- where the first roots are -/
def outK (K : Nat → Bool) (R : List Int) (k : Nat) : List Int := (R.take k).map fun r => (cnt K r.toNat : Int)
theorem outK_len (K : Nat → Bool) (R : List Int) {k : Nat} (h : k ≤ R.length) : (outK K R k).length = k := by unfold outK; rw [List.length_map, List.length_take]; omega
theorem outK_succ (K : Nat → Bool) (R : List Int) {k : Nat} (h : k < R.length) : outK K R (k + 1) = outK K R k ++ [(cnt K (R.getD k 0).toNat : Int)] := by
  unfold outK
  rw [List.take_succ_eq_append_getElem h, List.map_append, List.getD_eq_getElem?_getD, List.getElem?_eq_getElem h]
  rfl
theorem outK_all (K : Nat → Bool) (R : List Int) : outK K R R.length = R.map fun r => (cnt K r.toNat : Int) := by unfold outK; rw [List.take_length]
theorem rootsB_bad {l : List Nd} {R : List Int} {i : Nat} (hi : i < R.length) (h : R.getD i 0 < 0 ∨ (l.length : Int) ≤ R.getD i 0) : rootsB l R = false := by
  cases hb : rootsB l R with
  | false => rfl
  | true =>
    have := rootsB_iff.1 hb (R.getD i 0) (by rw [List.getD_eq_getElem?_getD, List.getElem?_eq_getElem hi]; exact List.getElem_mem _)
    omega
theorem down_two (l : List Nd) (f : Nat → Bool) : down l 2 f = f := rfl
theorem down_succ (l : List Nd) (i : Nat) (f : Nat → Bool) (h : 2 ≤ i) : down l (i + 1) f = down l i (if f i = true then setK (l.getD i deadN).2.1 f else f) := by
  show down l i _ = _
  rw [decide_eq_true h, Bool.true_and]

set_option maxHeartbeats 16000000 in
theorem refLive_any (A : Option Addr) (l : List Nd) (c : Nat) (room : Int) (B : Option Addr) (R : List Int) (d : Nat) (w : World) (hR : RdN w w.heap.size A l) (hl : l.length ≤ 1000000) (hc : l.length ≤ c) (hrt : Rd w w.heap.size B R) (hRl : R.length ≤ 1000000) (hR64 : ∀ j, j < R.length → I64 (R.getD j 0))
    (hw : ∀ i, i < l.length → -9223372036854775808 ≤ (l.getD i deadN).1 ∧ (l.getD i deadN).1 ≤ 9223372036854775807) :
    Calls Try.prog 25 #[storeV A l.length c room, .slice B R.length d] w (LiveR (live6 l room R) room w) := by
  have HH0 := Lib.hid (empHead_0 w A l.length c room)
  have hs0 := HH0.out.s0
  have hs1 := HH0.out.s1
  have hright := refRight6_any A l c room _ ((hR.below HH0.out.bel (Nat.le_refl _)).more HH0.out.bel.size) hl hw
  unfold storeV at hright ⊢
  have hno : ∀ (wr : World), EmpHead w wr A l.length c room → (right6 l room && rootsB l R) = false → LiveR (live6 l room R) room w (.returned (.tuple #[.agg #[.slice A l.length c, .int .i64 room], .slice none 0 0, .int .i64 1])) ((wr.setCell ⟨w.heap.size + 1, 0, none⟩ (.slice A l.length c)).setCell ⟨w.heap.size + 1, 1, none⟩ (.int .i64 room)) := by
    intro wr hh hb
    unfold live6
    rw [if_neg (by rw [hb]; decide)]
    have ht := hh.told (.slice A l.length c) (.int .i64 room)
    exact ⟨_, _, rfl, ⟨A, c, rfl, hc, (hR.below ht.2 (Nat.le_refl _)).more ht.2.size⟩, ⟨none, 0, rfl, Nat.le_refl _, now_nil _ _⟩, ht.2⟩
  have HNO := Lib.hid hno
  cases hr : right6 l room with
  | false =>
    rw [hr] at hright
    have HB := Lib.hid (show (right6 l room && rootsB l R) = false by rw [hr]; rfl)
    clear hr hno hR hrt hw hR64
    go_enter Try.func25, Try.ntmps25
    go_wp2_with (go_at_call 17; refine hright.mono ?_; rintro e w1 ⟨rfl, hb1⟩; have H1 := Lib.hid (HH0.out.below hb1); have s0 := H1.out.s0; have s1 := H1.out.s1; have r0 := H1.out.r0; have r1 := H1.out.r1; have f0 := H1.out.free 0; have f1 := H1.out.free 1; have ht := Lib.hid (H1.out.told (.slice A l.length c) (.int .i64 room)); clear hright hb1 hs0 hs1)
    refine bodyPost_ret (results_cell3 rfl _ _ _ _ _ _ _ rfl ht.out.1 Try.underlying25 rfl (by kernel_rfl)) rfl ?_
    exact HNO.out _ H1.out HB.out
  | true =>
    have hR6 := right_iff.1 hr
    have h2 := hR6.two
    have hl5 : l.length ≤ 100000 := by have := hR6.len; have := hR6.room100; omega
    have HR6 := Lib.hid hR6
    have hmk0 := makeBools l.length hl
    have hmk1 := makeInts l.length hl
    rw [hr] at hright
    obtain ⟨b0, off, rfl, hbB, hcell⟩ := hR.at_ (by omega)
    have HC := Lib.hid hcell
    have HRT := Lib.hid hrt
    have HR64 := Lib.hid hR64
    have HRI := Lib.hid hr
    clear hR6 hcell hR hrt hR64 hw hno
    clear hr
    go_enter Try.func25, Try.ntmps25
    go_wp2_with fail
    refine hright.mono ?_
    rintro e w1 ⟨rfl, hb1⟩
    have H1 := HH0.out.below hb1
    have he1 : ((boolsL l.length fun _ => false).set 0 (.bool true)).set 1 (.bool true) = boolsL l.length (rootF R 0) := by
      rw [boolsL_set, boolsL_set, rootF_zero]
    have HF1 : Hid (FlAt w (w1.alloc (.cells (((boolsL l.length fun _ => false).set 0 (.bool true)).set 1 (.bool true)).toArray 4)) (some ⟨b0, off, none⟩) l.length c room w1.heap.size (rootF R 0)) := by
      rw [he1]
      exact flAt_0 H1 _
    have s0 := H1.s0
    have s1 := H1.s1
    have s0o := fun o => (H1.below ((Below.refl w1.heap.size w1).alloc (Nat.le_refl _) o)).s0
    have hq2 := H1.size
    have c0 := (RowV.made w1 4 (boolsL l.length fun _ => false)).cell (boolsL_get (fun _ => false) (i := 0) (by omega))
    have c1 := (RowV.made w1 4 ((boolsL l.length fun _ => false).set 0 (.bool true))).cell (i := 1) (v := .bool false) (by rw [boolsL_set, boolsL_get _ (by omega)]; rfl)
    have f0 := (RowV.made w1 4 (boolsL l.length fun _ => false)).free 0
    have f1 := (RowV.made w1 4 ((boolsL l.length fun _ => false).set 0 (.bool true))).free 1
    have hn0 : (0 : Int) < (l.length : Int) := by omega
    have hn1 : (1 : Int) < (l.length : Int) := by omega
    clear hright hb1 hs0 hs1 H1 HH0 he1
    go_wp2_with fail
    clear hmk0 s0 s1 s0o c0 c1 f0 f1
    generalize (w1.alloc (.cells (((boolsL l.length fun _ => false).set 0 (.bool true)).set 1 (.bool true)).toArray 4)) = w2 at *
    generalize w1.heap.size = q at *
    go_loopw [8] (fun i wr => ∃ k : Nat, k ≤ R.length ∧ i = .int .i64 k ∧ Hid (FlAt w wr (some ⟨b0, off, none⟩) l.length c room q (rootF R k)) ∧ Hid (∀ j, j < k → 0 ≤ R.getD j 0 ∧ R.getD j 0 < l.length)) (fun i _ => R.length - (intOf i).toNat)
    case atStart => exact ⟨0, Nat.zero_le _, rfl, HF1.out, fun j hj => absurd hj (Nat.not_lt_zero j)⟩
    case round =>
      obtain ⟨k, hk, rfl, HF, HG⟩ := hrel
      by_cases hlt : k < R.length
      · have hltz : (k : Int) < (R.length : Int) := by omega
        obtain ⟨b1, o1, rfl, hb1, hr1⟩ := HRT.out.at_ (by omega)
        have c0 := Qt.keep HF.out.head.bel (hr1 k hlt)
        have hx64 := HR64.out k hlt
        have hgk := HG.out
        obtain ⟨x, hx⟩ : ∃ x, x = R.getD k 0 := ⟨_, rfl⟩
        rw [← hx] at c0 hx64
        have HX := Lib.hid hx
        have k0 := Qt.cell_in c0
        have k1 := Qt.cell_in HF.out.head.s0
        have hcase : x < 0 ∨ ((l.length : Int) ≤ x ∧ ¬ x < 0) ∨ (0 ≤ x ∧ x < l.length) := by omega
        have hfst : Hid ((right6 l room && rootsB l R) = false ∨ (0 ≤ x ∧ x < l.length)) := by
          rcases hcase with h | h | h
          · exact .inl (by rw [rootsB_bad hlt (.inl (by omega))]; exact Bool.and_false _)
          · exact .inl (by rw [rootsB_bad hlt (.inr (by omega))]; exact Bool.and_false _)
          · exact .inr h
        clear hr1 hx hgk
        rcases hcase with h0 | ⟨h1, h0⟩ | ⟨h0, h1⟩
        · go_wp2_with fail
          refine Qt.below_all (by kernel_rfl) (by kernel_rfl) ?_
          iterate 15 (go_big_quiet_step (fail))
          refine wpQuiet_nil ?_
          intro w6 hb6
          have H6 := Lib.hid (HF.out.below hb6)
          have s0 := H6.out.head.s0
          have s1 := H6.out.head.s1
          have r0 := H6.out.head.r0
          have r1 := H6.out.head.r1
          have f0 := H6.out.head.free 0
          have f1 := H6.out.head.free 1
          have ht := Lib.hid (H6.out.head.told (.slice (some ⟨b0, off, none⟩) l.length c) (.int .i64 room))
          clear hb6 k0 k1 c0
          go_wp2_with fail
          refine bodyPost_ret (results_cell3 rfl _ _ _ _ _ _ _ rfl ht.out.1 Try.underlying25 rfl (by kernel_rfl)) rfl ?_
          exact HNO.out _ H6.out.head (hfst.out.resolve_right (fun h => by omega))
        · have hd1 : ¬ x < (l.length : Int) := by omega
          have hd2 : decide (x < 0) = false := decide_eq_false h0
          have hd3 : decide ((l.length : Int) ≤ x) = true := decide_eq_true h1
          go_wp2_with fail
          refine Qt.below_all (by kernel_rfl) (by kernel_rfl) ?_
          iterate 15 (go_big_quiet_step (fail))
          refine wpQuiet_nil ?_
          intro w6 hb6
          have H6 := Lib.hid (HF.out.below hb6)
          have s0 := H6.out.head.s0
          have s1 := H6.out.head.s1
          have r0 := H6.out.head.r0
          have r1 := H6.out.head.r1
          have f0 := H6.out.head.free 0
          have f1 := H6.out.head.free 1
          have ht := Lib.hid (H6.out.head.told (.slice (some ⟨b0, off, none⟩) l.length c) (.int .i64 room))
          clear hb6 k0 k1 c0
          go_wp2_with fail
          refine bodyPost_ret (results_cell3 rfl _ _ _ _ _ _ _ rfl ht.out.1 Try.underlying25 rfl (by kernel_rfl)) rfl ?_
          exact HNO.out _ H6.out.head (hfst.out.resolve_right (fun h => by omega))
        · obtain ⟨p, rfl⟩ : ∃ p : Nat, x = (p : Int) := ⟨x.toNat, by omega⟩
          have hd0 : ¬ (p : Int) < 0 := by omega
          have hd1 : ¬ (l.length : Int) ≤ (p : Int) := by omega
          have hd2 : decide ((p : Int) < 0) = false := decide_eq_false hd0
          have hd3 : decide ((l.length : Int) ≤ (p : Int)) = false := decide_eq_false hd1
          have hd4 : decide (l.length ≤ p) = false := decide_eq_false (by omega)
          have hpn : p < l.length := by omega
          have HGN : Hid (∀ j, j < k + 1 → 0 ≤ R.getD j 0 ∧ R.getD j 0 < l.length) := by
            intro j hj
            rcases (by omega : j < k ∨ j = k) with h | rfl
            · exact HG.out j h
            · rw [← HX.out]; exact ⟨h0, h1⟩
          go_wp2_with fail
          refine Qt.below_all (by kernel_rfl) (by kernel_rfl) ?_
          iterate 15 (go_big_quiet_step (fail))
          refine wpQuiet_nil ?_
          intro w6 hb6
          have H6 := HF.out.below hb6
          have c6 := Qt.keep hb6 c0
          have cp := H6.flg.cell (boolsL_get (rootF R k) (i := p) hpn)
          have fp := H6.flg.free p
          have HN := Lib.hid (H6.set p (rootF_succ R k p hlt HX.out.symm))
          clear hb6 k0 k1 c0 H6 HF HG hfst hd0 hd1
          generalize rootF R k p = bp at *
          go_wp2_with fail
          go_roundw
          case measure => simp [intOf]; omega
          case rel => exact ⟨k + 1, by omega, by go_num, HN.out, HGN.out⟩
      · obtain rfl : k = R.length := by omega
        have hltz : ¬ (R.length : Int) < (R.length : Int) := by omega
        have hroots : rootsB l R = true := rootsB_iff.2 fun r hr => by
          obtain ⟨j, hj, rfl⟩ := List.getElem_of_mem hr
          have := HG.out j hj
          rwa [List.getD_eq_getElem?_getD, List.getElem?_eq_getElem hj] at this
        have hf := HF.out
        rw [rootF_all] at hf
        have HF2 := Lib.hid hf
        have HRO := Lib.hid hroots
        have hl2 : (2 : Int) ≤ (l.length : Int) := by omega
        have s0 := hf.head.s0
        have HKE0 : Hid (down l l.length (base6 R) = keepF l R) := rfl
        clear hf hroots HF HG
        go_wp2_with fail
        clear s0
        go_loopw [9] (fun v wr => ∃ (i : Nat) (f : Nat → Bool), 1 ≤ i ∧ i < l.length ∧ v = .int .i64 i ∧ Hid (FlAt w wr (some ⟨b0, off, none⟩) l.length c room q f) ∧ Hid (down l (i + 1) f = keepF l R)) (fun v _ => (intOf v).toNat)
        case atStart => exact ⟨l.length - 1, base6 R, by omega, by omega, by go_num, HF2.out, by rw [show l.length - 1 + 1 = l.length by omega]; exact HKE0.out⟩
        case round =>
          obtain ⟨i, f, h1i, hil, rfl, HF, HD⟩ := hrel
          have HHI := Lib.hid hil
          by_cases h2i : 2 ≤ i
          · have h2z : (2 : Int) ≤ (i : Int) := by omega
            have hilz : (i : Int) < (l.length : Int) := by omega
            have hdn := HD.out
            rw [down_succ l i f h2i] at hdn
            have HDN := Lib.hid hdn
            have HKI := Lib.hid (fun c (hc : c < 4) => kid_in HR6.out hil hc)
            have nk := fun j (hj : j < 4) => (HC.out i hil).kid (j := j) hj
            clear hdn HD
            cases hfi : f i with
            | false =>
              have HN : Hid (down l i f = keepF l R) := by
                have := HDN.out
                rwa [if_neg (by rw [hfi]; decide)] at this
              have HFI := Lib.hid hfi
              clear hfi nk
              go_wp2_with fail
              go_loopw [10] (fun v wr => v = .int .i64 0 ∧ Hid (FlAt w wr (some ⟨b0, off, none⟩) l.length c room q f)) (fun _ _ => 0)
              case atStart => exact ⟨rfl, HF.out⟩
              case round =>
                obtain ⟨rfl, HF3⟩ := hrel
                have lx := HF3.out.flg.cell (boolsL_get f HHI.out)
                rw [HFI.out] at lx
                have hz4 : (0 : Int) < 4 := by decide
                go_wp2_with fail
                go_roundw
                case measure => simp [intOf]; omega
                case rel => exact ⟨i - 1, f, by omega, by have := HHI.out; omega, by go_num, HF3.out, by rw [show i - 1 + 1 = i by omega]; exact HN.out⟩
            | true =>
              have HN : Hid (down l i (setK (l.getD i deadN).2.1 f) = keepF l R) := by
                have := HDN.out
                rwa [if_pos hfi] at this
              have HFI := Lib.hid hfi
              clear hfi
              generalize (l.getD i deadN).2.1 = kk at *
              go_wp2_with fail
              go_loopw [10] (fun v wr => ∃ m : Nat, m ≤ 4 ∧ v = .int .i64 m ∧ Hid (FlAt w wr (some ⟨b0, off, none⟩) l.length c room q (setTo kk f m))) (fun v _ => 4 - (intOf v).toNat)
              case atStart => exact ⟨0, by omega, rfl, by rw [setTo_zero]; exact HF.out⟩
              case round =>
                obtain ⟨m, hm, rfl, HF3⟩ := hrel
                have lx := HF3.out.flg.cell (boolsL_get (setTo kk f m) HHI.out)
                rw [setTo_keep kk f m i HFI.out] at lx
                by_cases hm4 : m < 4
                · have hm4z : (m : Int) < 4 := by omega
                  have hki := HKI.out m hm4
                  have cm := Qt.keep HF3.out.head.bel (nk m hm4)
                  obtain ⟨p, hp⟩ : ∃ p : Nat, kd kk m = (p : Int) := ⟨(kd kk m).toNat, by omega⟩
                  rw [hp] at cm hki
                  have hpl : (p : Int) < (l.length : Int) := hki.2
                  have hpn : p < l.length := by omega
                  have s0 := HF3.out.head.s0
                  have cp := HF3.out.flg.cell (boolsL_get (setTo kk f m) (i := p) hpn)
                  have fp := HF3.out.flg.free p
                  have HN2 := Lib.hid (HF3.out.set p (setTo_succ kk f m p hp))
                  clear hp hki HF3 nk
                  generalize setTo kk f m p = bp at *
                  go_wp2_with fail
                  go_roundw
                  case measure => simp [intOf]; omega
                  case rel => exact ⟨m + 1, by omega, by go_num, HN2.out⟩
                · obtain rfl : m = 4 := by omega
                  have hz4 : ¬ ((4 : Nat) : Int) < 4 := by decide
                  have hf4 := HF3.out
                  rw [setTo_all] at hf4
                  have HF4 := Lib.hid hf4
                  clear hf4 nk
                  go_wp2_with fail
                  go_roundw
                  case measure => simp [intOf]; omega
                  case rel => exact ⟨i - 1, _, by omega, by have := HHI.out; omega, by go_num, HF4.out, by rw [show i - 1 + 1 = i by omega]; exact HN.out⟩
          · obtain rfl : i = 1 := by omega
            have hz2 : ¬ (2 : Int) ≤ ((1 : Nat) : Int) := by decide
            have hfk : f = keepF l R := HD.out
            subst hfk
            have HW4 := Lib.hid HF
            have hszq := HF.out.head.size
            have s0 := HF.out.head.s0
            have s1 := HF.out.head.s1
            have s0o := fun o => ((HF.out.below ((Below.refl wr.heap.size wr).alloc (Nat.le_refl _) o)).head).s0
            have s1o := fun o => ((HF.out.below ((Below.refl wr.heap.size wr).alloc (Nat.le_refl _) o)).head).s1
            have HL0 : Hid (LvAt w ((wr.alloc (.cells (intsL (numsL l.length fun _ => 0)).toArray 3)).alloc (.cells #[.slice none 0 0, .int .i64 room] 25)) (some ⟨b0, off, none⟩) l c room (keepF l R) (wr.heap.size + 1) q wr.heap.size 0 (.slice none 0 0)) := by
              have hs1 : (wr.alloc (.cells (intsL (numsL l.length fun _ => 0)).toArray 3)).heap.size = wr.heap.size + 1 := by simp
              have hal := (Below.refl wr.heap.size wr).alloc (Nat.le_refl _) (.cells (intsL (numsL l.length fun _ => 0)).toArray 3)
              have hal2 := (Below.refl (wr.alloc (.cells (intsL (numsL l.length fun _ => 0)).toArray 3)).heap.size (wr.alloc (.cells (intsL (numsL l.length fun _ => 0)).toArray 3))).alloc (Nat.le_refl _) (.cells #[.slice none 0 0, .int .i64 room] 25)
              have h4 := (HF.out.below hal).below hal2
              have hrow := (RowV.made wr 3 (intsL (numsL l.length fun _ => 0))).now hal2
              have hout := heap_alloc_new (wr.alloc (.cells (intsL (numsL l.length fun _ => 0)).toArray 3)) (.cells #[.slice none 0 0, .int .i64 room] 25)
              rw [hs1] at hout
              refine ⟨h4.head, h4.flg, ?_, hout, World.ownsRow_nil _ _ _ _, ⟨by omega, h4.lo, by omega⟩⟩
              rw [toF_zero]
              exact hrow
            have hl0 : ((0 : Int) < (l.length : Int)) := by omega
            clear HD HF
            go_wp2_with fail
            clear s0 s1 s0o s1o hmk1
            generalize ((wr.alloc (.cells (intsL (numsL l.length fun _ => 0)).toArray 3)).alloc (.cells #[.slice none 0 0, .int .i64 room] 25)) = w5 at *
            obtain ⟨o, ho⟩ : ∃ o, o = wr.heap.size + 1 := ⟨_, rfl⟩
            rw [← ho] at HL0 ⊢
            generalize wr.heap.size = t at *
            have HKP := Lib.hid (kept_keep HR6.out R)
            obtain ⟨K, hK⟩ : ∃ K, K = keepF l R := ⟨_, rfl⟩
            rw [← hK] at HL0 HKP
            have HKE := Lib.hid hK
            have HO := Lib.hid ho
            clear hK ho HW4 hszq
            go_loopw [13] (fun i wr => ∃ (n : Nat) (v : Value), n ≤ l.length ∧ i = .int .i64 n ∧ Hid (LvAt w wr (some ⟨b0, off, none⟩) l c room K o q t n v)) (fun i _ => l.length - (intOf i).toNat)
            case atStart => exact ⟨0, _, Nat.zero_le _, rfl, HL0.out⟩
            case round =>
              obtain ⟨n, v, hn, rfl, HH⟩ := hrel
              have H := HH.out
              have s0 := H.head.s0
              by_cases hlt : n < l.length
              · have hltz : (n : Int) < (l.length : Int) := by omega
                obtain ⟨n0, n1, n2, n3, n4, n5⟩ := HC.out n hlt
                have m0 := Qt.keep H.head.bel n0
                have m1 := Qt.keep H.head.bel n1
                have m2 := Qt.keep H.head.bel n2
                have m3 := Qt.keep H.head.bel n3
                have m4 := Qt.keep H.head.bel n4
                have m5 := Qt.keep H.head.bel n5
                have lx := H.flg.cell (boolsL_get K hlt)
                have HTK := Lib.hid (fun c (hc : c < 4) (hk : K n = true) => to_kid HR6.out HKP.out hlt hk hc)
                have HKI := Lib.hid (fun c (hc : c < 4) => kid_in HR6.out hlt hc)
                have HNS := Lib.hid (newTo_succ l K n)
                clear n0 n1 n2 n3 n4 n5 H
                obtain ⟨wo, rfl⟩ : ∃ wo : World, wo = wr := ⟨_, rfl⟩
                generalize hx : l.getD n deadN = x at *
                obtain ⟨lv, k, pp⟩ := x
                dsimp only at m0 m1 m2 m3 m4 m5 HNS HTK HKI
                have HX := Lib.hid hx
                clear hx
                cases hKn : K n with
                | false =>
                  rw [hKn] at lx
                  have HN : Hid (LvAt w wo (some ⟨b0, off, none⟩) l c room K o q t (n + 1) v) := by
                    have h1 := HH.out
                    have hs := HNS.out
                    rw [if_neg (by rw [hKn]; decide)] at hs
                    exact ⟨h1.head, h1.flg, by rw [← toF_off K n hKn]; exact h1.tor, h1.out, by rw [hs]; exact h1.own, h1.lo⟩
                  clear hKn HNS HTK HKI
                  go_wp2_with fail
                  go_roundw
                  case measure => simp [intOf]; omega
                  case rel => exact ⟨n + 1, v, by omega, by go_num, HN.out⟩
                | true =>
                  rw [hKn] at lx
                  have HKN := Lib.hid hKn
                  clear hKn
                  go_wp2_with fail
                  obtain ⟨A2, c2, rfl, hc2, _⟩ := HH.out.own.reads
                  have hbox0 := RowV.made wo 49 (cellsN (lv, k, pp))
                  have HB0 : Hid (RowV (wo.alloc (.cells #[.int .i64 lv, .int .i64 k.1, .int .i64 k.2.1, .int .i64 k.2.2.1, .int .i64 k.2.2.2, .int .i64 pp] 49)) wo.heap.size 49 (cellsN (lv, mixK K k 0, pp)) ∧ Below wo.heap.size wo (wo.alloc (.cells #[.int .i64 lv, .int .i64 k.1, .int .i64 k.2.1, .int .i64 k.2.2.1, .int .i64 k.2.2.2, .int .i64 pp] 49))) := ⟨hbox0, (Below.refl _ _).alloc (Nat.le_refl _) _⟩
                  clear lx m0 m1 m2 m3 m4 m5 hbox0 s0
                  go_loopw [15] (fun i wr => ∃ j : Nat, j ≤ 4 ∧ i = .int .i64 j ∧ Hid (RowV wr wo.heap.size 49 (cellsN (lv, mixK K k j, pp)) ∧ Below wo.heap.size wo wr)) (fun i _ => 4 - (intOf i).toNat)
                  case atStart => exact ⟨0, by omega, rfl, HB0.out⟩
                  case round =>
                    obtain ⟨j, hj, rfl, HJ⟩ := hrel
                    by_cases hlt4 : j < 4
                    · have hltz4 : (j : Int) < 4 := by omega
                      have hki := HKI.out j hlt4
                      have htk := HTK.out j hlt4 HKN.out
                      have cx := HJ.out.1.cell (mixK_at K lv pp k j hlt4)
                      obtain ⟨p, hp⟩ : ∃ p : Nat, kd k j = (p : Int) := ⟨(kd k j).toNat, by omega⟩
                      have hpl : (p : Int) < (l.length : Int) := by omega
                      have hpn : p < l.length := by omega
                      rw [hp] at cx htk
                      rw [Int.toNat_natCast] at htk
                      have hL := HH.out.below HJ.out.2
                      have ct := hL.tor.cell (intsL_get (by rw [numsL_len]; exact hpn))
                      rw [numsL_get _ hpn, htk] at ct
                      have fj := HJ.out.1.free (1 + j)
                      have hset := HJ.out.1.set (1 + j) (.int .i64 (cnt K p : Int))
                      have hms := mixK_set K lv pp k j hlt4
                      rw [hp, Int.toNat_natCast] at hms
                      rw [hms] at hset
                      have HN : Hid (RowV (wr.setCell ⟨wo.heap.size, 1 + j, none⟩ (.int .i64 (cnt K p : Int))) wo.heap.size 49 (cellsN (lv, mixK K k (j + 1), pp)) ∧ Below wo.heap.size wo (wr.setCell ⟨wo.heap.size, 1 + j, none⟩ (.int .i64 (cnt K p : Int)))) := ⟨hset, HJ.out.2.setCell (Nat.le_refl _) _⟩
                      clear hki htk hp hL hset hms HJ
                      generalize (cnt K p : Int) = cp at *
                      go_wp2_with fail
                      go_roundw
                      case measure => simp [intOf]; omega
                      case rel => exact ⟨j + 1, by omega, by go_num, HN.out⟩
                    · obtain rfl : j = 4 := by omega
                      have hltz4 : ¬ ((4 : Nat) : Int) < 4 := by decide
                      have hL := HH.out.below HJ.out.2
                      have hmt : (newTo l K n).length = cnt K n := newTo_len l K n
                      have hcn : cnt K n ≤ n := cnt_le K n
                      have hs := HNS.out
                      rw [if_pos HKN.out] at hs
                      have htold := hL.told n ((newTo l K n).length : Int) (toF K (n + 1)) (by rw [hmt]; exact toF_on K n HKN.out)
                      have ct := hL.tor.cell (intsL_get (l := numsL l.length (toF K n)) (i := n) (by rw [numsL_len]; exact hlt))
                      have ft := hL.tor.free n
                      have c0 := hL.c0
                      have htn : wo.heap.size ≠ t := by have := HH.out.tor.lt; omega
                      have hbx7 := HJ.out.1.other htn n (.int .i64 ((newTo l K n).length : Int))
                      obtain ⟨th, tf, tt, tout, town⟩ := htold
                      have hlo := hL.lo
                      have hsz7 : w.heap.size + 2 ≤ (wr.setCell ⟨t, n, none⟩ (.int .i64 ((newTo l K n).length : Int))).heap.size := by have := th.size; exact this
                      obtain ⟨v8, w8, rp, op, gp, bp⟩ := pushN_any (w := wr.setCell ⟨t, n, none⟩ (.int .i64 ((newTo l K n).length : Int))) (B := w.heap.size + 2) (v := .slice A2 (newTo l K n).length c2) (out := newTo l K n) ((lv, mapK K k, pp) : Nd) hsz7 town (by omega)
                      obtain ⟨A3, c3, rfl, hc3, _⟩ := OwnN.reads op
                      have hx1 : (newTo l K n ++ [((lv, mapK K k, pp) : Nd)]).length = (newTo l K n).length + 1 := by simp
                      have hsw : (wr.setCell ⟨t, n, none⟩ (.int .i64 ((newTo l K n).length : Int))).heap.size = wr.heap.size := by simp [World.setCell]
                      rw [hx1, hsw] at rp
                      dsimp only at rp
                      have hpu := LvAt.pushed (K := K) (l := l) (n := n) th tf tt tout town hlo gp bp op hs
                      rw [hx1] at hpu
                      have HPU := Lib.hid hpu.1
                      have o0 : w8.cell? ⟨o, 0, none⟩ = some (.slice A2 (newTo l K n).length c2) := by rw [Lib.cell_of_heap hpu.2]; rfl
                      have of0 := Lib.frozen_of_heap hpu.2 0
                      have c07 : (wr.setCell ⟨t, n, none⟩ (.int .i64 ((newTo l K n).length : Int))).cell? ⟨o, 0, none⟩ = some (.slice A2 (newTo l K n).length c2) := by rw [Lib.cell_of_heap tout]; rfl
                      have d0 : (wr.setCell ⟨t, n, none⟩ (.int .i64 ((newTo l K n).length : Int))).cell? ⟨wo.heap.size, 0, none⟩ = some (.int .i64 lv) := hbx7.cell rfl
                      have d1 : (wr.setCell ⟨t, n, none⟩ (.int .i64 ((newTo l K n).length : Int))).cell? ⟨wo.heap.size, 1, none⟩ = some (.int .i64 (mapK K k).1) := hbx7.cell rfl
                      have d2 : (wr.setCell ⟨t, n, none⟩ (.int .i64 ((newTo l K n).length : Int))).cell? ⟨wo.heap.size, 2, none⟩ = some (.int .i64 (mapK K k).2.1) := hbx7.cell rfl
                      have d3 : (wr.setCell ⟨t, n, none⟩ (.int .i64 ((newTo l K n).length : Int))).cell? ⟨wo.heap.size, 3, none⟩ = some (.int .i64 (mapK K k).2.2.1) := hbx7.cell rfl
                      have d4 : (wr.setCell ⟨t, n, none⟩ (.int .i64 ((newTo l K n).length : Int))).cell? ⟨wo.heap.size, 4, none⟩ = some (.int .i64 (mapK K k).2.2.2) := hbx7.cell rfl
                      have d5 : (wr.setCell ⟨t, n, none⟩ (.int .i64 ((newTo l K n).length : Int))).cell? ⟨wo.heap.size, 5, none⟩ = some (.int .i64 pp) := hbx7.cell rfl
                      have HLT := Lib.hid hlt
                      clear hL hmt hcn hs htn hbx7 th tf tt tout town hlo hsz7 op gp bp hpu hc3 HJ hx1 hsw
                      go_wp2_with (at_builtin; refine Lib.wpList_append_run _ rfl (.tmp 131) (.tmp 133) 23 23 rfl _ _ rfl rfl _ _ rp ?_)
                      go_roundw
                      case measure => simp [intOf]; omega
                      case rel => exact ⟨n + 1, _, by have := HLT.out; omega, by go_num, HPU.out⟩
              · obtain rfl : n = l.length := by omega
                have hltz : ¬ (l.length : Int) < (l.length : Int) := by omega
                obtain ⟨wo, rfl⟩ : ∃ wo : World, wo = wr := ⟨_, rfl⟩
                have hsz := H.head.size
                clear H hlt
                go_wp2_with fail
                clear s0
                go_loopw [16, 17] (fun u i wr => ∃ k : Nat, k ≤ R.length ∧ i = .int .i64 k ∧ Hid (Own wr wo.heap.size u (outK K R k)) ∧ Hid (Below wo.heap.size wo wr)) (fun _ i _ => R.length - (intOf i).toNat)
                case atStart => exact ⟨0, Nat.zero_le _, rfl, World.ownsRow_nil _ _ _ _, Below.refl _ _⟩
                case round =>
                  obtain ⟨k, hk, rfl, HO, HB⟩ := hrel
                  have hL := HH.out.below HB.out
                  by_cases hltk : k < R.length
                  · have hltkz : (k : Int) < (R.length : Int) := by omega
                    obtain ⟨b1, o1, rfl, hb1, hr1⟩ := HRT.out.at_ (by omega)
                    have rk := Qt.keep hL.head.bel (hr1 k hltk)
                    have hmem : R.getD k 0 ∈ R := by rw [List.getD_eq_getElem?_getD, List.getElem?_eq_getElem hltk]; exact List.getElem_mem _
                    have hrb := rootsB_iff.1 HRO.out (R.getD k 0) hmem
                    have htr := to_root HKP.out hmem hrb
                    have hup := outK_succ K R hltk
                    obtain ⟨p, hp⟩ : ∃ p : Nat, R.getD k 0 = (p : Int) := ⟨(R.getD k 0).toNat, by omega⟩
                    rw [hp] at rk hrb htr hup
                    rw [Int.toNat_natCast] at htr hup
                    have hpl : (p : Int) < (l.length : Int) := hrb.2
                    have hpn : p < l.length := by omega
                    have ct := hL.tor.cell (intsL_get (by rw [numsL_len]; exact hpn))
                    rw [numsL_get _ hpn, htr] at ct
                    obtain ⟨v', w', hrun, hown, hb2⟩ := push_any ((cnt K p : Nat) : Int) HB.out.size HO.out (by rw [outK_len K R hk]; omega)
                    rw [← hup] at hown
                    have HO2 := Lib.hid hown
                    have HB2 := Lib.hid (HB.out.trans hb2)
                    clear hr1 hmem hrb htr hp hup hL HO HB hown hb2
                    generalize ((cnt K p : Nat) : Int) = cp at *
                    go_wp2_with (at_builtin; refine Lib.wpList_append_run _ rfl (.tmp 142) (.tmp 150) 28 28 rfl _ _ rfl rfl _ _ hrun ?_)
                    go_roundw
                    case measure => simp [intOf]; omega
                    case rel => exact ⟨k + 1, by omega, by go_num, HO2.out, HB2.out⟩
                  · obtain rfl : k = R.length := by omega
                    have hltkz : ¬ (R.length : Int) < (R.length : Int) := by omega
                    obtain ⟨A2, c2, rfl, hc2, hNw⟩ := hL.own.reads
                    have o0 := hL.c0
                    have o1 := hL.c1
                    have r0 := hL.head.r0
                    have r1 := hL.head.r1
                    have f0 := hL.head.free 0
                    have f1 := hL.head.free 1
                    have ht := Lib.hid (hL.head.told (.slice A2 (newTo l K l.length).length c2) (.int .i64 room))
                    have hne := own_ne hL.own hL.head.res (by decide)
                    have hown := World.ownsRow.kept (World.ownsRow.kept hL.own (but_set (b := w.heap.size + 1) 0 (.slice A2 (newTo l K l.length).length c2)) (.inr hne)) (but_set (b := w.heap.size + 1) 1 (.int .i64 room)) (.inr hne)
                    have hne2 := (fun (u : Value) (h : Own wr wo.heap.size u (outK K R R.length)) (e : u.ownBlock = some (w.heap.size + 1)) => (absurd (World.ownsRow.lt h _ e).1 (by omega) : False)) _ HO.out
                    have hro := World.ownsRow.kept (World.ownsRow.kept HO.out (but_set (b := w.heap.size + 1) 0 (.slice A2 (newTo l K l.length).length c2)) (.inr hne2)) (but_set (b := w.heap.size + 1) 1 (.int .i64 room)) (.inr hne2)
                    rw [outK_all] at hro
                    have HRD := Lib.hid (Own.reads hro)
                    have HOW := Lib.hid (OwnN.reads hown)
                    have hK2 : newTo l K l.length = liveL l R ∧ (R.map fun r => (cnt K r.toNat : Int)) = liveAt l R := by rw [HKE.out]; exact ⟨rfl, rfl⟩
                    have HK2 := Lib.hid hK2
                    have HL6 : Hid (live6 l room R = (liveL l R, liveAt l R, 0)) := by
                      show live6 l room R = _
                      unfold live6
                      rw [HRI.out, HRO.out]
                      rfl
                    clear hL hNw hne hne2 hown hro hK2 HO
                    go_wp2_with fail
                    refine bodyPost_ret (results_cell3 rfl _ _ _ _ _ _ _ rfl ht.out.1 Try.underlying25 rfl (by kernel_rfl)) rfl ?_
                    rw [HL6.out]
                    exact ⟨_, _, rfl, HK2.out.1 ▸ HOW.out, HK2.out.2 ▸ HRD.out, ht.out.2⟩
end Go.Proofs.Ytcmdhochofoohaa
