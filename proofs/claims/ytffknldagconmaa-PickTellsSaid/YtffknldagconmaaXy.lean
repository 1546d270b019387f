/-
  PickTells: who is next, and all turns, are as the document says.
-/
import Derived.Test.YtffknldagconmaaB04
namespace Go.Proofs.Ytffknldagconmaa
set_option maxRecDepth 100000
set_option linter.unusedVariables false
set_option linter.unusedSimpArgs false
open Go.RowKit Go.Sort

theorem InL.take {w : World} {A : Option Addr} {l : List Int} {c : Nat} (h : InL w A l c) (n : Nat) : InL w A (l.take n) c := by
  have hg : ∀ j, j < (l.take n).length → (l.take n).getD j 0 = l.getD j 0 := fun j hj => by
    rw [List.length_take] at hj
    rw [List.getD_eq_getElem?_getD, List.getD_eq_getElem?_getD, List.getElem?_take, if_pos (by omega)]
  refine ⟨fun j hj => ?_, by rw [List.length_take]; have := h.len; omega, fun j hj => ?_⟩
  · rw [hg j hj]
    rw [List.length_take] at hj
    exact h.now j (by omega)
  · rw [hg j hj]
    rw [List.length_take] at hj
    exact h.fit j (by omega)
theorem left_i64 (raw : List Int) : ∀ j, j < (leftP raw).length → I64 ((leftP raw).getD j 0) := fun j _ => by
  have := leftP_bd raw j
  unfold I64
  omega
theorem two_cells {w : World} {x y : Value} {t : TypeId} : ∀ k, k < 2 → ∃ v, (v = x ∧ k = 0 ∨ v = y ∧ k = 1) ∧ (w.alloc (.cells #[x, y] t)).cell? ⟨w.heap.size, k, none⟩ = some v := by
  intro k hk
  rcases (by omega : k = 0 ∨ k = 1) with rfl | rfl
  · exact ⟨x, .inl ⟨rfl, rfl⟩, by rw [Lib.cell_of_heap (heap_alloc_new w _)]; rfl⟩
  · exact ⟨y, .inr ⟨rfl, rfl⟩, by rw [Lib.cell_of_heap (heap_alloc_new w _)]; rfl⟩
set_option maxHeartbeats 16000000 in
theorem pickTells11 (A : Option Addr) (picks : List Int) (c : Nat) (step : Int) (B : Option Addr) (any : List Int) (d : Nat) (last : Int) (C : Option Addr) (raw : List Int) (e : Nat) (w : World) (hP : InL w A picks c) (hpc : picks.length ≤ c) (hs : I64 step) (hA : InL w B any d) (hac : any.length ≤ d) (hla : I64 last) (hR : InL w C raw e)
    (hp60 : 60 < picks.length) (ha20 : 20 < any.length) :
    Calls Try.prog 3 #[.slice A picks.length c, .int .i64 step, .slice B any.length d, .int .i64 last, .slice C raw.length e] w fun e w' => e = .returned (.bool true) ∧ Below w.heap.size w w' := by
  have HP := Lib.hid (show InL w A (picks.take 60) c from hP.take 60)
  have HA := Lib.hid (show InL w B (any.take 20) d from hA.take 20)
  have HR := Lib.hid hR
  have hPl : (picks.take 60).length = 60 := by rw [List.length_take]; omega
  have hLl : (any.take 20).length = 20 := by rw [List.length_take]; omega
  have HSL := Lib.hid (And.intro hs hla)
  have HPL := Lib.hid hPl
  have HLL := Lib.hid hLl
  have hpn := HP.out.len
  clear hP hA hR hPl hLl hs hla
  go_enter Try.func3, Try.ntmps3
  go_wp2_with fail
  refine (awake11_any w).mono ?_
  rintro r w1 ⟨rfl, hb1⟩
  have HB1 := Lib.hid hb1
  clear hb1
  go_wp2_with fail
  refine (left11_any C raw e w1 (HR.out.now.below HB1.out) HR.out.len HR.out.fit).mono ?_
  rintro r w2 ⟨v2, rfl, ho2, hb2⟩
  obtain ⟨A2, c2, rfl, hc2, hN2⟩ := own_slice ho2
  have HB2 := Lib.hid (Qt.more HB1.out HB1.out.size hb2)
  have HN2 := Lib.hid (show InL w2 A2 (leftP raw) c2 from ⟨hN2, by have := leftP_len raw; omega, left_i64 raw⟩)
  have hll := leftP_len raw
  have hal := (Below.refl w2.heap.size w2).alloc (Nat.le_refl _) (.cells #[.slice B 20 d, .slice A2 (leftP raw).length c2] 22)
  have hx : ∀ k, k < 2 → ∃ (Ax : Option Addr) (lx : List Int) (cx : Nat), (w2.alloc (.cells #[.slice B 20 d, .slice A2 (leftP raw).length c2] 22)).cell? ⟨w2.heap.size, k, none⟩ = some (.slice Ax lx.length cx) ∧ InL (w2.alloc (.cells #[.slice B 20 d, .slice A2 (leftP raw).length c2] 22)) Ax lx cx ∧ lx.length ≤ 1000 := fun k hk => by
    obtain ⟨v, hv, hc⟩ := two_cells (w := w2) (x := .slice B 20 d) (y := .slice A2 (leftP raw).length c2) (t := 22) k hk
    rcases hv with ⟨rfl, rfl⟩ | ⟨rfl, rfl⟩
    · exact ⟨B, (any.take 20), d, by rw [HLL.out]; exact hc, (HA.out.below HB2.out).below hal, by rw [HLL.out]; omega⟩
    · exact ⟨A2, leftP raw, c2, hc, HN2.out.below hal, by omega⟩
  have HX := Lib.hid hx
  have HB3 := Lib.hid (Qt.more HB2.out HB2.out.size hal)
  have hlt : Hid (w2.heap.size < (w2.alloc (.cells #[.slice B 20 d, .slice A2 (leftP raw).length c2] 22)).heap.size) := by show _ < _; simp
  clear hb2 ho2 hN2 HB1 hx hal HN2
  go_wp2_with fail
  generalize w2.alloc (.cells #[.slice B 20 d, .slice A2 (leftP raw).length c2] 22) = w3 at *
  generalize w2.heap.size = bx at *
  go_loopw [37] (fun i wr => ∃ k : Nat, k ≤ 2 ∧ i = .int .i64 k ∧ Hid (Below w3.heap.size w3 wr)) (fun i _ => 2 - (intOf i).toNat)
  case atStart => exact ⟨0, by omega, rfl, Below.refl _ _⟩
  case round =>
    obtain ⟨k, hk, rfl, HBW⟩ := hrel
    by_cases hk2 : k < 2
    · have hkz : (k : Int) < 2 := by omega
      obtain ⟨Ax, lx, cx, hcx, hIx, hlx⟩ := HX.out k hk2
      have y0 := (HBW.out.cell (p := ⟨bx, k, none⟩) hlt.out).trans hcx
      have HIX := Lib.hid (hIx.below HBW.out)
      have HIP := Lib.hid ((HP.out.below HB3.out).below HBW.out)
      have hp1 := fun W => which11_any step 12 W HSL.out.1 (by decide) (by decide)
      have hp2 := fun W => which11_any last 12 W HSL.out.2 (by decide) (by decide)
      have b1 := pickI_bd step 12 (by decide)
      have b2 := pickI_bd last 12 (by decide)
      obtain ⟨z1, hz1⟩ : ∃ z, z = pickI step 12 := ⟨_, rfl⟩
      obtain ⟨z2, hz2⟩ : ∃ z, z = pickI last 12 := ⟨_, rfl⟩
      rw [← hz1] at hp1 b1
      rw [← hz2] at hp2 b2
      clear hcx hIx hz1 hz2
      go_wp2_with fail
      refine (hp1 _).mono ?_
      rintro r w4 ⟨rfl, hw4⟩
      subst hw4
      clear hp1
      go_wp2_with fail
      refine (hp2 _).mono ?_
      rintro r w4 ⟨rfl, hw4⟩
      subst hw4
      clear hp2 y0
      have hal := (Below.refl wr.heap.size wr).alloc (Nat.le_refl _) (.cells #[.int .i64 step, .int .i64 last, .int .i64 z1, .int .i64 (z2 - 1)] 26)
      have hrow := heap_alloc_new wr (.cells #[.int .i64 step, .int .i64 last, .int .i64 z1, .int .i64 (z2 - 1)] 26)
      have hy : ∀ m, m < 2 → ∃ (s la : Int), (I64 s ∧ I64 la) ∧ (wr.alloc (.cells #[.int .i64 step, .int .i64 last, .int .i64 z1, .int .i64 (z2 - 1)] 26)).cell? ⟨wr.heap.size, m * 2, none⟩ = some (.int .i64 s) ∧ (wr.alloc (.cells #[.int .i64 step, .int .i64 last, .int .i64 z1, .int .i64 (z2 - 1)] 26)).cell? ⟨wr.heap.size, m * 2 + 1, none⟩ = some (.int .i64 la) := fun m hm => by
        rcases (by omega : m = 0 ∨ m = 1) with rfl | rfl
        · exact ⟨step, last, HSL.out, by rw [Lib.cell_of_heap hrow]; rfl, by rw [Lib.cell_of_heap hrow]; rfl⟩
        · exact ⟨z1, z2 - 1, by unfold I64; omega, by rw [Lib.cell_of_heap hrow]; rfl, by rw [Lib.cell_of_heap hrow]; rfl⟩
      have HY := Lib.hid hy
      have HB4 := Lib.hid (HBW.out.trans (hal.mono HBW.out.size))
      have HAL := Lib.hid hal
      have hlt4 : Hid (wr.heap.size < (wr.alloc (.cells #[.int .i64 step, .int .i64 last, .int .i64 z1, .int .i64 (z2 - 1)] 26)).heap.size) := by show _ < _; simp
      have HIX2 := Lib.hid (HIX.out.below hal)
      have HIP2 := Lib.hid (HIP.out.below hal)
      clear hal hrow hy HIX HIP HBW HAL
      go_wp2_with fail
      generalize wr.alloc (.cells #[.int .i64 step, .int .i64 last, .int .i64 z1, .int .i64 (z2 - 1)] 26) = w4 at *
      generalize wr.heap.size = by_ at *
      go_loopw [52] (fun i wr => ∃ m : Nat, m ≤ 2 ∧ i = .int .i64 m ∧ Hid (Below w4.heap.size w4 wr)) (fun i _ => 2 - (intOf i).toNat)
      case atStart => exact ⟨0, by omega, rfl, Below.refl _ _⟩
      case round =>
        obtain ⟨m, hm, rfl, HBV⟩ := hrel
        by_cases hm2 : m < 2
        · have hmz : (m : Int) < 2 := by omega
          obtain ⟨s, la, ⟨hs, hla⟩, e1, e2⟩ := HY.out m hm2
          have y1 := (HBV.out.cell (p := ⟨by_, m * 2, none⟩) hlt4.out).trans e1
          have y2 := (HBV.out.cell (p := ⟨by_, m * 2 + 1, none⟩) hlt4.out).trans e2
          have hal := (Below.refl wr.heap.size wr).alloc (Nat.le_refl _) (.cells #[.int .i64 s, .int .i64 la] 26)
          have hrow := heap_alloc_new wr (.cells #[.int .i64 s, .int .i64 la] 26)
          have HW := Lib.hid (HBV.out.trans (hal.mono HBV.out.size))
          have HRW := Lib.hid hrow
          have HSA := Lib.hid (And.intro hs hla)
          clear e1 e2 hal hrow hs hla
          go_wp2_with fail
          generalize wr.alloc (.cells #[.int .i64 s, .int .i64 la] 26) = w5 at *
          generalize wr.heap.size = bz at *
          clear y1 y2
          have q0 := Qt.cell_in (show w5.cell? ⟨bz, 0, none⟩ = some (.int .i64 s) by rw [Lib.cell_of_heap HRW.out]; rfl)
          have q1 := Qt.cell_in (show w5.cell? ⟨bz, 1, none⟩ = some (.int .i64 la) by rw [Lib.cell_of_heap HRW.out]; rfl)
          have hIX5 := HIX2.out.below HW.out
          have hIP5 := HIP2.out.below HW.out
          have h1 := fun W (hb : Below w5.heap.size w5 W) => next11_any A Ax (picks.take 60) lx c cx s la W (hIP5.below hb) (hIX5.below hb) (by omega) HSA.out.1 HSA.out.2
          have h2 := fun W (hb : Below w5.heap.size w5 W) => refNext11_any A Ax (picks.take 60) lx c cx s la W (hIP5.below hb) (hIX5.below hb) (by omega) HSA.out.1 HSA.out.2
          rw [HPL.out] at h1 h2
          have hnn : (nextP (picks.take 60) s lx la != nextP (picks.take 60) s lx la) = false := by simp
          generalize nextP (picks.take 60) s lx la = nx at *
          clear hIX5 hIP5
          refine Qt.below_all (by kernel_rfl) (by kernel_rfl) ?_
          repeat (go_big_quiet_step (first
            | (go_at_call 12; exact Qt.at_same h1)
            | (go_at_call 13; exact Qt.at_same h2)))
          refine wpQuiet_nil ?_
          intro w6 hb6
          have HN : Hid (Below w4.heap.size w4 w6) := Qt.more HW.out HW.out.size hb6
          clear q0 q1 h1 h2 hb6
          go_wp2_with fail
          go_roundw
          case measure => simp [intOf]; omega
          case rel => exact ⟨m + 1, by omega, by go_num, HN.out⟩
        · obtain rfl : m = 2 := by omega
          have hmz : ¬ ((2 : Nat) : Int) < 2 := by decide
          have HN : Hid (Below w3.heap.size w3 wr) := HB4.out.trans (HBV.out.mono HB4.out.size)
          go_wp2_with fail
          go_roundw
          case measure => simp [intOf]; omega
          case rel => exact ⟨k + 1, by omega, by go_num, HN.out⟩
    · obtain rfl : k = 2 := by omega
      have hkz : ¬ ((2 : Nat) : Int) < 2 := by decide
      have HB5 := Lib.hid (HB3.out.trans (HBW.out.mono HB3.out.size))
      clear HB3 HBW HX
      go_wp2_with fail
      refine (left11_any C raw e wr (HR.out.now.below HB5.out) HR.out.len HR.out.fit).mono ?_
      rintro r w6 ⟨v6, rfl, ho6, hb6⟩
      obtain ⟨A6, c6, rfl, hc6, hN6⟩ := own_slice ho6
      have HB6 := Lib.hid (Qt.more HB5.out HB5.out.size hb6)
      have htt := left_tot raw
      have HM := Lib.hid (left_bd raw)
      generalize leftP raw = l at *
      have h7 := turns11_any A A6 (picks.take 60) l c c6 w6 (HP.out.below HB6.out) hN6 (by omega) HM.out (by omega)
      rw [HPL.out] at h7
      have HN6 := Lib.hid hN6
      clear hb6 ho6 hN6 HB5
      go_wp2_with fail
      refine h7.mono ?_
      rintro r w7 ⟨v7, rfl, ho7, hb7⟩
      obtain ⟨A7, c7, rfl, hc7, hN7⟩ := own_slice ho7
      rw [turns_len] at hc7
      rw [turns_len]
      have HB7 := Lib.hid (Qt.more HB6.out HB6.out.size hb7)
      have HN7 := Lib.hid hN7
      have h8 := refTurns11_any A A6 (picks.take 60) l c c6 w7 (HP.out.below HB7.out) (HN6.out.below hb7) (by omega) HM.out (by omega)
      rw [HPL.out] at h8
      clear h7 ho7 hb7 hN7 HB6 HN6
      go_wp2_with fail
      refine h8.mono ?_
      rintro r w8 ⟨v8, rfl, ho8, hb8⟩
      obtain ⟨A8, c8, rfl, hc8, hN8⟩ := own_slice ho8
      rw [turns_len] at hc8
      rw [turns_len]
      have HB8 := Lib.hid (Qt.more HB7.out HB7.out.size hb8)
      have hin := ints_yes (c := c7) (c' := c8) (HN7.out.below hb8) hN8 rfl rfl (by rw [turns_len]; omega) rfl
      rw [turns_len] at hin
      clear h8 ho8 hb8 hN8 HB7 HN7
      go_wp2_with fail
      refine hin.mono ?_
      rintro r w9 ⟨rfl, hb9⟩
      have HB9 := Lib.hid (Qt.more HB8.out HB8.out.size hb9)
      clear hin hb9
      go_wp2_with fail
      go_ret
      exact ⟨rfl, HB9.out⟩
set_option maxHeartbeats 16000000 in
theorem pickTells10 (A : Option Addr) (picks : List Int) (c : Nat) (step : Int) (B : Option Addr) (any : List Int) (d : Nat) (last : Int) (C : Option Addr) (raw : List Int) (e : Nat) (w : World) (hP : InL w A picks c) (hpc : picks.length ≤ c) (hs : I64 step) (hA : InL w B any d) (hac : any.length ≤ d) (hla : I64 last) (hR : InL w C raw e)
    (hp60 : 60 < picks.length) (ha20 : ¬ 20 < any.length) :
    Calls Try.prog 3 #[.slice A picks.length c, .int .i64 step, .slice B any.length d, .int .i64 last, .slice C raw.length e] w fun e w' => e = .returned (.bool true) ∧ Below w.heap.size w w' := by
  have HP := Lib.hid (show InL w A (picks.take 60) c from hP.take 60)
  have HA := Lib.hid (show InL w B any d from hA)
  have HR := Lib.hid hR
  have hPl : (picks.take 60).length = 60 := by rw [List.length_take]; omega
  have hLl : any.length = any.length := by rfl
  have HSL := Lib.hid (And.intro hs hla)
  have HPL := Lib.hid hPl
  have HLL := Lib.hid hLl
  have hpn := HP.out.len
  clear hP hA hR hPl hLl hs hla
  go_enter Try.func3, Try.ntmps3
  go_wp2_with fail
  refine (awake11_any w).mono ?_
  rintro r w1 ⟨rfl, hb1⟩
  have HB1 := Lib.hid hb1
  clear hb1
  go_wp2_with fail
  refine (left11_any C raw e w1 (HR.out.now.below HB1.out) HR.out.len HR.out.fit).mono ?_
  rintro r w2 ⟨v2, rfl, ho2, hb2⟩
  obtain ⟨A2, c2, rfl, hc2, hN2⟩ := own_slice ho2
  have HB2 := Lib.hid (Qt.more HB1.out HB1.out.size hb2)
  have HN2 := Lib.hid (show InL w2 A2 (leftP raw) c2 from ⟨hN2, by have := leftP_len raw; omega, left_i64 raw⟩)
  have hll := leftP_len raw
  have hal := (Below.refl w2.heap.size w2).alloc (Nat.le_refl _) (.cells #[.slice B any.length d, .slice A2 (leftP raw).length c2] 22)
  have hx : ∀ k, k < 2 → ∃ (Ax : Option Addr) (lx : List Int) (cx : Nat), (w2.alloc (.cells #[.slice B any.length d, .slice A2 (leftP raw).length c2] 22)).cell? ⟨w2.heap.size, k, none⟩ = some (.slice Ax lx.length cx) ∧ InL (w2.alloc (.cells #[.slice B any.length d, .slice A2 (leftP raw).length c2] 22)) Ax lx cx ∧ lx.length ≤ 1000 := fun k hk => by
    obtain ⟨v, hv, hc⟩ := two_cells (w := w2) (x := .slice B any.length d) (y := .slice A2 (leftP raw).length c2) (t := 22) k hk
    rcases hv with ⟨rfl, rfl⟩ | ⟨rfl, rfl⟩
    · exact ⟨B, any, d, hc, (HA.out.below HB2.out).below hal, by omega⟩
    · exact ⟨A2, leftP raw, c2, hc, HN2.out.below hal, by omega⟩
  have HX := Lib.hid hx
  have HB3 := Lib.hid (Qt.more HB2.out HB2.out.size hal)
  have hlt : Hid (w2.heap.size < (w2.alloc (.cells #[.slice B any.length d, .slice A2 (leftP raw).length c2] 22)).heap.size) := by show _ < _; simp
  clear hb2 ho2 hN2 HB1 hx hal HN2
  go_wp2_with fail
  generalize w2.alloc (.cells #[.slice B any.length d, .slice A2 (leftP raw).length c2] 22) = w3 at *
  generalize w2.heap.size = bx at *
  go_loopw [37] (fun i wr => ∃ k : Nat, k ≤ 2 ∧ i = .int .i64 k ∧ Hid (Below w3.heap.size w3 wr)) (fun i _ => 2 - (intOf i).toNat)
  case atStart => exact ⟨0, by omega, rfl, Below.refl _ _⟩
  case round =>
    obtain ⟨k, hk, rfl, HBW⟩ := hrel
    by_cases hk2 : k < 2
    · have hkz : (k : Int) < 2 := by omega
      obtain ⟨Ax, lx, cx, hcx, hIx, hlx⟩ := HX.out k hk2
      have y0 := (HBW.out.cell (p := ⟨bx, k, none⟩) hlt.out).trans hcx
      have HIX := Lib.hid (hIx.below HBW.out)
      have HIP := Lib.hid ((HP.out.below HB3.out).below HBW.out)
      have hp1 := fun W => which11_any step 12 W HSL.out.1 (by decide) (by decide)
      have hp2 := fun W => which11_any last 12 W HSL.out.2 (by decide) (by decide)
      have b1 := pickI_bd step 12 (by decide)
      have b2 := pickI_bd last 12 (by decide)
      obtain ⟨z1, hz1⟩ : ∃ z, z = pickI step 12 := ⟨_, rfl⟩
      obtain ⟨z2, hz2⟩ : ∃ z, z = pickI last 12 := ⟨_, rfl⟩
      rw [← hz1] at hp1 b1
      rw [← hz2] at hp2 b2
      clear hcx hIx hz1 hz2
      go_wp2_with fail
      refine (hp1 _).mono ?_
      rintro r w4 ⟨rfl, hw4⟩
      subst hw4
      clear hp1
      go_wp2_with fail
      refine (hp2 _).mono ?_
      rintro r w4 ⟨rfl, hw4⟩
      subst hw4
      clear hp2 y0
      have hal := (Below.refl wr.heap.size wr).alloc (Nat.le_refl _) (.cells #[.int .i64 step, .int .i64 last, .int .i64 z1, .int .i64 (z2 - 1)] 26)
      have hrow := heap_alloc_new wr (.cells #[.int .i64 step, .int .i64 last, .int .i64 z1, .int .i64 (z2 - 1)] 26)
      have hy : ∀ m, m < 2 → ∃ (s la : Int), (I64 s ∧ I64 la) ∧ (wr.alloc (.cells #[.int .i64 step, .int .i64 last, .int .i64 z1, .int .i64 (z2 - 1)] 26)).cell? ⟨wr.heap.size, m * 2, none⟩ = some (.int .i64 s) ∧ (wr.alloc (.cells #[.int .i64 step, .int .i64 last, .int .i64 z1, .int .i64 (z2 - 1)] 26)).cell? ⟨wr.heap.size, m * 2 + 1, none⟩ = some (.int .i64 la) := fun m hm => by
        rcases (by omega : m = 0 ∨ m = 1) with rfl | rfl
        · exact ⟨step, last, HSL.out, by rw [Lib.cell_of_heap hrow]; rfl, by rw [Lib.cell_of_heap hrow]; rfl⟩
        · exact ⟨z1, z2 - 1, by unfold I64; omega, by rw [Lib.cell_of_heap hrow]; rfl, by rw [Lib.cell_of_heap hrow]; rfl⟩
      have HY := Lib.hid hy
      have HB4 := Lib.hid (HBW.out.trans (hal.mono HBW.out.size))
      have HAL := Lib.hid hal
      have hlt4 : Hid (wr.heap.size < (wr.alloc (.cells #[.int .i64 step, .int .i64 last, .int .i64 z1, .int .i64 (z2 - 1)] 26)).heap.size) := by show _ < _; simp
      have HIX2 := Lib.hid (HIX.out.below hal)
      have HIP2 := Lib.hid (HIP.out.below hal)
      clear hal hrow hy HIX HIP HBW HAL
      go_wp2_with fail
      generalize wr.alloc (.cells #[.int .i64 step, .int .i64 last, .int .i64 z1, .int .i64 (z2 - 1)] 26) = w4 at *
      generalize wr.heap.size = by_ at *
      go_loopw [52] (fun i wr => ∃ m : Nat, m ≤ 2 ∧ i = .int .i64 m ∧ Hid (Below w4.heap.size w4 wr)) (fun i _ => 2 - (intOf i).toNat)
      case atStart => exact ⟨0, by omega, rfl, Below.refl _ _⟩
      case round =>
        obtain ⟨m, hm, rfl, HBV⟩ := hrel
        by_cases hm2 : m < 2
        · have hmz : (m : Int) < 2 := by omega
          obtain ⟨s, la, ⟨hs, hla⟩, e1, e2⟩ := HY.out m hm2
          have y1 := (HBV.out.cell (p := ⟨by_, m * 2, none⟩) hlt4.out).trans e1
          have y2 := (HBV.out.cell (p := ⟨by_, m * 2 + 1, none⟩) hlt4.out).trans e2
          have hal := (Below.refl wr.heap.size wr).alloc (Nat.le_refl _) (.cells #[.int .i64 s, .int .i64 la] 26)
          have hrow := heap_alloc_new wr (.cells #[.int .i64 s, .int .i64 la] 26)
          have HW := Lib.hid (HBV.out.trans (hal.mono HBV.out.size))
          have HRW := Lib.hid hrow
          have HSA := Lib.hid (And.intro hs hla)
          clear e1 e2 hal hrow hs hla
          go_wp2_with fail
          generalize wr.alloc (.cells #[.int .i64 s, .int .i64 la] 26) = w5 at *
          generalize wr.heap.size = bz at *
          clear y1 y2
          have q0 := Qt.cell_in (show w5.cell? ⟨bz, 0, none⟩ = some (.int .i64 s) by rw [Lib.cell_of_heap HRW.out]; rfl)
          have q1 := Qt.cell_in (show w5.cell? ⟨bz, 1, none⟩ = some (.int .i64 la) by rw [Lib.cell_of_heap HRW.out]; rfl)
          have hIX5 := HIX2.out.below HW.out
          have hIP5 := HIP2.out.below HW.out
          have h1 := fun W (hb : Below w5.heap.size w5 W) => next11_any A Ax (picks.take 60) lx c cx s la W (hIP5.below hb) (hIX5.below hb) (by omega) HSA.out.1 HSA.out.2
          have h2 := fun W (hb : Below w5.heap.size w5 W) => refNext11_any A Ax (picks.take 60) lx c cx s la W (hIP5.below hb) (hIX5.below hb) (by omega) HSA.out.1 HSA.out.2
          rw [HPL.out] at h1 h2
          have hnn : (nextP (picks.take 60) s lx la != nextP (picks.take 60) s lx la) = false := by simp
          generalize nextP (picks.take 60) s lx la = nx at *
          clear hIX5 hIP5
          refine Qt.below_all (by kernel_rfl) (by kernel_rfl) ?_
          repeat (go_big_quiet_step (first
            | (go_at_call 12; exact Qt.at_same h1)
            | (go_at_call 13; exact Qt.at_same h2)))
          refine wpQuiet_nil ?_
          intro w6 hb6
          have HN : Hid (Below w4.heap.size w4 w6) := Qt.more HW.out HW.out.size hb6
          clear q0 q1 h1 h2 hb6
          go_wp2_with fail
          go_roundw
          case measure => simp [intOf]; omega
          case rel => exact ⟨m + 1, by omega, by go_num, HN.out⟩
        · obtain rfl : m = 2 := by omega
          have hmz : ¬ ((2 : Nat) : Int) < 2 := by decide
          have HN : Hid (Below w3.heap.size w3 wr) := HB4.out.trans (HBV.out.mono HB4.out.size)
          go_wp2_with fail
          go_roundw
          case measure => simp [intOf]; omega
          case rel => exact ⟨k + 1, by omega, by go_num, HN.out⟩
    · obtain rfl : k = 2 := by omega
      have hkz : ¬ ((2 : Nat) : Int) < 2 := by decide
      have HB5 := Lib.hid (HB3.out.trans (HBW.out.mono HB3.out.size))
      clear HB3 HBW HX
      go_wp2_with fail
      refine (left11_any C raw e wr (HR.out.now.below HB5.out) HR.out.len HR.out.fit).mono ?_
      rintro r w6 ⟨v6, rfl, ho6, hb6⟩
      obtain ⟨A6, c6, rfl, hc6, hN6⟩ := own_slice ho6
      have HB6 := Lib.hid (Qt.more HB5.out HB5.out.size hb6)
      have htt := left_tot raw
      have HM := Lib.hid (left_bd raw)
      generalize leftP raw = l at *
      have h7 := turns11_any A A6 (picks.take 60) l c c6 w6 (HP.out.below HB6.out) hN6 (by omega) HM.out (by omega)
      rw [HPL.out] at h7
      have HN6 := Lib.hid hN6
      clear hb6 ho6 hN6 HB5
      go_wp2_with fail
      refine h7.mono ?_
      rintro r w7 ⟨v7, rfl, ho7, hb7⟩
      obtain ⟨A7, c7, rfl, hc7, hN7⟩ := own_slice ho7
      rw [turns_len] at hc7
      rw [turns_len]
      have HB7 := Lib.hid (Qt.more HB6.out HB6.out.size hb7)
      have HN7 := Lib.hid hN7
      have h8 := refTurns11_any A A6 (picks.take 60) l c c6 w7 (HP.out.below HB7.out) (HN6.out.below hb7) (by omega) HM.out (by omega)
      rw [HPL.out] at h8
      clear h7 ho7 hb7 hN7 HB6 HN6
      go_wp2_with fail
      refine h8.mono ?_
      rintro r w8 ⟨v8, rfl, ho8, hb8⟩
      obtain ⟨A8, c8, rfl, hc8, hN8⟩ := own_slice ho8
      rw [turns_len] at hc8
      rw [turns_len]
      have HB8 := Lib.hid (Qt.more HB7.out HB7.out.size hb8)
      have hin := ints_yes (c := c7) (c' := c8) (HN7.out.below hb8) hN8 rfl rfl (by rw [turns_len]; omega) rfl
      rw [turns_len] at hin
      clear h8 ho8 hb8 hN8 HB7 HN7
      go_wp2_with fail
      refine hin.mono ?_
      rintro r w9 ⟨rfl, hb9⟩
      have HB9 := Lib.hid (Qt.more HB8.out HB8.out.size hb9)
      clear hin hb9
      go_wp2_with fail
      go_ret
      exact ⟨rfl, HB9.out⟩
set_option maxHeartbeats 16000000 in
theorem pickTells01 (A : Option Addr) (picks : List Int) (c : Nat) (step : Int) (B : Option Addr) (any : List Int) (d : Nat) (last : Int) (C : Option Addr) (raw : List Int) (e : Nat) (w : World) (hP : InL w A picks c) (hpc : picks.length ≤ c) (hs : I64 step) (hA : InL w B any d) (hac : any.length ≤ d) (hla : I64 last) (hR : InL w C raw e)
    (hp60 : ¬ 60 < picks.length) (ha20 : 20 < any.length) :
    Calls Try.prog 3 #[.slice A picks.length c, .int .i64 step, .slice B any.length d, .int .i64 last, .slice C raw.length e] w fun e w' => e = .returned (.bool true) ∧ Below w.heap.size w w' := by
  have HP := Lib.hid (show InL w A picks c from hP)
  have HA := Lib.hid (show InL w B (any.take 20) d from hA.take 20)
  have HR := Lib.hid hR
  have hPl : picks.length = picks.length := by rfl
  have hLl : (any.take 20).length = 20 := by rw [List.length_take]; omega
  have HSL := Lib.hid (And.intro hs hla)
  have HPL := Lib.hid hPl
  have HLL := Lib.hid hLl
  have hpn := HP.out.len
  clear hP hA hR hPl hLl hs hla
  go_enter Try.func3, Try.ntmps3
  go_wp2_with fail
  refine (awake11_any w).mono ?_
  rintro r w1 ⟨rfl, hb1⟩
  have HB1 := Lib.hid hb1
  clear hb1
  go_wp2_with fail
  refine (left11_any C raw e w1 (HR.out.now.below HB1.out) HR.out.len HR.out.fit).mono ?_
  rintro r w2 ⟨v2, rfl, ho2, hb2⟩
  obtain ⟨A2, c2, rfl, hc2, hN2⟩ := own_slice ho2
  have HB2 := Lib.hid (Qt.more HB1.out HB1.out.size hb2)
  have HN2 := Lib.hid (show InL w2 A2 (leftP raw) c2 from ⟨hN2, by have := leftP_len raw; omega, left_i64 raw⟩)
  have hll := leftP_len raw
  have hal := (Below.refl w2.heap.size w2).alloc (Nat.le_refl _) (.cells #[.slice B 20 d, .slice A2 (leftP raw).length c2] 22)
  have hx : ∀ k, k < 2 → ∃ (Ax : Option Addr) (lx : List Int) (cx : Nat), (w2.alloc (.cells #[.slice B 20 d, .slice A2 (leftP raw).length c2] 22)).cell? ⟨w2.heap.size, k, none⟩ = some (.slice Ax lx.length cx) ∧ InL (w2.alloc (.cells #[.slice B 20 d, .slice A2 (leftP raw).length c2] 22)) Ax lx cx ∧ lx.length ≤ 1000 := fun k hk => by
    obtain ⟨v, hv, hc⟩ := two_cells (w := w2) (x := .slice B 20 d) (y := .slice A2 (leftP raw).length c2) (t := 22) k hk
    rcases hv with ⟨rfl, rfl⟩ | ⟨rfl, rfl⟩
    · exact ⟨B, (any.take 20), d, by rw [HLL.out]; exact hc, (HA.out.below HB2.out).below hal, by rw [HLL.out]; omega⟩
    · exact ⟨A2, leftP raw, c2, hc, HN2.out.below hal, by omega⟩
  have HX := Lib.hid hx
  have HB3 := Lib.hid (Qt.more HB2.out HB2.out.size hal)
  have hlt : Hid (w2.heap.size < (w2.alloc (.cells #[.slice B 20 d, .slice A2 (leftP raw).length c2] 22)).heap.size) := by show _ < _; simp
  clear hb2 ho2 hN2 HB1 hx hal HN2
  go_wp2_with fail
  generalize w2.alloc (.cells #[.slice B 20 d, .slice A2 (leftP raw).length c2] 22) = w3 at *
  generalize w2.heap.size = bx at *
  go_loopw [37] (fun i wr => ∃ k : Nat, k ≤ 2 ∧ i = .int .i64 k ∧ Hid (Below w3.heap.size w3 wr)) (fun i _ => 2 - (intOf i).toNat)
  case atStart => exact ⟨0, by omega, rfl, Below.refl _ _⟩
  case round =>
    obtain ⟨k, hk, rfl, HBW⟩ := hrel
    by_cases hk2 : k < 2
    · have hkz : (k : Int) < 2 := by omega
      obtain ⟨Ax, lx, cx, hcx, hIx, hlx⟩ := HX.out k hk2
      have y0 := (HBW.out.cell (p := ⟨bx, k, none⟩) hlt.out).trans hcx
      have HIX := Lib.hid (hIx.below HBW.out)
      have HIP := Lib.hid ((HP.out.below HB3.out).below HBW.out)
      have hp1 := fun W => which11_any step 12 W HSL.out.1 (by decide) (by decide)
      have hp2 := fun W => which11_any last 12 W HSL.out.2 (by decide) (by decide)
      have b1 := pickI_bd step 12 (by decide)
      have b2 := pickI_bd last 12 (by decide)
      obtain ⟨z1, hz1⟩ : ∃ z, z = pickI step 12 := ⟨_, rfl⟩
      obtain ⟨z2, hz2⟩ : ∃ z, z = pickI last 12 := ⟨_, rfl⟩
      rw [← hz1] at hp1 b1
      rw [← hz2] at hp2 b2
      clear hcx hIx hz1 hz2
      go_wp2_with fail
      refine (hp1 _).mono ?_
      rintro r w4 ⟨rfl, hw4⟩
      subst hw4
      clear hp1
      go_wp2_with fail
      refine (hp2 _).mono ?_
      rintro r w4 ⟨rfl, hw4⟩
      subst hw4
      clear hp2 y0
      have hal := (Below.refl wr.heap.size wr).alloc (Nat.le_refl _) (.cells #[.int .i64 step, .int .i64 last, .int .i64 z1, .int .i64 (z2 - 1)] 26)
      have hrow := heap_alloc_new wr (.cells #[.int .i64 step, .int .i64 last, .int .i64 z1, .int .i64 (z2 - 1)] 26)
      have hy : ∀ m, m < 2 → ∃ (s la : Int), (I64 s ∧ I64 la) ∧ (wr.alloc (.cells #[.int .i64 step, .int .i64 last, .int .i64 z1, .int .i64 (z2 - 1)] 26)).cell? ⟨wr.heap.size, m * 2, none⟩ = some (.int .i64 s) ∧ (wr.alloc (.cells #[.int .i64 step, .int .i64 last, .int .i64 z1, .int .i64 (z2 - 1)] 26)).cell? ⟨wr.heap.size, m * 2 + 1, none⟩ = some (.int .i64 la) := fun m hm => by
        rcases (by omega : m = 0 ∨ m = 1) with rfl | rfl
        · exact ⟨step, last, HSL.out, by rw [Lib.cell_of_heap hrow]; rfl, by rw [Lib.cell_of_heap hrow]; rfl⟩
        · exact ⟨z1, z2 - 1, by unfold I64; omega, by rw [Lib.cell_of_heap hrow]; rfl, by rw [Lib.cell_of_heap hrow]; rfl⟩
      have HY := Lib.hid hy
      have HB4 := Lib.hid (HBW.out.trans (hal.mono HBW.out.size))
      have HAL := Lib.hid hal
      have hlt4 : Hid (wr.heap.size < (wr.alloc (.cells #[.int .i64 step, .int .i64 last, .int .i64 z1, .int .i64 (z2 - 1)] 26)).heap.size) := by show _ < _; simp
      have HIX2 := Lib.hid (HIX.out.below hal)
      have HIP2 := Lib.hid (HIP.out.below hal)
      clear hal hrow hy HIX HIP HBW HAL
      go_wp2_with fail
      generalize wr.alloc (.cells #[.int .i64 step, .int .i64 last, .int .i64 z1, .int .i64 (z2 - 1)] 26) = w4 at *
      generalize wr.heap.size = by_ at *
      go_loopw [52] (fun i wr => ∃ m : Nat, m ≤ 2 ∧ i = .int .i64 m ∧ Hid (Below w4.heap.size w4 wr)) (fun i _ => 2 - (intOf i).toNat)
      case atStart => exact ⟨0, by omega, rfl, Below.refl _ _⟩
      case round =>
        obtain ⟨m, hm, rfl, HBV⟩ := hrel
        by_cases hm2 : m < 2
        · have hmz : (m : Int) < 2 := by omega
          obtain ⟨s, la, ⟨hs, hla⟩, e1, e2⟩ := HY.out m hm2
          have y1 := (HBV.out.cell (p := ⟨by_, m * 2, none⟩) hlt4.out).trans e1
          have y2 := (HBV.out.cell (p := ⟨by_, m * 2 + 1, none⟩) hlt4.out).trans e2
          have hal := (Below.refl wr.heap.size wr).alloc (Nat.le_refl _) (.cells #[.int .i64 s, .int .i64 la] 26)
          have hrow := heap_alloc_new wr (.cells #[.int .i64 s, .int .i64 la] 26)
          have HW := Lib.hid (HBV.out.trans (hal.mono HBV.out.size))
          have HRW := Lib.hid hrow
          have HSA := Lib.hid (And.intro hs hla)
          clear e1 e2 hal hrow hs hla
          go_wp2_with fail
          generalize wr.alloc (.cells #[.int .i64 s, .int .i64 la] 26) = w5 at *
          generalize wr.heap.size = bz at *
          clear y1 y2
          have q0 := Qt.cell_in (show w5.cell? ⟨bz, 0, none⟩ = some (.int .i64 s) by rw [Lib.cell_of_heap HRW.out]; rfl)
          have q1 := Qt.cell_in (show w5.cell? ⟨bz, 1, none⟩ = some (.int .i64 la) by rw [Lib.cell_of_heap HRW.out]; rfl)
          have hIX5 := HIX2.out.below HW.out
          have hIP5 := HIP2.out.below HW.out
          have h1 := fun W (hb : Below w5.heap.size w5 W) => next11_any A Ax picks lx c cx s la W (hIP5.below hb) (hIX5.below hb) (by omega) HSA.out.1 HSA.out.2
          have h2 := fun W (hb : Below w5.heap.size w5 W) => refNext11_any A Ax picks lx c cx s la W (hIP5.below hb) (hIX5.below hb) (by omega) HSA.out.1 HSA.out.2
          have hnn : (nextP picks s lx la != nextP picks s lx la) = false := by simp
          generalize nextP picks s lx la = nx at *
          clear hIX5 hIP5
          refine Qt.below_all (by kernel_rfl) (by kernel_rfl) ?_
          repeat (go_big_quiet_step (first
            | (go_at_call 12; exact Qt.at_same h1)
            | (go_at_call 13; exact Qt.at_same h2)))
          refine wpQuiet_nil ?_
          intro w6 hb6
          have HN : Hid (Below w4.heap.size w4 w6) := Qt.more HW.out HW.out.size hb6
          clear q0 q1 h1 h2 hb6
          go_wp2_with fail
          go_roundw
          case measure => simp [intOf]; omega
          case rel => exact ⟨m + 1, by omega, by go_num, HN.out⟩
        · obtain rfl : m = 2 := by omega
          have hmz : ¬ ((2 : Nat) : Int) < 2 := by decide
          have HN : Hid (Below w3.heap.size w3 wr) := HB4.out.trans (HBV.out.mono HB4.out.size)
          go_wp2_with fail
          go_roundw
          case measure => simp [intOf]; omega
          case rel => exact ⟨k + 1, by omega, by go_num, HN.out⟩
    · obtain rfl : k = 2 := by omega
      have hkz : ¬ ((2 : Nat) : Int) < 2 := by decide
      have HB5 := Lib.hid (HB3.out.trans (HBW.out.mono HB3.out.size))
      clear HB3 HBW HX
      go_wp2_with fail
      refine (left11_any C raw e wr (HR.out.now.below HB5.out) HR.out.len HR.out.fit).mono ?_
      rintro r w6 ⟨v6, rfl, ho6, hb6⟩
      obtain ⟨A6, c6, rfl, hc6, hN6⟩ := own_slice ho6
      have HB6 := Lib.hid (Qt.more HB5.out HB5.out.size hb6)
      have htt := left_tot raw
      have HM := Lib.hid (left_bd raw)
      generalize leftP raw = l at *
      have h7 := turns11_any A A6 picks l c c6 w6 (HP.out.below HB6.out) hN6 (by omega) HM.out (by omega)
      have HN6 := Lib.hid hN6
      clear hb6 ho6 hN6 HB5
      go_wp2_with fail
      refine h7.mono ?_
      rintro r w7 ⟨v7, rfl, ho7, hb7⟩
      obtain ⟨A7, c7, rfl, hc7, hN7⟩ := own_slice ho7
      rw [turns_len] at hc7
      rw [turns_len]
      have HB7 := Lib.hid (Qt.more HB6.out HB6.out.size hb7)
      have HN7 := Lib.hid hN7
      have h8 := refTurns11_any A A6 picks l c c6 w7 (HP.out.below HB7.out) (HN6.out.below hb7) (by omega) HM.out (by omega)
      clear h7 ho7 hb7 hN7 HB6 HN6
      go_wp2_with fail
      refine h8.mono ?_
      rintro r w8 ⟨v8, rfl, ho8, hb8⟩
      obtain ⟨A8, c8, rfl, hc8, hN8⟩ := own_slice ho8
      rw [turns_len] at hc8
      rw [turns_len]
      have HB8 := Lib.hid (Qt.more HB7.out HB7.out.size hb8)
      have hin := ints_yes (c := c7) (c' := c8) (HN7.out.below hb8) hN8 rfl rfl (by rw [turns_len]; omega) rfl
      rw [turns_len] at hin
      clear h8 ho8 hb8 hN8 HB7 HN7
      go_wp2_with fail
      refine hin.mono ?_
      rintro r w9 ⟨rfl, hb9⟩
      have HB9 := Lib.hid (Qt.more HB8.out HB8.out.size hb9)
      clear hin hb9
      go_wp2_with fail
      go_ret
      exact ⟨rfl, HB9.out⟩
set_option maxHeartbeats 16000000 in
theorem pickTells00 (A : Option Addr) (picks : List Int) (c : Nat) (step : Int) (B : Option Addr) (any : List Int) (d : Nat) (last : Int) (C : Option Addr) (raw : List Int) (e : Nat) (w : World) (hP : InL w A picks c) (hpc : picks.length ≤ c) (hs : I64 step) (hA : InL w B any d) (hac : any.length ≤ d) (hla : I64 last) (hR : InL w C raw e)
    (hp60 : ¬ 60 < picks.length) (ha20 : ¬ 20 < any.length) :
    Calls Try.prog 3 #[.slice A picks.length c, .int .i64 step, .slice B any.length d, .int .i64 last, .slice C raw.length e] w fun e w' => e = .returned (.bool true) ∧ Below w.heap.size w w' := by
  have HP := Lib.hid (show InL w A picks c from hP)
  have HA := Lib.hid (show InL w B any d from hA)
  have HR := Lib.hid hR
  have hPl : picks.length = picks.length := by rfl
  have hLl : any.length = any.length := by rfl
  have HSL := Lib.hid (And.intro hs hla)
  have HPL := Lib.hid hPl
  have HLL := Lib.hid hLl
  have hpn := HP.out.len
  clear hP hA hR hPl hLl hs hla
  go_enter Try.func3, Try.ntmps3
  go_wp2_with fail
  refine (awake11_any w).mono ?_
  rintro r w1 ⟨rfl, hb1⟩
  have HB1 := Lib.hid hb1
  clear hb1
  go_wp2_with fail
  refine (left11_any C raw e w1 (HR.out.now.below HB1.out) HR.out.len HR.out.fit).mono ?_
  rintro r w2 ⟨v2, rfl, ho2, hb2⟩
  obtain ⟨A2, c2, rfl, hc2, hN2⟩ := own_slice ho2
  have HB2 := Lib.hid (Qt.more HB1.out HB1.out.size hb2)
  have HN2 := Lib.hid (show InL w2 A2 (leftP raw) c2 from ⟨hN2, by have := leftP_len raw; omega, left_i64 raw⟩)
  have hll := leftP_len raw
  have hal := (Below.refl w2.heap.size w2).alloc (Nat.le_refl _) (.cells #[.slice B any.length d, .slice A2 (leftP raw).length c2] 22)
  have hx : ∀ k, k < 2 → ∃ (Ax : Option Addr) (lx : List Int) (cx : Nat), (w2.alloc (.cells #[.slice B any.length d, .slice A2 (leftP raw).length c2] 22)).cell? ⟨w2.heap.size, k, none⟩ = some (.slice Ax lx.length cx) ∧ InL (w2.alloc (.cells #[.slice B any.length d, .slice A2 (leftP raw).length c2] 22)) Ax lx cx ∧ lx.length ≤ 1000 := fun k hk => by
    obtain ⟨v, hv, hc⟩ := two_cells (w := w2) (x := .slice B any.length d) (y := .slice A2 (leftP raw).length c2) (t := 22) k hk
    rcases hv with ⟨rfl, rfl⟩ | ⟨rfl, rfl⟩
    · exact ⟨B, any, d, hc, (HA.out.below HB2.out).below hal, by omega⟩
    · exact ⟨A2, leftP raw, c2, hc, HN2.out.below hal, by omega⟩
  have HX := Lib.hid hx
  have HB3 := Lib.hid (Qt.more HB2.out HB2.out.size hal)
  have hlt : Hid (w2.heap.size < (w2.alloc (.cells #[.slice B any.length d, .slice A2 (leftP raw).length c2] 22)).heap.size) := by show _ < _; simp
  clear hb2 ho2 hN2 HB1 hx hal HN2
  go_wp2_with fail
  generalize w2.alloc (.cells #[.slice B any.length d, .slice A2 (leftP raw).length c2] 22) = w3 at *
  generalize w2.heap.size = bx at *
  go_loopw [37] (fun i wr => ∃ k : Nat, k ≤ 2 ∧ i = .int .i64 k ∧ Hid (Below w3.heap.size w3 wr)) (fun i _ => 2 - (intOf i).toNat)
  case atStart => exact ⟨0, by omega, rfl, Below.refl _ _⟩
  case round =>
    obtain ⟨k, hk, rfl, HBW⟩ := hrel
    by_cases hk2 : k < 2
    · have hkz : (k : Int) < 2 := by omega
      obtain ⟨Ax, lx, cx, hcx, hIx, hlx⟩ := HX.out k hk2
      have y0 := (HBW.out.cell (p := ⟨bx, k, none⟩) hlt.out).trans hcx
      have HIX := Lib.hid (hIx.below HBW.out)
      have HIP := Lib.hid ((HP.out.below HB3.out).below HBW.out)
      have hp1 := fun W => which11_any step 12 W HSL.out.1 (by decide) (by decide)
      have hp2 := fun W => which11_any last 12 W HSL.out.2 (by decide) (by decide)
      have b1 := pickI_bd step 12 (by decide)
      have b2 := pickI_bd last 12 (by decide)
      obtain ⟨z1, hz1⟩ : ∃ z, z = pickI step 12 := ⟨_, rfl⟩
      obtain ⟨z2, hz2⟩ : ∃ z, z = pickI last 12 := ⟨_, rfl⟩
      rw [← hz1] at hp1 b1
      rw [← hz2] at hp2 b2
      clear hcx hIx hz1 hz2
      go_wp2_with fail
      refine (hp1 _).mono ?_
      rintro r w4 ⟨rfl, hw4⟩
      subst hw4
      clear hp1
      go_wp2_with fail
      refine (hp2 _).mono ?_
      rintro r w4 ⟨rfl, hw4⟩
      subst hw4
      clear hp2 y0
      have hal := (Below.refl wr.heap.size wr).alloc (Nat.le_refl _) (.cells #[.int .i64 step, .int .i64 last, .int .i64 z1, .int .i64 (z2 - 1)] 26)
      have hrow := heap_alloc_new wr (.cells #[.int .i64 step, .int .i64 last, .int .i64 z1, .int .i64 (z2 - 1)] 26)
      have hy : ∀ m, m < 2 → ∃ (s la : Int), (I64 s ∧ I64 la) ∧ (wr.alloc (.cells #[.int .i64 step, .int .i64 last, .int .i64 z1, .int .i64 (z2 - 1)] 26)).cell? ⟨wr.heap.size, m * 2, none⟩ = some (.int .i64 s) ∧ (wr.alloc (.cells #[.int .i64 step, .int .i64 last, .int .i64 z1, .int .i64 (z2 - 1)] 26)).cell? ⟨wr.heap.size, m * 2 + 1, none⟩ = some (.int .i64 la) := fun m hm => by
        rcases (by omega : m = 0 ∨ m = 1) with rfl | rfl
        · exact ⟨step, last, HSL.out, by rw [Lib.cell_of_heap hrow]; rfl, by rw [Lib.cell_of_heap hrow]; rfl⟩
        · exact ⟨z1, z2 - 1, by unfold I64; omega, by rw [Lib.cell_of_heap hrow]; rfl, by rw [Lib.cell_of_heap hrow]; rfl⟩
      have HY := Lib.hid hy
      have HB4 := Lib.hid (HBW.out.trans (hal.mono HBW.out.size))
      have HAL := Lib.hid hal
      have hlt4 : Hid (wr.heap.size < (wr.alloc (.cells #[.int .i64 step, .int .i64 last, .int .i64 z1, .int .i64 (z2 - 1)] 26)).heap.size) := by show _ < _; simp
      have HIX2 := Lib.hid (HIX.out.below hal)
      have HIP2 := Lib.hid (HIP.out.below hal)
      clear hal hrow hy HIX HIP HBW HAL
      go_wp2_with fail
      generalize wr.alloc (.cells #[.int .i64 step, .int .i64 last, .int .i64 z1, .int .i64 (z2 - 1)] 26) = w4 at *
      generalize wr.heap.size = by_ at *
      go_loopw [52] (fun i wr => ∃ m : Nat, m ≤ 2 ∧ i = .int .i64 m ∧ Hid (Below w4.heap.size w4 wr)) (fun i _ => 2 - (intOf i).toNat)
      case atStart => exact ⟨0, by omega, rfl, Below.refl _ _⟩
      case round =>
        obtain ⟨m, hm, rfl, HBV⟩ := hrel
        by_cases hm2 : m < 2
        · have hmz : (m : Int) < 2 := by omega
          obtain ⟨s, la, ⟨hs, hla⟩, e1, e2⟩ := HY.out m hm2
          have y1 := (HBV.out.cell (p := ⟨by_, m * 2, none⟩) hlt4.out).trans e1
          have y2 := (HBV.out.cell (p := ⟨by_, m * 2 + 1, none⟩) hlt4.out).trans e2
          have hal := (Below.refl wr.heap.size wr).alloc (Nat.le_refl _) (.cells #[.int .i64 s, .int .i64 la] 26)
          have hrow := heap_alloc_new wr (.cells #[.int .i64 s, .int .i64 la] 26)
          have HW := Lib.hid (HBV.out.trans (hal.mono HBV.out.size))
          have HRW := Lib.hid hrow
          have HSA := Lib.hid (And.intro hs hla)
          clear e1 e2 hal hrow hs hla
          go_wp2_with fail
          generalize wr.alloc (.cells #[.int .i64 s, .int .i64 la] 26) = w5 at *
          generalize wr.heap.size = bz at *
          clear y1 y2
          have q0 := Qt.cell_in (show w5.cell? ⟨bz, 0, none⟩ = some (.int .i64 s) by rw [Lib.cell_of_heap HRW.out]; rfl)
          have q1 := Qt.cell_in (show w5.cell? ⟨bz, 1, none⟩ = some (.int .i64 la) by rw [Lib.cell_of_heap HRW.out]; rfl)
          have hIX5 := HIX2.out.below HW.out
          have hIP5 := HIP2.out.below HW.out
          have h1 := fun W (hb : Below w5.heap.size w5 W) => next11_any A Ax picks lx c cx s la W (hIP5.below hb) (hIX5.below hb) (by omega) HSA.out.1 HSA.out.2
          have h2 := fun W (hb : Below w5.heap.size w5 W) => refNext11_any A Ax picks lx c cx s la W (hIP5.below hb) (hIX5.below hb) (by omega) HSA.out.1 HSA.out.2
          have hnn : (nextP picks s lx la != nextP picks s lx la) = false := by simp
          generalize nextP picks s lx la = nx at *
          clear hIX5 hIP5
          refine Qt.below_all (by kernel_rfl) (by kernel_rfl) ?_
          repeat (go_big_quiet_step (first
            | (go_at_call 12; exact Qt.at_same h1)
            | (go_at_call 13; exact Qt.at_same h2)))
          refine wpQuiet_nil ?_
          intro w6 hb6
          have HN : Hid (Below w4.heap.size w4 w6) := Qt.more HW.out HW.out.size hb6
          clear q0 q1 h1 h2 hb6
          go_wp2_with fail
          go_roundw
          case measure => simp [intOf]; omega
          case rel => exact ⟨m + 1, by omega, by go_num, HN.out⟩
        · obtain rfl : m = 2 := by omega
          have hmz : ¬ ((2 : Nat) : Int) < 2 := by decide
          have HN : Hid (Below w3.heap.size w3 wr) := HB4.out.trans (HBV.out.mono HB4.out.size)
          go_wp2_with fail
          go_roundw
          case measure => simp [intOf]; omega
          case rel => exact ⟨k + 1, by omega, by go_num, HN.out⟩
    · obtain rfl : k = 2 := by omega
      have hkz : ¬ ((2 : Nat) : Int) < 2 := by decide
      have HB5 := Lib.hid (HB3.out.trans (HBW.out.mono HB3.out.size))
      clear HB3 HBW HX
      go_wp2_with fail
      refine (left11_any C raw e wr (HR.out.now.below HB5.out) HR.out.len HR.out.fit).mono ?_
      rintro r w6 ⟨v6, rfl, ho6, hb6⟩
      obtain ⟨A6, c6, rfl, hc6, hN6⟩ := own_slice ho6
      have HB6 := Lib.hid (Qt.more HB5.out HB5.out.size hb6)
      have htt := left_tot raw
      have HM := Lib.hid (left_bd raw)
      generalize leftP raw = l at *
      have h7 := turns11_any A A6 picks l c c6 w6 (HP.out.below HB6.out) hN6 (by omega) HM.out (by omega)
      have HN6 := Lib.hid hN6
      clear hb6 ho6 hN6 HB5
      go_wp2_with fail
      refine h7.mono ?_
      rintro r w7 ⟨v7, rfl, ho7, hb7⟩
      obtain ⟨A7, c7, rfl, hc7, hN7⟩ := own_slice ho7
      rw [turns_len] at hc7
      rw [turns_len]
      have HB7 := Lib.hid (Qt.more HB6.out HB6.out.size hb7)
      have HN7 := Lib.hid hN7
      have h8 := refTurns11_any A A6 picks l c c6 w7 (HP.out.below HB7.out) (HN6.out.below hb7) (by omega) HM.out (by omega)
      clear h7 ho7 hb7 hN7 HB6 HN6
      go_wp2_with fail
      refine h8.mono ?_
      rintro r w8 ⟨v8, rfl, ho8, hb8⟩
      obtain ⟨A8, c8, rfl, hc8, hN8⟩ := own_slice ho8
      rw [turns_len] at hc8
      rw [turns_len]
      have HB8 := Lib.hid (Qt.more HB7.out HB7.out.size hb8)
      have hin := ints_yes (c := c7) (c' := c8) (HN7.out.below hb8) hN8 rfl rfl (by rw [turns_len]; omega) rfl
      rw [turns_len] at hin
      clear h8 ho8 hb8 hN8 HB7 HN7
      go_wp2_with fail
      refine hin.mono ?_
      rintro r w9 ⟨rfl, hb9⟩
      have HB9 := Lib.hid (Qt.more HB8.out HB8.out.size hb9)
      clear hin hb9
      go_wp2_with fail
      go_ret
      exact ⟨rfl, HB9.out⟩
theorem pickTells_law (A : Option Addr) (picks : List Int) (c : Nat) (step : Int) (B : Option Addr) (any : List Int) (d : Nat) (last : Int) (C : Option Addr) (raw : List Int) (e : Nat) (w : World) (hP : InL w A picks c) (hpc : picks.length ≤ c) (hs : I64 step) (hA : InL w B any d) (hac : any.length ≤ d) (hla : I64 last) (hR : InL w C raw e) :
    Calls Try.prog 3 #[.slice A picks.length c, .int .i64 step, .slice B any.length d, .int .i64 last, .slice C raw.length e] w fun e w' => e = .returned (.bool true) ∧ Below w.heap.size w w' := by
  by_cases h1 : 60 < picks.length
  · by_cases h2 : 20 < any.length
    · exact pickTells11 A picks c step B any d last C raw e w hP hpc hs hA hac hla hR h1 h2
    · exact pickTells10 A picks c step B any d last C raw e w hP hpc hs hA hac hla hR h1 h2
  · by_cases h2 : 20 < any.length
    · exact pickTells01 A picks c step B any d last C raw e w hP hpc hs hA hac hla hR h1 h2
    · exact pickTells00 A picks c step B any d last C raw e w hP hpc hs hA hac hla hR h1 h2
end Go.Proofs.Ytffknldagconmaa
