/-
  MemTells: what accesses do, and find, is as the document says.
-/
import Derived.Test.YthfbcjbiemdedaaB03
namespace Go.Proofs.Ythfbcjbiemdedaa
set_option maxRecDepth 100000
set_option linter.unusedVariables false
set_option linter.unusedSimpArgs false
open Go.RowKit Go.Sort

theorem intsW_same (A A' : Option Addr) (l m : List Int) (c c' : Nat) (w : World) (hR : Now w A l) (hR' : Now w A' m) (hl : l.length ≤ 17592186044416) (hlm : l.length = m.length) :
    Calls Try.prog 13 #[.slice A l.length c, .slice A' l.length c'] w fun e w' => e = .returned (.bool (decide (l = m))) ∧ Below w.heap.size w w' := by
  generalize hr : decide (l = m) = r
  have HR := Lib.hid hr
  have HLM := Lib.hid hlm
  clear hr hlm
  go_enter Try.func13, Try.ntmps13
  go_wp2
  go_loopw [5] (fun i wr => ∃ k : Nat, k ≤ l.length ∧ i = .int .i64 k ∧ Hid (∀ j, j < k → l.getD j 0 = m.getD j 0) ∧ Below w.heap.size w wr) (fun i _ => l.length - (intOf i).toNat)
  case atStart => exact ⟨0, Nat.zero_le _, rfl, (show Hid _ from fun j hj => absurd hj (Nat.not_lt_zero j)), Below.refl _ _⟩
  case round =>
    obtain ⟨k, hk, rfl, HK, hb⟩ := hrel
    by_cases hlt : k < l.length
    · have hltz : (k : Int) < (l.length : Int) := by omega
      obtain ⟨b, off, rfl, hbB, hcell⟩ := hR.at_ (by omega)
      obtain ⟨b2, off2, rfl, hbB2, hcell2⟩ := hR'.at_ (by have := HLM.out; omega)
      obtain ⟨x, hx⟩ : ∃ p, p = l.getD k 0 := ⟨_, rfl⟩
      obtain ⟨y, hy⟩ : ∃ p, p = m.getD k 0 := ⟨_, rfl⟩
      have a0 := hcell k hlt
      have e0 := hcell2 k (by have := HLM.out; omega)
      rw [← hx] at a0
      rw [← hy] at e0
      have k0 := Qt.cell_in (Qt.keep hb a0)
      have k2 := Qt.cell_in (Qt.keep hb e0)
      have HX := Lib.hid hx
      have HY := Lib.hid hy
      clear hx hy hcell hcell2 a0 e0
      by_cases hxy : x = y
      · subst hxy
        go_wp2
        refine Qt.below_all (by kernel_rfl) (by kernel_rfl) ?_
        repeat (go_big_quiet_step (fail))
        refine wpQuiet_nil ?_
        intro w1 hb1
        clear k0 k2
        go_wp2
        go_roundw
        case measure => simp [intOf]; omega
        case rel =>
          refine ⟨k + 1, by omega, by go_num, (show Hid _ from fun j hj => ?_), Qt.more hb hb.size hb1⟩
          by_cases hjk : j = k
          · subst hjk; rw [← HX.out, ← HY.out]
          · exact HK.out j (by omega)
      · have hne : l ≠ m := by
          intro e
          subst e
          exact hxy (HX.out.trans HY.out.symm)
        have HNE := Lib.hid hne
        clear hne
        go_wp2
        refine Qt.below_all (by kernel_rfl) (by kernel_rfl) ?_
        repeat (go_big_quiet_step (fail))
        refine wpQuiet_nil ?_
        intro w1 hb1
        clear k0 k2
        go_wp2
        go_ret
        exact ⟨by rw [← HR.out, decide_eq_false HNE.out]; rfl, Qt.more hb hb.size hb1⟩
    · have hltz : ¬ (k : Int) < (l.length : Int) := by omega
      have he : l = m := eq_of_all HLM.out fun j hj => HK.out j (by omega)
      have HE := Lib.hid he
      clear he
      go_wp2
      go_ret
      exact ⟨by rw [← HR.out, decide_eq_true HE.out]; rfl, hb⟩
theorem intsW_yes {A A' : Option Addr} {l : List Int} {n n' c c' : Nat} {w : World} (hR : Now w A l) (hR' : Now w A' l) (hn : n = l.length) (hn' : n' = l.length) (hl : n ≤ 17592186044416) :
    Calls Try.prog 13 #[.slice A n c, .slice A' n' c'] w fun e w' => e = .returned (.bool true) ∧ Below w.heap.size w w' := by
  subst hn hn'
  have := intsW_same A A' l l c c' w hR hR' hl rfl
  rwa [decide_eq_true rfl] at this
theorem refDo_ans {y : Ac} {m : List Int} {w : World} {r : Ending} {w' : World} (h : DoOwn (doA m y) w r w') : DoAns (doA m y) w r w' := by
  obtain ⟨A, c, e, ho, hb⟩ := h
  obtain ⟨A2, c2, e2, hc, hN⟩ := own_slice ho
  injection e2 with e3 e4 e5
  subst e3 e5
  exact ⟨A, c, e, hc, hN, hb⟩
/-- a list of accesses and what Play makes of it stay within what lengths there are -/
theorem playA_len (m0 : List Int) (l : List Ac) : ∀ m f, m.length = m0.length → (playA m0 l m f).1.length = m0.length ∧ (playA m0 l m f).2.1.length ≤ f.length + l.length := by
  induction l with
  | nil => intro m f h; exact ⟨h, by simp [playA]⟩
  | cons y l ih =>
    intro m f h
    rw [playA_cons]
    split
    · obtain ⟨h1, h2⟩ := ih (doA m y).1 (f ++ [(doA m y).2.1]) (by rw [doA_len]; exact h)
      refine ⟨h1, ?_⟩
      rw [List.length_append] at h2
      simp only [List.length_cons, List.length_nil] at h2 ⊢
      omega
    · exact ⟨rfl, by simp⟩
set_option maxHeartbeats 8000000 in
theorem memTells_law (A : Option Addr) (any : List Int) (c : Nat) (AR : Option Addr) (raw : List Ac) (cR : Nat) (a : Ac) (AM : Option Addr) (more : List Ac) (cM : Nat) (w : World)
    (hR : Now w A any) (hl : any.length ≤ 9223372036854775807) (hc : any.length ≤ c) (hw : ∀ j, j < any.length → I64 (any.getD j 0))
    (hRR : NowA w AR raw) (hlR : raw.length ≤ 9223372036854775807) (hcR : raw.length ≤ cR) (hwR : ∀ j, j < raw.length → Fine4A (raw.getD j deadA)) (fa : Fine4A a)
    (hRM : NowA w AM more) (hlM : more.length * 32 ≤ 140737488351232) (hcM : more.length ≤ cM) (hwM : ∀ j, j < more.length → Fine4A (more.getD j deadA)) :
    Calls Try.prog 3 #[.slice A any.length c, .slice AR raw.length cR, acV a, .slice AM more.length cM] w fun e w' => e = .returned (.bool true) ∧ Below w.heap.size w w' := by
  obtain ⟨a1, a2, a3, a4⟩ := a
  have HRR := Lib.hid hRR
  have HWR := Lib.hid hwR
  have HRM := Lib.hid hRM
  have HWM := Lib.hid hwM
  have HR := Lib.hid hR
  have HW := Lib.hid hw
  have HFA := Lib.hid fa
  have HB0 : Hid (Below w.heap.size w (w.alloc (.cells #[.int .i64 a1, .int .i64 a2, .int .i64 a3, .int .i64 a4] 25))) := (Below.refl _ _).alloc (Nat.le_refl _) _
  have HRw : Hid ((w.alloc (.cells #[.int .i64 a1, .int .i64 a2, .int .i64 a3, .int .i64 a4] 25)).heap[w.heap.size]? = some (.cells #[.int .i64 a1, .int .i64 a2, .int .i64 a3, .int .i64 a4] 25 (0, 0))) := heap_alloc_new w _
  clear hRR hwR hRM hwM hR hw fa
  go_enter Try.func3, Try.ntmps3
  go_wp2_with fail
  generalize w.alloc (.cells #[.int .i64 a1, .int .i64 a2, .int .i64 a3, .int .i64 a4] 25) = w0 at *
  refine (awake10_any w0).mono ?_
  rintro r w1 ⟨rfl, hb1⟩
  have HB1 := Lib.hid (Qt.more HB0.out HB0.out.size hb1)
  have HRw1 := Lib.hid ((hb1.block _ (lt_heap6' HRw.out)).trans HRw.out)
  clear hb1 HB0 HRw
  -- the words, at most fifty
  obtain ⟨m, hm, hmA, hmc, hm50, hmF, hif⟩ : ∃ m : List Int, m.length = min any.length 50 ∧ Hid (Now w A m) ∧ m.length ≤ c ∧ m.length ≤ 50 ∧ Hid (∀ x ∈ m, I64 x) ∧ ((¬ (50 : Int) < (any.length : Int) ∧ m.length = any.length) ∨ ((50 : Int) < (any.length : Int) ∧ m.length = 50)) := by
    refine ⟨any.take 50, by simp; omega, (show Hid _ from fun j hj => ?_), by simp; omega, by simp; omega, (show Hid _ from fun x hx => ?_), by simp; omega⟩
    · rw [List.length_take] at hj
      obtain ⟨b, off, e, hb, hc⟩ := HR.out j (by omega)
      have e5 : (any.take 50).getD j 0 = any.getD j 0 := by rw [List.getD_eq_getElem?_getD, List.getD_eq_getElem?_getD, List.getElem?_take, if_pos (by omega)]
      exact ⟨b, off, e, hb, by rw [e5]; exact hc⟩
    · obtain ⟨j, hj, rfl⟩ := List.getElem_of_mem (List.mem_of_mem_take hx)
      have := HW.out j hj
      rwa [List.getD_eq_getElem?_getD, List.getElem?_eq_getElem hj] at this
  rcases hif with ⟨h50, hmN⟩ | ⟨h50, hmN⟩
  · skip
    have q0 : w1.cell? ⟨w.heap.size, 0, none⟩ = some (.int .i64 a1) := by rw [Lib.cell_of_heap HRw1.out]; rfl
    have q1 : w1.cell? ⟨w.heap.size, 1, none⟩ = some (.int .i64 a2) := by rw [Lib.cell_of_heap HRw1.out]; rfl
    have q2 : w1.cell? ⟨w.heap.size, 2, none⟩ = some (.int .i64 a3) := by rw [Lib.cell_of_heap HRw1.out]; rfl
    have q3 : w1.cell? ⟨w.heap.size, 3, none⟩ = some (.int .i64 a4) := by rw [Lib.cell_of_heap HRw1.out]; rfl
    have hl0 : w.heap.size < w1.heap.size := lt_heap6' HRw1.out
    have k0 : (w1.alloc (.cells #[.int .i64 a1, .int .i64 a2, .int .i64 a3, .int .i64 a4] 25)).cell? ⟨w.heap.size, 1, none⟩ = some (.int .i64 a2) := (((Below.refl w1.heap.size w1).alloc (Nat.le_refl _) (.cells #[.int .i64 a1, .int .i64 a2, .int .i64 a3, .int .i64 a4] 25)).cell (p := ⟨w.heap.size, 1, none⟩) hl0).trans q1
    go_wp2_with fail
    have hpk := pick10_any a2 ((any.length : Int) + 1) (w1.alloc (.cells #[.int .i64 a1, .int .i64 a2, .int .i64 a3, .int .i64 a4] 25)) HFA.out.2.1 (by omega) (by omega)
    have hkb := pickI_bd a2 ((any.length : Int) + 1) (by omega)
    obtain ⟨t, ht⟩ : ∃ t : Nat, pickI a2 ((any.length : Int) + 1) = t := ⟨(pickI a2 ((any.length : Int) + 1)).toNat, by omega⟩
    rw [ht] at hpk
    rw [ht] at hkb
    have htb : (t : Int) ≤ 50 := by omega
    clear ht hkb
    refine hpk.mono ?_
    rintro r w2 ⟨rfl, rfl⟩
    clear hpk k0
    have hal := (Below.refl w1.heap.size w1).alloc (Nat.le_refl _) (.cells #[.int .i64 a1, .int .i64 (t : Int), .int .i64 a3, .int .i64 a4] 25)
    have hrw := heap_alloc_new w1 (.cells #[.int .i64 a1, .int .i64 (t : Int), .int .i64 a3, .int .i64 a4] 25)
    have HRo := Lib.hid ((hal.block _ hl0).trans HRw1.out)
    have HRx := Lib.hid hrw
    have HB2 := Lib.hid (Qt.more HB1.out HB1.out.size hal)
    clear hal hrw q0 q1 q2 q3 HB1 HRw1
    have q0 : (w1.alloc (.cells #[.int .i64 a1, .int .i64 (t : Int), .int .i64 a3, .int .i64 a4] 25)).cell? ⟨w.heap.size, 0, none⟩ = some (.int .i64 a1) := by rw [Lib.cell_of_heap HRo.out]; rfl
    have q1 : (w1.alloc (.cells #[.int .i64 a1, .int .i64 (t : Int), .int .i64 a3, .int .i64 a4] 25)).cell? ⟨w.heap.size, 1, none⟩ = some (.int .i64 a2) := by rw [Lib.cell_of_heap HRo.out]; rfl
    have q2 : (w1.alloc (.cells #[.int .i64 a1, .int .i64 (t : Int), .int .i64 a3, .int .i64 a4] 25)).cell? ⟨w.heap.size, 2, none⟩ = some (.int .i64 a3) := by rw [Lib.cell_of_heap HRo.out]; rfl
    have q3 : (w1.alloc (.cells #[.int .i64 a1, .int .i64 (t : Int), .int .i64 a3, .int .i64 a4] 25)).cell? ⟨w.heap.size, 3, none⟩ = some (.int .i64 a4) := by rw [Lib.cell_of_heap HRo.out]; rfl
    go_wp2_with fail
    have hlit := nowA_lit2 (w1.alloc (.cells #[.int .i64 a1, .int .i64 (t : Int), .int .i64 a3, .int .i64 a4] 25)) 25 (a1, a2, a3, a4) (a1, (t : Int), a3, a4)
    rw [show (w1.alloc (.cells #[.int .i64 a1, .int .i64 (t : Int), .int .i64 a3, .int .i64 a4] 25)).heap.size = w1.heap.size + 1 by simp] at hlit
    have HLit := Lib.hid hlit
    have HB3 := Lib.hid (Qt.more HB2.out HB2.out.size ((Below.refl (w1.alloc (.cells #[.int .i64 a1, .int .i64 (t : Int), .int .i64 a3, .int .i64 a4] 25)).heap.size (w1.alloc (.cells #[.int .i64 a1, .int .i64 (t : Int), .int .i64 a3, .int .i64 a4] 25))).alloc (Nat.le_refl _) (.cells #[.int .i64 a1, .int .i64 a2, .int .i64 a3, .int .i64 a4, .int .i64 a1, .int .i64 (t : Int), .int .i64 a3, .int .i64 a4] 25)))
    have fy : ∀ j, j < 2 → Fine4A (([(a1, a2, a3, a4), (a1, (t : Int), a3, a4)] : List Ac).getD j deadA) := fun j hj => by
      have hj1 : j = 0 ∨ j = 1 := by omega
      rcases hj1 with rfl | rfl
      · exact HFA.out
      · exact ⟨HFA.out.1, ⟨by show _ ≤ (t : Int); omega, by show (t : Int) ≤ _; omega⟩, HFA.out.2.2.1, HFA.out.2.2.2⟩
    have HFy := Lib.hid fy
    obtain ⟨LL, hLL⟩ : ∃ LL : List Ac, LL = [(a1, a2, a3, a4), (a1, (t : Int), a3, a4)] := ⟨_, rfl⟩
    rw [← hLL] at HLit HFy
    have hLn : LL.length = 2 := by rw [hLL]; rfl
    have HLn := Lib.hid hLn
    generalize hV : (w1.alloc (.cells #[.int .i64 a1, .int .i64 (t : Int), .int .i64 a3, .int .i64 a4] 25)).alloc (.cells #[.int .i64 a1, .int .i64 a2, .int .i64 a3, .int .i64 a4, .int .i64 a1, .int .i64 (t : Int), .int .i64 a3, .int .i64 a4] 25) = V at *
    clear hV q0 q1 q2 q3 fy hLL hLn HRo HRx HB2 hlit
    generalize w1.heap.size = q at *
    go_loopw [49] (fun i wr => ∃ j : Nat, j ≤ 2 ∧ i = .int .i64 j ∧ Hid (NowA wr (some ⟨q + 1, 0, none⟩) LL ∧ Below w.heap.size w wr)) (fun i _ => 2 - (intOf i).toNat)
    case atStart => exact ⟨0, by omega, rfl, (show Hid _ from ⟨HLit.out, HB3.out⟩)⟩
    case round =>
      obtain ⟨j, hj, rfl, HH⟩ := hrel
      by_cases hlt : j < 2
      · have hltz : (j : Int) < 2 := by omega
        obtain ⟨b, off, eb, hbB, y0, y1, y2, y3⟩ := HH.out.1 j (by rw [HLn.out]; exact hlt)
        injection eb with eb
        injection eb with eb1 eb2
        subst eb1 eb2
        rw [Nat.zero_add] at y0 y1 y2 y3
        have fy := HFy.out j hlt
        obtain ⟨y, hy⟩ : ∃ y, y = LL.getD j deadA := ⟨_, rfl⟩
        rw [← hy] at y0 y1 y2 y3 fy
        clear hy
        obtain ⟨y1', y2', y3', y4'⟩ := y
        simp only at y0 y1 y2 y3
        have HFY := Lib.hid fy
        have hal := (Below.refl wr.heap.size wr).alloc (Nat.le_refl _) (.cells #[.int .i64 y1', .int .i64 y2', .int .i64 y3', .int .i64 y4'] 25)
        have HRb := Lib.hid (heap_alloc_new wr (.cells #[.int .i64 y1', .int .i64 y2', .int .i64 y3', .int .i64 y4'] 25))
        have HB4 := Lib.hid (Qt.more HH.out.2 HH.out.2.size hal)
        have HL4 := Lib.hid (HH.out.1.now hal)
        clear hal fy HH
        go_wp2_with fail
        generalize wr.alloc (.cells #[.int .i64 y1', .int .i64 y2', .int .i64 y3', .int .i64 y4'] 25) = w4 at *
        generalize hbx : wr.heap.size = bx at *
        clear hbx
        have hdo := memDo_any (y1', y2', y3', y4') m A c w4 HFY.out hmF.out (Rd.below hmA.out HB4.out (Nat.le_refl _) |>.more HB4.out.size) hmc (by omega)
        rw [hmN] at hdo
        refine hdo.mono ?_
        rintro r w5 ⟨B1, d1, rfl, hd1, hN1, hb5⟩
        have HB5 := Lib.hid (Qt.more HB4.out HB4.out.size hb5)
        have HL5 := Lib.hid (HL4.out.now hb5)
        have hrb := (hb5.block _ (lt_heap6' HRb.out)).trans HRb.out
        have p0 : w5.cell? ⟨bx, 0, none⟩ = some (.int .i64 y1') := by rw [Lib.cell_of_heap hrb]; rfl
        have p1 : w5.cell? ⟨bx, 1, none⟩ = some (.int .i64 y2') := by rw [Lib.cell_of_heap hrb]; rfl
        have p2 : w5.cell? ⟨bx, 2, none⟩ = some (.int .i64 y3') := by rw [Lib.cell_of_heap hrb]; rfl
        have p3 : w5.cell? ⟨bx, 3, none⟩ = some (.int .i64 y4') := by rw [Lib.cell_of_heap hrb]; rfl
        have href := refDo_any (y1', y2', y3', y4') m A c w5 HFY.out hmF.out (Rd.below hmA.out HB5.out (Nat.le_refl _) |>.more HB5.out.size) (by omega)
        rw [hmN] at href
        have hdl := doA_len m (y1', y2', y3', y4')
        obtain ⟨d, hd⟩ : ∃ d, d = doA m (y1', y2', y3', y4') := ⟨_, rfl⟩
        rw [← hd] at hN1 hd1 hdl ⊢
        have HD := Lib.hid hd
        have HN1 := Lib.hid hN1
        have HDL := Lib.hid hdl
        clear hd hN1 hdo hb5 hrb HB4 HL4 HRb hdl
        go_wp2_with fail
        refine href.mono ?_
        intro r w6 hr6
        obtain ⟨B2, d2, rfl, hd2, hN2, hb6⟩ := refDo_ans hr6
        rw [← HD.out] at hd2 hN2 ⊢
        have HB6 := Lib.hid (Qt.more HB5.out HB5.out.size hb6)
        have HL6 := Lib.hid (HL5.out.now hb6)
        have hin := intsW_yes (c := d1) (c' := d2) (HN1.out.below hb6) hN2 rfl rfl (by rw [HDL.out]; omega)
        clear href hr6 hN2 hb6 p0 p1 p2 p3 HB5 HL5 HN1
        go_wp2_with fail
        refine hin.mono ?_
        rintro r w7 ⟨rfl, hb7⟩
        have HB7 := Lib.hid (Qt.more HB6.out HB6.out.size hb7)
        have HL7 := Lib.hid (HL6.out.now hb7)
        clear hin hb7 HB6 HL6
        go_wp2_with fail
        go_roundw
        case measure => simp [intOf]; omega
        case rel => exact ⟨j + 1, by omega, by go_num, (show Hid _ from ⟨HL7.out, HB7.out⟩)⟩
      · have hltz : ¬ (j : Int) < 2 := by omega
        obtain rfl : j = 2 := by omega
        go_wp2_with fail
        all_goals
          refine (accs_any AR raw cR _ wr (HRR.out.below HH.out.2 (Nat.le_refl _) |>.more HH.out.2.size) hlR HWR.out (by omega) (by omega)).mono ?_
          rintro r w5 ⟨v5, rfl, hv5, hb5⟩
          generalize hL5 : accs _ raw = L5 at hv5
          have hl5 : L5.length ≤ 40 := by rw [← hL5]; exact accs_len _ _
          have hF5 : ∀ j, j < L5.length → Fine4A (L5.getD j deadA) := by rw [← hL5]; exact accs_fine (by omega) (by omega) (fun y hy => hy)
          clear hL5
          obtain ⟨A5, c5, rfl, hc5, hN5⟩ := hv5.slice
          have HB5 := Lib.hid (Qt.more HH.out.2 HH.out.2.size hb5)
          have HN5 := Lib.hid hN5
          have HF5 := Lib.hid hF5
          clear hv5 hb5 hN5 hF5 HH
          go_wp2_with fail
          have hal := (Below.refl w5.heap.size w5).alloc (Nat.le_refl _) (.cells #[.slice AM more.length cM, .slice A5 L5.length c5] 26)
          have hrw := heap_alloc_new w5 (.cells #[.slice AM more.length cM, .slice A5 L5.length c5] 26)
          have HB6 := Lib.hid (Qt.more HB5.out HB5.out.size hal)
          have HN6 := Lib.hid (HN5.out.now hal)
          have HRw := Lib.hid hrw
          clear hal hrw HB5 HN5
          generalize w5.alloc (.cells #[.slice AM more.length cM, .slice A5 L5.length c5] 26) = w6 at *
          generalize w5.heap.size = qa at *
          clear HLit
          go_loopw [97] (fun i wr => ∃ j : Nat, j ≤ 2 ∧ i = .int .i64 j ∧ Hid (wr.heap[qa]? = some (.cells #[.slice AM more.length cM, .slice A5 L5.length c5] 26 (0, 0)) ∧ NowA wr A5 L5 ∧ Below w.heap.size w wr)) (fun i _ => 2 - (intOf i).toNat)
          case atStart => exact ⟨0, by omega, rfl, (show Hid _ from ⟨HRw.out, HN6.out, HB6.out⟩)⟩
          case round =>
            obtain ⟨j, hj, rfl, HH⟩ := hrel
            by_cases hlt : j < 2
            · have hltz : (j : Int) < 2 := by omega
              obtain ⟨B, l, d, hcB, hNB, hFB, hlB⟩ : ∃ (B : Option Addr) (l : List Ac) (d : Nat), wr.cell? ⟨qa, j, none⟩ = some (.slice B l.length d) ∧ Hid (NowA wr B l) ∧ Hid (∀ j, j < l.length → Fine4A (l.getD j deadA)) ∧ l.length ≤ 4398046511104 := by
                have hj1 : j = 0 ∨ j = 1 := by omega
                rcases hj1 with rfl | rfl
                · exact ⟨AM, more, cM, by rw [Lib.cell_of_heap HH.out.1]; rfl, (show Hid _ from (HRM.out.below HH.out.2.2 (Nat.le_refl _) |>.more HH.out.2.2.size)), HWM, by omega⟩
                · exact ⟨A5, L5, c5, by rw [Lib.cell_of_heap HH.out.1]; rfl, (show Hid _ from HH.out.2.1), HF5, by omega⟩
              have hpl := memPlay_any A B m l c d wr (Rd.below hmA.out HH.out.2.2 (Nat.le_refl _) |>.more HH.out.2.2.size) hmc (by omega) hmF.out hNB.out hFB.out (by omega)
              rw [hmN] at hpl
              obtain ⟨hpl1, hpl2⟩ := playA_len m l m [] rfl
              simp only [List.length_nil, Nat.zero_add] at hpl2
              obtain ⟨P, hP⟩ : ∃ P, P = playA m l m [] := ⟨_, rfl⟩
              rw [← hP] at hpl hpl1 hpl2
              have HP := Lib.hid hP
              have HPL := Lib.hid (And.intro hpl1 hpl2)
              clear hP hpl1 hpl2
              go_wp2_with fail
              refine hpl.mono ?_
              rintro r w7 ⟨B1, d1, B2, d2, rfl, hd1, hN1, hd2, hN2, hb7⟩
              have HB7 := Lib.hid (Qt.more HH.out.2.2 HH.out.2.2.size hb7)
              have HR7 := Lib.hid (And.intro ((hb7.block _ (lt_heap6' HH.out.1)).trans HH.out.1) (HH.out.2.1.now hb7))
              have HNN := Lib.hid (And.intro hN1 hN2)
              have href := refPlay_any A B m l c d w7 (Rd.below hmA.out HB7.out (Nat.le_refl _) |>.more HB7.out.size) hmc (by omega) hmF.out (hNB.out.now hb7) hFB.out (by omega)
              rw [hmN, ← HP.out] at href
              clear hpl hb7 hN1 hN2 HH hcB
              go_wp2_with fail
              refine href.mono ?_
              rintro r w8 ⟨B3, d3, B4, d4, rfl, hd3, hN3, hd4, hN4, hb8⟩
              have HB8 := Lib.hid (Qt.more HB7.out HB7.out.size hb8)
              have HR8 := Lib.hid (And.intro ((hb8.block _ (lt_heap6' HR7.out.1)).trans HR7.out.1) (HR7.out.2.now hb8))
              have hin1 := intsW_yes (c := d1) (c' := d3) (HNN.out.1.below hb8) hN3 rfl rfl (by rw [HPL.out.1]; omega)
              have HN24 := Lib.hid (And.intro (HNN.out.2.below hb8) hN4)
              clear href hb8 hN3 hN4 HB7 HR7 HNN
              go_wp2_with fail
              refine hin1.mono ?_
              rintro r w9 ⟨rfl, hb9⟩
              have HB9 := Lib.hid (Qt.more HB8.out HB8.out.size hb9)
              have HR9 := Lib.hid (And.intro ((hb9.block _ (lt_heap6' HR8.out.1)).trans HR8.out.1) (HR8.out.2.now hb9))
              have hin2 := intsW_yes (c := d2) (c' := d4) (HN24.out.1.below hb9) (HN24.out.2.below hb9) rfl rfl (by have := HPL.out.2; omega)
              clear hin1 hb9 HB8 HR8 HN24
              go_wp2_with fail
              refine hin2.mono ?_
              rintro r w10 ⟨rfl, hb10⟩
              have HB10 := Lib.hid (Qt.more HB9.out HB9.out.size hb10)
              have HR10 := Lib.hid (And.intro ((hb10.block _ (lt_heap6' HR9.out.1)).trans HR9.out.1) (HR9.out.2.now hb10))
              clear hin2 hb10 HB9 HR9
              go_wp2_with fail
              go_roundw
              case measure => simp [intOf]; omega
              case rel => exact ⟨j + 1, by omega, by go_num, (show Hid _ from ⟨HR10.out.1, HR10.out.2, HB10.out⟩)⟩
            · have hltz : ¬ (j : Int) < 2 := by omega
              obtain rfl : j = 2 := by omega
              go_wp2_with fail
              go_ret
              exact ⟨rfl, HH.out.2.2⟩
  · have hto : ∀ W, (Instr.slice 22 (.slice A any.length c) none (some (.int .i64 50)) none).run Try.prog W = .ok (.slice A 50 c) W := fun W => by
      cases A with
      | none => obtain ⟨b, off, e, _⟩ := HR.out 0 (by omega); cases e
      | some ad =>
        have hz : (50 : Int) ≤ (c : Int) := by omega
        go_simp
    have HTo := Lib.hid hto
    clear hto
    have q0 : w1.cell? ⟨w.heap.size, 0, none⟩ = some (.int .i64 a1) := by rw [Lib.cell_of_heap HRw1.out]; rfl
    have q1 : w1.cell? ⟨w.heap.size, 1, none⟩ = some (.int .i64 a2) := by rw [Lib.cell_of_heap HRw1.out]; rfl
    have q2 : w1.cell? ⟨w.heap.size, 2, none⟩ = some (.int .i64 a3) := by rw [Lib.cell_of_heap HRw1.out]; rfl
    have q3 : w1.cell? ⟨w.heap.size, 3, none⟩ = some (.int .i64 a4) := by rw [Lib.cell_of_heap HRw1.out]; rfl
    have hl0 : w.heap.size < w1.heap.size := lt_heap6' HRw1.out
    have hto := HTo.out
    clear HTo
    have k0 : (w1.alloc (.cells #[.int .i64 a1, .int .i64 a2, .int .i64 a3, .int .i64 a4] 25)).cell? ⟨w.heap.size, 1, none⟩ = some (.int .i64 a2) := (((Below.refl w1.heap.size w1).alloc (Nat.le_refl _) (.cells #[.int .i64 a1, .int .i64 a2, .int .i64 a3, .int .i64 a4] 25)).cell (p := ⟨w.heap.size, 1, none⟩) hl0).trans q1
    go_wp2_with fail
    have hpk := pick10_any a2 (51) (w1.alloc (.cells #[.int .i64 a1, .int .i64 a2, .int .i64 a3, .int .i64 a4] 25)) HFA.out.2.1 (by omega) (by omega)
    have hkb := pickI_bd a2 (51) (by omega)
    obtain ⟨t, ht⟩ : ∃ t : Nat, pickI a2 (51) = t := ⟨(pickI a2 (51)).toNat, by omega⟩
    rw [ht] at hpk
    rw [ht] at hkb
    have htb : (t : Int) ≤ 50 := by omega
    clear ht hkb
    refine hpk.mono ?_
    rintro r w2 ⟨rfl, rfl⟩
    clear hpk k0
    have hal := (Below.refl w1.heap.size w1).alloc (Nat.le_refl _) (.cells #[.int .i64 a1, .int .i64 (t : Int), .int .i64 a3, .int .i64 a4] 25)
    have hrw := heap_alloc_new w1 (.cells #[.int .i64 a1, .int .i64 (t : Int), .int .i64 a3, .int .i64 a4] 25)
    have HRo := Lib.hid ((hal.block _ hl0).trans HRw1.out)
    have HRx := Lib.hid hrw
    have HB2 := Lib.hid (Qt.more HB1.out HB1.out.size hal)
    clear hal hrw q0 q1 q2 q3 HB1 HRw1
    have q0 : (w1.alloc (.cells #[.int .i64 a1, .int .i64 (t : Int), .int .i64 a3, .int .i64 a4] 25)).cell? ⟨w.heap.size, 0, none⟩ = some (.int .i64 a1) := by rw [Lib.cell_of_heap HRo.out]; rfl
    have q1 : (w1.alloc (.cells #[.int .i64 a1, .int .i64 (t : Int), .int .i64 a3, .int .i64 a4] 25)).cell? ⟨w.heap.size, 1, none⟩ = some (.int .i64 a2) := by rw [Lib.cell_of_heap HRo.out]; rfl
    have q2 : (w1.alloc (.cells #[.int .i64 a1, .int .i64 (t : Int), .int .i64 a3, .int .i64 a4] 25)).cell? ⟨w.heap.size, 2, none⟩ = some (.int .i64 a3) := by rw [Lib.cell_of_heap HRo.out]; rfl
    have q3 : (w1.alloc (.cells #[.int .i64 a1, .int .i64 (t : Int), .int .i64 a3, .int .i64 a4] 25)).cell? ⟨w.heap.size, 3, none⟩ = some (.int .i64 a4) := by rw [Lib.cell_of_heap HRo.out]; rfl
    go_wp2_with fail
    have hlit := nowA_lit2 (w1.alloc (.cells #[.int .i64 a1, .int .i64 (t : Int), .int .i64 a3, .int .i64 a4] 25)) 25 (a1, a2, a3, a4) (a1, (t : Int), a3, a4)
    rw [show (w1.alloc (.cells #[.int .i64 a1, .int .i64 (t : Int), .int .i64 a3, .int .i64 a4] 25)).heap.size = w1.heap.size + 1 by simp] at hlit
    have HLit := Lib.hid hlit
    have HB3 := Lib.hid (Qt.more HB2.out HB2.out.size ((Below.refl (w1.alloc (.cells #[.int .i64 a1, .int .i64 (t : Int), .int .i64 a3, .int .i64 a4] 25)).heap.size (w1.alloc (.cells #[.int .i64 a1, .int .i64 (t : Int), .int .i64 a3, .int .i64 a4] 25))).alloc (Nat.le_refl _) (.cells #[.int .i64 a1, .int .i64 a2, .int .i64 a3, .int .i64 a4, .int .i64 a1, .int .i64 (t : Int), .int .i64 a3, .int .i64 a4] 25)))
    have fy : ∀ j, j < 2 → Fine4A (([(a1, a2, a3, a4), (a1, (t : Int), a3, a4)] : List Ac).getD j deadA) := fun j hj => by
      have hj1 : j = 0 ∨ j = 1 := by omega
      rcases hj1 with rfl | rfl
      · exact HFA.out
      · exact ⟨HFA.out.1, ⟨by show _ ≤ (t : Int); omega, by show (t : Int) ≤ _; omega⟩, HFA.out.2.2.1, HFA.out.2.2.2⟩
    have HFy := Lib.hid fy
    obtain ⟨LL, hLL⟩ : ∃ LL : List Ac, LL = [(a1, a2, a3, a4), (a1, (t : Int), a3, a4)] := ⟨_, rfl⟩
    rw [← hLL] at HLit HFy
    have hLn : LL.length = 2 := by rw [hLL]; rfl
    have HLn := Lib.hid hLn
    generalize hV : (w1.alloc (.cells #[.int .i64 a1, .int .i64 (t : Int), .int .i64 a3, .int .i64 a4] 25)).alloc (.cells #[.int .i64 a1, .int .i64 a2, .int .i64 a3, .int .i64 a4, .int .i64 a1, .int .i64 (t : Int), .int .i64 a3, .int .i64 a4] 25) = V at *
    clear hV q0 q1 q2 q3 fy hLL hLn HRo HRx HB2 hlit
    generalize w1.heap.size = q at *
    go_loopw [49] (fun i wr => ∃ j : Nat, j ≤ 2 ∧ i = .int .i64 j ∧ Hid (NowA wr (some ⟨q + 1, 0, none⟩) LL ∧ Below w.heap.size w wr)) (fun i _ => 2 - (intOf i).toNat)
    case atStart => exact ⟨0, by omega, rfl, (show Hid _ from ⟨HLit.out, HB3.out⟩)⟩
    case round =>
      obtain ⟨j, hj, rfl, HH⟩ := hrel
      by_cases hlt : j < 2
      · have hltz : (j : Int) < 2 := by omega
        obtain ⟨b, off, eb, hbB, y0, y1, y2, y3⟩ := HH.out.1 j (by rw [HLn.out]; exact hlt)
        injection eb with eb
        injection eb with eb1 eb2
        subst eb1 eb2
        rw [Nat.zero_add] at y0 y1 y2 y3
        have fy := HFy.out j hlt
        obtain ⟨y, hy⟩ : ∃ y, y = LL.getD j deadA := ⟨_, rfl⟩
        rw [← hy] at y0 y1 y2 y3 fy
        clear hy
        obtain ⟨y1', y2', y3', y4'⟩ := y
        simp only at y0 y1 y2 y3
        have HFY := Lib.hid fy
        have hal := (Below.refl wr.heap.size wr).alloc (Nat.le_refl _) (.cells #[.int .i64 y1', .int .i64 y2', .int .i64 y3', .int .i64 y4'] 25)
        have HRb := Lib.hid (heap_alloc_new wr (.cells #[.int .i64 y1', .int .i64 y2', .int .i64 y3', .int .i64 y4'] 25))
        have HB4 := Lib.hid (Qt.more HH.out.2 HH.out.2.size hal)
        have HL4 := Lib.hid (HH.out.1.now hal)
        clear hal fy HH
        go_wp2_with fail
        generalize wr.alloc (.cells #[.int .i64 y1', .int .i64 y2', .int .i64 y3', .int .i64 y4'] 25) = w4 at *
        generalize hbx : wr.heap.size = bx at *
        clear hbx
        have hdo := memDo_any (y1', y2', y3', y4') m A c w4 HFY.out hmF.out (Rd.below hmA.out HB4.out (Nat.le_refl _) |>.more HB4.out.size) hmc (by omega)
        rw [hmN] at hdo
        refine hdo.mono ?_
        rintro r w5 ⟨B1, d1, rfl, hd1, hN1, hb5⟩
        have HB5 := Lib.hid (Qt.more HB4.out HB4.out.size hb5)
        have HL5 := Lib.hid (HL4.out.now hb5)
        have hrb := (hb5.block _ (lt_heap6' HRb.out)).trans HRb.out
        have p0 : w5.cell? ⟨bx, 0, none⟩ = some (.int .i64 y1') := by rw [Lib.cell_of_heap hrb]; rfl
        have p1 : w5.cell? ⟨bx, 1, none⟩ = some (.int .i64 y2') := by rw [Lib.cell_of_heap hrb]; rfl
        have p2 : w5.cell? ⟨bx, 2, none⟩ = some (.int .i64 y3') := by rw [Lib.cell_of_heap hrb]; rfl
        have p3 : w5.cell? ⟨bx, 3, none⟩ = some (.int .i64 y4') := by rw [Lib.cell_of_heap hrb]; rfl
        have href := refDo_any (y1', y2', y3', y4') m A c w5 HFY.out hmF.out (Rd.below hmA.out HB5.out (Nat.le_refl _) |>.more HB5.out.size) (by omega)
        rw [hmN] at href
        have hdl := doA_len m (y1', y2', y3', y4')
        obtain ⟨d, hd⟩ : ∃ d, d = doA m (y1', y2', y3', y4') := ⟨_, rfl⟩
        rw [← hd] at hN1 hd1 hdl ⊢
        have HD := Lib.hid hd
        have HN1 := Lib.hid hN1
        have HDL := Lib.hid hdl
        clear hd hN1 hdo hb5 hrb HB4 HL4 HRb hdl
        go_wp2_with fail
        refine href.mono ?_
        intro r w6 hr6
        obtain ⟨B2, d2, rfl, hd2, hN2, hb6⟩ := refDo_ans hr6
        rw [← HD.out] at hd2 hN2 ⊢
        have HB6 := Lib.hid (Qt.more HB5.out HB5.out.size hb6)
        have HL6 := Lib.hid (HL5.out.now hb6)
        have hin := intsW_yes (c := d1) (c' := d2) (HN1.out.below hb6) hN2 rfl rfl (by rw [HDL.out]; omega)
        clear href hr6 hN2 hb6 p0 p1 p2 p3 HB5 HL5 HN1
        go_wp2_with fail
        refine hin.mono ?_
        rintro r w7 ⟨rfl, hb7⟩
        have HB7 := Lib.hid (Qt.more HB6.out HB6.out.size hb7)
        have HL7 := Lib.hid (HL6.out.now hb7)
        clear hin hb7 HB6 HL6
        go_wp2_with fail
        go_roundw
        case measure => simp [intOf]; omega
        case rel => exact ⟨j + 1, by omega, by go_num, (show Hid _ from ⟨HL7.out, HB7.out⟩)⟩
      · have hltz : ¬ (j : Int) < 2 := by omega
        obtain rfl : j = 2 := by omega
        go_wp2_with fail
        all_goals
          refine (accs_any AR raw cR _ wr (HRR.out.below HH.out.2 (Nat.le_refl _) |>.more HH.out.2.size) hlR HWR.out (by omega) (by omega)).mono ?_
          rintro r w5 ⟨v5, rfl, hv5, hb5⟩
          generalize hL5 : accs _ raw = L5 at hv5
          have hl5 : L5.length ≤ 40 := by rw [← hL5]; exact accs_len _ _
          have hF5 : ∀ j, j < L5.length → Fine4A (L5.getD j deadA) := by rw [← hL5]; exact accs_fine (by omega) (by omega) (fun y hy => hy)
          clear hL5
          obtain ⟨A5, c5, rfl, hc5, hN5⟩ := hv5.slice
          have HB5 := Lib.hid (Qt.more HH.out.2 HH.out.2.size hb5)
          have HN5 := Lib.hid hN5
          have HF5 := Lib.hid hF5
          clear hv5 hb5 hN5 hF5 HH
          go_wp2_with fail
          have hal := (Below.refl w5.heap.size w5).alloc (Nat.le_refl _) (.cells #[.slice AM more.length cM, .slice A5 L5.length c5] 26)
          have hrw := heap_alloc_new w5 (.cells #[.slice AM more.length cM, .slice A5 L5.length c5] 26)
          have HB6 := Lib.hid (Qt.more HB5.out HB5.out.size hal)
          have HN6 := Lib.hid (HN5.out.now hal)
          have HRw := Lib.hid hrw
          clear hal hrw HB5 HN5
          generalize w5.alloc (.cells #[.slice AM more.length cM, .slice A5 L5.length c5] 26) = w6 at *
          generalize w5.heap.size = qa at *
          clear HLit
          go_loopw [97] (fun i wr => ∃ j : Nat, j ≤ 2 ∧ i = .int .i64 j ∧ Hid (wr.heap[qa]? = some (.cells #[.slice AM more.length cM, .slice A5 L5.length c5] 26 (0, 0)) ∧ NowA wr A5 L5 ∧ Below w.heap.size w wr)) (fun i _ => 2 - (intOf i).toNat)
          case atStart => exact ⟨0, by omega, rfl, (show Hid _ from ⟨HRw.out, HN6.out, HB6.out⟩)⟩
          case round =>
            obtain ⟨j, hj, rfl, HH⟩ := hrel
            by_cases hlt : j < 2
            · have hltz : (j : Int) < 2 := by omega
              obtain ⟨B, l, d, hcB, hNB, hFB, hlB⟩ : ∃ (B : Option Addr) (l : List Ac) (d : Nat), wr.cell? ⟨qa, j, none⟩ = some (.slice B l.length d) ∧ Hid (NowA wr B l) ∧ Hid (∀ j, j < l.length → Fine4A (l.getD j deadA)) ∧ l.length ≤ 4398046511104 := by
                have hj1 : j = 0 ∨ j = 1 := by omega
                rcases hj1 with rfl | rfl
                · exact ⟨AM, more, cM, by rw [Lib.cell_of_heap HH.out.1]; rfl, (show Hid _ from (HRM.out.below HH.out.2.2 (Nat.le_refl _) |>.more HH.out.2.2.size)), HWM, by omega⟩
                · exact ⟨A5, L5, c5, by rw [Lib.cell_of_heap HH.out.1]; rfl, (show Hid _ from HH.out.2.1), HF5, by omega⟩
              have hpl := memPlay_any A B m l c d wr (Rd.below hmA.out HH.out.2.2 (Nat.le_refl _) |>.more HH.out.2.2.size) hmc (by omega) hmF.out hNB.out hFB.out (by omega)
              rw [hmN] at hpl
              obtain ⟨hpl1, hpl2⟩ := playA_len m l m [] rfl
              simp only [List.length_nil, Nat.zero_add] at hpl2
              obtain ⟨P, hP⟩ : ∃ P, P = playA m l m [] := ⟨_, rfl⟩
              rw [← hP] at hpl hpl1 hpl2
              have HP := Lib.hid hP
              have HPL := Lib.hid (And.intro hpl1 hpl2)
              clear hP hpl1 hpl2
              go_wp2_with fail
              refine hpl.mono ?_
              rintro r w7 ⟨B1, d1, B2, d2, rfl, hd1, hN1, hd2, hN2, hb7⟩
              have HB7 := Lib.hid (Qt.more HH.out.2.2 HH.out.2.2.size hb7)
              have HR7 := Lib.hid (And.intro ((hb7.block _ (lt_heap6' HH.out.1)).trans HH.out.1) (HH.out.2.1.now hb7))
              have HNN := Lib.hid (And.intro hN1 hN2)
              have href := refPlay_any A B m l c d w7 (Rd.below hmA.out HB7.out (Nat.le_refl _) |>.more HB7.out.size) hmc (by omega) hmF.out (hNB.out.now hb7) hFB.out (by omega)
              rw [hmN, ← HP.out] at href
              clear hpl hb7 hN1 hN2 HH hcB
              go_wp2_with fail
              refine href.mono ?_
              rintro r w8 ⟨B3, d3, B4, d4, rfl, hd3, hN3, hd4, hN4, hb8⟩
              have HB8 := Lib.hid (Qt.more HB7.out HB7.out.size hb8)
              have HR8 := Lib.hid (And.intro ((hb8.block _ (lt_heap6' HR7.out.1)).trans HR7.out.1) (HR7.out.2.now hb8))
              have hin1 := intsW_yes (c := d1) (c' := d3) (HNN.out.1.below hb8) hN3 rfl rfl (by rw [HPL.out.1]; omega)
              have HN24 := Lib.hid (And.intro (HNN.out.2.below hb8) hN4)
              clear href hb8 hN3 hN4 HB7 HR7 HNN
              go_wp2_with fail
              refine hin1.mono ?_
              rintro r w9 ⟨rfl, hb9⟩
              have HB9 := Lib.hid (Qt.more HB8.out HB8.out.size hb9)
              have HR9 := Lib.hid (And.intro ((hb9.block _ (lt_heap6' HR8.out.1)).trans HR8.out.1) (HR8.out.2.now hb9))
              have hin2 := intsW_yes (c := d2) (c' := d4) (HN24.out.1.below hb9) (HN24.out.2.below hb9) rfl rfl (by have := HPL.out.2; omega)
              clear hin1 hb9 HB8 HR8 HN24
              go_wp2_with fail
              refine hin2.mono ?_
              rintro r w10 ⟨rfl, hb10⟩
              have HB10 := Lib.hid (Qt.more HB9.out HB9.out.size hb10)
              have HR10 := Lib.hid (And.intro ((hb10.block _ (lt_heap6' HR9.out.1)).trans HR9.out.1) (HR9.out.2.now hb10))
              clear hin2 hb10 HB9 HR9
              go_wp2_with fail
              go_roundw
              case measure => simp [intOf]; omega
              case rel => exact ⟨j + 1, by omega, by go_num, (show Hid _ from ⟨HR10.out.1, HR10.out.2, HB10.out⟩)⟩
            · have hltz : ¬ (j : Int) < 2 := by omega
              obtain rfl : j = 2 := by omega
              go_wp2_with fail
              go_ret
              exact ⟨rfl, HH.out.2.2⟩
end Go.Proofs.Ythfbcjbiemdedaa
