/-
  Texts that the claims of this seat share, part 17.
-/
import Derived.Test.YtbibbonbhamcfaaB15
import Derived.Test.YtbibbonbhamcfaaB16
set_option linter.unusedVariables false
set_option linter.unusedSimpArgs false
namespace Go.Proofs.Ytbibbonbhamcfaa
set_option maxRecDepth 100000
set_option linter.unusedVariables false
set_option linter.unusedSimpArgs false
open Go.RowKit Go.Sort

/-- what is made of a node of a level from 2 on, of a store that is right; with an error the store is as it was -/
def grownL (l : List Nd) (room n : Int) (z : Zn) : Zn := if (right6 l room && decide (2 ≤ levI l n)) = true then (if z.2.2 = 0 then z else (l, 0, z.2.2)) else (l, 0, 1)
theorem lIn_new {n0 : Nat} {w : World} {g b : Nat} {l : List Nd} {room : Int} (hi : Ix n0 w g b l room) (hr : Right6 l room) (c : Nat) : LIn n0 (w.alloc (.map #[] c)) g b w.heap.size l room := by
  have hal := (Below.refl w.heap.size w).alloc (Nat.le_refl _) (.map #[] c)
  obtain ⟨v, D, h⟩ := id hi
  obtain ⟨es, c', hm⟩ := map_kind h.map
  refine ⟨hi.below hal, hr, ⟨0, .map [], ⟨#[], c, heap_alloc_new w _, ⟨by simp, ⟨by simp, by simp, by simp⟩, by simp⟩, by simp, by simp⟩, saysJ_new _⟩, ?_, hi.hB⟩
  have := lt_heap6 hm
  omega
theorem makeMapJ_run (w : World) : (Instr.makeMap 74 none).run Try.prog w = .ok (.map (some w.heap.size)) (w.alloc (.map #[] 0)) := by
  have ht := Try.underlying74
  simp [Instr.makeMap, run_underlying ht]
set_option maxHeartbeats 8000000 in
theorem madeL_1 (F : Nat) (eg : ∀ args w, (callFunc F args).run Try.prog w = .ok (.enter F args) w) (k0 : Value) (n : Int) (z : Zn) (A : Option Addr) (l : List Nd) (c : Nat) (room : Int) (w : World) (hR : RdN w w.heap.size A l) (hl : l.length ≤ 1000000) (hc : l.length ≤ c) (hlv : ∀ i, i < l.length → -9223372036854775808 ≤ (l.getD i deadN).1 ∧ (l.getD i deadN).1 ≤ 9223372036854775807)
    (hmade : right6 l room = true → 2 ≤ levI l n → ∀ (g b mb : Nat) (W : World), Below w.heap.size w W → LIn (w.heap.size + 2) W g b mb l room → Calls Try.prog F #[makerL g mb, k0] W (LpR z (w.heap.size + 2) g b mb room W)) :
    Calls Try.prog 39 #[storeV A l.length c room, .int .i64 n, .func (.func F) #[] #[k0]] w (PutR (grownL l room n z) room w) := by
  have HH0 := Lib.hid (empHead_0 w A l.length c room)
  have hs0 := HH0.out.s0
  have hs1 := HH0.out.s1
  have hidx := indexOf_any A l c room _ ((hR.below HH0.out.bel (Nat.le_refl _)).more HH0.out.bel.size) hl hc
  have HMD := Lib.hid hmade
  unfold storeV IndexR at hidx
  unfold storeV
  clear hmade
  cases hr : right6 l room with
  | false =>
    have hz : grownL l room n z = (l, 0, 1) := by unfold grownL; rw [hr]; rfl
    rw [hz]
    rw [hr] at hidx
    clear hz hr
    go_enter Try.func39, Try.ntmps39
    go_wp2_with fail
    refine hidx.mono ?_
    rintro e w1 ⟨hb1, (⟨_, rfl⟩ | ⟨hh, _⟩)⟩
    rotate_left
    · exact absurd hh (by decide)
    have H1 := HH0.out.below hb1
    have H2 := Lib.hid (H1.below ((Below.refl w1.heap.size w1).alloc (Nat.le_refl _) (.cells #[.slice none 0 0, .int .i64 0, .map none] 95)))
    have s0 := H2.out.s0
    have s1 := H2.out.s1
    have r0 := H2.out.r0
    have r1 := H2.out.r1
    have f0 := H2.out.free 0
    have f1 := H2.out.free 1
    have ht := Lib.hid (H2.out.told (.slice A l.length c) (.int .i64 room))
    clear hidx hb1 hs0 hs1 H1
    go_wp2_with fail
    refine bodyPost_ret (results_cell3 rfl _ _ _ _ _ _ _ rfl ht.out.1 Try.underlying26 rfl (by kernel_rfl)) rfl ?_
    exact ⟨_, rfl, ⟨A, c, rfl, hc, (hR.below ht.out.2 (Nat.le_refl _)).more ht.out.2.size⟩, ht.out.2⟩
  | true =>
    rw [hr] at hidx
    have h2 := (right_iff.1 hr).two
    have HR6 := Lib.hid (right_iff.1 hr)
    have HMM := Lib.hid (HMD.out hr)
    by_cases hlev : 2 ≤ levI l n
    · have hz : grownL l room n z = (if z.2.2 = 0 then z else (l, 0, z.2.2)) := by unfold grownL; rw [hr, decide_eq_true hlev]; rfl
      rw [hz]
      have HMN := Lib.hid (HMM.out hlev)
      clear HMM
      obtain ⟨e0, k, rfl, hIs, hle, hlv2⟩ := lev_is HR6.out hlev
      have hklt := hIs.lt
      have hkz : (k : Int) < (l.length : Int) := by omega
      have hkn : ¬ (k : Int) < 0 := by omega
      obtain ⟨b0, off, rfl, hbB, hcell⟩ := hR.at_ (by omega)
      have x0 := (hcell k hklt).1
      rw [hIs.lev] at x0
      obtain ⟨lv, hlvv⟩ : ∃ lv : Int, lv = ((e0 + 2 : Nat) : Int) := ⟨_, rfl⟩
      rw [← hlvv] at x0
      have hlv2' : ¬ lv < 2 := by omega
      obtain ⟨m, q, ee⟩ := z
      obtain ⟨y, hy⟩ : ∃ y, y = (if ee = 0 then (m, q, ee) else (l, 0, ee)) := ⟨_, rfl⟩
      simp only
      rw [← hy]
      have HY := Lib.hid hy
      clear hy hz hr HMD hlv2 hle hIs hlev hcell hlvv
      go_enter Try.func39, Try.ntmps39
      go_wp2_with fail
      refine hidx.mono ?_
      rintro e w1 ⟨hb1, (⟨hh, _⟩ | ⟨_, v, b, D, rfl, hown, hmap, hsays, hbB'⟩)⟩
      · exact absurd hh (by decide)
      obtain ⟨q1, cap, rfl, hcap⟩ := ownN_val hown (by omega)
      have hsz := HH0.out.size
      have H1 := HH0.out.below hb1
      have hbx : Below w1.heap.size w1 (w1.alloc (.cells #[.slice (some ⟨q1, 0, none⟩) l.length cap, .int .i64 room, .map (some b)] 95)) := (Below.refl _ _).alloc (Nat.le_refl _) _
      have H2 := Lib.hid (H1.below hbx)
      have hn2 : w.heap.size + 2 ≤ w1.heap.size := H1.size
      have HX : Hid (Ix (w.heap.size + 2) (w1.alloc (.cells #[.slice (some ⟨q1, 0, none⟩) l.length cap, .int .i64 room, .map (some b)] 95)) w1.heap.size b l room) := ix_boxed (ownN_low hown hsz) hmap hsays (by omega) hn2
      have s0 := H2.out.s0
      have x1 := Qt.keep H2.out.bel x0
      clear hidx hb1 hs0 hs1 H1 hown hmap hsays hbx hbB' x0
      have hmk := makeMapJ_run
      have hs3 : (w1.alloc (.cells #[.slice (some ⟨q1, 0, none⟩) l.length cap, .int .i64 room, .map (some b)] 95)).heap.size = w1.heap.size + 1 := by simp
      have hli := lIn_new HX.out HR6.out 0
      rw [hs3] at hli
      have hb3 := (Below.refl _ (w1.alloc (.cells #[.slice (some ⟨q1, 0, none⟩) l.length cap, .int .i64 room, .map (some b)] 95))).alloc (Nat.le_refl _) (.map #[] 0)
      have H3 := Lib.hid (H2.out.below hb3)
      have hcall := HMN.out w1.heap.size b (w1.heap.size + 1) _ H3.out.bel hli
      clear hli hb3 hs3 HX HMN
      go_wp2_with fail
      refine hcall.mono ?_
      rintro e w2 ⟨rfl, hl2, hb2⟩
      have hb2b := hb2.bel
      have hbel2 := H3.out
      have H4 : EmpHead w w2 (some ⟨b0, off, none⟩) l.length c room := ⟨(hb2b.block _ (by omega)).trans hbel2.store, (hb2b.block _ (by omega)).trans hbel2.res, hbel2.bel.trans (hb2b.mono (by omega))⟩
      have HI2 := Lib.hid hl2
      clear hcall hb2 hb2b hbel2 hl2 H2 H3 hmk s0 x1
      have s0 := H4.s0
      have s1 := H4.s1
      have r0 := H4.r0
      have r1 := H4.r1
      have f0 := H4.free 0
      have f1 := H4.free 1
      by_cases he : ee = 0
      · have hy := HY.out
        rw [if_pos he] at hy
        subst hy he
        obtain ⟨v2, D2, hI⟩ := (HI2.out rfl).ix
        have g0 := hI.row.c0
        have g1 := hI.row.c1
        have hv : ∃ B d, v2 = .slice B m.length d ∧ m.length ≤ d ∧ NowN w2 B m := hI.own.reads
        obtain ⟨B, d, rfl, hd, hNow⟩ := hv
        have hlow : ∀ x, (Value.slice B m.length d).ownBlock = some x → w.heap.size + 2 ≤ x := fun x hx => (ownN_kind hI.own x hx).1
        have ht := Lib.hid (H4.told (.slice B m.length d) (.int .i64 room))
        have hne : (Value.slice B m.length d).ownBlock = none ∨ (Value.slice B m.length d).ownBlock ≠ some (w.heap.size + 1) := by
          cases hx : (Value.slice B m.length d).ownBlock with
          | none => exact .inl rfl
          | some x => exact .inr (fun e => by injection e with e; have := hlow x hx; omega)
        have hfin := World.ownsRow.kept (World.ownsRow.kept hI.own (but_set (b := w.heap.size + 1) 0 (.slice B m.length d)) hne) (but_set (b := w.heap.size + 1) 1 (.int .i64 room)) hne
        have HFN := Lib.hid (OwnN.reads hfin)
        clear hI hNow hlow hne hfin H4
        go_wp2_with fail
        refine bodyPost_ret (results_cell3 rfl _ _ _ _ _ _ _ rfl ht.out.1 Try.underlying26 rfl (by kernel_rfl)) rfl ?_
        exact ⟨_, rfl, HFN.out, ht.out.2⟩
      · have hy := HY.out
        rw [if_neg he] at hy
        subst hy
        have ht := Lib.hid (H4.told (.slice (some ⟨b0, off, none⟩) l.length c) (.int .i64 room))
        clear H4
        go_wp2_with fail
        refine bodyPost_ret (results_cell3 rfl _ _ _ _ _ _ _ rfl ht.out.1 Try.underlying26 rfl (by kernel_rfl)) rfl ?_
        exact ⟨_, rfl, ⟨_, c, rfl, hc, (hR.below ht.out.2 (Nat.le_refl _)).more ht.out.2.size⟩, ht.out.2⟩
    · have hz : grownL l room n z = (l, 0, 1) := by unfold grownL; rw [hr, decide_eq_false hlev]; rfl
      rw [hz]
      have hcase : n < 0 ∨ (¬ n < 0 ∧ (l.length : Int) ≤ n) ∨ (¬ n < 0 ∧ ¬ (l.length : Int) ≤ n ∧ ∃ k : Nat, n = (k : Int) ∧ k < l.length ∧ (l.getD k deadN).1 < 2) := by
        by_cases h0 : n < 0
        · exact .inl h0
        · by_cases h1 : (l.length : Int) ≤ n
          · exact .inr (.inl ⟨h0, h1⟩)
          · refine .inr (.inr ⟨h0, h1, n.toNat, by omega, by omega, ?_⟩)
            unfold levI at hlev
            rw [if_pos (by omega)] at hlev
            unfold ndAt at hlev
            omega
      clear hlev hz hr HMM HMD
      rcases hcase with hn0 | ⟨hn0, hn1⟩ | ⟨hn0, hn1, k, rfl, hkl, hlv2⟩
      · have d0 : decide (n < 0) = true := decide_eq_true hn0
        go_enter Try.func39, Try.ntmps39
        go_wp2_with fail
        refine hidx.mono ?_
        rintro e w1 ⟨hb1, (⟨hh, _⟩ | ⟨_, v, b, D, rfl, hown, hmap, hsays, hbB'⟩)⟩
        · exact absurd hh (by decide)
        obtain ⟨q1, cap, rfl, hcap⟩ := ownN_val hown (by omega)
        have H1 := HH0.out.below hb1
        have hbx : Below w1.heap.size w1 (w1.alloc (.cells #[.slice (some ⟨q1, 0, none⟩) l.length cap, .int .i64 room, .map (some b)] 95)) := (Below.refl _ _).alloc (Nat.le_refl _) _
        have H2 := Lib.hid (H1.below hbx)
        have s0 := H2.out.s0
        have s1 := H2.out.s1
        have r0 := H2.out.r0
        have r1 := H2.out.r1
        have f0 := H2.out.free 0
        have f1 := H2.out.free 1
        have ht := Lib.hid (H2.out.told (.slice A l.length c) (.int .i64 room))
        clear hidx hb1 hs0 hs1 H1 hown hmap hsays hbx hbB'
        go_wp2_with fail
        refine bodyPost_ret (results_cell3 rfl _ _ _ _ _ _ _ rfl ht.out.1 Try.underlying26 rfl (by kernel_rfl)) rfl ?_
        exact ⟨_, rfl, ⟨_, c, rfl, hc, (hR.below ht.out.2 (Nat.le_refl _)).more ht.out.2.size⟩, ht.out.2⟩
      · have d0 : decide (n < 0) = false := decide_eq_false hn0
        have d1 : decide ((l.length : Int) ≤ n) = true := decide_eq_true hn1
        go_enter Try.func39, Try.ntmps39
        go_wp2_with fail
        refine hidx.mono ?_
        rintro e w1 ⟨hb1, (⟨hh, _⟩ | ⟨_, v, b, D, rfl, hown, hmap, hsays, hbB'⟩)⟩
        · exact absurd hh (by decide)
        obtain ⟨q1, cap, rfl, hcap⟩ := ownN_val hown (by omega)
        have H1 := HH0.out.below hb1
        have hbx : Below w1.heap.size w1 (w1.alloc (.cells #[.slice (some ⟨q1, 0, none⟩) l.length cap, .int .i64 room, .map (some b)] 95)) := (Below.refl _ _).alloc (Nat.le_refl _) _
        have H2 := Lib.hid (H1.below hbx)
        have s0 := H2.out.s0
        have s1 := H2.out.s1
        have r0 := H2.out.r0
        have r1 := H2.out.r1
        have f0 := H2.out.free 0
        have f1 := H2.out.free 1
        have ht := Lib.hid (H2.out.told (.slice A l.length c) (.int .i64 room))
        clear hidx hb1 hs0 hs1 H1 hown hmap hsays hbx hbB'
        go_wp2_with fail
        refine bodyPost_ret (results_cell3 rfl _ _ _ _ _ _ _ rfl ht.out.1 Try.underlying26 rfl (by kernel_rfl)) rfl ?_
        exact ⟨_, rfl, ⟨_, c, rfl, hc, (hR.below ht.out.2 (Nat.le_refl _)).more ht.out.2.size⟩, ht.out.2⟩
      · obtain ⟨b0, off, rfl, hbB, hcell⟩ := hR.at_ (by omega)
        have x0 := (hcell k hkl).1
        have hkz : (k : Int) < (l.length : Int) := by omega
        have hkn : ¬ (k : Int) < 0 := by omega
        generalize (l.getD k deadN).1 = lv at *
        clear hcell hn0 hn1
        go_enter Try.func39, Try.ntmps39
        go_wp2_with fail
        refine hidx.mono ?_
        rintro e w1 ⟨hb1, (⟨hh, _⟩ | ⟨_, v, b, D, rfl, hown, hmap, hsays, hbB'⟩)⟩
        · exact absurd hh (by decide)
        obtain ⟨q1, cap, rfl, hcap⟩ := ownN_val hown (by omega)
        have H1 := HH0.out.below hb1
        have hbx : Below w1.heap.size w1 (w1.alloc (.cells #[.slice (some ⟨q1, 0, none⟩) l.length cap, .int .i64 room, .map (some b)] 95)) := (Below.refl _ _).alloc (Nat.le_refl _) _
        have H2 := Lib.hid (H1.below hbx)
        have s0 := H2.out.s0
        have s1 := H2.out.s1
        have r0 := H2.out.r0
        have r1 := H2.out.r1
        have f0 := H2.out.free 0
        have f1 := H2.out.free 1
        have x1 := Qt.keep H2.out.bel x0
        have ht := Lib.hid (H2.out.told (.slice (some ⟨b0, off, none⟩) l.length c) (.int .i64 room))
        clear hidx hb1 hs0 hs1 H1 hown hmap hsays hbx hbB'
        go_wp2_with fail
        refine bodyPost_ret (results_cell3 rfl _ _ _ _ _ _ _ rfl ht.out.1 Try.underlying26 rfl (by kernel_rfl)) rfl ?_
        exact ⟨_, rfl, ⟨_, c, rfl, hc, (hR.below ht.out.2 (Nat.le_refl _)).more ht.out.2.size⟩, ht.out.2⟩
set_option maxHeartbeats 8000000 in
theorem madeL_2 (F : Nat) (eg : ∀ args w, (callFunc F args).run Try.prog w = .ok (.enter F args) w) (k0 k1 : Value) (n : Int) (z : Zn) (A : Option Addr) (l : List Nd) (c : Nat) (room : Int) (w : World) (hR : RdN w w.heap.size A l) (hl : l.length ≤ 1000000) (hc : l.length ≤ c) (hlv : ∀ i, i < l.length → -9223372036854775808 ≤ (l.getD i deadN).1 ∧ (l.getD i deadN).1 ≤ 9223372036854775807)
    (hmade : right6 l room = true → 2 ≤ levI l n → ∀ (g b mb : Nat) (W : World), Below w.heap.size w W → LIn (w.heap.size + 2) W g b mb l room → Calls Try.prog F #[makerL g mb, k0, k1] W (LpR z (w.heap.size + 2) g b mb room W)) :
    Calls Try.prog 39 #[storeV A l.length c room, .int .i64 n, .func (.func F) #[] #[k0, k1]] w (PutR (grownL l room n z) room w) := by
  have HH0 := Lib.hid (empHead_0 w A l.length c room)
  have hs0 := HH0.out.s0
  have hs1 := HH0.out.s1
  have hidx := indexOf_any A l c room _ ((hR.below HH0.out.bel (Nat.le_refl _)).more HH0.out.bel.size) hl hc
  have HMD := Lib.hid hmade
  unfold storeV IndexR at hidx
  unfold storeV
  clear hmade
  cases hr : right6 l room with
  | false =>
    have hz : grownL l room n z = (l, 0, 1) := by unfold grownL; rw [hr]; rfl
    rw [hz]
    rw [hr] at hidx
    clear hz hr
    go_enter Try.func39, Try.ntmps39
    go_wp2_with fail
    refine hidx.mono ?_
    rintro e w1 ⟨hb1, (⟨_, rfl⟩ | ⟨hh, _⟩)⟩
    rotate_left
    · exact absurd hh (by decide)
    have H1 := HH0.out.below hb1
    have H2 := Lib.hid (H1.below ((Below.refl w1.heap.size w1).alloc (Nat.le_refl _) (.cells #[.slice none 0 0, .int .i64 0, .map none] 95)))
    have s0 := H2.out.s0
    have s1 := H2.out.s1
    have r0 := H2.out.r0
    have r1 := H2.out.r1
    have f0 := H2.out.free 0
    have f1 := H2.out.free 1
    have ht := Lib.hid (H2.out.told (.slice A l.length c) (.int .i64 room))
    clear hidx hb1 hs0 hs1 H1
    go_wp2_with fail
    refine bodyPost_ret (results_cell3 rfl _ _ _ _ _ _ _ rfl ht.out.1 Try.underlying26 rfl (by kernel_rfl)) rfl ?_
    exact ⟨_, rfl, ⟨A, c, rfl, hc, (hR.below ht.out.2 (Nat.le_refl _)).more ht.out.2.size⟩, ht.out.2⟩
  | true =>
    rw [hr] at hidx
    have h2 := (right_iff.1 hr).two
    have HR6 := Lib.hid (right_iff.1 hr)
    have HMM := Lib.hid (HMD.out hr)
    by_cases hlev : 2 ≤ levI l n
    · have hz : grownL l room n z = (if z.2.2 = 0 then z else (l, 0, z.2.2)) := by unfold grownL; rw [hr, decide_eq_true hlev]; rfl
      rw [hz]
      have HMN := Lib.hid (HMM.out hlev)
      clear HMM
      obtain ⟨e0, k, rfl, hIs, hle, hlv2⟩ := lev_is HR6.out hlev
      have hklt := hIs.lt
      have hkz : (k : Int) < (l.length : Int) := by omega
      have hkn : ¬ (k : Int) < 0 := by omega
      obtain ⟨b0, off, rfl, hbB, hcell⟩ := hR.at_ (by omega)
      have x0 := (hcell k hklt).1
      rw [hIs.lev] at x0
      obtain ⟨lv, hlvv⟩ : ∃ lv : Int, lv = ((e0 + 2 : Nat) : Int) := ⟨_, rfl⟩
      rw [← hlvv] at x0
      have hlv2' : ¬ lv < 2 := by omega
      obtain ⟨m, q, ee⟩ := z
      obtain ⟨y, hy⟩ : ∃ y, y = (if ee = 0 then (m, q, ee) else (l, 0, ee)) := ⟨_, rfl⟩
      simp only
      rw [← hy]
      have HY := Lib.hid hy
      clear hy hz hr HMD hlv2 hle hIs hlev hcell hlvv
      go_enter Try.func39, Try.ntmps39
      go_wp2_with fail
      refine hidx.mono ?_
      rintro e w1 ⟨hb1, (⟨hh, _⟩ | ⟨_, v, b, D, rfl, hown, hmap, hsays, hbB'⟩)⟩
      · exact absurd hh (by decide)
      obtain ⟨q1, cap, rfl, hcap⟩ := ownN_val hown (by omega)
      have hsz := HH0.out.size
      have H1 := HH0.out.below hb1
      have hbx : Below w1.heap.size w1 (w1.alloc (.cells #[.slice (some ⟨q1, 0, none⟩) l.length cap, .int .i64 room, .map (some b)] 95)) := (Below.refl _ _).alloc (Nat.le_refl _) _
      have H2 := Lib.hid (H1.below hbx)
      have hn2 : w.heap.size + 2 ≤ w1.heap.size := H1.size
      have HX : Hid (Ix (w.heap.size + 2) (w1.alloc (.cells #[.slice (some ⟨q1, 0, none⟩) l.length cap, .int .i64 room, .map (some b)] 95)) w1.heap.size b l room) := ix_boxed (ownN_low hown hsz) hmap hsays (by omega) hn2
      have s0 := H2.out.s0
      have x1 := Qt.keep H2.out.bel x0
      clear hidx hb1 hs0 hs1 H1 hown hmap hsays hbx hbB' x0
      have hmk := makeMapJ_run
      have hs3 : (w1.alloc (.cells #[.slice (some ⟨q1, 0, none⟩) l.length cap, .int .i64 room, .map (some b)] 95)).heap.size = w1.heap.size + 1 := by simp
      have hli := lIn_new HX.out HR6.out 0
      rw [hs3] at hli
      have hb3 := (Below.refl _ (w1.alloc (.cells #[.slice (some ⟨q1, 0, none⟩) l.length cap, .int .i64 room, .map (some b)] 95))).alloc (Nat.le_refl _) (.map #[] 0)
      have H3 := Lib.hid (H2.out.below hb3)
      have hcall := HMN.out w1.heap.size b (w1.heap.size + 1) _ H3.out.bel hli
      clear hli hb3 hs3 HX HMN
      go_wp2_with fail
      refine hcall.mono ?_
      rintro e w2 ⟨rfl, hl2, hb2⟩
      have hb2b := hb2.bel
      have hbel2 := H3.out
      have H4 : EmpHead w w2 (some ⟨b0, off, none⟩) l.length c room := ⟨(hb2b.block _ (by omega)).trans hbel2.store, (hb2b.block _ (by omega)).trans hbel2.res, hbel2.bel.trans (hb2b.mono (by omega))⟩
      have HI2 := Lib.hid hl2
      clear hcall hb2 hb2b hbel2 hl2 H2 H3 hmk s0 x1
      have s0 := H4.s0
      have s1 := H4.s1
      have r0 := H4.r0
      have r1 := H4.r1
      have f0 := H4.free 0
      have f1 := H4.free 1
      by_cases he : ee = 0
      · have hy := HY.out
        rw [if_pos he] at hy
        subst hy he
        obtain ⟨v2, D2, hI⟩ := (HI2.out rfl).ix
        have g0 := hI.row.c0
        have g1 := hI.row.c1
        have hv : ∃ B d, v2 = .slice B m.length d ∧ m.length ≤ d ∧ NowN w2 B m := hI.own.reads
        obtain ⟨B, d, rfl, hd, hNow⟩ := hv
        have hlow : ∀ x, (Value.slice B m.length d).ownBlock = some x → w.heap.size + 2 ≤ x := fun x hx => (ownN_kind hI.own x hx).1
        have ht := Lib.hid (H4.told (.slice B m.length d) (.int .i64 room))
        have hne : (Value.slice B m.length d).ownBlock = none ∨ (Value.slice B m.length d).ownBlock ≠ some (w.heap.size + 1) := by
          cases hx : (Value.slice B m.length d).ownBlock with
          | none => exact .inl rfl
          | some x => exact .inr (fun e => by injection e with e; have := hlow x hx; omega)
        have hfin := World.ownsRow.kept (World.ownsRow.kept hI.own (but_set (b := w.heap.size + 1) 0 (.slice B m.length d)) hne) (but_set (b := w.heap.size + 1) 1 (.int .i64 room)) hne
        have HFN := Lib.hid (OwnN.reads hfin)
        clear hI hNow hlow hne hfin H4
        go_wp2_with fail
        refine bodyPost_ret (results_cell3 rfl _ _ _ _ _ _ _ rfl ht.out.1 Try.underlying26 rfl (by kernel_rfl)) rfl ?_
        exact ⟨_, rfl, HFN.out, ht.out.2⟩
      · have hy := HY.out
        rw [if_neg he] at hy
        subst hy
        have ht := Lib.hid (H4.told (.slice (some ⟨b0, off, none⟩) l.length c) (.int .i64 room))
        clear H4
        go_wp2_with fail
        refine bodyPost_ret (results_cell3 rfl _ _ _ _ _ _ _ rfl ht.out.1 Try.underlying26 rfl (by kernel_rfl)) rfl ?_
        exact ⟨_, rfl, ⟨_, c, rfl, hc, (hR.below ht.out.2 (Nat.le_refl _)).more ht.out.2.size⟩, ht.out.2⟩
    · have hz : grownL l room n z = (l, 0, 1) := by unfold grownL; rw [hr, decide_eq_false hlev]; rfl
      rw [hz]
      have hcase : n < 0 ∨ (¬ n < 0 ∧ (l.length : Int) ≤ n) ∨ (¬ n < 0 ∧ ¬ (l.length : Int) ≤ n ∧ ∃ k : Nat, n = (k : Int) ∧ k < l.length ∧ (l.getD k deadN).1 < 2) := by
        by_cases h0 : n < 0
        · exact .inl h0
        · by_cases h1 : (l.length : Int) ≤ n
          · exact .inr (.inl ⟨h0, h1⟩)
          · refine .inr (.inr ⟨h0, h1, n.toNat, by omega, by omega, ?_⟩)
            unfold levI at hlev
            rw [if_pos (by omega)] at hlev
            unfold ndAt at hlev
            omega
      clear hlev hz hr HMM HMD
      rcases hcase with hn0 | ⟨hn0, hn1⟩ | ⟨hn0, hn1, k, rfl, hkl, hlv2⟩
      · have d0 : decide (n < 0) = true := decide_eq_true hn0
        go_enter Try.func39, Try.ntmps39
        go_wp2_with fail
        refine hidx.mono ?_
        rintro e w1 ⟨hb1, (⟨hh, _⟩ | ⟨_, v, b, D, rfl, hown, hmap, hsays, hbB'⟩)⟩
        · exact absurd hh (by decide)
        obtain ⟨q1, cap, rfl, hcap⟩ := ownN_val hown (by omega)
        have H1 := HH0.out.below hb1
        have hbx : Below w1.heap.size w1 (w1.alloc (.cells #[.slice (some ⟨q1, 0, none⟩) l.length cap, .int .i64 room, .map (some b)] 95)) := (Below.refl _ _).alloc (Nat.le_refl _) _
        have H2 := Lib.hid (H1.below hbx)
        have s0 := H2.out.s0
        have s1 := H2.out.s1
        have r0 := H2.out.r0
        have r1 := H2.out.r1
        have f0 := H2.out.free 0
        have f1 := H2.out.free 1
        have ht := Lib.hid (H2.out.told (.slice A l.length c) (.int .i64 room))
        clear hidx hb1 hs0 hs1 H1 hown hmap hsays hbx hbB'
        go_wp2_with fail
        refine bodyPost_ret (results_cell3 rfl _ _ _ _ _ _ _ rfl ht.out.1 Try.underlying26 rfl (by kernel_rfl)) rfl ?_
        exact ⟨_, rfl, ⟨_, c, rfl, hc, (hR.below ht.out.2 (Nat.le_refl _)).more ht.out.2.size⟩, ht.out.2⟩
      · have d0 : decide (n < 0) = false := decide_eq_false hn0
        have d1 : decide ((l.length : Int) ≤ n) = true := decide_eq_true hn1
        go_enter Try.func39, Try.ntmps39
        go_wp2_with fail
        refine hidx.mono ?_
        rintro e w1 ⟨hb1, (⟨hh, _⟩ | ⟨_, v, b, D, rfl, hown, hmap, hsays, hbB'⟩)⟩
        · exact absurd hh (by decide)
        obtain ⟨q1, cap, rfl, hcap⟩ := ownN_val hown (by omega)
        have H1 := HH0.out.below hb1
        have hbx : Below w1.heap.size w1 (w1.alloc (.cells #[.slice (some ⟨q1, 0, none⟩) l.length cap, .int .i64 room, .map (some b)] 95)) := (Below.refl _ _).alloc (Nat.le_refl _) _
        have H2 := Lib.hid (H1.below hbx)
        have s0 := H2.out.s0
        have s1 := H2.out.s1
        have r0 := H2.out.r0
        have r1 := H2.out.r1
        have f0 := H2.out.free 0
        have f1 := H2.out.free 1
        have ht := Lib.hid (H2.out.told (.slice A l.length c) (.int .i64 room))
        clear hidx hb1 hs0 hs1 H1 hown hmap hsays hbx hbB'
        go_wp2_with fail
        refine bodyPost_ret (results_cell3 rfl _ _ _ _ _ _ _ rfl ht.out.1 Try.underlying26 rfl (by kernel_rfl)) rfl ?_
        exact ⟨_, rfl, ⟨_, c, rfl, hc, (hR.below ht.out.2 (Nat.le_refl _)).more ht.out.2.size⟩, ht.out.2⟩
      · obtain ⟨b0, off, rfl, hbB, hcell⟩ := hR.at_ (by omega)
        have x0 := (hcell k hkl).1
        have hkz : (k : Int) < (l.length : Int) := by omega
        have hkn : ¬ (k : Int) < 0 := by omega
        generalize (l.getD k deadN).1 = lv at *
        clear hcell hn0 hn1
        go_enter Try.func39, Try.ntmps39
        go_wp2_with fail
        refine hidx.mono ?_
        rintro e w1 ⟨hb1, (⟨hh, _⟩ | ⟨_, v, b, D, rfl, hown, hmap, hsays, hbB'⟩)⟩
        · exact absurd hh (by decide)
        obtain ⟨q1, cap, rfl, hcap⟩ := ownN_val hown (by omega)
        have H1 := HH0.out.below hb1
        have hbx : Below w1.heap.size w1 (w1.alloc (.cells #[.slice (some ⟨q1, 0, none⟩) l.length cap, .int .i64 room, .map (some b)] 95)) := (Below.refl _ _).alloc (Nat.le_refl _) _
        have H2 := Lib.hid (H1.below hbx)
        have s0 := H2.out.s0
        have s1 := H2.out.s1
        have r0 := H2.out.r0
        have r1 := H2.out.r1
        have f0 := H2.out.free 0
        have f1 := H2.out.free 1
        have x1 := Qt.keep H2.out.bel x0
        have ht := Lib.hid (H2.out.told (.slice (some ⟨b0, off, none⟩) l.length c) (.int .i64 room))
        clear hidx hb1 hs0 hs1 H1 hown hmap hsays hbx hbB'
        go_wp2_with fail
        refine bodyPost_ret (results_cell3 rfl _ _ _ _ _ _ _ rfl ht.out.1 Try.underlying26 rfl (by kernel_rfl)) rfl ?_
        exact ⟨_, rfl, ⟨_, c, rfl, hc, (hR.below ht.out.2 (Nat.le_refl _)).more ht.out.2.size⟩, ht.out.2⟩
end Go.Proofs.Ytbibbonbhamcfaa
namespace Go.Proofs.Ytbibbonbhamcfaa
set_option maxRecDepth 100000
set_option linter.unusedVariables false
set_option linter.unusedSimpArgs false
open Go.RowKit Go.Sort

theorem leap_all (n0 g b mb : Nat) (room : Int) : ∀ e, e ≤ 40 → LeapAt 42 n0 g b mb room e
  | 0, _ => leap_of n0 g b mb room 0 (anew_two n0 g b mb room)
  | e + 1, h => leap_of n0 g b mb room (e + 1) (anew_more n0 g b mb room e h (leap_all n0 g b mb room e (by omega)))
/-- Leap's answer: the exponent is from 0 to the level less 2. -/
def leapZ (room : Int) (l : List Nd) (n j : Int) : Zn := if 0 ≤ j ∧ j ≤ levI l n - 2 then leapN room (levI l n - 2).toNat j.toNat l n else (l, 0, 1)
theorem LpR.no {n0 g b mb : Nat} {room : Int} {w w' : World} {l : List Nd} {c : Int} (hc : c ≠ 0) (h : BelL n0 w w') : LpR (l, 0, c) n0 g b mb room w (.returned (.tuple #[.int .i64 0, .int .i64 c])) w' := ⟨rfl, fun h0 => absurd h0 hc, h⟩
set_option maxHeartbeats 8000000 in
theorem leapC_any {n0 g b mb : Nat} {room : Int} {l : List Nd} {w : World} (hin : LIn n0 w g b mb l room) {k e : Nat} (hk : Is l (e + 2) k) (he : e ≤ 40) (j : Int) (hj : I64 j) {jb nb : Nat} (hjb : LR w jb j) (hnb : LR w nb (k : Int)) :
    Calls Try.prog 40 #[makerL g mb, .pointer (some ⟨jb, 0, none⟩), .pointer (some ⟨nb, 0, none⟩)] w (LpR (leapZ room l (k : Int) j) n0 g b mb room w) := by
  have hn0 := hin.ix.hB
  have hal := (Below.refl w.heap.size w).alloc (Nat.le_refl _) (.cells #[.pointer (some ⟨g, 0, none⟩), .map (some mb)] 76)
  have hM : ML (w.alloc (.cells #[.pointer (some ⟨g, 0, none⟩), .map (some mb)] 76)) w.heap.size g mb := heap_new rfl
  have HI := Lib.hid (hin.below hal)
  have HM := Lib.hid hM
  have HJ := Lib.hid (hjb.below hal)
  have HN := Lib.hid (hnb.below hal)
  have HA := Lib.hid (BelL.of hal hn0)
  have hle : levI l (k : Int) = ((e + 2 : Nat) : Int) := lev_at hk
  by_cases hj0 : j < 0
  · have hz : leapZ room l (k : Int) j = (l, 0, 1) := if_neg (by omega)
    rw [hz]
    have j0 := Qt.cell_in HJ.out.c
    clear hal hM hin hjb hnb hle hk hz
    go_enter Try.func40, Try.ntmps40
    go_wp2_with fail
    generalize (w.alloc (.cells #[.pointer (some ⟨g, 0, none⟩), .map (some mb)] 76)) = w0 at *
    refine Qt.below_all (by kernel_rfl) (by kernel_rfl) ?_
    repeat (go_big_quiet_step (fail))
    refine wpQuiet_nil ?_
    intro w7 hb7
    have HB := Lib.hid (HA.out.trans (.of hb7 HI.out.ix.hB))
    clear j0 hb7
    go_wp2_with fail
    go_ret2
    exact LpR.no (by decide) HB.out
  · have HK := Lib.hid hk
    have hnn : 0 ≤ j := by omega
    obtain ⟨jn, rfl⟩ : ∃ jn : Nat, j = jn := ⟨j.toNat, by omega⟩
    obtain ⟨lev, hlev⟩ : ∃ lev : Int, lev = (e : Int) + 2 := ⟨_, rfl⟩
    have hlv := fun W (hb : Below (w.alloc (.cells #[.pointer (some ⟨g, 0, none⟩), .map (some mb)] 76)).heap.size (w.alloc (.cells #[.pointer (some ⟨g, 0, none⟩), .map (some mb)] 76)) W) => levelL_any room n0 g b mb l k hk.lt W (HI.out.below hb).ix hin.right
    rw [show (l.getD k deadN).1 = lev by rw [hk.lev, hlev]; omega] at hlv
    have hw2 : IntKind.i64.wrap (lev - 2) = lev - 2 := by rw [IntKind.wrap_i64]; omega
    obtain ⟨gt, hgt⟩ : ∃ gt, gt = decide (lev - 2 < (jn : Int)) := ⟨_, rfl⟩
    have HW2 := Lib.hid hw2
    have HLV := Lib.hid hlv
    obtain ⟨Z, hZ⟩ : ∃ Z, Z = leapZ room l (k : Int) (jn : Int) := ⟨_, rfl⟩
    rw [← hZ]
    have HZ : Hid (Z = if gt = false then leapN room e jn l (k : Int) else (l, 0, 1)) := by
      show _ = _
      rw [hZ]
      unfold leapZ
      rw [hle, hgt]
      by_cases h : jn ≤ e
      · rw [if_pos (by omega), if_pos (by simp; omega), show (((e + 2 : Nat) : Int) - 2).toNat = e by omega, Int.toNat_natCast]
      · rw [if_neg (by omega), if_neg (by simp; omega)]
    have HGT := Lib.hid hgt
    have HNG := Lib.hid (show ¬ (jn : Int) < 0 by omega)
    have HE := Lib.hid hlev
    clear hal hM hin hjb hnb hle hk hlv hw2 hgt hlev hj hj0 hZ
    go_enter Try.func40, Try.ntmps40
    go_wp2_with fail
    generalize (w.alloc (.cells #[.pointer (some ⟨g, 0, none⟩), .map (some mb)] 76)) = w0 at *
    refine region_calm_to (fun W => Below w0.heap.size w0 W) (fun (a0 a9 : Act) (w9 : World) => a9 = ((((((((((a0.put (some 6) (.int .i64 (jn : Int))).put (some 7) (.bool false)).put (some 8) (.bool false)).put (some 9) (.int .i64 (jn : Int))).put (some 10) (makerL g mb)).put (some 11) (.int .i64 (k : Int))).put (some 12) (.int .i64 lev)).put (some 13) (.int .i64 (lev - 2))).put (some 14) (.bool gt)).put (some 15) (.bool gt)) ∧ Below w0.heap.size w0 w9) (.calm 0 (.calm 1 (.calm 2 (.calm 3 (.calm 4 (.calm 5 (.only 6 (.calm 7 (.calm 8 (.calm 9 .done)))))))))) (by kernel_rfl) (by kernel_rfl) (by kernel_rfl) (by rfl) (below_drew _) ?_ ?_
    · skip
      refine ⟨_, _, .int .i64 (jn : Int), rfl, rfl, ⟨rfl, fun W hW => by have j0 := (HJ.out.below hW).c; simp only [Act.eval, execOp]; go_simp; done⟩, ?_⟩
      simp only [Act.put, List.getElem_toArray, List.getElem_cons_zero, List.getElem_cons_succ, List.setIfInBounds_toArray, List.set_cons_succ, List.set_cons_zero]
      refine ⟨_, _, .bool false, rfl, rfl, ⟨rfl, fun W hW => by have hneg := HNG.out; simp only [Act.eval, execOp]; go_simp; done⟩, ?_⟩
      simp only [Act.put, List.getElem_toArray, List.getElem_cons_zero, List.getElem_cons_succ, List.setIfInBounds_toArray, List.set_cons_succ, List.set_cons_zero]
      refine ⟨_, _, .bool false, rfl, rfl, ⟨rfl, fun W hW => by first | exact ⟨rfl, rfl⟩ | (simp only [Act.eval, execOp]; go_simp; try exact ⟨rfl, rfl⟩)⟩, ?_⟩
      simp only [Act.put, List.getElem_toArray, List.getElem_cons_zero, List.getElem_cons_succ, List.setIfInBounds_toArray, List.set_cons_succ, List.set_cons_zero]
      refine ⟨_, _, .int .i64 (jn : Int), rfl, rfl, ⟨rfl, fun W hW => by have j0 := (HJ.out.below hW).c; simp only [Act.eval, execOp]; go_simp; done⟩, ?_⟩
      simp only [Act.put, List.getElem_toArray, List.getElem_cons_zero, List.getElem_cons_succ, List.setIfInBounds_toArray, List.set_cons_succ, List.set_cons_zero]
      refine ⟨_, _, makerL g mb, rfl, rfl, ⟨rfl, fun W hW => by have m0 := (HM.out.below hW).c0; have m1 := (HM.out.below hW).c1; simp only [Act.eval, execOp]; go_simp; done⟩, ?_⟩
      simp only [Act.put, List.getElem_toArray, List.getElem_cons_zero, List.getElem_cons_succ, List.setIfInBounds_toArray, List.set_cons_succ, List.set_cons_zero]
      refine ⟨_, _, .int .i64 (k : Int), rfl, rfl, ⟨rfl, fun W hW => by have n1 := (HN.out.below hW).c; simp only [Act.eval, execOp]; go_simp; done⟩, ?_⟩
      simp only [Act.put, List.getElem_toArray, List.getElem_cons_zero, List.getElem_cons_succ, List.setIfInBounds_toArray, List.set_cons_succ, List.set_cons_zero]
      refine ⟨_, rfl, ?_⟩
      go_wp2_with fail
      refine (HLV.out _ (below_drew w0)).mono ?_
      rintro r w9 ⟨rfl, hb⟩
      have hBc := Qt.more (below_drew w0) (Nat.le_refl _) hb
      clear hb
      go_wp2_with fail
      refine ⟨rfl, hBc, ?_⟩
      refine ⟨_, _, .int .i64 (lev - 2), rfl, rfl, ⟨rfl, fun W hW => by have hw2 := HW2.out; simp only [Act.eval, execOp]; go_simp; try exact ⟨rfl, rfl⟩⟩, ?_⟩
      simp only [Act.put, List.getElem_toArray, List.getElem_cons_zero, List.getElem_cons_succ, List.setIfInBounds_toArray, List.set_cons_succ, List.set_cons_zero]
      refine ⟨_, _, .bool gt, rfl, rfl, ⟨rfl, fun W hW => by rw [HGT.out]; simp only [Act.eval, execOp]; go_simp; try exact ⟨rfl, rfl⟩⟩, ?_⟩
      simp only [Act.put, List.getElem_toArray, List.getElem_cons_zero, List.getElem_cons_succ, List.setIfInBounds_toArray, List.set_cons_succ, List.set_cons_zero]
      refine ⟨_, _, .bool gt, rfl, rfl, ⟨rfl, fun W hW => by first | exact ⟨rfl, rfl⟩ | (simp only [Act.eval, execOp]; go_simp; try exact ⟨rfl, rfl⟩)⟩, ?_⟩
      simp only [Act.put, List.getElem_toArray, List.getElem_cons_zero, List.getElem_cons_succ, List.setIfInBounds_toArray, List.set_cons_succ, List.set_cons_zero]
      refine ⟨?_, hBc⟩
      first | rfl | simp only [Act.put, List.setIfInBounds_toArray, List.set_cons_succ, List.set_cons_zero]
    · intro a9 w9 h9
      obtain ⟨rfl, hb9⟩ := h9
      simp only [Act.put, List.setIfInBounds_toArray, List.set_cons_succ, List.set_cons_zero]
      have HI9 := Lib.hid (HI.out.below hb9)
      have HA9 := Lib.hid (HA.out.trans (.of hb9 HI.out.ix.hB))
      cases gt with
      | true =>
        have hz : Z = (l, 0, 1) := by rw [HZ.out, if_neg (by decide)]
        subst hz
        clear hb9
        go_wp2_with fail
        go_ret2
        exact LpR.no (by decide) HA9.out
      | false =>
        have hz : Z = leapN room e jn l (k : Int) := by rw [HZ.out, if_pos rfl]
        have j0 := (HJ.out.below hb9).c
        have n1 := (HN.out.below hb9).c
        have m0 := (HM.out.below hb9).c0
        have m1 := (HM.out.below hb9).c1
        have hje : jn ≤ e := by have h := HGT.out; have h2 := HE.out; have h3 := of_decide_eq_false h.symm; omega
        have hlp := leap_all n0 g b mb room e he k jn l w9 HI9.out HK.out hje he
        clear hb9
        rw [← hz] at hlp
        clear hz HZ
        obtain ⟨zl, zn, ze⟩ := Z
        go_wp2_with fail
        refine hlp.mono ?_
        rintro r w2 ⟨rfl, hl2, hb2⟩
        have HB2 := Lib.hid (HA9.out.trans hb2)
        have HL2 := Lib.hid hl2
        clear hlp hl2 hb2 j0 n1 m0 m1
        go_wp2_with fail
        go_ret2
        exact ⟨rfl, HL2.out, HB2.out⟩
end Go.Proofs.Ytbibbonbhamcfaa
