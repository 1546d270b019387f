/-
  Texts that the claims of this seat share, part 18.
-/
import Derived.Test.YtgjibpgfcbdpgaaB16
set_option linter.unusedVariables false
set_option linter.unusedSimpArgs false
namespace Go.Proofs.Ytgjibpgfcbdpgaa
set_option maxRecDepth 100000
set_option linter.unusedVariables false
set_option linter.unusedSimpArgs false
open Go.RowKit Go.Sort

/-- what is made of a node of a level from 2 on, of a store that is right; with an error the store is as it was -/
def grownL (l : List Nd) (room n : Int) (z : Zn) : Zn := if (right6 l room && decide (2 ≤ levI l n)) = true then (if z.2.2 = 0 then z else (l, 0, z.2.2)) else (l, 0, 1)
theorem lIn_new {n0 : Nat} {w : World} {g b : Nat} {l : List Nd} {room : Int} (hi : Ix n0 w g b l room) (hr : Right6 l room) (c : Nat) : LIn n0 (w.alloc (.map #[] c)) g b w.heap.size l room := by
  have hal := (Below.refl w.heap.size w).alloc (Nat.le_refl _) (.map #[] c)
  obtain ⟨v, D, h⟩ := id hi
  obtain ⟨es, c', hm⟩ := map_kind h.map
  refine ⟨hi.below hal, hr, ⟨0, .map [], ⟨#[], c, heap_alloc_new w _, ⟨by simp, ⟨by simp, by simp, by simp⟩, by simp⟩, by simp, by simp⟩, saysJ_new _⟩, ?_, hi.hB⟩
  have := lt_heap6 hm
  omega
theorem makeMapJ_run (w : World) : (Instr.makeMap 74 none).run Try.prog w = .ok (.map (some w.heap.size)) (w.alloc (.map #[] 0)) := by
  have ht := Try.underlying74
  simp [Instr.makeMap, run_underlying ht]
set_option maxHeartbeats 8000000 in
theorem madeL_1 (F : Nat) (eg : ∀ args w, (callFunc F args).run Try.prog w = .ok (.enter F args) w) (k0 : Value) (n : Int) (z : Zn) (A : Option Addr) (l : List Nd) (c : Nat) (room : Int) (w : World) (hR : RdN w w.heap.size A l) (hl : l.length ≤ 1000000) (hc : l.length ≤ c) (hlv : ∀ i, i < l.length → -9223372036854775808 ≤ (l.getD i deadN).1 ∧ (l.getD i deadN).1 ≤ 9223372036854775807)
    (hmade : right6 l room = true → 2 ≤ levI l n → ∀ (g b mb : Nat) (W : World), Below w.heap.size w W → LIn (w.heap.size + 2) W g b mb l room → Calls Try.prog F #[makerL g mb, k0] W (LpR z (w.heap.size + 2) g b mb room W)) :
    Calls Try.prog 39 #[storeV A l.length c room, .int .i64 n, .func (.func F) #[] #[k0]] w (PutR (grownL l room n z) room w) := by
  have HH0 := Lib.hid (empHead_0 w A l.length c room)
  have hs0 := HH0.out.s0
  have hs1 := HH0.out.s1
  have hidx := indexOf_any A l c room _ ((hR.below HH0.out.bel (Nat.le_refl _)).more HH0.out.bel.size) hl hc
  have HMD := Lib.hid hmade
  unfold storeV IndexR at hidx
  unfold storeV
  clear hmade
  cases hr : right6 l room with
  | false =>
    have hz : grownL l room n z = (l, 0, 1) := by unfold grownL; rw [hr]; rfl
    rw [hz]
    rw [hr] at hidx
    clear hz hr
    go_enter Try.func39, Try.ntmps39
    go_wp2_with fail
    refine hidx.mono ?_
    rintro e w1 ⟨hb1, (⟨_, rfl⟩ | ⟨hh, _⟩)⟩
    rotate_left
    · exact absurd hh (by decide)
    have H1 := HH0.out.below hb1
    have H2 := Lib.hid (H1.below ((Below.refl w1.heap.size w1).alloc (Nat.le_refl _) (.cells #[.slice none 0 0, .int .i64 0, .map none] 95)))
    have s0 := H2.out.s0
    have s1 := H2.out.s1
    have r0 := H2.out.r0
    have r1 := H2.out.r1
    have f0 := H2.out.free 0
    have f1 := H2.out.free 1
    have ht := Lib.hid (H2.out.told (.slice A l.length c) (.int .i64 room))
    clear hidx hb1 hs0 hs1 H1
    go_wp2_with fail
    refine bodyPost_ret (results_cell3 rfl _ _ _ _ _ _ _ rfl ht.out.1 Try.underlying26 rfl (by kernel_rfl)) rfl ?_
    exact ⟨_, rfl, ⟨A, c, rfl, hc, (hR.below ht.out.2 (Nat.le_refl _)).more ht.out.2.size⟩, ht.out.2⟩
  | true =>
    rw [hr] at hidx
    have h2 := (right_iff.1 hr).two
    have HR6 := Lib.hid (right_iff.1 hr)
    have HMM := Lib.hid (HMD.out hr)
    by_cases hlev : 2 ≤ levI l n
    · have hz : grownL l room n z = (if z.2.2 = 0 then z else (l, 0, z.2.2)) := by unfold grownL; rw [hr, decide_eq_true hlev]; rfl
      rw [hz]
      have HMN := Lib.hid (HMM.out hlev)
      clear HMM
      obtain ⟨e0, k, rfl, hIs, hle, hlv2⟩ := lev_is HR6.out hlev
      have hklt := hIs.lt
      have hkz : (k : Int) < (l.length : Int) := by omega
      have hkn : ¬ (k : Int) < 0 := by omega
      obtain ⟨b0, off, rfl, hbB, hcell⟩ := hR.at_ (by omega)
      have x0 := (hcell k hklt).1
      rw [hIs.lev] at x0
      obtain ⟨lv, hlvv⟩ : ∃ lv : Int, lv = ((e0 + 2 : Nat) : Int) := ⟨_, rfl⟩
      rw [← hlvv] at x0
      have hlv2' : ¬ lv < 2 := by omega
      obtain ⟨m, q, ee⟩ := z
      obtain ⟨y, hy⟩ : ∃ y, y = (if ee = 0 then (m, q, ee) else (l, 0, ee)) := ⟨_, rfl⟩
      simp only
      rw [← hy]
      have HY := Lib.hid hy
      clear hy hz hr HMD hlv2 hle hIs hlev hcell hlvv
      go_enter Try.func39, Try.ntmps39
      go_wp2_with fail
      refine hidx.mono ?_
      rintro e w1 ⟨hb1, (⟨hh, _⟩ | ⟨_, v, b, D, rfl, hown, hmap, hsays, hbB'⟩)⟩
      · exact absurd hh (by decide)
      obtain ⟨q1, cap, rfl, hcap⟩ := ownN_val hown (by omega)
      have hsz := HH0.out.size
      have H1 := HH0.out.below hb1
      have hbx : Below w1.heap.size w1 (w1.alloc (.cells #[.slice (some ⟨q1, 0, none⟩) l.length cap, .int .i64 room, .map (some b)] 95)) := (Below.refl _ _).alloc (Nat.le_refl _) _
      have H2 := Lib.hid (H1.below hbx)
      have hn2 : w.heap.size + 2 ≤ w1.heap.size := H1.size
      have HX : Hid (Ix (w.heap.size + 2) (w1.alloc (.cells #[.slice (some ⟨q1, 0, none⟩) l.length cap, .int .i64 room, .map (some b)] 95)) w1.heap.size b l room) := ix_boxed (ownN_low hown hsz) hmap hsays (by omega) hn2
      have s0 := H2.out.s0
      have x1 := Qt.keep H2.out.bel x0
      clear hidx hb1 hs0 hs1 H1 hown hmap hsays hbx hbB' x0
      have hmk := makeMapJ_run
      have hs3 : (w1.alloc (.cells #[.slice (some ⟨q1, 0, none⟩) l.length cap, .int .i64 room, .map (some b)] 95)).heap.size = w1.heap.size + 1 := by simp
      have hli := lIn_new HX.out HR6.out 0
      rw [hs3] at hli
      have hb3 := (Below.refl _ (w1.alloc (.cells #[.slice (some ⟨q1, 0, none⟩) l.length cap, .int .i64 room, .map (some b)] 95))).alloc (Nat.le_refl _) (.map #[] 0)
      have H3 := Lib.hid (H2.out.below hb3)
      have hcall := HMN.out w1.heap.size b (w1.heap.size + 1) _ H3.out.bel hli
      clear hli hb3 hs3 HX HMN
      go_wp2_with fail
      refine hcall.mono ?_
      rintro e w2 ⟨rfl, hl2, hb2⟩
      have hb2b := hb2.bel
      have hbel2 := H3.out
      have H4 : EmpHead w w2 (some ⟨b0, off, none⟩) l.length c room := ⟨(hb2b.block _ (by omega)).trans hbel2.store, (hb2b.block _ (by omega)).trans hbel2.res, hbel2.bel.trans (hb2b.mono (by omega))⟩
      have HI2 := Lib.hid hl2
      clear hcall hb2 hb2b hbel2 hl2 H2 H3 hmk s0 x1
      have s0 := H4.s0
      have s1 := H4.s1
      have r0 := H4.r0
      have r1 := H4.r1
      have f0 := H4.free 0
      have f1 := H4.free 1
      by_cases he : ee = 0
      · have hy := HY.out
        rw [if_pos he] at hy
        subst hy he
        obtain ⟨v2, D2, hI⟩ := (HI2.out rfl).ix
        have g0 := hI.row.c0
        have g1 := hI.row.c1
        have hv : ∃ B d, v2 = .slice B m.length d ∧ m.length ≤ d ∧ NowN w2 B m := hI.own.reads
        obtain ⟨B, d, rfl, hd, hNow⟩ := hv
        have hlow : ∀ x, (Value.slice B m.length d).ownBlock = some x → w.heap.size + 2 ≤ x := fun x hx => (ownN_kind hI.own x hx).1
        have ht := Lib.hid (H4.told (.slice B m.length d) (.int .i64 room))
        have hne : (Value.slice B m.length d).ownBlock = none ∨ (Value.slice B m.length d).ownBlock ≠ some (w.heap.size + 1) := by
          cases hx : (Value.slice B m.length d).ownBlock with
          | none => exact .inl rfl
          | some x => exact .inr (fun e => by injection e with e; have := hlow x hx; omega)
        have hfin := World.ownsRow.kept (World.ownsRow.kept hI.own (but_set (b := w.heap.size + 1) 0 (.slice B m.length d)) hne) (but_set (b := w.heap.size + 1) 1 (.int .i64 room)) hne
        have HFN := Lib.hid (OwnN.reads hfin)
        clear hI hNow hlow hne hfin H4
        go_wp2_with fail
        refine bodyPost_ret (results_cell3 rfl _ _ _ _ _ _ _ rfl ht.out.1 Try.underlying26 rfl (by kernel_rfl)) rfl ?_
        exact ⟨_, rfl, HFN.out, ht.out.2⟩
      · have hy := HY.out
        rw [if_neg he] at hy
        subst hy
        have ht := Lib.hid (H4.told (.slice (some ⟨b0, off, none⟩) l.length c) (.int .i64 room))
        clear H4
        go_wp2_with fail
        refine bodyPost_ret (results_cell3 rfl _ _ _ _ _ _ _ rfl ht.out.1 Try.underlying26 rfl (by kernel_rfl)) rfl ?_
        exact ⟨_, rfl, ⟨_, c, rfl, hc, (hR.below ht.out.2 (Nat.le_refl _)).more ht.out.2.size⟩, ht.out.2⟩
    · have hz : grownL l room n z = (l, 0, 1) := by unfold grownL; rw [hr, decide_eq_false hlev]; rfl
      rw [hz]
      have hcase : n < 0 ∨ (¬ n < 0 ∧ (l.length : Int) ≤ n) ∨ (¬ n < 0 ∧ ¬ (l.length : Int) ≤ n ∧ ∃ k : Nat, n = (k : Int) ∧ k < l.length ∧ (l.getD k deadN).1 < 2) := by
        by_cases h0 : n < 0
        · exact .inl h0
        · by_cases h1 : (l.length : Int) ≤ n
          · exact .inr (.inl ⟨h0, h1⟩)
          · refine .inr (.inr ⟨h0, h1, n.toNat, by omega, by omega, ?_⟩)
            unfold levI at hlev
            rw [if_pos (by omega)] at hlev
            unfold ndAt at hlev
            omega
      clear hlev hz hr HMM HMD
      rcases hcase with hn0 | ⟨hn0, hn1⟩ | ⟨hn0, hn1, k, rfl, hkl, hlv2⟩
      · have d0 : decide (n < 0) = true := decide_eq_true hn0
        go_enter Try.func39, Try.ntmps39
        go_wp2_with fail
        refine hidx.mono ?_
        rintro e w1 ⟨hb1, (⟨hh, _⟩ | ⟨_, v, b, D, rfl, hown, hmap, hsays, hbB'⟩)⟩
        · exact absurd hh (by decide)
        obtain ⟨q1, cap, rfl, hcap⟩ := ownN_val hown (by omega)
        have H1 := HH0.out.below hb1
        have hbx : Below w1.heap.size w1 (w1.alloc (.cells #[.slice (some ⟨q1, 0, none⟩) l.length cap, .int .i64 room, .map (some b)] 95)) := (Below.refl _ _).alloc (Nat.le_refl _) _
        have H2 := Lib.hid (H1.below hbx)
        have s0 := H2.out.s0
        have s1 := H2.out.s1
        have r0 := H2.out.r0
        have r1 := H2.out.r1
        have f0 := H2.out.free 0
        have f1 := H2.out.free 1
        have ht := Lib.hid (H2.out.told (.slice A l.length c) (.int .i64 room))
        clear hidx hb1 hs0 hs1 H1 hown hmap hsays hbx hbB'
        go_wp2_with fail
        refine bodyPost_ret (results_cell3 rfl _ _ _ _ _ _ _ rfl ht.out.1 Try.underlying26 rfl (by kernel_rfl)) rfl ?_
        exact ⟨_, rfl, ⟨_, c, rfl, hc, (hR.below ht.out.2 (Nat.le_refl _)).more ht.out.2.size⟩, ht.out.2⟩
      · have d0 : decide (n < 0) = false := decide_eq_false hn0
        have d1 : decide ((l.length : Int) ≤ n) = true := decide_eq_true hn1
        go_enter Try.func39, Try.ntmps39
        go_wp2_with fail
        refine hidx.mono ?_
        rintro e w1 ⟨hb1, (⟨hh, _⟩ | ⟨_, v, b, D, rfl, hown, hmap, hsays, hbB'⟩)⟩
        · exact absurd hh (by decide)
        obtain ⟨q1, cap, rfl, hcap⟩ := ownN_val hown (by omega)
        have H1 := HH0.out.below hb1
        have hbx : Below w1.heap.size w1 (w1.alloc (.cells #[.slice (some ⟨q1, 0, none⟩) l.length cap, .int .i64 room, .map (some b)] 95)) := (Below.refl _ _).alloc (Nat.le_refl _) _
        have H2 := Lib.hid (H1.below hbx)
        have s0 := H2.out.s0
        have s1 := H2.out.s1
        have r0 := H2.out.r0
        have r1 := H2.out.r1
        have f0 := H2.out.free 0
        have f1 := H2.out.free 1
        have ht := Lib.hid (H2.out.told (.slice A l.length c) (.int .i64 room))
        clear hidx hb1 hs0 hs1 H1 hown hmap hsays hbx hbB'
        go_wp2_with fail
        refine bodyPost_ret (results_cell3 rfl _ _ _ _ _ _ _ rfl ht.out.1 Try.underlying26 rfl (by kernel_rfl)) rfl ?_
        exact ⟨_, rfl, ⟨_, c, rfl, hc, (hR.below ht.out.2 (Nat.le_refl _)).more ht.out.2.size⟩, ht.out.2⟩
      · obtain ⟨b0, off, rfl, hbB, hcell⟩ := hR.at_ (by omega)
        have x0 := (hcell k hkl).1
        have hkz : (k : Int) < (l.length : Int) := by omega
        have hkn : ¬ (k : Int) < 0 := by omega
        generalize (l.getD k deadN).1 = lv at *
        clear hcell hn0 hn1
        go_enter Try.func39, Try.ntmps39
        go_wp2_with fail
        refine hidx.mono ?_
        rintro e w1 ⟨hb1, (⟨hh, _⟩ | ⟨_, v, b, D, rfl, hown, hmap, hsays, hbB'⟩)⟩
        · exact absurd hh (by decide)
        obtain ⟨q1, cap, rfl, hcap⟩ := ownN_val hown (by omega)
        have H1 := HH0.out.below hb1
        have hbx : Below w1.heap.size w1 (w1.alloc (.cells #[.slice (some ⟨q1, 0, none⟩) l.length cap, .int .i64 room, .map (some b)] 95)) := (Below.refl _ _).alloc (Nat.le_refl _) _
        have H2 := Lib.hid (H1.below hbx)
        have s0 := H2.out.s0
        have s1 := H2.out.s1
        have r0 := H2.out.r0
        have r1 := H2.out.r1
        have f0 := H2.out.free 0
        have f1 := H2.out.free 1
        have x1 := Qt.keep H2.out.bel x0
        have ht := Lib.hid (H2.out.told (.slice (some ⟨b0, off, none⟩) l.length c) (.int .i64 room))
        clear hidx hb1 hs0 hs1 H1 hown hmap hsays hbx hbB'
        go_wp2_with fail
        refine bodyPost_ret (results_cell3 rfl _ _ _ _ _ _ _ rfl ht.out.1 Try.underlying26 rfl (by kernel_rfl)) rfl ?_
        exact ⟨_, rfl, ⟨_, c, rfl, hc, (hR.below ht.out.2 (Nat.le_refl _)).more ht.out.2.size⟩, ht.out.2⟩
set_option maxHeartbeats 8000000 in
theorem madeL_2 (F : Nat) (eg : ∀ args w, (callFunc F args).run Try.prog w = .ok (.enter F args) w) (k0 k1 : Value) (n : Int) (z : Zn) (A : Option Addr) (l : List Nd) (c : Nat) (room : Int) (w : World) (hR : RdN w w.heap.size A l) (hl : l.length ≤ 1000000) (hc : l.length ≤ c) (hlv : ∀ i, i < l.length → -9223372036854775808 ≤ (l.getD i deadN).1 ∧ (l.getD i deadN).1 ≤ 9223372036854775807)
    (hmade : right6 l room = true → 2 ≤ levI l n → ∀ (g b mb : Nat) (W : World), Below w.heap.size w W → LIn (w.heap.size + 2) W g b mb l room → Calls Try.prog F #[makerL g mb, k0, k1] W (LpR z (w.heap.size + 2) g b mb room W)) :
    Calls Try.prog 39 #[storeV A l.length c room, .int .i64 n, .func (.func F) #[] #[k0, k1]] w (PutR (grownL l room n z) room w) := by
  have HH0 := Lib.hid (empHead_0 w A l.length c room)
  have hs0 := HH0.out.s0
  have hs1 := HH0.out.s1
  have hidx := indexOf_any A l c room _ ((hR.below HH0.out.bel (Nat.le_refl _)).more HH0.out.bel.size) hl hc
  have HMD := Lib.hid hmade
  unfold storeV IndexR at hidx
  unfold storeV
  clear hmade
  cases hr : right6 l room with
  | false =>
    have hz : grownL l room n z = (l, 0, 1) := by unfold grownL; rw [hr]; rfl
    rw [hz]
    rw [hr] at hidx
    clear hz hr
    go_enter Try.func39, Try.ntmps39
    go_wp2_with fail
    refine hidx.mono ?_
    rintro e w1 ⟨hb1, (⟨_, rfl⟩ | ⟨hh, _⟩)⟩
    rotate_left
    · exact absurd hh (by decide)
    have H1 := HH0.out.below hb1
    have H2 := Lib.hid (H1.below ((Below.refl w1.heap.size w1).alloc (Nat.le_refl _) (.cells #[.slice none 0 0, .int .i64 0, .map none] 95)))
    have s0 := H2.out.s0
    have s1 := H2.out.s1
    have r0 := H2.out.r0
    have r1 := H2.out.r1
    have f0 := H2.out.free 0
    have f1 := H2.out.free 1
    have ht := Lib.hid (H2.out.told (.slice A l.length c) (.int .i64 room))
    clear hidx hb1 hs0 hs1 H1
    go_wp2_with fail
    refine bodyPost_ret (results_cell3 rfl _ _ _ _ _ _ _ rfl ht.out.1 Try.underlying26 rfl (by kernel_rfl)) rfl ?_
    exact ⟨_, rfl, ⟨A, c, rfl, hc, (hR.below ht.out.2 (Nat.le_refl _)).more ht.out.2.size⟩, ht.out.2⟩
  | true =>
    rw [hr] at hidx
    have h2 := (right_iff.1 hr).two
    have HR6 := Lib.hid (right_iff.1 hr)
    have HMM := Lib.hid (HMD.out hr)
    by_cases hlev : 2 ≤ levI l n
    · have hz : grownL l room n z = (if z.2.2 = 0 then z else (l, 0, z.2.2)) := by unfold grownL; rw [hr, decide_eq_true hlev]; rfl
      rw [hz]
      have HMN := Lib.hid (HMM.out hlev)
      clear HMM
      obtain ⟨e0, k, rfl, hIs, hle, hlv2⟩ := lev_is HR6.out hlev
      have hklt := hIs.lt
      have hkz : (k : Int) < (l.length : Int) := by omega
      have hkn : ¬ (k : Int) < 0 := by omega
      obtain ⟨b0, off, rfl, hbB, hcell⟩ := hR.at_ (by omega)
      have x0 := (hcell k hklt).1
      rw [hIs.lev] at x0
      obtain ⟨lv, hlvv⟩ : ∃ lv : Int, lv = ((e0 + 2 : Nat) : Int) := ⟨_, rfl⟩
      rw [← hlvv] at x0
      have hlv2' : ¬ lv < 2 := by omega
      obtain ⟨m, q, ee⟩ := z
      obtain ⟨y, hy⟩ : ∃ y, y = (if ee = 0 then (m, q, ee) else (l, 0, ee)) := ⟨_, rfl⟩
      simp only
      rw [← hy]
      have HY := Lib.hid hy
      clear hy hz hr HMD hlv2 hle hIs hlev hcell hlvv
      go_enter Try.func39, Try.ntmps39
      go_wp2_with fail
      refine hidx.mono ?_
      rintro e w1 ⟨hb1, (⟨hh, _⟩ | ⟨_, v, b, D, rfl, hown, hmap, hsays, hbB'⟩)⟩
      · exact absurd hh (by decide)
      obtain ⟨q1, cap, rfl, hcap⟩ := ownN_val hown (by omega)
      have hsz := HH0.out.size
      have H1 := HH0.out.below hb1
      have hbx : Below w1.heap.size w1 (w1.alloc (.cells #[.slice (some ⟨q1, 0, none⟩) l.length cap, .int .i64 room, .map (some b)] 95)) := (Below.refl _ _).alloc (Nat.le_refl _) _
      have H2 := Lib.hid (H1.below hbx)
      have hn2 : w.heap.size + 2 ≤ w1.heap.size := H1.size
      have HX : Hid (Ix (w.heap.size + 2) (w1.alloc (.cells #[.slice (some ⟨q1, 0, none⟩) l.length cap, .int .i64 room, .map (some b)] 95)) w1.heap.size b l room) := ix_boxed (ownN_low hown hsz) hmap hsays (by omega) hn2
      have s0 := H2.out.s0
      have x1 := Qt.keep H2.out.bel x0
      clear hidx hb1 hs0 hs1 H1 hown hmap hsays hbx hbB' x0
      have hmk := makeMapJ_run
      have hs3 : (w1.alloc (.cells #[.slice (some ⟨q1, 0, none⟩) l.length cap, .int .i64 room, .map (some b)] 95)).heap.size = w1.heap.size + 1 := by simp
      have hli := lIn_new HX.out HR6.out 0
      rw [hs3] at hli
      have hb3 := (Below.refl _ (w1.alloc (.cells #[.slice (some ⟨q1, 0, none⟩) l.length cap, .int .i64 room, .map (some b)] 95))).alloc (Nat.le_refl _) (.map #[] 0)
      have H3 := Lib.hid (H2.out.below hb3)
      have hcall := HMN.out w1.heap.size b (w1.heap.size + 1) _ H3.out.bel hli
      clear hli hb3 hs3 HX HMN
      go_wp2_with fail
      refine hcall.mono ?_
      rintro e w2 ⟨rfl, hl2, hb2⟩
      have hb2b := hb2.bel
      have hbel2 := H3.out
      have H4 : EmpHead w w2 (some ⟨b0, off, none⟩) l.length c room := ⟨(hb2b.block _ (by omega)).trans hbel2.store, (hb2b.block _ (by omega)).trans hbel2.res, hbel2.bel.trans (hb2b.mono (by omega))⟩
      have HI2 := Lib.hid hl2
      clear hcall hb2 hb2b hbel2 hl2 H2 H3 hmk s0 x1
      have s0 := H4.s0
      have s1 := H4.s1
      have r0 := H4.r0
      have r1 := H4.r1
      have f0 := H4.free 0
      have f1 := H4.free 1
      by_cases he : ee = 0
      · have hy := HY.out
        rw [if_pos he] at hy
        subst hy he
        obtain ⟨v2, D2, hI⟩ := (HI2.out rfl).ix
        have g0 := hI.row.c0
        have g1 := hI.row.c1
        have hv : ∃ B d, v2 = .slice B m.length d ∧ m.length ≤ d ∧ NowN w2 B m := hI.own.reads
        obtain ⟨B, d, rfl, hd, hNow⟩ := hv
        have hlow : ∀ x, (Value.slice B m.length d).ownBlock = some x → w.heap.size + 2 ≤ x := fun x hx => (ownN_kind hI.own x hx).1
        have ht := Lib.hid (H4.told (.slice B m.length d) (.int .i64 room))
        have hne : (Value.slice B m.length d).ownBlock = none ∨ (Value.slice B m.length d).ownBlock ≠ some (w.heap.size + 1) := by
          cases hx : (Value.slice B m.length d).ownBlock with
          | none => exact .inl rfl
          | some x => exact .inr (fun e => by injection e with e; have := hlow x hx; omega)
        have hfin := World.ownsRow.kept (World.ownsRow.kept hI.own (but_set (b := w.heap.size + 1) 0 (.slice B m.length d)) hne) (but_set (b := w.heap.size + 1) 1 (.int .i64 room)) hne
        have HFN := Lib.hid (OwnN.reads hfin)
        clear hI hNow hlow hne hfin H4
        go_wp2_with fail
        refine bodyPost_ret (results_cell3 rfl _ _ _ _ _ _ _ rfl ht.out.1 Try.underlying26 rfl (by kernel_rfl)) rfl ?_
        exact ⟨_, rfl, HFN.out, ht.out.2⟩
      · have hy := HY.out
        rw [if_neg he] at hy
        subst hy
        have ht := Lib.hid (H4.told (.slice (some ⟨b0, off, none⟩) l.length c) (.int .i64 room))
        clear H4
        go_wp2_with fail
        refine bodyPost_ret (results_cell3 rfl _ _ _ _ _ _ _ rfl ht.out.1 Try.underlying26 rfl (by kernel_rfl)) rfl ?_
        exact ⟨_, rfl, ⟨_, c, rfl, hc, (hR.below ht.out.2 (Nat.le_refl _)).more ht.out.2.size⟩, ht.out.2⟩
    · have hz : grownL l room n z = (l, 0, 1) := by unfold grownL; rw [hr, decide_eq_false hlev]; rfl
      rw [hz]
      have hcase : n < 0 ∨ (¬ n < 0 ∧ (l.length : Int) ≤ n) ∨ (¬ n < 0 ∧ ¬ (l.length : Int) ≤ n ∧ ∃ k : Nat, n = (k : Int) ∧ k < l.length ∧ (l.getD k deadN).1 < 2) := by
        by_cases h0 : n < 0
        · exact .inl h0
        · by_cases h1 : (l.length : Int) ≤ n
          · exact .inr (.inl ⟨h0, h1⟩)
          · refine .inr (.inr ⟨h0, h1, n.toNat, by omega, by omega, ?_⟩)
            unfold levI at hlev
            rw [if_pos (by omega)] at hlev
            unfold ndAt at hlev
            omega
      clear hlev hz hr HMM HMD
      rcases hcase with hn0 | ⟨hn0, hn1⟩ | ⟨hn0, hn1, k, rfl, hkl, hlv2⟩
      · have d0 : decide (n < 0) = true := decide_eq_true hn0
        go_enter Try.func39, Try.ntmps39
        go_wp2_with fail
        refine hidx.mono ?_
        rintro e w1 ⟨hb1, (⟨hh, _⟩ | ⟨_, v, b, D, rfl, hown, hmap, hsays, hbB'⟩)⟩
        · exact absurd hh (by decide)
        obtain ⟨q1, cap, rfl, hcap⟩ := ownN_val hown (by omega)
        have H1 := HH0.out.below hb1
        have hbx : Below w1.heap.size w1 (w1.alloc (.cells #[.slice (some ⟨q1, 0, none⟩) l.length cap, .int .i64 room, .map (some b)] 95)) := (Below.refl _ _).alloc (Nat.le_refl _) _
        have H2 := Lib.hid (H1.below hbx)
        have s0 := H2.out.s0
        have s1 := H2.out.s1
        have r0 := H2.out.r0
        have r1 := H2.out.r1
        have f0 := H2.out.free 0
        have f1 := H2.out.free 1
        have ht := Lib.hid (H2.out.told (.slice A l.length c) (.int .i64 room))
        clear hidx hb1 hs0 hs1 H1 hown hmap hsays hbx hbB'
        go_wp2_with fail
        refine bodyPost_ret (results_cell3 rfl _ _ _ _ _ _ _ rfl ht.out.1 Try.underlying26 rfl (by kernel_rfl)) rfl ?_
        exact ⟨_, rfl, ⟨_, c, rfl, hc, (hR.below ht.out.2 (Nat.le_refl _)).more ht.out.2.size⟩, ht.out.2⟩
      · have d0 : decide (n < 0) = false := decide_eq_false hn0
        have d1 : decide ((l.length : Int) ≤ n) = true := decide_eq_true hn1
        go_enter Try.func39, Try.ntmps39
        go_wp2_with fail
        refine hidx.mono ?_
        rintro e w1 ⟨hb1, (⟨hh, _⟩ | ⟨_, v, b, D, rfl, hown, hmap, hsays, hbB'⟩)⟩
        · exact absurd hh (by decide)
        obtain ⟨q1, cap, rfl, hcap⟩ := ownN_val hown (by omega)
        have H1 := HH0.out.below hb1
        have hbx : Below w1.heap.size w1 (w1.alloc (.cells #[.slice (some ⟨q1, 0, none⟩) l.length cap, .int .i64 room, .map (some b)] 95)) := (Below.refl _ _).alloc (Nat.le_refl _) _
        have H2 := Lib.hid (H1.below hbx)
        have s0 := H2.out.s0
        have s1 := H2.out.s1
        have r0 := H2.out.r0
        have r1 := H2.out.r1
        have f0 := H2.out.free 0
        have f1 := H2.out.free 1
        have ht := Lib.hid (H2.out.told (.slice A l.length c) (.int .i64 room))
        clear hidx hb1 hs0 hs1 H1 hown hmap hsays hbx hbB'
        go_wp2_with fail
        refine bodyPost_ret (results_cell3 rfl _ _ _ _ _ _ _ rfl ht.out.1 Try.underlying26 rfl (by kernel_rfl)) rfl ?_
        exact ⟨_, rfl, ⟨_, c, rfl, hc, (hR.below ht.out.2 (Nat.le_refl _)).more ht.out.2.size⟩, ht.out.2⟩
      · obtain ⟨b0, off, rfl, hbB, hcell⟩ := hR.at_ (by omega)
        have x0 := (hcell k hkl).1
        have hkz : (k : Int) < (l.length : Int) := by omega
        have hkn : ¬ (k : Int) < 0 := by omega
        generalize (l.getD k deadN).1 = lv at *
        clear hcell hn0 hn1
        go_enter Try.func39, Try.ntmps39
        go_wp2_with fail
        refine hidx.mono ?_
        rintro e w1 ⟨hb1, (⟨hh, _⟩ | ⟨_, v, b, D, rfl, hown, hmap, hsays, hbB'⟩)⟩
        · exact absurd hh (by decide)
        obtain ⟨q1, cap, rfl, hcap⟩ := ownN_val hown (by omega)
        have H1 := HH0.out.below hb1
        have hbx : Below w1.heap.size w1 (w1.alloc (.cells #[.slice (some ⟨q1, 0, none⟩) l.length cap, .int .i64 room, .map (some b)] 95)) := (Below.refl _ _).alloc (Nat.le_refl _) _
        have H2 := Lib.hid (H1.below hbx)
        have s0 := H2.out.s0
        have s1 := H2.out.s1
        have r0 := H2.out.r0
        have r1 := H2.out.r1
        have f0 := H2.out.free 0
        have f1 := H2.out.free 1
        have x1 := Qt.keep H2.out.bel x0
        have ht := Lib.hid (H2.out.told (.slice (some ⟨b0, off, none⟩) l.length c) (.int .i64 room))
        clear hidx hb1 hs0 hs1 H1 hown hmap hsays hbx hbB'
        go_wp2_with fail
        refine bodyPost_ret (results_cell3 rfl _ _ _ _ _ _ _ rfl ht.out.1 Try.underlying26 rfl (by kernel_rfl)) rfl ?_
        exact ⟨_, rfl, ⟨_, c, rfl, hc, (hR.below ht.out.2 (Nat.le_refl _)).more ht.out.2.size⟩, ht.out.2⟩
end Go.Proofs.Ytgjibpgfcbdpgaa
