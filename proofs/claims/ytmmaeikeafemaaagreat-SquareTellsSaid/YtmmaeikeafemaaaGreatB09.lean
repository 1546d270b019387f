/-
  Texts that the claims of this seat share, part 9.
-/
import Derived.Test.YtmmaeikeafemaaaGreatB08
import Derived.Test.YtmmaeikeafemaaaGreatB07
import Derived.Test.YtmmaeikeafemaaaGreatB06
set_option linter.unusedVariables false
set_option linter.unusedSimpArgs false
namespace Go.Proofs.YtmmaeikeafemaaaGreat
set_option maxRecDepth 100000
set_option linter.unusedVariables false
set_option linter.unusedSimpArgs false
open Go.RowKit Go.Sort

/-- What grown answers. -/
def grown6 (l : List Nd) (room : Int) (z : List Nd × Int × Int) : List Nd × Int × Int := if right6 l room = true then (if z.2.2 = 0 then z else (l, 0, z.2.2)) else (l, 0, 1)
theorem ix_boxed {w : World} {l : List Nd} {room : Int} {v : Value} {b n0 : Nat} {D : DataW Unit} (h : OwnN w n0 v l) (hm : MapAt w b l.length D) (hs : Says D l) (hb : n0 ≤ b) (hn : n0 ≤ w.heap.size) : Ix n0 (w.alloc (.cells #[v, .int .i64 room, .map (some b)] 93)) w.heap.size b l room :=
  ⟨v, D, ⟨heap_alloc_new w _, World.ownsRow.alloc h _, hm.alloc _, hs, hn, hb, by simp; omega⟩⟩

/-- What is known within Empty: the store, the level, what is to be told. -/
structure LevHead (w wr : World) (A : Option Addr) (n c : Nat) (room lev : Int) : Prop where
  store : wr.heap[w.heap.size]? = some (.cells #[.slice A n c, .int .i64 room] 26 (0, 0))
  lev : wr.heap[w.heap.size + 1]? = some (.cells #[.int .i64 lev] 3 (0, 0))
  res : wr.heap[w.heap.size + 2]? = some (.cells #[.slice none 0 0, .int .i64 0] 26 (0, 0))
  bel : Below w.heap.size w wr
section
variable {w wr w' : World} {A : Option Addr} {n c : Nat} {room lev : Int}
theorem LevHead.below (h : LevHead w wr A n c room lev) (hb : Below wr.heap.size wr w') : LevHead w w' A n c room lev :=
  ⟨(hb.block _ (lt_heap6 h.store)).trans h.store, (hb.block _ (lt_heap6 h.lev)).trans h.lev, (hb.block _ (lt_heap6 h.res)).trans h.res, Qt.more h.bel h.bel.size hb⟩
theorem LevHead.s0 (h : LevHead w wr A n c room lev) : wr.cell? ⟨w.heap.size, 0, none⟩ = some (.slice A n c) := by rw [Lib.cell_of_heap h.store]; rfl
theorem LevHead.s1 (h : LevHead w wr A n c room lev) : wr.cell? ⟨w.heap.size, 1, none⟩ = some (.int .i64 room) := by rw [Lib.cell_of_heap h.store]; rfl
theorem LevHead.l0 (h : LevHead w wr A n c room lev) : wr.cell? ⟨w.heap.size + 1, 0, none⟩ = some (.int .i64 lev) := by rw [Lib.cell_of_heap h.lev]; rfl
theorem LevHead.r0 (h : LevHead w wr A n c room lev) : wr.cell? ⟨w.heap.size + 2, 0, none⟩ = some (.slice none 0 0) := by rw [Lib.cell_of_heap h.res]; rfl
theorem LevHead.r1 (h : LevHead w wr A n c room lev) : wr.cell? ⟨w.heap.size + 2, 1, none⟩ = some (.int .i64 0) := by rw [Lib.cell_of_heap h.res]; rfl
theorem LevHead.free (h : LevHead w wr A n c room lev) (j : Nat) : wr.frozen? ⟨w.heap.size + 2, j, none⟩ = false := Lib.frozen_of_heap h.res j
theorem LevHead.told (h : LevHead w wr A n c room lev) (u v : Value) : ((wr.setCell ⟨w.heap.size + 2, 0, none⟩ u).setCell ⟨w.heap.size + 2, 1, none⟩ v).heap[w.heap.size + 2]? = some (.cells #[u, v] 26 (0, 0)) ∧ Below w.heap.size w ((wr.setCell ⟨w.heap.size + 2, 0, none⟩ u).setCell ⟨w.heap.size + 2, 1, none⟩ v) := by
  have hr := h.res
  refine ⟨?_, (h.bel.setCell (by show _ ≤ _ + 2; omega) _).setCell (by show _ ≤ _ + 2; omega) _⟩
  simp [World.setCell, Array.getElem?_modify, hr]
end
set_option maxHeartbeats 8000000 in
set_option maxRecDepth 100000 in
theorem nodeRight_any (A : Option Addr) (l : List Nd) (c : Nat) (room : Int) (w : World) (hR : RdN w w.heap.size A l) (hl : l.length ≤ 1000000) (hc : l.length ≤ c) :
    Calls Tryz.prog 34 #[storeV A l.length c room] w fun e w' => e = .returned (.bool (right6 l room)) ∧ Below w.heap.size w w' := by
  have HH0 := storeAt_0 w A l.length c room
  have hidx := indexOf_any A l c room _ ((hR.below HH0.bel (Nat.le_refl _)).more HH0.bel.size) hl hc
  unfold storeV IndexR at hidx
  unfold storeV
  have HH := Lib.hid HH0
  have s0 := HH0.s0
  have s1 := HH0.s1
  cases hr : right6 l room with
  | false =>
    rw [hr] at hidx
    clear HH0
    go_enter Tryz.func34, Tryz.ntmps34
    go_wp2_with fail
    refine hidx.mono ?_
    rintro e w1 ⟨hb1, (⟨_, rfl⟩ | ⟨hh, _⟩)⟩
    rotate_left
    · exact absurd hh (by decide)
    have hbel := Lib.hid ((HH.out.bel.trans (hb1.mono (by simp))).alloc (B := w.heap.size) (by have := hb1.size; simp at this; omega) (.cells #[.slice none 0 0, .int .i64 0, .map none] 93))
    clear hidx hb1 s0 s1
    go_wp2
    go_ret
    exact ⟨rfl, hbel.out⟩
  | true =>
    have h2 := (right_iff.1 hr).two
    rw [hr] at hidx
    clear HH0
    go_enter Tryz.func34, Tryz.ntmps34
    go_wp2_with fail
    refine hidx.mono ?_
    rintro e w1 ⟨hb1, (⟨hh, _⟩ | ⟨_, v, b, D, rfl, hown, hmap, hsays, hbB⟩)⟩
    · exact absurd hh (by decide)
    obtain ⟨q1, cap, rfl, hcap⟩ := ownN_val hown (by omega)
    have hbel := Lib.hid ((HH.out.bel.trans (hb1.mono (by simp))).alloc (B := w.heap.size) (by have := hb1.size; simp at this; omega) (.cells #[.slice (some ⟨q1, 0, none⟩) l.length cap, .int .i64 room, .map (some b)] 93))
    clear hidx hb1 s0 s1 hown hmap hsays
    go_wp2
    go_ret
    exact ⟨rfl, hbel.out⟩
end Go.Proofs.YtmmaeikeafemaaaGreat
namespace Go.Proofs.YtmmaeikeafemaaaGreat
set_option maxRecDepth 100000
set_option linter.unusedVariables false
set_option linter.unusedSimpArgs false
open Go.RowKit Go.Sort

set_option maxHeartbeats 8000000 in
set_option maxRecDepth 100000 in
theorem made_any1 (F : Nat) (eg : ∀ args w, (callFunc F args).run Tryz.prog w = .ok (.enter F args) w) (k1 : Value) (z : List Nd × Int × Int) (A : Option Addr) (l : List Nd) (c : Nat) (room : Int) (w : World) (hR : RdN w w.heap.size A l) (hl : l.length ≤ 1000000) (hc : l.length ≤ c)
    (hmade : right6 l room = true → ∀ (g b : Nat) (W : World), Below w.heap.size w W → Ix (w.heap.size + 2) W g b l room → w.heap.size + 2 ≤ W.heap.size → Calls Tryz.prog F #[makerV g, k1] W (IxK z (w.heap.size + 2) g b room W)) :
    Calls Tryz.prog 26 #[storeV A l.length c room, .func (.func F) #[] #[k1]] w (PutR (grown6 l room z) room w) := by
  have HH0 := Lib.hid (empHead_0 w A l.length c room)
  have hs0 := HH0.out.s0
  have hs1 := HH0.out.s1
  have hidx := indexOf_any A l c room _ ((hR.below HH0.out.bel (Nat.le_refl _)).more HH0.out.bel.size) hl hc
  have HMD := Lib.hid hmade
  unfold storeV IndexR at hidx
  unfold storeV
  clear hmade
  cases hr : right6 l room with
  | false =>
    have hz : grown6 l room z = (l, 0, 1) := by unfold grown6; rw [hr]; rfl
    rw [hz]
    rw [hr] at hidx
    clear hz hr
    go_enter Tryz.func26, Tryz.ntmps26
    go_wp2_with (go_at_call 59; refine hidx.mono ?_; rintro e w1 ⟨hb1, (⟨_, rfl⟩ | ⟨hh, _⟩)⟩; rotate_left; exact absurd hh (by decide); have H1 := HH0.out.below hb1; have H2 := Lib.hid (H1.below ((Below.refl w1.heap.size w1).alloc (Nat.le_refl _) (.cells #[.slice none 0 0, .int .i64 0, .map none] 93))); have s0 := H2.out.s0; have s1 := H2.out.s1; have r0 := H2.out.r0; have r1 := H2.out.r1; have f0 := H2.out.free 0; have f1 := H2.out.free 1; have ht := Lib.hid (H2.out.told (.slice A l.length c) (.int .i64 room)); clear hidx hb1 hs0 hs1 H1)
    refine bodyPost_ret (results_cell3 rfl _ _ _ _ _ _ _ rfl ht.out.1 Tryz.underlying26 rfl (by kernel_rfl)) rfl ?_
    exact ⟨_, rfl, ⟨A, c, rfl, hc, (hR.below ht.out.2 (Nat.le_refl _)).more ht.out.2.size⟩, ht.out.2⟩
  | true =>
    rw [hr] at hidx
    have hz : grown6 l room z = (if z.2.2 = 0 then z else (l, 0, z.2.2)) := by unfold grown6; rw [hr]; rfl
    rw [hz]
    have HMM := Lib.hid (HMD.out hr)
    have h2 := (right_iff.1 hr).two
    clear hz hr HMD
    obtain ⟨m, q, ee⟩ := z
    obtain ⟨y, hy⟩ : ∃ y, y = (if ee = 0 then (m, q, ee) else (l, 0, ee)) := ⟨_, rfl⟩
    simp only
    rw [← hy]
    have HY := Lib.hid hy
    clear hy
    go_enter Tryz.func26, Tryz.ntmps26
    go_wp2_with fail
    refine hidx.mono ?_
    rintro e w1 ⟨hb1, (⟨hh, _⟩ | ⟨_, v, b, D, rfl, hown, hmap, hsays, hbB⟩)⟩
    · exact absurd hh (by decide)
    obtain ⟨q1, cap, rfl, hcap⟩ := ownN_val hown (by omega)
    have hsz := HH0.out.size
    have H1 := HH0.out.below hb1
    have hbx : Below w1.heap.size w1 (w1.alloc (.cells #[.slice (some ⟨q1, 0, none⟩) l.length cap, .int .i64 room, .map (some b)] 93)) := (Below.refl _ _).alloc (Nat.le_refl _) _
    have H2 := Lib.hid (H1.below hbx)
    have hn2 : w.heap.size + 2 ≤ w1.heap.size := H1.size
    have HX : Hid (Ix (w.heap.size + 2) (w1.alloc (.cells #[.slice (some ⟨q1, 0, none⟩) l.length cap, .int .i64 room, .map (some b)] 93)) w1.heap.size b l room) := ix_boxed (ownN_low hown hsz) hmap hsays (by omega) hn2
    have hcall := HMM.out w1.heap.size b (w1.alloc (.cells #[.slice (some ⟨q1, 0, none⟩) l.length cap, .int .i64 room, .map (some b)] 93)) H2.out.bel HX.out (by simp; omega)
    clear hidx hb1 hs0 hs1 H1 hown hmap hsays hbx hbB
    go_wp2_with fail
    refine hcall.mono ?_
    rintro e w2 ⟨rfl, hi2, hb2k⟩
    have hb2 := hb2k.bel
    clear hb2k
    have hbel2 := H2.out
    have H3 : EmpHead w w2 A l.length c room := ⟨(hb2.block _ (by omega)).trans hbel2.store, (hb2.block _ (by omega)).trans hbel2.res, hbel2.bel.trans (hb2.mono (by omega))⟩
    have HI2 := Lib.hid hi2
    clear hcall hb2 hbel2 hi2 HX HMM H2
    have s0 := H3.s0
    have s1 := H3.s1
    have r0 := H3.r0
    have r1 := H3.r1
    have f0 := H3.free 0
    have f1 := H3.free 1
    by_cases he : ee = 0
    · have hy := HY.out
      rw [if_pos he] at hy
      subst hy he
      obtain ⟨v2, D2, hI⟩ := HI2.out
      have g0 := hI.row.c0
      have g1 := hI.row.c1
      have hm : 0 < m.length ∨ m = [] := by cases m <;> simp
      have hv : ∃ B d, v2 = .slice B m.length d ∧ m.length ≤ d ∧ NowN w2 B m := hI.own.reads
      obtain ⟨B, d, rfl, hd, hNow⟩ := hv
      have hlow : ∀ x, (Value.slice B m.length d).ownBlock = some x → w.heap.size + 2 ≤ x := fun x hx => (ownN_kind hI.own x hx).1
      have ht := Lib.hid (H3.told (.slice B m.length d) (.int .i64 room))
      have hne : (Value.slice B m.length d).ownBlock = none ∨ (Value.slice B m.length d).ownBlock ≠ some (w.heap.size + 1) := by
        cases hx : (Value.slice B m.length d).ownBlock with
        | none => exact .inl rfl
        | some x => exact .inr (fun e => by injection e with e; have := hlow x hx; omega)
      have hfin := World.ownsRow.kept (World.ownsRow.kept hI.own (but_set (b := w.heap.size + 1) 0 (.slice B m.length d)) hne) (but_set (b := w.heap.size + 1) 1 (.int .i64 room)) hne
      have HFN := Lib.hid (OwnN.reads hfin)
      clear hI hNow hlow hne hfin H3
      go_wp2
      refine bodyPost_ret (results_cell3 rfl _ _ _ _ _ _ _ rfl ht.out.1 Tryz.underlying26 rfl (by kernel_rfl)) rfl ?_
      exact ⟨_, rfl, HFN.out, ht.out.2⟩
    · have hy := HY.out
      rw [if_neg he] at hy
      subst hy
      have ht := Lib.hid (H3.told (.slice A l.length c) (.int .i64 room))
      clear H3
      go_wp2
      refine bodyPost_ret (results_cell3 rfl _ _ _ _ _ _ _ rfl ht.out.1 Tryz.underlying26 rfl (by kernel_rfl)) rfl ?_
      exact ⟨_, rfl, ⟨A, c, rfl, hc, (hR.below ht.out.2 (Nat.le_refl _)).more ht.out.2.size⟩, ht.out.2⟩

set_option maxHeartbeats 8000000 in
set_option maxRecDepth 100000 in
theorem made_any2 (F : Nat) (eg : ∀ args w, (callFunc F args).run Tryz.prog w = .ok (.enter F args) w) (k1 k2 : Value) (z : List Nd × Int × Int) (A : Option Addr) (l : List Nd) (c : Nat) (room : Int) (w : World) (hR : RdN w w.heap.size A l) (hl : l.length ≤ 1000000) (hc : l.length ≤ c)
    (hmade : right6 l room = true → ∀ (g b : Nat) (W : World), Below w.heap.size w W → Ix (w.heap.size + 2) W g b l room → w.heap.size + 2 ≤ W.heap.size → Calls Tryz.prog F #[makerV g, k1, k2] W (IxK z (w.heap.size + 2) g b room W)) :
    Calls Tryz.prog 26 #[storeV A l.length c room, .func (.func F) #[] #[k1, k2]] w (PutR (grown6 l room z) room w) := by
  have HH0 := Lib.hid (empHead_0 w A l.length c room)
  have hs0 := HH0.out.s0
  have hs1 := HH0.out.s1
  have hidx := indexOf_any A l c room _ ((hR.below HH0.out.bel (Nat.le_refl _)).more HH0.out.bel.size) hl hc
  have HMD := Lib.hid hmade
  unfold storeV IndexR at hidx
  unfold storeV
  clear hmade
  cases hr : right6 l room with
  | false =>
    have hz : grown6 l room z = (l, 0, 1) := by unfold grown6; rw [hr]; rfl
    rw [hz]
    rw [hr] at hidx
    clear hz hr
    go_enter Tryz.func26, Tryz.ntmps26
    go_wp2_with (go_at_call 59; refine hidx.mono ?_; rintro e w1 ⟨hb1, (⟨_, rfl⟩ | ⟨hh, _⟩)⟩; rotate_left; exact absurd hh (by decide); have H1 := HH0.out.below hb1; have H2 := Lib.hid (H1.below ((Below.refl w1.heap.size w1).alloc (Nat.le_refl _) (.cells #[.slice none 0 0, .int .i64 0, .map none] 93))); have s0 := H2.out.s0; have s1 := H2.out.s1; have r0 := H2.out.r0; have r1 := H2.out.r1; have f0 := H2.out.free 0; have f1 := H2.out.free 1; have ht := Lib.hid (H2.out.told (.slice A l.length c) (.int .i64 room)); clear hidx hb1 hs0 hs1 H1)
    refine bodyPost_ret (results_cell3 rfl _ _ _ _ _ _ _ rfl ht.out.1 Tryz.underlying26 rfl (by kernel_rfl)) rfl ?_
    exact ⟨_, rfl, ⟨A, c, rfl, hc, (hR.below ht.out.2 (Nat.le_refl _)).more ht.out.2.size⟩, ht.out.2⟩
  | true =>
    rw [hr] at hidx
    have hz : grown6 l room z = (if z.2.2 = 0 then z else (l, 0, z.2.2)) := by unfold grown6; rw [hr]; rfl
    rw [hz]
    have HMM := Lib.hid (HMD.out hr)
    have h2 := (right_iff.1 hr).two
    clear hz hr HMD
    obtain ⟨m, q, ee⟩ := z
    obtain ⟨y, hy⟩ : ∃ y, y = (if ee = 0 then (m, q, ee) else (l, 0, ee)) := ⟨_, rfl⟩
    simp only
    rw [← hy]
    have HY := Lib.hid hy
    clear hy
    go_enter Tryz.func26, Tryz.ntmps26
    go_wp2_with fail
    refine hidx.mono ?_
    rintro e w1 ⟨hb1, (⟨hh, _⟩ | ⟨_, v, b, D, rfl, hown, hmap, hsays, hbB⟩)⟩
    · exact absurd hh (by decide)
    obtain ⟨q1, cap, rfl, hcap⟩ := ownN_val hown (by omega)
    have hsz := HH0.out.size
    have H1 := HH0.out.below hb1
    have hbx : Below w1.heap.size w1 (w1.alloc (.cells #[.slice (some ⟨q1, 0, none⟩) l.length cap, .int .i64 room, .map (some b)] 93)) := (Below.refl _ _).alloc (Nat.le_refl _) _
    have H2 := Lib.hid (H1.below hbx)
    have hn2 : w.heap.size + 2 ≤ w1.heap.size := H1.size
    have HX : Hid (Ix (w.heap.size + 2) (w1.alloc (.cells #[.slice (some ⟨q1, 0, none⟩) l.length cap, .int .i64 room, .map (some b)] 93)) w1.heap.size b l room) := ix_boxed (ownN_low hown hsz) hmap hsays (by omega) hn2
    have hcall := HMM.out w1.heap.size b (w1.alloc (.cells #[.slice (some ⟨q1, 0, none⟩) l.length cap, .int .i64 room, .map (some b)] 93)) H2.out.bel HX.out (by simp; omega)
    clear hidx hb1 hs0 hs1 H1 hown hmap hsays hbx hbB
    go_wp2_with fail
    refine hcall.mono ?_
    rintro e w2 ⟨rfl, hi2, hb2k⟩
    have hb2 := hb2k.bel
    clear hb2k
    have hbel2 := H2.out
    have H3 : EmpHead w w2 A l.length c room := ⟨(hb2.block _ (by omega)).trans hbel2.store, (hb2.block _ (by omega)).trans hbel2.res, hbel2.bel.trans (hb2.mono (by omega))⟩
    have HI2 := Lib.hid hi2
    clear hcall hb2 hbel2 hi2 HX HMM H2
    have s0 := H3.s0
    have s1 := H3.s1
    have r0 := H3.r0
    have r1 := H3.r1
    have f0 := H3.free 0
    have f1 := H3.free 1
    by_cases he : ee = 0
    · have hy := HY.out
      rw [if_pos he] at hy
      subst hy he
      obtain ⟨v2, D2, hI⟩ := HI2.out
      have g0 := hI.row.c0
      have g1 := hI.row.c1
      have hm : 0 < m.length ∨ m = [] := by cases m <;> simp
      have hv : ∃ B d, v2 = .slice B m.length d ∧ m.length ≤ d ∧ NowN w2 B m := hI.own.reads
      obtain ⟨B, d, rfl, hd, hNow⟩ := hv
      have hlow : ∀ x, (Value.slice B m.length d).ownBlock = some x → w.heap.size + 2 ≤ x := fun x hx => (ownN_kind hI.own x hx).1
      have ht := Lib.hid (H3.told (.slice B m.length d) (.int .i64 room))
      have hne : (Value.slice B m.length d).ownBlock = none ∨ (Value.slice B m.length d).ownBlock ≠ some (w.heap.size + 1) := by
        cases hx : (Value.slice B m.length d).ownBlock with
        | none => exact .inl rfl
        | some x => exact .inr (fun e => by injection e with e; have := hlow x hx; omega)
      have hfin := World.ownsRow.kept (World.ownsRow.kept hI.own (but_set (b := w.heap.size + 1) 0 (.slice B m.length d)) hne) (but_set (b := w.heap.size + 1) 1 (.int .i64 room)) hne
      have HFN := Lib.hid (OwnN.reads hfin)
      clear hI hNow hlow hne hfin H3
      go_wp2
      refine bodyPost_ret (results_cell3 rfl _ _ _ _ _ _ _ rfl ht.out.1 Tryz.underlying26 rfl (by kernel_rfl)) rfl ?_
      exact ⟨_, rfl, HFN.out, ht.out.2⟩
    · have hy := HY.out
      rw [if_neg he] at hy
      subst hy
      have ht := Lib.hid (H3.told (.slice A l.length c) (.int .i64 room))
      clear H3
      go_wp2
      refine bodyPost_ret (results_cell3 rfl _ _ _ _ _ _ _ rfl ht.out.1 Tryz.underlying26 rfl (by kernel_rfl)) rfl ?_
      exact ⟨_, rfl, ⟨A, c, rfl, hc, (hR.below ht.out.2 (Nat.le_refl _)).more ht.out.2.size⟩, ht.out.2⟩

set_option maxHeartbeats 8000000 in
set_option maxRecDepth 100000 in
theorem made_any3 (F : Nat) (eg : ∀ args w, (callFunc F args).run Tryz.prog w = .ok (.enter F args) w) (k1 k2 k3 : Value) (z : List Nd × Int × Int) (A : Option Addr) (l : List Nd) (c : Nat) (room : Int) (w : World) (hR : RdN w w.heap.size A l) (hl : l.length ≤ 1000000) (hc : l.length ≤ c)
    (hmade : right6 l room = true → ∀ (g b : Nat) (W : World), Below w.heap.size w W → Ix (w.heap.size + 2) W g b l room → w.heap.size + 2 ≤ W.heap.size → Calls Tryz.prog F #[makerV g, k1, k2, k3] W (IxK z (w.heap.size + 2) g b room W)) :
    Calls Tryz.prog 26 #[storeV A l.length c room, .func (.func F) #[] #[k1, k2, k3]] w (PutR (grown6 l room z) room w) := by
  have HH0 := Lib.hid (empHead_0 w A l.length c room)
  have hs0 := HH0.out.s0
  have hs1 := HH0.out.s1
  have hidx := indexOf_any A l c room _ ((hR.below HH0.out.bel (Nat.le_refl _)).more HH0.out.bel.size) hl hc
  have HMD := Lib.hid hmade
  unfold storeV IndexR at hidx
  unfold storeV
  clear hmade
  cases hr : right6 l room with
  | false =>
    have hz : grown6 l room z = (l, 0, 1) := by unfold grown6; rw [hr]; rfl
    rw [hz]
    rw [hr] at hidx
    clear hz hr
    go_enter Tryz.func26, Tryz.ntmps26
    go_wp2_with (go_at_call 59; refine hidx.mono ?_; rintro e w1 ⟨hb1, (⟨_, rfl⟩ | ⟨hh, _⟩)⟩; rotate_left; exact absurd hh (by decide); have H1 := HH0.out.below hb1; have H2 := Lib.hid (H1.below ((Below.refl w1.heap.size w1).alloc (Nat.le_refl _) (.cells #[.slice none 0 0, .int .i64 0, .map none] 93))); have s0 := H2.out.s0; have s1 := H2.out.s1; have r0 := H2.out.r0; have r1 := H2.out.r1; have f0 := H2.out.free 0; have f1 := H2.out.free 1; have ht := Lib.hid (H2.out.told (.slice A l.length c) (.int .i64 room)); clear hidx hb1 hs0 hs1 H1)
    refine bodyPost_ret (results_cell3 rfl _ _ _ _ _ _ _ rfl ht.out.1 Tryz.underlying26 rfl (by kernel_rfl)) rfl ?_
    exact ⟨_, rfl, ⟨A, c, rfl, hc, (hR.below ht.out.2 (Nat.le_refl _)).more ht.out.2.size⟩, ht.out.2⟩
  | true =>
    rw [hr] at hidx
    have hz : grown6 l room z = (if z.2.2 = 0 then z else (l, 0, z.2.2)) := by unfold grown6; rw [hr]; rfl
    rw [hz]
    have HMM := Lib.hid (HMD.out hr)
    have h2 := (right_iff.1 hr).two
    clear hz hr HMD
    obtain ⟨m, q, ee⟩ := z
    obtain ⟨y, hy⟩ : ∃ y, y = (if ee = 0 then (m, q, ee) else (l, 0, ee)) := ⟨_, rfl⟩
    simp only
    rw [← hy]
    have HY := Lib.hid hy
    clear hy
    go_enter Tryz.func26, Tryz.ntmps26
    go_wp2_with fail
    refine hidx.mono ?_
    rintro e w1 ⟨hb1, (⟨hh, _⟩ | ⟨_, v, b, D, rfl, hown, hmap, hsays, hbB⟩)⟩
    · exact absurd hh (by decide)
    obtain ⟨q1, cap, rfl, hcap⟩ := ownN_val hown (by omega)
    have hsz := HH0.out.size
    have H1 := HH0.out.below hb1
    have hbx : Below w1.heap.size w1 (w1.alloc (.cells #[.slice (some ⟨q1, 0, none⟩) l.length cap, .int .i64 room, .map (some b)] 93)) := (Below.refl _ _).alloc (Nat.le_refl _) _
    have H2 := Lib.hid (H1.below hbx)
    have hn2 : w.heap.size + 2 ≤ w1.heap.size := H1.size
    have HX : Hid (Ix (w.heap.size + 2) (w1.alloc (.cells #[.slice (some ⟨q1, 0, none⟩) l.length cap, .int .i64 room, .map (some b)] 93)) w1.heap.size b l room) := ix_boxed (ownN_low hown hsz) hmap hsays (by omega) hn2
    have hcall := HMM.out w1.heap.size b (w1.alloc (.cells #[.slice (some ⟨q1, 0, none⟩) l.length cap, .int .i64 room, .map (some b)] 93)) H2.out.bel HX.out (by simp; omega)
    clear hidx hb1 hs0 hs1 H1 hown hmap hsays hbx hbB
    go_wp2_with fail
    refine hcall.mono ?_
    rintro e w2 ⟨rfl, hi2, hb2k⟩
    have hb2 := hb2k.bel
    clear hb2k
    have hbel2 := H2.out
    have H3 : EmpHead w w2 A l.length c room := ⟨(hb2.block _ (by omega)).trans hbel2.store, (hb2.block _ (by omega)).trans hbel2.res, hbel2.bel.trans (hb2.mono (by omega))⟩
    have HI2 := Lib.hid hi2
    clear hcall hb2 hbel2 hi2 HX HMM H2
    have s0 := H3.s0
    have s1 := H3.s1
    have r0 := H3.r0
    have r1 := H3.r1
    have f0 := H3.free 0
    have f1 := H3.free 1
    by_cases he : ee = 0
    · have hy := HY.out
      rw [if_pos he] at hy
      subst hy he
      obtain ⟨v2, D2, hI⟩ := HI2.out
      have g0 := hI.row.c0
      have g1 := hI.row.c1
      have hm : 0 < m.length ∨ m = [] := by cases m <;> simp
      have hv : ∃ B d, v2 = .slice B m.length d ∧ m.length ≤ d ∧ NowN w2 B m := hI.own.reads
      obtain ⟨B, d, rfl, hd, hNow⟩ := hv
      have hlow : ∀ x, (Value.slice B m.length d).ownBlock = some x → w.heap.size + 2 ≤ x := fun x hx => (ownN_kind hI.own x hx).1
      have ht := Lib.hid (H3.told (.slice B m.length d) (.int .i64 room))
      have hne : (Value.slice B m.length d).ownBlock = none ∨ (Value.slice B m.length d).ownBlock ≠ some (w.heap.size + 1) := by
        cases hx : (Value.slice B m.length d).ownBlock with
        | none => exact .inl rfl
        | some x => exact .inr (fun e => by injection e with e; have := hlow x hx; omega)
      have hfin := World.ownsRow.kept (World.ownsRow.kept hI.own (but_set (b := w.heap.size + 1) 0 (.slice B m.length d)) hne) (but_set (b := w.heap.size + 1) 1 (.int .i64 room)) hne
      have HFN := Lib.hid (OwnN.reads hfin)
      clear hI hNow hlow hne hfin H3
      go_wp2
      refine bodyPost_ret (results_cell3 rfl _ _ _ _ _ _ _ rfl ht.out.1 Tryz.underlying26 rfl (by kernel_rfl)) rfl ?_
      exact ⟨_, rfl, HFN.out, ht.out.2⟩
    · have hy := HY.out
      rw [if_neg he] at hy
      subst hy
      have ht := Lib.hid (H3.told (.slice A l.length c) (.int .i64 room))
      clear H3
      go_wp2
      refine bodyPost_ret (results_cell3 rfl _ _ _ _ _ _ _ rfl ht.out.1 Tryz.underlying26 rfl (by kernel_rfl)) rfl ?_
      exact ⟨_, rfl, ⟨A, c, rfl, hc, (hR.below ht.out.2 (Nat.le_refl _)).more ht.out.2.size⟩, ht.out.2⟩

end Go.Proofs.YtmmaeikeafemaaaGreat
namespace Go.Proofs.YtmmaeikeafemaaaGreat
set_option maxRecDepth 100000
set_option linter.unusedVariables false
set_option linter.unusedSimpArgs false
open Go.RowKit Go.Sort

/-- what Maker.Make answers -/
def makeZ (room : Int) (l : List Nd) (S : List (Int × Int)) (lev : Int) : List Nd × Int × Int :=
  if (decide (1 ≤ lev) && decide (lev ≤ 42) && Cel.rightB S) = true then
    (if (S.all fun c => insideB (lev.toNat - 1) c) = true then buildC room lev.toNat l (S.map (inwardC (lev.toNat - 1))) else (l, 0, 2))
  else (l, 0, 1)
theorem makeZ_arg {room : Int} {l : List Nd} {S : List (Int × Int)} {lev : Int} (h : ¬ (1 ≤ lev ∧ lev ≤ 42 ∧ Cel.rightB S = true)) : makeZ room l S lev = (l, 0, 1) := by
  unfold makeZ
  rw [if_neg]
  simpa [and_assoc] using h
theorem makeZ_out {room : Int} {l : List Nd} {S : List (Int × Int)} {e : Nat} (h1 : e ≤ 41) (h2 : Cel.rightB S = true) {j : Nat} (hj : j < S.length) (h : insideB e (S.getD j (0, 0)) = false) : makeZ room l S ((e : Int) + 1) = (l, 0, 2) := by
  unfold makeZ
  have e1 : ((e : Int) + 1).toNat = e + 1 := by omega
  rw [e1, decide_eq_true (by omega : 1 ≤ (e : Int) + 1), decide_eq_true (by omega : (e : Int) + 1 ≤ 42), h2]
  simp only [Bool.and_self, if_true]
  rw [if_neg]
  rw [List.all_eq_true]
  intro hall
  have := hall _ (Cel.getD_mem hj)
  rw [show e + 1 - 1 = e by omega, h] at this
  cases this
theorem makeZ_in {room : Int} {l : List Nd} {S : List (Int × Int)} {e : Nat} (h1 : e ≤ 41) (h2 : Cel.rightB S = true) (h : ∀ i, i < S.length → insideB e (S.getD i (0, 0)) = true) : makeZ room l S ((e : Int) + 1) = buildC room (e + 1) l (S.map (inwardC e)) := by
  unfold makeZ
  have e1 : ((e : Int) + 1).toNat = e + 1 := by omega
  rw [e1, decide_eq_true (by omega : 1 ≤ (e : Int) + 1), decide_eq_true (by omega : (e : Int) + 1 ≤ 42), h2]
  simp only [Bool.and_self, if_true]
  rw [if_pos]
  · rfl
  · rw [List.all_eq_true]
    intro c hc
    obtain ⟨i, hi, rfl⟩ := List.getElem_of_mem hc
    have := h i hi
    rwa [List.getD_eq_getElem?_getD, List.getElem?_eq_getElem hi] at this
theorem inB_i64 {c : Int × Int} (h : Cel.inB c = true) : I64 c.1 ∧ I64 c.2 := by
  unfold Cel.inB at h
  rw [decide_eq_true_eq] at h
  unfold I64
  omega
theorem inward_bd {e : Nat} (he : e ≤ 60) {c : Int × Int} (h : insideB e c = true) : 0 ≤ (inwardC e c).1 ∧ (inwardC e c).1 < 2 ^ (e + 1) ∧ 0 ≤ (inwardC e c).2 ∧ (inwardC e c).2 < 2 ^ (e + 1) := by
  unfold insideB at h
  rw [decide_eq_true_eq] at h
  have : (2 : Int) ^ (e + 1) = 2 ^ e * 2 := Int.pow_succ ..
  unfold inwardC
  simp only
  rw [this]
  generalize (2 : Int) ^ e = p at *
  omega
/-- What is known in the loop over cells. -/
structure MkAt (w wr : World) (g q e : Nat) (S : List (Int × Int)) (j : Nat) : Prop where
  mkr : MR wr w.heap.size g
  row : Cel.Row wr q 28 q S.length S.length (Cel.filled (S.map (inwardC e)) j)
  bel : Below w.heap.size w wr
  all : ∀ i, i < j → insideB e (S.getD i (0, 0)) = true
  hq : w.heap.size < q
theorem MkAt.below {w wr w' : World} {g q e : Nat} {S : List (Int × Int)} {j : Nat} (h : MkAt w wr g q e S j) (hb : Below wr.heap.size wr w') : MkAt w w' g q e S j :=
  ⟨h.mkr.below hb, h.row.below hb, Qt.more h.bel h.bel.size hb, h.all, h.hq⟩
theorem MkAt.next {w wr : World} {g q e : Nat} {S : List (Int × Int)} {j : Nat} (h : MkAt w wr g q e S j) (hj : j < S.length) {c : Int × Int} (hc : c = S.getD j (0, 0)) (hin : insideB e c = true) :
    MkAt w ((wr.setCell ⟨q, j * 2, none⟩ (.int .i64 (inwardC e c).1)).setCell ⟨q, j * 2 + 1, none⟩ (.int .i64 (inwardC e c).2)) g q e S (j + 1) := by
  have hl : (S.map (inwardC e)).length = S.length := List.length_map ..
  have hst := h.row.store j (inwardC e c).1 (inwardC e c).2
  have hg : (S.map (inwardC e)).getD j (0, 0) = inwardC e c := by
    rw [List.getD_eq_getElem?_getD, List.getElem?_map, List.getElem?_eq_getElem hj, hc, List.getD_eq_getElem?_getD, List.getElem?_eq_getElem hj]
    rfl
  have hf := Cel.filled_step (l := S.map (inwardC e)) (k := j) (by rw [hl]; exact hj)
  rw [hg] at hf
  rw [show ((inwardC e c).1, (inwardC e c).2) = inwardC e c from rfl, hf] at hst
  have hq := h.hq
  refine ⟨?_, hst, (h.bel.setCell (by show w.heap.size ≤ q; omega) _).setCell (by show w.heap.size ≤ q; omega) _, fun i hi => ?_, hq⟩
  · have := h.mkr
    unfold MR at this ⊢
    rw [Below.heap_setCell _ _ _ _ (by show w.heap.size ≠ q; omega), Below.heap_setCell _ _ _ _ (by show w.heap.size ≠ q; omega)]
    exact this
  · rcases (by omega : i < j ∨ i = j) with h1 | rfl
    · exact h.all i h1
    · rw [← hc]; exact hin
set_option maxHeartbeats 16000000 in
theorem makerMake_any (room : Int) (n0 g b : Nat) (l : List Nd) (A : Option Addr) (S : List (Int × Int)) (c : Nat) (lev : Int) (w : World) (hix : Ix n0 w g b l room) (hr : Right6 l room) (hS : RdC w w.heap.size A S) (hSl : S.length ≤ 1000000) (hc : S.length ≤ c) :
    Calls Tryz.prog 28 #[makerV g, .slice A S.length c, .int .i64 lev] w (IxK (makeZ room l S lev) n0 g b room w) := by
  have hn0 := hix.hB
  have hal1 := (Below.refl w.heap.size w).alloc (Nat.le_refl _) (.cells #[.pointer (some ⟨g, 0, none⟩)] 64)
  have hm1 : MR (w.alloc (.cells #[.pointer (some ⟨g, 0, none⟩)] 64)) w.heap.size g := heap_alloc_new w _
  have HIX := Lib.hid hix
  have HAL := Lib.hid hal1
  have HN := Lib.hid hn0
  clear hix
  by_cases h1 : lev < 1
  · rw [makeZ_arg (by omega)]
    clear hr hS hm1 hal1 hn0
    go_enter Tryz.func28, Tryz.ntmps28
    go_wp2_with fail
    go_ret2
    exact ⟨rfl, HIX.out.below HAL.out, .of HAL.out HN.out⟩
  by_cases h2 : 42 < lev
  · rw [makeZ_arg (by omega)]
    clear hr hS hm1 hal1 hn0
    go_enter Tryz.func28, Tryz.ntmps28
    go_wp2_with fail
    go_ret2
    exact ⟨rfl, HIX.out.below HAL.out, .of HAL.out HN.out⟩
  obtain ⟨e, rfl⟩ : ∃ e : Nat, lev = (e : Int) + 1 := ⟨(lev - 1).toNat, by omega⟩
  have he : e ≤ 41 := by omega
  have hrt := Cel.right_any A S c (w.alloc (.cells #[.pointer (some ⟨g, 0, none⟩)] 64)) ((Cel.Rd.below hS hal1 (Nat.le_refl _)).more hal1.size) hSl hc
  cases hb : Cel.rightB S with
  | false =>
    rw [makeZ_arg (by rw [hb]; simp)]
    rw [hb] at hrt
    clear hr hS hm1 hal1 hn0 hb
    go_enter Tryz.func28, Tryz.ntmps28
    go_wp2_with (go_at_call 60; refine hrt.mono ?_; rintro r w1 ⟨rfl, hb1⟩; have HB1 := Lib.hid (Qt.more HAL.out HAL.out.size hb1); clear hb1 hrt)
    go_ret2
    exact ⟨rfl, HIX.out.below HB1.out, .of HB1.out HN.out⟩
  | true =>
    rw [hb] at hrt
    obtain ⟨hS2, hSin, _⟩ := (Cel.rightB_iff S).1 hb
    obtain ⟨z, hz⟩ : ∃ z, z = makeZ room l S ((e : Int) + 1) := ⟨_, rfl⟩
    rw [← hz]
    have HZ := Lib.hid hz
    have HRB := Lib.hid hb
    have HS := Lib.hid hS
    have HR := Lib.hid hr
    have HIN := Lib.hid hSin
    obtain ⟨i0, hi, hz0, hz1, hz2⟩ := info_parts Cel.infoCell
    have hmk : ∀ u : World, (Instr.makeSlice 29 (.int .i64 (S.length : Int)) (.int .i64 (S.length : Int))).run Tryz.prog u = .ok (.slice (some ⟨u.heap.size, 0, none⟩) S.length S.length) (u.alloc (.cells (madeCells #[.int .i64 0, .int .i64 0] (S.length * 2)) 28)) := fun u => by
      have h := run_make (P := Tryz.prog) u 29 28 i0 _ Tryz.underlying29 hi hz0 .i64 .i64 (S.length : Int) (S.length : Int) (by omega) (Int.le_refl _) (by rw [hz2]; omega) (by omega)
      simpa [hz1, Value.cells] using h
    clear hr hS hb hz hi hz0 hz1 hz2 hSin
    have hMA : ∀ w1, Below (w.alloc (.cells #[.pointer (some ⟨g, 0, none⟩)] 64)).heap.size (w.alloc (.cells #[.pointer (some ⟨g, 0, none⟩)] 64)) w1 → MkAt w (w1.alloc (.cells (madeCells #[.int .i64 0, .int .i64 0] (S.length * 2)) 28)) g w1.heap.size e S 0 := by
      intro w1 hb1
      have hs1 : (w.alloc (.cells #[.pointer (some ⟨g, 0, none⟩)] 64)).heap.size = w.heap.size + 1 := by simp
      have hal := (Below.refl w1.heap.size w1).alloc (Nat.le_refl _) (.cells (madeCells #[.int .i64 0, .int .i64 0] (S.length * 2)) 28)
      have hsz := hb1.size
      have hB1 := Qt.more hal1 hal1.size hb1
      refine ⟨(hm1.below hb1).below hal, ?_, Qt.more hB1 hB1.size hal, fun i hi => absurd hi (Nat.not_lt_zero i), by omega⟩
      have := Cel.Row.made w1 w1.heap.size 28 S.length (Nat.le_refl _) hSl
      rw [Cel.filled_zero, List.length_map]
      exact this
    have HMA := Lib.hid hMA
    clear hMA hal1 hm1
    go_enter Tryz.func28, Tryz.ntmps28
    go_wp2_with fail
    refine hrt.mono ?_
    rintro r w1 ⟨rfl, hb1⟩
    have HM0 := Lib.hid (HMA.out w1 hb1)
    clear hrt HMA hb1
    go_wp2_with fail
    clear hmk
    generalize (w1.alloc (.cells (madeCells #[.int .i64 0, .int .i64 0] (S.length * 2)) 28)) = w2 at *
    generalize w1.heap.size = q at *
    go_loopw [27] (fun i wr => ∃ j : Nat, j ≤ S.length ∧ i = .int .i64 j ∧ Hid (MkAt w wr g q e S j)) (fun i _ => S.length - (intOf i).toNat)
    case atStart => exact ⟨0, Nat.zero_le _, rfl, HM0.out⟩
    case round =>
      obtain ⟨j, hj, rfl, HM⟩ := hrel
      by_cases hlt : j < S.length
      · have hltz : (j : Int) < (S.length : Int) := by omega
        obtain ⟨b1, o1, rfl, hbb, hr1⟩ := Cel.Rd.at_ HS.out (by omega)
        obtain ⟨r0, r1⟩ := hr1 j hlt
        have c0 := Qt.keep HM.out.bel r0
        have c1 := Qt.keep HM.out.bel r1
        obtain ⟨hx, hy⟩ := inB_i64 (HIN.out (S.getD j (0, 0)) (Cel.getD_mem hlt))
        obtain ⟨⟨x, y⟩, hxy⟩ : ∃ c, c = S.getD j (0, 0) := ⟨_, rfl⟩
        rw [← hxy] at c0 c1 hx hy
        dsimp only at c0 c1 hx hy
        have hal := (Below.refl wr.heap.size wr).alloc (Nat.le_refl _) (.cells #[.int .i64 x, .int .i64 y] 28)
        have HM1 := Lib.hid (HM.out.below hal)
        have HC1 := Lib.hid (clB_new (w := wr) (x, y))
        have x0 := HC1.out.c0
        have x1 := HC1.out.c1
        dsimp only at x0 x1
        obtain ⟨wo, rfl⟩ : ∃ wo : World, wo = wr := ⟨_, rfl⟩
        have HXY := Lib.hid hxy
        clear hr1 r0 r1 hal HM hxy
        go_wp2_with fail
        clear x0 x1 c0 c1
        generalize (wo.alloc (.cells #[.int .i64 x, .int .i64 y] 28)) = w5 at *
        generalize wo.heap.size = cb at *
        have hwi := within_any e (by omega) (x, y) hx hy w5
        cases hin : insideB e (x, y) with
        | false =>
          rw [hin] at hwi
          refine hwi.mono ?_
          rintro r w6 ⟨rfl, hb6⟩
          have HM6 := Lib.hid (HM1.out.below hb6)
          have hzz := HZ.out
          rw [makeZ_out he HRB.out hlt (by rw [← HXY.out]; exact hin)] at hzz
          clear hwi hb6
          subst hzz
          go_wp2_with fail
          go_ret2
          exact ⟨rfl, HIX.out.below HM6.out.bel, .of HM6.out.bel HN.out⟩
        | true =>
          rw [hin] at hwi
          refine hwi.mono ?_
          rintro r w6 ⟨rfl, hb6⟩
          have HM6 := Lib.hid (HM1.out.below hb6)
          have HC6 := Lib.hid (HC1.out.below hb6)
          have x0 := HC6.out.c0
          have x1 := HC6.out.c1
          dsimp only at x0 x1
          have hiw := inward_any e (by omega) (x, y) hin w6
          have HINN := Lib.hid hin
          clear hwi hb6 hin HM1 HC1
          go_wp2_with fail
          refine hiw.mono ?_
          rintro r w7 ⟨rfl, hb7⟩
          have hM7 := HM6.out.below hb7
          have HN8 := Lib.hid (hM7.next hlt HXY.out HINN.out)
          have f0 := hM7.row.free (j * 2)
          have f1 := hM7.row.free (j * 2 + 1)
          obtain ⟨g0, g1⟩ := hM7.row.cell hlt
          clear hiw hb7 hM7 x0 x1
          unfold cellV
          unfold inwardC at HN8 ⊢
          dsimp only at HN8 ⊢
          go_wp2_with fail
          go_roundw
          case measure => simp [intOf]; omega
          case rel => exact ⟨j + 1, by omega, by go_num, HN8.out⟩
      · obtain rfl : j = S.length := by omega
        have hltz : ¬ (S.length : Int) < (S.length : Int) := by omega
        have hzz := HZ.out
        rw [makeZ_in he HRB.out HM.out.all] at hzz
        have hl : (S.map (inwardC e)).length = S.length := List.length_map ..
        have hrow := HM.out.row
        rw [← hl, Cel.filled_all] at hrow
        have hdr := drawn_any room n0 g b (e + 1) (by omega) l (some ⟨q, 0, none⟩) (S.map (inwardC e)) S.length wr (HIX.out.below HM.out.bel) HR.out hrow.rd (by omega) (fun s hs => by
          obtain ⟨c, hc, rfl⟩ := List.mem_map.1 hs
          obtain ⟨i, hi, rfl⟩ := List.getElem_of_mem hc
          have h1 := HM.out.all i hi
          rw [List.getD_eq_getElem?_getD, List.getElem?_eq_getElem hi] at h1
          have h2 := inward_bd (by omega) h1
          have h3 := (pow_bd7 (e := e + 1) (by omega)).2
          generalize (2 : Int) ^ (e + 1) = p at *
          simp only [Option.getD_some] at h2
          omega)
        rw [← hzz, hl, show ((e + 1 : Nat) : Int) = (e : Int) + 1 by omega] at hdr
        have m0 := HM.out.mkr.c
        have HB := Lib.hid (BelK.of HM.out.bel HN.out)
        obtain ⟨m, p, ee⟩ := z
        clear HM hlt hj hzz hl hrow
        go_wp2_with fail
        refine hdr.mono ?_
        rintro r w1 ⟨rfl, hi1, hb1⟩
        have HI := Lib.hid hi1
        have HBF := Lib.hid (HB.out.trans hb1)
        clear hdr hi1 hb1 m0
        go_wp2_with fail
        go_ret2
        exact ⟨rfl, HI.out, HBF.out⟩
end Go.Proofs.YtmmaeikeafemaaaGreat
