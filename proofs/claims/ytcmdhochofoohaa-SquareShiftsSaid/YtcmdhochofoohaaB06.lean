/-
  Texts that the claims of this seat share, part 6.
-/
import Derived.Test.YtcmdhochofoohaaB05
import Derived.RangeFuncNested
import Derived.RangeFuncBound
import Derived.RangeFuncCalls
import Derived.RangeFuncLeaves
import Derived.Shelf.Abstract
import Derived.Shelf.RegionOpen
import Derived.WalkKit
import Derived.OwnWalkIn
import Derived.TacticsInMore
import Derived.LoopNIn
import Derived.LoopIn
import Derived.Lib.ItoaMem
import GoSem.Op.String
import Derived.Test.YtcmdhochofoohaaRows
import Derived.Test.YtcmdhochofoohaaSh
import Derived.Test.YtcmdhochofoohaaB00
import Derived.WalkSpells
import Derived.WalkLawsBesides
import Derived.WalkArith
import Derived.IntWalk
import Derived.Lib.QuietBelow
import Derived.Lib.Hide
import Derived.Lib.AppendIntMem
import Derived.BigQuiet
import Derived.StillTailTactics
import Derived.LoopN
import Derived.Handy
import Derived.Deep.LoopGhost
set_option linter.unusedVariables false
set_option linter.unusedSimpArgs false
namespace Go.Proofs.Ytcmdhochofoohaa
set_option maxRecDepth 100000
set_option linter.unusedVariables false
set_option linter.unusedSimpArgs false
open Go.RowKit Go.Sort

/-- What grown answers. -/
def grown6 (l : List Nd) (room : Int) (z : List Nd × Int × Int) : List Nd × Int × Int := if right6 l room = true then (if z.2.2 = 0 then z else (l, 0, z.2.2)) else (l, 0, 1)
theorem grown_intern (l : List Nd) (room : Int) (k : Kd) : grown6 l room (put6 l room k) = intern6 l room k := by
  unfold grown6 intern6
  by_cases h : right6 l room = true
  · rw [if_pos h, if_pos h]
    by_cases he : (put6 l room k).2.2 = 0
    · rw [if_pos he]
    · rw [if_neg he]; exact (put_err he).symm
  · rw [if_neg h, if_neg h]
theorem grown_empty (l : List Nd) (room lev : Int) : grown6 l room (ixEmpty l room lev) = empty6 l room lev := by
  unfold grown6 ixEmpty
  by_cases h : right6 l room = true
  · rw [if_pos h]
    by_cases hl : 0 ≤ lev ∧ lev ≤ 42
    · simp only [if_pos hl]
      unfold empty6
      simp only [h, decide_eq_true hl.1, decide_eq_true hl.2, Bool.and_self, if_true]
    · simp only [if_neg hl]
      rw [if_neg (by decide)]
      exact (empty_bad (by omega)).symm
  · rw [if_neg h]
    exact (empty_bad (.inl (by simpa using h))).symm

theorem ix_boxed {w : World} {l : List Nd} {room : Int} {v : Value} {b n0 : Nat} {D : DataW Unit} (h : OwnN w n0 v l) (hm : MapAt w b l.length D) (hs : Says D l) (hb : n0 ≤ b) (hn : n0 ≤ w.heap.size) : Ix n0 (w.alloc (.cells #[v, .int .i64 room, .map (some b)] 81)) w.heap.size b l room :=
  ⟨v, D, ⟨heap_alloc_new w _, World.ownsRow.alloc h _, hm.alloc _, hs, hn, hb, by simp; omega⟩⟩

set_option maxHeartbeats 8000000 in
set_option maxRecDepth 100000 in
theorem grown_any (F : Nat) (eg : ∀ args w, (callFunc F args).run Try.prog w = .ok (.enter F args) w) (cp : Value) (z : List Nd × Int × Int) (A : Option Addr) (l : List Nd) (c : Nat) (room : Int) (w : World) (hR : RdN w w.heap.size A l) (hl : l.length ≤ 1000000) (hc : l.length ≤ c)
    (hmade : right6 l room = true → ∀ (g b : Nat) (W : World), Below w.heap.size w W → Ix (w.heap.size + 2) W g b l room → w.heap.size + 2 ≤ W.heap.size → Calls Try.prog F #[.pointer (some ⟨g, 0, none⟩), cp] W (IxR z (w.heap.size + 2) g b room W)) :
    Calls Try.prog 45 #[storeV A l.length c room, .func (.func F) #[] #[cp]] w (PutR (grown6 l room z) room w) := by
  have HH0 := Lib.hid (empHead_0 w A l.length c room)
  have hs0 := HH0.out.s0
  have hs1 := HH0.out.s1
  have hidx := indexOf_any A l c room _ ((hR.below HH0.out.bel (Nat.le_refl _)).more HH0.out.bel.size) hl hc
  have HMD := Lib.hid hmade
  unfold storeV IndexR at hidx
  unfold storeV
  clear hmade
  cases hr : right6 l room with
  | false =>
    have hz : grown6 l room z = (l, 0, 1) := by unfold grown6; rw [hr]; rfl
    rw [hz]
    rw [hr] at hidx
    clear hz hr
    go_enter Try.func45, Try.ntmps45
    go_wp2_with (go_at_call 43; refine hidx.mono ?_; rintro e w1 ⟨hb1, (⟨_, rfl⟩ | ⟨hh, _⟩)⟩; rotate_left; exact absurd hh (by decide); have H1 := HH0.out.below hb1; have H2 := Lib.hid (H1.below ((Below.refl w1.heap.size w1).alloc (Nat.le_refl _) (.cells #[.slice none 0 0, .int .i64 0, .map none] 81))); have s0 := H2.out.s0; have s1 := H2.out.s1; have r0 := H2.out.r0; have r1 := H2.out.r1; have f0 := H2.out.free 0; have f1 := H2.out.free 1; have ht := Lib.hid (H2.out.told (.slice A l.length c) (.int .i64 room)); clear hidx hb1 hs0 hs1 H1)
    refine bodyPost_ret (results_cell3 rfl _ _ _ _ _ _ _ rfl ht.out.1 Try.underlying25 rfl (by kernel_rfl)) rfl ?_
    exact ⟨_, rfl, ⟨A, c, rfl, hc, (hR.below ht.out.2 (Nat.le_refl _)).more ht.out.2.size⟩, ht.out.2⟩
  | true =>
    rw [hr] at hidx
    have hz : grown6 l room z = (if z.2.2 = 0 then z else (l, 0, z.2.2)) := by unfold grown6; rw [hr]; rfl
    rw [hz]
    have HMM := Lib.hid (HMD.out hr)
    have h2 := (right_iff.1 hr).two
    clear hz hr HMD
    obtain ⟨m, q, ee⟩ := z
    obtain ⟨y, hy⟩ : ∃ y, y = (if ee = 0 then (m, q, ee) else (l, 0, ee)) := ⟨_, rfl⟩
    simp only
    rw [← hy]
    have HY := Lib.hid hy
    clear hy
    go_enter Try.func45, Try.ntmps45
    go_wp2_with fail
    refine hidx.mono ?_
    rintro e w1 ⟨hb1, (⟨hh, _⟩ | ⟨_, v, b, D, rfl, hown, hmap, hsays, hbB⟩)⟩
    · exact absurd hh (by decide)
    obtain ⟨q1, cap, rfl, hcap⟩ := ownN_val hown (by omega)
    have hsz := HH0.out.size
    have H1 := HH0.out.below hb1
    have hbx : Below w1.heap.size w1 (w1.alloc (.cells #[.slice (some ⟨q1, 0, none⟩) l.length cap, .int .i64 room, .map (some b)] 81)) := (Below.refl _ _).alloc (Nat.le_refl _) _
    have H2 := Lib.hid (H1.below hbx)
    have hn2 : w.heap.size + 2 ≤ w1.heap.size := H1.size
    have HX : Hid (Ix (w.heap.size + 2) (w1.alloc (.cells #[.slice (some ⟨q1, 0, none⟩) l.length cap, .int .i64 room, .map (some b)] 81)) w1.heap.size b l room) := ix_boxed (ownN_low hown hsz) hmap hsays (by omega) hn2
    have hcall := HMM.out w1.heap.size b (w1.alloc (.cells #[.slice (some ⟨q1, 0, none⟩) l.length cap, .int .i64 room, .map (some b)] 81)) H2.out.bel HX.out (by simp; omega)
    clear hidx hb1 hs0 hs1 H1 hown hmap hsays hbx hbB
    go_wp2_with fail
    refine hcall.mono ?_
    rintro e w2 ⟨rfl, hi2, hb2⟩
    have hbel2 := H2.out
    have H3 : EmpHead w w2 A l.length c room := ⟨(hb2.block _ (by omega)).trans hbel2.store, (hb2.block _ (by omega)).trans hbel2.res, hbel2.bel.trans (hb2.mono (by omega))⟩
    have HI2 := Lib.hid hi2
    clear hcall hb2 hbel2 hi2 HX HMM H2
    have s0 := H3.s0
    have s1 := H3.s1
    have r0 := H3.r0
    have r1 := H3.r1
    have f0 := H3.free 0
    have f1 := H3.free 1
    by_cases he : ee = 0
    · have hy := HY.out
      rw [if_pos he] at hy
      subst hy he
      obtain ⟨v2, D2, hI⟩ := HI2.out
      have g0 := hI.row.c0
      have g1 := hI.row.c1
      have hm : 0 < m.length ∨ m = [] := by cases m <;> simp
      have hv : ∃ B d, v2 = .slice B m.length d ∧ m.length ≤ d ∧ NowN w2 B m := hI.own.reads
      obtain ⟨B, d, rfl, hd, hNow⟩ := hv
      have hlow : ∀ x, (Value.slice B m.length d).ownBlock = some x → w.heap.size + 2 ≤ x := fun x hx => (ownN_kind hI.own x hx).1
      have ht := Lib.hid (H3.told (.slice B m.length d) (.int .i64 room))
      have hne : (Value.slice B m.length d).ownBlock = none ∨ (Value.slice B m.length d).ownBlock ≠ some (w.heap.size + 1) := by
        cases hx : (Value.slice B m.length d).ownBlock with
        | none => exact .inl rfl
        | some x => exact .inr (fun e => by injection e with e; have := hlow x hx; omega)
      have hfin := World.ownsRow.kept (World.ownsRow.kept hI.own (but_set (b := w.heap.size + 1) 0 (.slice B m.length d)) hne) (but_set (b := w.heap.size + 1) 1 (.int .i64 room)) hne
      have HFN := Lib.hid (OwnN.reads hfin)
      clear hI hNow hlow hne hfin H3
      go_wp2
      refine bodyPost_ret (results_cell3 rfl _ _ _ _ _ _ _ rfl ht.out.1 Try.underlying25 rfl (by kernel_rfl)) rfl ?_
      exact ⟨_, rfl, HFN.out, ht.out.2⟩
    · have hy := HY.out
      rw [if_neg he] at hy
      subst hy
      have ht := Lib.hid (H3.told (.slice A l.length c) (.int .i64 room))
      clear H3
      go_wp2
      refine bodyPost_ret (results_cell3 rfl _ _ _ _ _ _ _ rfl ht.out.1 Try.underlying25 rfl (by kernel_rfl)) rfl ?_
      exact ⟨_, rfl, ⟨A, c, rfl, hc, (hR.below ht.out.2 (Nat.le_refl _)).more ht.out.2.size⟩, ht.out.2⟩

set_option maxHeartbeats 8000000 in
set_option maxRecDepth 100000 in
theorem internClos_any (n0 g b kb : Nat) (l : List Nd) (room : Int) (k : Kd) (w : World) (hix : Ix n0 w g b l room) (hr : Right6 l room) (hk : w.heap[kb]? = some (.cells #[.int .i64 k.1, .int .i64 k.2.1, .int .i64 k.2.2.1, .int .i64 k.2.2.2] 26 (0, 0))) :
    Calls Try.prog 46 #[.pointer (some ⟨g, 0, none⟩), .pointer (some ⟨kb, 0, none⟩)] w (IxR (put6 l room k) n0 g b room w) := by
  have hcall := intern_any n0 g b l room k w hix hr
  unfold kidsV IxR at hcall
  have k0 : w.cell? ⟨kb, 0, none⟩ = some (.int .i64 k.1) := Lib.cell_of_heap hk 0
  have k1 : w.cell? ⟨kb, 1, none⟩ = some (.int .i64 k.2.1) := Lib.cell_of_heap hk 1
  have k2 : w.cell? ⟨kb, 2, none⟩ = some (.int .i64 k.2.2.1) := Lib.cell_of_heap hk 2
  have k3 : w.cell? ⟨kb, 3, none⟩ = some (.int .i64 k.2.2.2) := Lib.cell_of_heap hk 3
  clear hix hr hk
  generalize put6 l room k = z at *
  go_enter Try.func46, Try.ntmps46
  go_wp2_with (go_at_call 47; refine hcall.mono ?_; rintro e w1 ⟨rfl, hi1, hb1⟩; have HI := Lib.hid hi1; have HB := Lib.hid hb1; clear hi1 hb1 hcall)
  go_ret2
  exact ⟨rfl, HI.out, HB.out⟩
set_option maxHeartbeats 8000000 in
set_option maxRecDepth 100000 in
theorem emptyClos_any (n0 g b kb : Nat) (l : List Nd) (room lev : Int) (w : World) (hix : Ix n0 w g b l room) (hr : Right6 l room) (hn0 : n0 ≤ w.heap.size) (hk : w.cell? ⟨kb, 0, none⟩ = some (.int .i64 lev)) :
    Calls Try.prog 49 #[.pointer (some ⟨g, 0, none⟩), .pointer (some ⟨kb, 0, none⟩)] w (IxR (ixEmpty l room lev) n0 g b room w) := by
  have hcall := ixEmpty_any n0 g b l room lev w hix hr hn0
  unfold IxR at hcall
  clear hix hr
  generalize ixEmpty l room lev = z at *
  go_enter Try.func49, Try.ntmps49
  go_wp2_with (go_at_call 50; refine hcall.mono ?_; rintro e w1 ⟨rfl, hi1, hb1⟩; have HI := Lib.hid hi1; have HB := Lib.hid hb1; clear hi1 hb1 hcall)
  go_ret2
  exact ⟨rfl, HI.out, HB.out⟩

set_option maxHeartbeats 8000000 in
set_option maxRecDepth 100000 in
theorem nodeIntern_any (A : Option Addr) (l : List Nd) (c : Nat) (room : Int) (k : Kd) (w : World) (hR : RdN w w.heap.size A l) (hl : l.length ≤ 1000000) (hc : l.length ≤ c) :
    Calls Try.prog 19 #[storeV A l.length c room, kidsV k] w (PutR (intern6 l room k) room w) := by
  have HH0 := putHead_0 w A l.length c room k
  have hmf : ∀ (fn : Fn) (first cap : Array Value) (W : World), (Instr.makeFunc fn first cap).run Try.prog W = .ok (.func fn first cap) W := fun _ _ _ _ => rfl
  have hgr := grown_any 46 (enters_of Try.func46 (by kernel_rfl) rfl) (.pointer (some ⟨w.heap.size + 1, 0, none⟩)) (put6 l room k) A l c room _ ((hR.below HH0.bel (Nat.le_refl _)).more HH0.bel.size) hl hc
    (fun hr g b W hbW hix _ => internClos_any _ g b _ l room k W hix (right_iff.1 hr) ((hbW.block _ (lt_heap6 HH0.kids)).trans HH0.kids))
  rw [grown_intern] at hgr
  unfold storeV PutR at hgr
  unfold storeV kidsV
  have HH := Lib.hid HH0
  have s0 := HH0.s0
  have s1 := HH0.s1
  clear HH0
  generalize intern6 l room k = z at *
  obtain ⟨m, q, ee⟩ := z
  simp only at hgr
  go_enter Try.func19, Try.ntmps19
  go_wp2_with fail
  refine hgr.mono ?_
  rintro e w1 ⟨v, rfl, ⟨B, d, rfl, hd, hN⟩, hb1⟩
  have H1 := HH.out.below hb1
  have r0 := H1.r0
  have r1 := H1.r1
  have f0 := H1.free 0
  have f1 := H1.free 1
  have ht := Lib.hid (H1.told (.slice B m.length d) (.int .i64 room))
  have hrd := Lib.hid (rdN_told (u := .slice B m.length d) (v := .int .i64 room) hN H1.res)
  clear hgr hb1 H1 hN s0 s1
  go_wp2
  refine bodyPost_ret (results_cell3 rfl _ _ _ _ _ _ _ rfl ht.out.1 Try.underlying25 rfl (by kernel_rfl)) rfl ?_
  exact ⟨_, rfl, ⟨B, d, rfl, hd, hrd.out.more (by simp [World.setCell])⟩, ht.out.2⟩

/-- What is known within Empty: the store, the level, what is to be told. -/
structure LevHead (w wr : World) (A : Option Addr) (n c : Nat) (room lev : Int) : Prop where
  store : wr.heap[w.heap.size]? = some (.cells #[.slice A n c, .int .i64 room] 25 (0, 0))
  lev : wr.heap[w.heap.size + 1]? = some (.cells #[.int .i64 lev] 3 (0, 0))
  res : wr.heap[w.heap.size + 2]? = some (.cells #[.slice none 0 0, .int .i64 0] 25 (0, 0))
  bel : Below w.heap.size w wr
section
variable {w wr w' : World} {A : Option Addr} {n c : Nat} {room lev : Int}
theorem LevHead.below (h : LevHead w wr A n c room lev) (hb : Below wr.heap.size wr w') : LevHead w w' A n c room lev :=
  ⟨(hb.block _ (lt_heap6 h.store)).trans h.store, (hb.block _ (lt_heap6 h.lev)).trans h.lev, (hb.block _ (lt_heap6 h.res)).trans h.res, Qt.more h.bel h.bel.size hb⟩
theorem LevHead.s0 (h : LevHead w wr A n c room lev) : wr.cell? ⟨w.heap.size, 0, none⟩ = some (.slice A n c) := by rw [Lib.cell_of_heap h.store]; rfl
theorem LevHead.s1 (h : LevHead w wr A n c room lev) : wr.cell? ⟨w.heap.size, 1, none⟩ = some (.int .i64 room) := by rw [Lib.cell_of_heap h.store]; rfl
theorem LevHead.l0 (h : LevHead w wr A n c room lev) : wr.cell? ⟨w.heap.size + 1, 0, none⟩ = some (.int .i64 lev) := by rw [Lib.cell_of_heap h.lev]; rfl
theorem LevHead.r0 (h : LevHead w wr A n c room lev) : wr.cell? ⟨w.heap.size + 2, 0, none⟩ = some (.slice none 0 0) := by rw [Lib.cell_of_heap h.res]; rfl
theorem LevHead.r1 (h : LevHead w wr A n c room lev) : wr.cell? ⟨w.heap.size + 2, 1, none⟩ = some (.int .i64 0) := by rw [Lib.cell_of_heap h.res]; rfl
theorem LevHead.free (h : LevHead w wr A n c room lev) (j : Nat) : wr.frozen? ⟨w.heap.size + 2, j, none⟩ = false := Lib.frozen_of_heap h.res j
theorem LevHead.told (h : LevHead w wr A n c room lev) (u v : Value) : ((wr.setCell ⟨w.heap.size + 2, 0, none⟩ u).setCell ⟨w.heap.size + 2, 1, none⟩ v).heap[w.heap.size + 2]? = some (.cells #[u, v] 25 (0, 0)) ∧ Below w.heap.size w ((wr.setCell ⟨w.heap.size + 2, 0, none⟩ u).setCell ⟨w.heap.size + 2, 1, none⟩ v) := by
  have hr := h.res
  refine ⟨?_, (h.bel.setCell (by show _ ≤ _ + 2; omega) _).setCell (by show _ ≤ _ + 2; omega) _⟩
  simp [World.setCell, Array.getElem?_modify, hr]
end
theorem levHead_0 (w : World) (A : Option Addr) (n c : Nat) (room lev : Int) : LevHead w (((w.alloc (.cells #[.slice A n c, .int .i64 room] 25)).alloc (.cells #[.int .i64 lev] 3)).alloc (.cells #[.slice none 0 0, .int .i64 0] 25)) A n c room lev := by
  have h1 := storeAt_0 w A n c room
  have hs := lt_heap6 h1.store
  have hs1 : (w.alloc (.cells #[.slice A n c, .int .i64 room] 25)).heap.size = w.heap.size + 1 := by simp
  have hsz : ((w.alloc (.cells #[.slice A n c, .int .i64 room] 25)).alloc (.cells #[.int .i64 lev] 3)).heap.size = w.heap.size + 2 := by simp
  refine ⟨(Lib.alloc_old _ _ _ (by omega)).trans ((Lib.alloc_old _ _ _ (by omega)).trans h1.store), (Lib.alloc_old _ _ _ (by omega)).trans ?_, ?_, (h1.bel.alloc (by omega) _).alloc (by omega) _⟩
  · rw [← hs1]
    exact heap_alloc_new _ _
  · rw [← hsz]
    exact heap_alloc_new _ _

set_option maxHeartbeats 8000000 in
set_option maxRecDepth 100000 in
theorem nodeEmpty_any (A : Option Addr) (l : List Nd) (c : Nat) (room lev : Int) (w : World) (hR : RdN w w.heap.size A l) (hl : l.length ≤ 1000000) (hc : l.length ≤ c) :
    Calls Try.prog 22 #[storeV A l.length c room, .int .i64 lev] w (PutR (empty6 l room lev) room w) := by
  have HH0 := levHead_0 w A l.length c room lev
  have hmf : ∀ (fn : Fn) (first cap : Array Value) (W : World), (Instr.makeFunc fn first cap).run Try.prog W = .ok (.func fn first cap) W := fun _ _ _ _ => rfl
  have hgr := grown_any 49 (enters_of Try.func49 (by kernel_rfl) rfl) (.pointer (some ⟨w.heap.size + 1, 0, none⟩)) (ixEmpty l room lev) A l c room _ ((hR.below HH0.bel (Nat.le_refl _)).more HH0.bel.size) hl hc
    (fun hr g b W hbW hix hn => emptyClos_any _ g b _ l room lev W hix (right_iff.1 hr) hn (by rw [Lib.cell_of_heap ((hbW.block _ (lt_heap6 HH0.lev)).trans HH0.lev)]; rfl))
  rw [grown_empty] at hgr
  unfold storeV PutR at hgr
  unfold storeV
  have HH := Lib.hid HH0
  have s0 := HH0.s0
  have s1 := HH0.s1
  clear HH0
  generalize empty6 l room lev = z at *
  obtain ⟨m, q, ee⟩ := z
  simp only at hgr
  go_enter Try.func22, Try.ntmps22
  go_wp2_with fail
  refine hgr.mono ?_
  rintro e w1 ⟨v, rfl, ⟨B, d, rfl, hd, hN⟩, hb1⟩
  have H1 := HH.out.below hb1
  have r0 := H1.r0
  have r1 := H1.r1
  have f0 := H1.free 0
  have f1 := H1.free 1
  have ht := Lib.hid (H1.told (.slice B m.length d) (.int .i64 room))
  have hrd := Lib.hid (rdN_told (u := .slice B m.length d) (v := .int .i64 room) hN H1.res)
  clear hgr hb1 H1 hN s0 s1
  go_wp2
  refine bodyPost_ret (results_cell3 rfl _ _ _ _ _ _ _ rfl ht.out.1 Try.underlying25 rfl (by kernel_rfl)) rfl ?_
  exact ⟨_, rfl, ⟨B, d, rfl, hd, hrd.out.more (by simp [World.setCell])⟩, ht.out.2⟩

set_option maxHeartbeats 8000000 in
set_option maxRecDepth 100000 in
theorem nodeRight_any (A : Option Addr) (l : List Nd) (c : Nat) (room : Int) (w : World) (hR : RdN w w.heap.size A l) (hl : l.length ≤ 1000000) (hc : l.length ≤ c) :
    Calls Try.prog 16 #[storeV A l.length c room] w fun e w' => e = .returned (.bool (right6 l room)) ∧ Below w.heap.size w w' := by
  have HH0 := storeAt_0 w A l.length c room
  have hidx := indexOf_any A l c room _ ((hR.below HH0.bel (Nat.le_refl _)).more HH0.bel.size) hl hc
  unfold storeV IndexR at hidx
  unfold storeV
  have HH := Lib.hid HH0
  have s0 := HH0.s0
  have s1 := HH0.s1
  cases hr : right6 l room with
  | false =>
    rw [hr] at hidx
    clear HH0
    go_enter Try.func16, Try.ntmps16
    go_wp2_with fail
    refine hidx.mono ?_
    rintro e w1 ⟨hb1, (⟨_, rfl⟩ | ⟨hh, _⟩)⟩
    rotate_left
    · exact absurd hh (by decide)
    have hbel := Lib.hid ((HH.out.bel.trans (hb1.mono (by simp))).alloc (B := w.heap.size) (by have := hb1.size; simp at this; omega) (.cells #[.slice none 0 0, .int .i64 0, .map none] 81))
    clear hidx hb1 s0 s1
    go_wp2
    go_ret
    exact ⟨rfl, hbel.out⟩
  | true =>
    have h2 := (right_iff.1 hr).two
    rw [hr] at hidx
    clear HH0
    go_enter Try.func16, Try.ntmps16
    go_wp2_with fail
    refine hidx.mono ?_
    rintro e w1 ⟨hb1, (⟨hh, _⟩ | ⟨_, v, b, D, rfl, hown, hmap, hsays, hbB⟩)⟩
    · exact absurd hh (by decide)
    obtain ⟨q1, cap, rfl, hcap⟩ := ownN_val hown (by omega)
    have hbel := Lib.hid ((HH.out.bel.trans (hb1.mono (by simp))).alloc (B := w.heap.size) (by have := hb1.size; simp at this; omega) (.cells #[.slice (some ⟨q1, 0, none⟩) l.length cap, .int .i64 room, .map (some b)] 81))
    clear hidx hb1 s0 s1 hown hmap hsays
    go_wp2
    go_ret
    exact ⟨rfl, hbel.out⟩
end Go.Proofs.Ytcmdhochofoohaa
namespace Go.Proofs.Ytcmdhochofoohaa
set_option maxRecDepth 100000
set_option linter.unusedVariables false
set_option linter.unusedSimpArgs false
open Go.RowKit Go.Sort

/-- a row of cells -/
def RowV (w : World) (q T : Nat) (xs : List Value) : Prop := w.heap[q]? = some (.cells xs.toArray T (0, 0))
section
variable {w w' : World} {q T : Nat} {xs : List Value}
theorem RowV.lt (h : RowV w q T xs) : q < w.heap.size := lt_heap6 h
theorem RowV.cell (h : RowV w q T xs) {i : Nat} {v : Value} (hi : xs[i]? = some v) : w.cell? ⟨q, i, none⟩ = some v := by
  rw [Lib.cell_of_heap h]
  simpa using hi
theorem RowV.free (h : RowV w q T xs) (i : Nat) : w.frozen? ⟨q, i, none⟩ = false := Lib.frozen_of_heap h i
theorem RowV.set (h : RowV w q T xs) (i : Nat) (u : Value) : RowV (w.setCell ⟨q, i, none⟩ u) q T (xs.set i u) := by
  unfold RowV at h ⊢
  simp [World.setCell, Array.getElem?_modify, h]
theorem RowV.other (h : RowV w q T xs) {p : Nat} (hne : q ≠ p) (i : Nat) (u : Value) : RowV (w.setCell ⟨p, i, none⟩ u) q T xs := by
  unfold RowV at h ⊢
  have hne' : p ≠ q := fun e => hne e.symm
  simp [World.setCell, Array.getElem?_modify, hne', h]
theorem RowV.below (h : RowV w q T xs) {B : Nat} (hb : Below B w w') (hB : q < B) : RowV w' q T xs := (hb.block _ hB).trans h
theorem RowV.now (h : RowV w q T xs) (hb : Below w.heap.size w w') : RowV w' q T xs := h.below hb h.lt
theorem RowV.drew (h : RowV w q T xs) : RowV w.drew q T xs := h
theorem RowV.made (w : World) (T : Nat) (xs : List Value) : RowV (w.alloc (.cells xs.toArray T)) w.heap.size T xs := heap_alloc_new w _
end
def boolsL (n : Nat) (f : Nat → Bool) : List Value := (List.range n).map fun i => .bool (f i)
theorem boolsL_get {n i : Nat} (f : Nat → Bool) (h : i < n) : (boolsL n f)[i]? = some (.bool (f i)) := by
  unfold boolsL
  rw [List.getElem?_map, List.getElem?_range h]
  rfl
theorem boolsL_len (n : Nat) (f : Nat → Bool) : (boolsL n f).length = n := by unfold boolsL; simp
theorem boolsL_set (n i : Nat) (f : Nat → Bool) : (boolsL n f).set i (.bool true) = boolsL n (fun x => f x || decide (x = i)) := by
  refine List.ext_getElem? fun k => ?_
  rw [List.getElem?_set]
  by_cases hk : k < n
  · by_cases hik : i = k
    · rw [if_pos hik, if_pos (by rw [boolsL_len]; omega), boolsL_get _ hk]
      simp [hik]
    · rw [if_neg hik, boolsL_get _ hk, boolsL_get _ hk]
      have : ¬ k = i := fun e => hik e.symm
      simp [this]
  · have h1 : (boolsL n f)[k]? = none := List.getElem?_eq_none (by rw [boolsL_len]; omega)
    have h2 : (boolsL n (fun x => f x || decide (x = i)))[k]? = none := List.getElem?_eq_none (by rw [boolsL_len]; omega)
    rw [h1, h2]
    split
    · rw [if_neg (by rw [boolsL_len]; omega)]
    · rfl
theorem boolsL_congr {n : Nat} {f g : Nat → Bool} (h : ∀ i, i < n → f i = g i) : boolsL n f = boolsL n g := by
  unfold boolsL
  refine List.map_congr_left fun i hi => ?_
  rw [h i (List.mem_range.1 hi)]
def intsL (l : List Int) : List Value := l.map fun x => .int .i64 x
theorem intsL_get {l : List Int} {i : Nat} (h : i < l.length) : (intsL l)[i]? = some (.int .i64 (l.getD i 0)) := by
  unfold intsL
  rw [List.getElem?_map, List.getElem?_eq_getElem h, List.getD_eq_getElem?_getD, List.getElem?_eq_getElem h]
  rfl
theorem intsL_set (l : List Int) (i : Nat) (x : Int) : (intsL l).set i (.int .i64 x) = intsL (l.set i x) := by
  unfold intsL
  rw [List.map_set]
/-- numbers told place by place: those below n by f, the others 0 -/
def numsL (n : Nat) (f : Nat → Int) : List Int := (List.range n).map f
theorem numsL_len (n : Nat) (f : Nat → Int) : (numsL n f).length = n := by unfold numsL; simp
theorem numsL_get {n i : Nat} (f : Nat → Int) (h : i < n) : (numsL n f).getD i 0 = f i := by
  unfold numsL
  rw [List.getD_eq_getElem?_getD, List.getElem?_map, List.getElem?_range h]
  rfl
theorem numsL_set (n i : Nat) (f : Nat → Int) (x : Int) : (numsL n f).set i x = numsL n (fun k => if k = i then x else f k) := by
  refine List.ext_getElem? fun k => ?_
  rw [List.getElem?_set]
  unfold numsL
  by_cases hk : k < n
  · rw [List.getElem?_map, List.getElem?_map, List.getElem?_range hk]
    by_cases hik : i = k
    · rw [if_pos hik, if_pos (by simp; omega)]
      simp [hik]
    · rw [if_neg hik]
      have : ¬ k = i := fun e => hik e.symm
      simp [this]
  · have h1 : ∀ g : Nat → Int, ((List.range n).map g)[k]? = none := fun g => List.getElem?_eq_none (by simp; omega)
    rw [h1, h1]
    split
    · rw [if_neg (by simp; omega)]
    · rfl
theorem info_bool : (Try.prog.info? 4).map (fun i => (i.zero, i.size, i.bytes)) = some (some (.bool false), 1, 1) := by kernel_rfl
theorem info_int6 : (Try.prog.info? 3).map (fun i => (i.zero, i.size, i.bytes)) = some (some (.int .i64 0), 1, 8) := by kernel_rfl
theorem made_bools (n : Nat) : (madeCells #[.bool false] n) = (boolsL n fun _ => false).toArray := by
  unfold madeCells boolsL
  refine Array.ext (by simp) fun i h1 h2 => ?_
  simp [Nat.mod_one]
theorem made_ints (n : Nat) : (madeCells #[.int .i64 0] n) = (intsL (numsL n fun _ => 0)).toArray := by
  unfold madeCells intsL numsL
  refine Array.ext (by simp) fun i h1 h2 => ?_
  simp [Nat.mod_one]
theorem makeBools (n : Nat) (hn : n ≤ 1000000) (u : World) : (Instr.makeSlice 93 (.int .i64 (n : Int)) (.int .i64 (n : Int))).run Try.prog u = .ok (.slice (some ⟨u.heap.size, 0, none⟩) n n) (u.alloc (.cells (boolsL n fun _ => false).toArray 4)) := by
  obtain ⟨i0, hi, hz0, hz1, hz2⟩ := info_parts info_bool
  have h := run_make (P := Try.prog) u 93 4 i0 _ Try.underlying93 hi hz0 .i64 .i64 (n : Int) (n : Int) (by omega) (Int.le_refl _) (by rw [hz2]; omega) (by omega)
  rw [← made_bools]
  simpa [hz1, Value.cells] using h
theorem makeInts (n : Nat) (hn : n ≤ 1000000) (u : World) : (Instr.makeSlice 28 (.int .i64 (n : Int)) (.int .i64 (n : Int))).run Try.prog u = .ok (.slice (some ⟨u.heap.size, 0, none⟩) n n) (u.alloc (.cells (intsL (numsL n fun _ => 0)).toArray 3)) := by
  obtain ⟨i0, hi, hz0, hz1, hz2⟩ := info_parts info_int6
  have h := run_make (P := Try.prog) u 28 3 i0 _ Try.underlying28 hi hz0 .i64 .i64 (n : Int) (n : Int) (by omega) (Int.le_refl _) (by rw [hz2]; omega) (by omega)
  rw [← made_ints]
  simpa [hz1, Value.cells] using h
end Go.Proofs.Ytcmdhochofoohaa
namespace Go.Proofs.Ytcmdhochofoohaa
set_option maxRecDepth 100000
set_option linter.unusedVariables false
set_option linter.unusedSimpArgs false
open Go.RowKit Go.Sort Go.Shelf
attribute [local go_sem] Oper.semAt_some

/-- a node's place -/
abbrev Ind (l : List Nd) := { i : Nat // i < l.length }
def indV (l : List Nd) (x : Ind l) : Array Value := #[.int .i64 (x.1 : Int), .agg #[.int .i64 (l.getD x.1 deadN).1, .int .i64 (l.getD x.1 deadN).2.1.1, .int .i64 (l.getD x.1 deadN).2.1.2.1, .int .i64 (l.getD x.1 deadN).2.1.2.2.1, .int .i64 (l.getD x.1 deadN).2.1.2.2.2, .int .i64 (l.getD x.1 deadN).2.2]]
/-- the last k places, from behind -/
def come (l : List Nd) (k : Nat) : List (Ind l) := (List.range k).filterMap fun j => if h : l.length - 1 - j < l.length then some ⟨l.length - 1 - j, h⟩ else none
theorem come_succ {l : List Nd} {k p : Nat} (h : k + (p + 1) = l.length) : come l (k + 1) = come l k ++ [⟨p, by omega⟩] := by
  unfold come
  rw [List.range_succ, List.filterMap_append]
  congr 1
  have e : l.length - 1 - k = p := by omega
  simp only [List.filterMap_cons, List.filterMap_nil]
  rw [dif_pos (by omega)]
  simp [e]
theorem come_len {l : List Nd} : ∀ k, k ≤ l.length → (come l k).length = k := by
  intro k
  induction k with
  | zero => intro _; rfl
  | succ k ih =>
    intro h
    rw [come_succ (p := l.length - (k + 1)) (by omega), List.length_append, ih (by omega)]
    rfl
/-- what lay below m, and block B, lies as it lay -/
def KpA (m B : Nat) (W W' : World) : Prop := ∀ k, (k < m ∨ k = B) → W'.heap[k]? = W.heap[k]?
theorem KpA.refl (m B : Nat) (W : World) : KpA m B W W := fun _ _ => rfl
theorem KpA.trans {m B : Nat} {W W' W'' : World} (h : KpA m B W W') (h' : KpA m B W' W'') : KpA m B W W'' := fun k hk => (h' k hk).trans (h k hk)
theorem KpA.nd {m B b o : Nat} {W W' : World} {x : Nd} (h : KpA m B W W') (hb : b < m) (hx : NdAt W b o x) : NdAt W' b o x := by
  have hc : ∀ i, W'.cell? ⟨b, i, none⟩ = W.cell? ⟨b, i, none⟩ := fun i => World.cell?_of_block (w := W) (h b (.inl hb))
  obtain ⟨h0, h1, h2, h3, h4, h5⟩ := hx
  exact ⟨(hc _).trans h0, (hc _).trans h1, (hc _).trans h2, (hc _).trans h3, (hc _).trans h4, (hc _).trans h5⟩

set_option maxRecDepth 100000 in
set_option maxHeartbeats 4000000 in
theorem back1_in (F : Fence) (n : Nat) (h44 : F.fn 99) (hro : F.round = none) (hn : 1 ≤ n) (lp Bs m b off cap : Nat) (l : List Nd) (hl : l.length ≤ 1000000) (hb : b < m) (J Jx : List (Ind l) → World → Prop)
    (hY : ∀ pre x W, J pre W → pre.length < l.length → YieldAt F (n - 1) Try.prog lp (indV l x) W fun e W' =>
      (e = .returned (.bool true) ∧ J (pre ++ [x]) W' ∧ KpA m Bs W W') ∨ (e = .returned (.bool false) ∧ Jx (pre ++ [x]) W'))
    (W : World) (hBs : W.cell? ⟨Bs, 0, none⟩ = some (.slice (some ⟨b, off, none⟩) l.length cap)) (hc : ∀ j, j < l.length → NdAt W b (off + j * 6) (l.getD j deadN)) (h0 : J [] W) :
    CallsIn F n Try.prog 99 #[.func (.yield lp) #[] #[], .pointer (some ⟨Bs, 0, none⟩)] W fun e W' => (∃ v, e = .returned v) ∧
      (J (come l l.length) W' ∨ (∃ pre, Jx pre W')) := by
  refine callsIn_of_wp Try.func99 rfl h44 ?_ hro
  simp only [Try.ntmps99, List.size_toArray, List.length_cons, List.length_nil, Nat.reduceAdd, Nat.reduceSub, Array.replicate_succ, Array.replicate_zero, List.push_toArray, List.append_toArray, List.nil_append, List.cons_append]
  gi_wp2
  gi_loopw [3] (fun i wr => ∃ (k p : Nat) (e : Int), k + p = l.length ∧ i = .int .i64 e ∧ e = (p : Int) - 1 ∧ J (come l k) wr ∧ KpA m Bs W wr)
    (fun i _ => (intOf i + 1).toNat)
  case atStart => exact ⟨0, l.length, _, by omega, rfl, rfl, h0, KpA.refl _ _ _⟩
  case round =>
    obtain ⟨k, p, e, hkp, rfl, he, hJs, hK⟩ := hrel
    have hbx : wr.cell? ⟨Bs, 0, none⟩ = some (.slice (some ⟨b, off, none⟩) l.length cap) := (World.cell?_of_block (w := W) (hK Bs (.inr rfl))).trans hBs
    have HKP := Lib.hid hkp
    have HH := Lib.hid hK
    have HJ := Lib.hid hJs
    have hp1 := Nat.le.intro hkp
    cases p with
    | succ p =>
      obtain rfl : e = (p : Int) := by omega
      have hpn : p < l.length := by omega
      have hnd := hK.nd hb (hc p hpn)
      obtain ⟨fn, tmps, assign, body, hy, hR⟩ := hY _ (⟨p, hpn⟩ : Ind l) wr hJs (by rw [come_len k (by omega)]; omega)
      unfold indV at hy
      dsimp only at hy
      generalize l.getD p deadN = x at hnd hy
      obtain ⟨x0, ⟨x1, x2, x3, x4⟩, x5⟩ := x
      obtain ⟨n0, n1, n2, n3, n4, n5⟩ := hnd
      dsimp only at n0 n1 n2 n3 n4 n5 hy
      have hpl : (p : Int) < (l.length : Int) := by omega
      clear hkp he hK hJs hc hBs h0 hp1
      gi_wp2
      refine hR.mono ?_
      clear hR hy
      rintro e W3 (⟨rfl, hJ3, hk3⟩ | ⟨rfl, hJx3⟩)
      · have HJ3 := Lib.hid hJ3
        have HK3 := Lib.hid hk3
        clear hJ3 hk3
        gi_wp2
        go_roundw
        case rel => exact ⟨k + 1, p, (p : Int) - 1, by have := HKP.out; omega, by simp, rfl, by rw [come_succ HKP.out]; exact HJ3.out, HH.out.trans HK3.out⟩
        case measure => simp [intOf]
      · gi_wp2
        refine bodyPost_ret (results_none rfl _ _ _) rfl ?_
        exact ⟨⟨_, rfl⟩, .inr ⟨_, hJx3⟩⟩
    | zero =>
      obtain rfl : e = -1 := by omega
      have hk : k = l.length := by omega
      have HK := Lib.hid hk
      clear hkp he hK hJs hc hBs h0 hp1 hk
      gi_wp2
      go_end0
      exact ⟨⟨_, rfl⟩, .inl (HK.out ▸ HJ.out)⟩

set_option maxHeartbeats 1000000 in
theorem back_in (F : Fence) (n : Nat) (h42 : F.fn 79) (hro : F.round = none) (a : Option Addr) (len cap : Nat) (w : World) :
    CallsIn F n Try.prog 79 #[.slice a len cap] w fun e w' => e = .returned (.func (.func 99) #[] #[.pointer (some ⟨w.heap.size, 0, none⟩)]) ∧ w' = w.alloc (.cells #[.slice a len cap] 23) := by
  refine callsIn_of_wp Try.func79 rfl h42 ?_ hro
  simp only [Try.ntmps79, List.size_toArray, List.length_cons, List.length_nil, Nat.reduceAdd, Nat.reduceSub, Array.replicate_succ, Array.replicate_zero, List.push_toArray, List.append_toArray, List.nil_append, List.cons_append]
  gi_wp2
  go_ret
  exact ⟨rfl, rfl⟩
theorem back_stops (F : Fence) (n : Nat) (h44 : F.fn 99) (hro : F.round = none) (hn : 1 ≤ n) (Bs m b off cap : Nat) (l : List Nd) (hl : l.length ≤ 1000000) (hb : b < m) (w : World) (hBs : Bs < w.heap.size) (hm : m ≤ w.heap.size)
    (hbx : w.cell? ⟨Bs, 0, none⟩ = some (.slice (some ⟨b, off, none⟩) l.length cap)) (hc : ∀ j, j < l.length → NdAt w b (off + j * 6) (l.getD j deadN)) :
    SeqStopsK F n Try.prog 99 #[.pointer (some ⟨Bs, 0, none⟩)] (indV l) (KpA m Bs) (fun ys => ys = come l l.length) (fun _ => True) l.length w := fun lp J Jx W hW _ _ hY h0 => by
  refine (back1_in F n h44 hro hn lp Bs m b off cap l hl hb J Jx hY W ((hW.cell (p := ⟨Bs, 0, none⟩) hBs).trans hbx) (fun j hj => (hc j hj).below hW (by omega)) h0).mono ?_
  rintro e W' ⟨he, hj | ⟨pre, hj⟩⟩
  · exact ⟨he, .inl ⟨_, rfl, hj⟩⟩
  · exact ⟨he, .inr ⟨_, trivial, hj⟩⟩
theorem kpA_t {m B : Nat} {A C D : World} (h : KpA m B A C) (k : KpA m B C D) : KpA m B A D := h.trans k
theorem kpA_b {m B : Nat} {w : World} (hm : m ≤ w.heap.size) (hB : B < w.heap.size) (W : World) (l : Nat) (o o' : Obj) (hl : w.heap.size ≤ l) (_ : W.heap[l]? = some o) (_ : o.isCells = false) (_ : o.isWalk = false) : KpA m B W (W.putObj l o') :=
  fun k hk => World.putObj_heap_other (by omega)
theorem KpA.setCell {m B : Nat} (W : World) {q i : Nat} (u : Value) (hm : m ≤ q) (hB : q ≠ B) : KpA m B W (W.setCell ⟨q, i, none⟩ u) := fun k hk => by
  have hne : q ≠ k := by rcases hk with h | h <;> omega
  simp [World.setCell, Array.getElem?_modify, hne]
theorem KpA.alloc {m B : Nat} (W : World) (o : Obj) (hm : m ≤ W.heap.size) (hB : B < W.heap.size) : KpA m B W (W.alloc o) := fun k hk => Lib.alloc_old _ _ _ (by omega)
theorem rowV_own {β : Type} (q T : Nat) (f : β → List Value) : Own (fun s W => RowV W q T (f s)) := fun s X Y row hs hg hrow => by
  have hne : row ≠ some q := fun e => by
    obtain ⟨o, ho, hc⟩ := hrow q e
    unfold RowV at hs
    rw [hs] at ho
    cases ho
    cases hc
  exact (hg.block q hs.lt (fun e => hne e.symm)).trans hs

/-! ### the flags -/
def stepF (l : List Nd) (f : Nat → Bool) (i : Nat) : Nat → Bool := if f i = true then setK (l.getD i deadN).2.1 f else f
def foldF (l : List Nd) (pre : List (Ind l)) (f : Nat → Bool) : Nat → Bool := pre.foldl (fun f x => stepF l f x.1) f
theorem foldF_snoc (l : List Nd) (pre : List (Ind l)) (x : Ind l) (f : Nat → Bool) : foldF l (pre ++ [x]) f = stepF l (foldF l pre f) x.1 := by unfold foldF; rw [List.foldl_append]; rfl
theorem step_mono {l : List Nd} {f : Nat → Bool} {i x : Nat} (h : f x = true) : stepF l f i x = true := by
  unfold stepF
  split
  · unfold setK; rw [h]; rfl
  · exact h
theorem step_same {l : List Nd} {room : Int} (hr : Right6 l room) {f : Nat → Bool} (h0 : f 0 = true) {i : Nat} (hi : i < l.length) : stepF l f i = (if (decide (2 ≤ i) && f i) = true then setK (l.getD i deadN).2.1 f else f) := by
  unfold stepF
  by_cases h2 : 2 ≤ i
  · rw [decide_eq_true h2, Bool.true_and]
  · have hd : (decide (2 ≤ i) && f i) = false := by rw [decide_eq_false h2]; rfl
    rw [hd]
    simp only [Bool.false_eq_true, if_false]
    split
    · have hk : (l.getD i deadN).2.1 = (0, 0, 0, 0) := by
        rcases (by omega : i = 0 ∨ i = 1) with rfl | rfl
        · rw [hr.dead]; rfl
        · rw [hr.live]; rfl
      rw [hk]
      funext x
      unfold setK isKid
      simp only
      by_cases hx : (x : Int) = 0
      · have : x = 0 := by omega
        subst this
        rw [h0]; rfl
      · have hx' : ¬ x = 0 := by omega
        simp [hx']
    · rfl
theorem fold_come {l : List Nd} {room : Int} (hr : Right6 l room) {f : Nat → Bool} (h0 : f 0 = true) : ∀ k p, k + p = l.length → foldF l (come l k) f 0 = true ∧ down l p (foldF l (come l k) f) = down l l.length f := by
  intro k
  induction k with
  | zero =>
    intro p hp
    obtain rfl : p = l.length := by omega
    exact ⟨h0, rfl⟩
  | succ k ih =>
    intro p hp
    obtain ⟨i0, i1⟩ := ih (p + 1) (by omega)
    rw [come_succ (p := p) (by omega), foldF_snoc]
    refine ⟨step_mono i0, ?_⟩
    rw [← i1]
    show _ = down l p _
    rw [step_same hr i0 (by show p < _; omega)]
theorem fold_all {l : List Nd} {room : Int} (hr : Right6 l room) {f : Nat → Bool} (h0 : f 0 = true) : foldF l (come l l.length) f = down l l.length f := (fold_come hr h0 l.length 0 (by omega)).2
/-- the first kids of four are told -/
def setTo (k : Kd) (f : Nat → Bool) (i : Nat) : Nat → Bool := fun x => f x || (List.range i).any fun c => decide (kd k c = (x : Int))
theorem setTo_zero (k : Kd) (f : Nat → Bool) : setTo k f 0 = f := by funext x; simp [setTo]
theorem setTo_succ (k : Kd) (f : Nat → Bool) (i p : Nat) (h : kd k i = (p : Int)) : (fun x => setTo k f i x || decide (x = p)) = setTo k f (i + 1) := by
  funext x
  unfold setTo
  rw [List.range_succ, List.any_append]
  simp only [List.any_cons, List.any_nil, Bool.or_false, Bool.or_assoc]
  congr 2
  rw [h]
  by_cases hx : x = p
  · simp [hx]
  · have : ¬ (p : Int) = (x : Int) := by omega
    simp [hx, this]
theorem setTo_all (k : Kd) (f : Nat → Bool) : setTo k f 4 = setK k f := by
  funext x
  unfold setTo setK isKid
  congr 1
  rw [show List.range 4 = [0, 1, 2, 3] from rfl]
  simp only [List.any_cons, List.any_nil, Bool.or_false, kd, Bool.or_assoc, @eq_comm Int _ (x : Int)]
theorem kid_in {l : List Nd} {room : Int} (hr : Right6 l room) {i : Nat} (hi : i < l.length) {c : Nat} (hc : c < 4) : 0 ≤ kd (l.getD i deadN).2.1 c ∧ kd (l.getD i deadN).2.1 c < l.length := by
  have h2 := hr.two
  by_cases h : 2 ≤ i
  · have := (fits_iff.1 (hr.fits i h hi)).kid c hc
    omega
  · have hk : (l.getD i deadN).2.1 = (0, 0, 0, 0) := by
      rcases (by omega : i = 0 ∨ i = 1) with rfl | rfl
      · rw [hr.dead]; rfl
      · rw [hr.live]; rfl
    rw [hk]
    have : kd (0, 0, 0, 0) c = 0 := by rcases (by omega : c = 0 ∨ c = 1 ∨ c = 2 ∨ c = 3) with rfl | rfl | rfl | rfl <;> rfl
    rw [this]
    omega
/-- the roots' flags, so many roots seen -/
def rootF (R : List Int) (i : Nat) : Nat → Bool := fun x => decide (x < 2) || (R.take i).any fun r => decide (r = (x : Int))
theorem rootF_zero (R : List Int) : rootF R 0 = fun x => ((fun _ => false) x || decide (x = 0)) || decide (x = 1) := by
  funext x
  unfold rootF
  by_cases h : x < 2
  · rcases (by omega : x = 0 ∨ x = 1) with rfl | rfl <;> simp
  · have h1 : ¬ x = 0 := by omega
    have h2 : ¬ x = 1 := by omega
    simp [h, h1, h2]
theorem rootF_succ (R : List Int) (i p : Nat) (hi : i < R.length) (h : R.getD i 0 = (p : Int)) : (fun x => rootF R i x || decide (x = p)) = rootF R (i + 1) := by
  funext x
  unfold rootF
  rw [List.take_add_one, List.getElem?_eq_getElem hi, List.any_append]
  rw [List.getD_eq_getElem?_getD, List.getElem?_eq_getElem hi, Option.getD_some] at h
  simp only [Option.toList_some, List.any_cons, List.any_nil, Bool.or_false, Bool.or_assoc]
  congr 2
  rw [h]
  by_cases hx : x = p
  · simp [hx]
  · have : ¬ (p : Int) = (x : Int) := by omega
    simp [hx, this]
theorem rootF_all (R : List Int) : rootF R R.length = base6 R := by
  funext x
  unfold rootF base6
  rw [List.take_length]
end Go.Proofs.Ytcmdhochofoohaa
namespace Go.Proofs.Ytcmdhochofoohaa
open Go.Lib

/-! ### texts -/
def dv (c : UInt8) : Nat := c.toNat - 48
def digB (c : UInt8) : Bool := decide (48 ≤ c.toNat) && decide (c.toNat ≤ 57)
theorem digB_iff (c : UInt8) : digB c = true ↔ 48 ≤ c.toNat ∧ c.toNat ≤ 57 := by unfold digB; simp
theorem dv_le {c : UInt8} (h : digB c = true) : dv c ≤ 9 := by have := (digB_iff c).1 h; unfold dv; omega
def val (l : List UInt8) : Nat := l.foldl (fun n c => 10 * n + dv c) 0
theorem val_snoc (l : List UInt8) (c : UInt8) : val (l ++ [c]) = 10 * val l + dv c := by unfold val; rw [List.foldl_append]; rfl
theorem foldl_val (l : List UInt8) (a : Nat) : l.foldl (fun n c => 10 * n + dv c) a = a * 10 ^ l.length + val l := by
  induction l generalizing a with
  | nil => simp [val]
  | cons c l ih =>
    unfold val
    simp only [List.foldl_cons, List.length_cons]
    rw [ih, ih (10 * 0 + dv c), Nat.pow_succ]
    grind
theorem val_cons (c : UInt8) (l : List UInt8) : val (c :: l) = dv c * 10 ^ l.length + val l := by
  have := foldl_val l (10 * 0 + dv c)
  simpa [val] using this
theorem val_lt {l : List UInt8} (h : ∀ c ∈ l, digB c = true) : val l < 10 ^ l.length := by
  induction l with
  | nil => simp [val]
  | cons c l ih =>
    rw [val_cons, List.length_cons, Nat.pow_succ]
    have h1 := ih fun d hd => h d (List.mem_cons_of_mem _ hd)
    have h2 := dv_le (h c List.mem_cons_self)
    have h3 : dv c * 10 ^ l.length ≤ 9 * 10 ^ l.length := Nat.mul_le_mul_right _ h2
    omega

/-- a 0 that others follow -/
def zeroB (l : List UInt8) : Bool := decide (1 < l.length) && (l.getD 0 0 == 48)
def badL (l : List UInt8) : Bool := l.isEmpty || zeroB l || !l.all digB
def parseL (l : List UInt8) : Int × Int := if badL l = true then (0, 20) else if 4611686018427387903 < val l then (0, 21) else (val l, 0)
theorem badL_iff (l : List UInt8) : badL l = false ↔ l ≠ [] ∧ zeroB l = false ∧ ∀ c ∈ l, digB c = true := by
  unfold badL
  simp [List.all_eq_true, and_assoc]

theorem ofNat_to (u : Nat) (h : u < 10) : (UInt8.ofNat (48 + u)).toNat = 48 + u := by simp; omega
theorem dig_of (u : Nat) (h : u < 10) : digB (UInt8.ofNat (48 + u)) = true ∧ dv (UInt8.ofNat (48 + u)) = u := by
  rw [digB_iff]
  unfold dv
  rw [ofNat_to u h]
  omega
theorem dec_small {u : Nat} (h : u < 10) : decDigits u = [UInt8.ofNat (48 + u)] := decDigits_one h
theorem dec_big {u : Nat} (h : ¬ u < 10) : decDigits u = decDigits (u / 10) ++ [UInt8.ofNat (48 + u % 10)] := by rw [decDigits, dif_neg h]
theorem dec_dig (u : Nat) : ∀ c ∈ decDigits u, digB c = true := by
  induction u using Nat.strongRecOn with
  | _ u ih =>
    by_cases h : u < 10
    · rw [dec_small h]; intro c hc; simp at hc; subst hc; have := (dig_of u h).1; simpa using this
    · rw [dec_big h]
      intro c hc
      rcases List.mem_append.1 hc with h1 | h1
      · exact ih (u / 10) (by omega) c h1
      · rw [List.mem_singleton.1 h1]; exact (dig_of (u % 10) (by omega)).1
theorem dec_val (u : Nat) : val (decDigits u) = u := by
  induction u using Nat.strongRecOn with
  | _ u ih =>
    by_cases h : u < 10
    · rw [dec_small h]; have := (dig_of u h).2; simp only [val, List.foldl_cons, List.foldl_nil]; omega
    · rw [dec_big h, val_snoc, ih (u / 10) (by omega), (dig_of (u % 10) (by omega)).2]; omega
theorem dec_pos (u : Nat) : 0 < (decDigits u).length := by rw [decDigits_length]; exact nDigits_pos u
theorem dec_head (u : Nat) (h1 : 1 ≤ u) : (decDigits u).getD 0 0 ≠ 48 := by
  induction u using Nat.strongRecOn with
  | _ u ih =>
    by_cases h : u < 10
    · rw [dec_small h]
      intro e
      have e2 := congrArg UInt8.toNat e
      rw [List.getD_cons_zero, ofNat_to u h] at e2
      have : (48 : UInt8).toNat = 48 := rfl
      omega
    · rw [dec_big h]
      have hp := dec_pos (u / 10)
      rw [List.getD_eq_getElem?_getD, List.getElem?_append_left hp, ← List.getD_eq_getElem?_getD]
      exact ih (u / 10) (by omega) (by omega)
theorem dec_zero (u : Nat) : zeroB (decDigits u) = false := by
  unfold zeroB
  by_cases h : u < 10
  · rw [dec_small h]; simp
  · have := dec_head u (by omega)
    simp only [Bool.and_eq_false_iff]
    right
    simpa using this
theorem dec_good (u : Nat) : badL (decDigits u) = false := (badL_iff _).2 ⟨fun e => by have := dec_pos u; rw [e] at this; simp at this, dec_zero u, dec_dig u⟩
theorem parse_dec {u : Nat} (h : u ≤ 4611686018427387903) : parseL (decDigits u) = ((u : Int), 0) := by
  unfold parseL
  rw [dec_good, dec_val]
  simp
  omega
theorem dec_of_val : ∀ (n : Nat) (l : List UInt8), l.length = n → badL l = false → decDigits (val l) = l := by
  intro n
  induction n with
  | zero => intro l hl h; exact absurd (List.eq_nil_of_length_eq_zero hl) ((badL_iff l).1 h).1
  | succ n ih =>
    intro l hl h
    obtain ⟨hne, hz, hd⟩ := (badL_iff l).1 h
    obtain ⟨m, c, rfl⟩ : ∃ m c, l = m ++ [c] := ⟨l.dropLast, l.getLast hne, (List.dropLast_concat_getLast hne).symm⟩
    have hc := hd c (by simp)
    have hc9 := dv_le hc
    have hcc : UInt8.ofNat (48 + dv c) = c := by
      have := (digB_iff c).1 hc
      unfold dv
      rw [show 48 + (c.toNat - 48) = c.toNat by omega]
      simp
    by_cases hm : m = []
    · subst hm
      have e : val ([] ++ [c]) = dv c := by rw [val_snoc]; simp [val]
      rw [e, dec_small (by omega), hcc]
      rfl
    · have hml : 0 < m.length := List.length_pos_iff.2 hm
      have hh : (m ++ [c]).getD 0 0 = m.getD 0 0 := by rw [List.getD_eq_getElem?_getD, List.getElem?_append_left hml, ← List.getD_eq_getElem?_getD]
      have h48 : m.getD 0 0 ≠ 48 := by
        intro e
        unfold zeroB at hz
        rw [hh, e] at hz
        simp at hz
        exact hm hz
      have hgm : badL m = false := (badL_iff m).2 ⟨hm, by
        unfold zeroB
        simp only [Bool.and_eq_false_iff]
        right
        simpa using h48, fun d hdm => hd d (by simp [hdm])⟩
      have hi := ih m (by simp at hl; omega) hgm
      have h1 : 1 ≤ val m := by
        rcases Nat.eq_zero_or_pos (val m) with e | e
        · rw [e, dec_small (by omega)] at hi
          exact absurd (by rw [← hi]; rfl) h48
        · exact e
      rw [val_snoc, dec_big (by omega), show (10 * val m + dv c) / 10 = val m by omega, show (10 * val m + dv c) % 10 = dv c by omega, hi, hcc]
theorem dec_back {l : List UInt8} (h : badL l = false) : decDigits (val l) = l := dec_of_val _ l rfl h
theorem nd_le (u : Nat) (h : 1 ≤ u) : 10 ^ nDigits u ≤ 10 * u := by
  induction u using Nat.strongRecOn with
  | _ u ih =>
    by_cases h10 : u < 10
    · rw [nDigits_small h10]; omega
    · rw [nDigits_big h10, Nat.pow_succ]
      have := ih (u / 10) (by omega) (by omega)
      omega
theorem nd_max {u : Nat} (h : u ≤ 4611686018427387903) : nDigits u ≤ 19 := by
  rcases Nat.eq_zero_or_pos u with rfl | hp
  · rw [nDigits_small (by omega)]; omega
  · have := nd_le u hp
    rcases Nat.lt_or_ge 19 (nDigits u) with h1 | h1
    · have h2 := Nat.pow_le_pow_right (n := 10) (by decide) h1
      have h3 : (10 : Nat) ^ (19 + 1) = 100000000000000000000 := by decide
      have h4 : (10 : Nat) ^ Nat.succ 19 = 100000000000000000000 := by decide
      omega
    · exact h1
theorem nd_min {u : Nat} (h : 4611686018427387903 < u) : 19 ≤ nDigits u := by
  have := lt_pow_nDigits u
  rcases Nat.lt_or_ge (nDigits u) 19 with h1 | h1
  · have h2 := Nat.pow_le_pow_right (n := 10) (by decide) (show nDigits u ≤ 18 by omega)
    have h3 : (10 : Nat) ^ 18 = 1000000000000000000 := by decide
    omega
  · exact h1
theorem long_big {l : List UInt8} (h : badL l = false) (hl : 19 < l.length) : 4611686018427387903 < val l := by
  rcases Nat.lt_or_ge 4611686018427387903 (val l) with h1 | h1
  · exact h1
  · have := nd_max h1
    rw [← decDigits_length, dec_back h] at this
    omega
theorem big_long {l : List UInt8} (h : badL l = false) (hv : 4611686018427387903 < val l) : 19 ≤ l.length := by
  have := nd_min hv
  rwa [← decDigits_length, dec_back h] at this
theorem val_mono {l : List UInt8} (k : Nat) : val (l.take k) ≤ val l := by
  have h : ∀ (m : List UInt8) (a : Nat), a ≤ m.foldl (fun n c => 10 * n + dv c) a := by
    intro m
    induction m with
    | nil => intro a; exact Nat.le_refl _
    | cons c m ih => intro a; exact Nat.le_trans (by omega) (ih (10 * a + dv c))
  have e : l = l.take k ++ l.drop k := (List.take_append_drop k l).symm
  conv => rhs; rw [e]
  unfold val
  rw [List.foldl_append]
  exact h _ _

/-! ### the order of texts -/
theorem less_val : ∀ (l m : List UInt8), l.length = m.length → (∀ c ∈ l, digB c = true) → (∀ c ∈ m, digB c = true) → Op.bytesLess l m = decide (val l < val m)
  | [], [], _, _, _ => by simp [Op.bytesLess]
  | [], _ :: _, h, _, _ => by simp at h
  | _ :: _, [], h, _, _ => by simp at h
  | a :: l, b :: m, h, hl, hm => by
    have hlen : l.length = m.length := by simpa using h
    have ih := less_val l m hlen (fun c hc => hl c (List.mem_cons_of_mem _ hc)) (fun c hc => hm c (List.mem_cons_of_mem _ hc))
    have v1 := val_lt (l := l) (fun c hc => hl c (List.mem_cons_of_mem _ hc))
    have v2 := val_lt (l := m) (fun c hc => hm c (List.mem_cons_of_mem _ hc))
    have d1 := (digB_iff a).1 (hl a List.mem_cons_self)
    have d2 := (digB_iff b).1 (hm b List.mem_cons_self)
    have ea : dv a = a.toNat - 48 := rfl
    have eb : dv b = b.toNat - 48 := rfl
    rw [Op.bytesLess, ih, val_cons, val_cons, hlen]
    rw [hlen] at v1
    generalize val l = x at *
    generalize val m = y at *
    generalize 10 ^ m.length = p at *
    rw [Bool.eq_iff_iff]
    simp only [Bool.or_eq_true, Bool.and_eq_true, decide_eq_true_eq, beq_iff_eq, UInt8.lt_iff_toNat_lt, ← UInt8.toNat_inj]
    rcases Nat.lt_trichotomy a.toNat b.toNat with h1 | h1 | h1
    · have h2 : dv a * p + p ≤ dv b * p := by
        have : (dv a + 1) * p ≤ dv b * p := Nat.mul_le_mul_right p (by omega)
        rwa [Nat.add_mul, Nat.one_mul] at this
      omega
    · rw [ea, eb, h1]; omega
    · have h2 : dv b * p + p ≤ dv a * p := by
        have : (dv b + 1) * p ≤ dv a * p := Nat.mul_le_mul_right p (by omega)
        rwa [Nat.add_mul, Nat.one_mul] at this
      omega
theorem dec_order (x y : Nat) : decide (x < y) = (decide ((decDigits x).length < (decDigits y).length) || (decide ((decDigits x).length = (decDigits y).length) && Op.bytesLess (decDigits x) (decDigits y))) := by
  have key : ∀ x y : Nat, (decDigits x).length < (decDigits y).length → x < y := by
    intro x y h
    rw [decDigits_length, decDigits_length] at h
    have h1 := lt_pow_nDigits x
    have h0 := nDigits_pos x
    have h2 := nd_le y (by
      rcases Nat.eq_zero_or_pos y with rfl | hp
      · rw [nDigits_small (u := 0) (by decide)] at h; have := nDigits_pos x; omega
      · exact hp)
    have h3 := Nat.pow_le_pow_right (n := 10) (by decide) h
    rw [Nat.pow_succ] at h3
    omega
  rcases Nat.lt_trichotomy (decDigits x).length (decDigits y).length with h | h | h
  · have := key x y h
    simp [this, h]
  · rw [less_val _ _ h (dec_dig x) (dec_dig y), dec_val, dec_val]
    simp [h]
  · have := key y x h
    have h1 : ¬ x < y := by omega
    have h2 : ¬ (decDigits x).length < (decDigits y).length := by omega
    have h3 : ¬ (decDigits x).length = (decDigits y).length := by omega
    simp [h1, h2, h3]
theorem dec_inj {x y : Nat} (h : decDigits x = decDigits y) : x = y := by rw [← dec_val x, h, dec_val]

def txtL (n : Int) : List UInt8 := if 0 ≤ n ∧ n ≤ 4611686018427387903 then decDigits n.toNat else []
theorem txtL_nat {u : Nat} (h : u ≤ 4611686018427387903) : txtL (u : Int) = decDigits u := by unfold txtL; rw [if_pos (by omega)]; simp
theorem txtL_len (n : Int) : (txtL n).length ≤ 19 := by
  unfold txtL
  split
  · rw [decDigits_length]; exact nd_max (by omega)
  · simp

/-! ### exponents -/
def bitsTo (n k : Nat) : List Int := ((List.range k).filter fun i => n.testBit i).map fun i : Nat => (i : Int)
theorem bitsTo_succ (n k : Nat) : bitsTo n (k + 1) = bitsTo n k ++ if n.testBit k = true then [(k : Int)] else [] := by
  unfold bitsTo
  rw [List.range_succ, List.filter_append, List.map_append]
  congr 1
  by_cases h : n.testBit k = true <;> simp [h]
theorem bitsTo_len (n k : Nat) : (bitsTo n k).length ≤ k := by
  unfold bitsTo
  rw [List.length_map]
  exact Nat.le_trans (List.length_filter_le _ _) (by simp)
theorem bitsTo_bd (n k : Nat) : ∀ e ∈ bitsTo n k, 0 ≤ e ∧ e < k := by
  intro e he
  unfold bitsTo at he
  obtain ⟨i, hi, rfl⟩ := List.mem_map.1 he
  have := List.mem_range.1 (List.mem_filter.1 hi).1
  omega
theorem bitsTo_rises (n k : Nat) : (bitsTo n k).Pairwise (· < ·) := by
  unfold bitsTo
  rw [List.pairwise_map]
  refine List.Pairwise.imp ?_ (List.Pairwise.filter _ (List.pairwise_lt_range (n := k)))
  intro a b h
  omega
def bitsL (n : Int) : List Int := if 0 ≤ n ∧ n ≤ 4611686018427387903 then bitsTo n.toNat 62 else []
theorem bitsL_nat {u : Nat} (h : u ≤ 4611686018427387903) : bitsL (u : Int) = bitsTo u 62 := by unfold bitsL; rw [if_pos (by omega)]; simp
theorem bitsL_len (n : Int) : (bitsL n).length ≤ 62 := by
  unfold bitsL
  split
  · exact bitsTo_len _ _
  · simp
theorem bitsL_bd (n : Int) : ∀ e ∈ bitsL n, 0 ≤ e ∧ e ≤ 61 := by
  intro e he
  unfold bitsL at he
  split at he
  · have := bitsTo_bd _ _ e he; omega
  · simp at he
theorem bitsL_rises (n : Int) : (bitsL n).Pairwise (· < ·) := by
  unfold bitsL
  split
  · exact bitsTo_rises _ _
  · exact List.Pairwise.nil

def total (l : List Int) : Nat := (l.map fun e => 2 ^ e.toNat).sum
theorem total_nil : total [] = 0 := rfl
theorem total_append (l m : List Int) : total (l ++ m) = total l + total m := by unfold total; rw [List.map_append, List.sum_append]
theorem total_one (e : Int) : total [e] = 2 ^ e.toNat := by simp [total]
theorem total_take_succ {l : List Int} {k : Nat} (h : k < l.length) : total (l.take (k + 1)) = total (l.take k) + 2 ^ (l.getD k 0).toNat := by
  rw [List.take_succ_eq_append_getElem h, total_append, total_one, List.getD_eq_getElem?_getD, List.getElem?_eq_getElem h, Option.getD_some]
theorem total_take_le (l : List Int) (k : Nat) : total (l.take k) ≤ total l := by
  conv => rhs; rw [← List.take_append_drop k l]
  rw [total_append]
  omega
theorem total_up {l : List Int} (h : ∀ e ∈ l, 0 ≤ e) : total (l.map (· + 1)) = 2 * total l := by
  induction l with
  | nil => rfl
  | cons e l ih =>
    have h0 := h e List.mem_cons_self
    have hi := ih fun d hd => h d (List.mem_cons_of_mem _ hd)
    unfold total at *
    simp only [List.map_cons, List.sum_cons]
    rw [hi, show (e + 1).toNat = e.toNat + 1 by omega, Nat.pow_succ]
    omega
theorem total_bits (n k : Nat) : total (bitsTo n k) = n % 2 ^ k := by
  induction k with
  | zero => simp [bitsTo, total, Nat.mod_one]
  | succ k ih =>
    rw [bitsTo_succ, total_append, ih, Nat.pow_succ, Nat.mod_mul]
    congr 1
    rw [Nat.testBit_eq_decide_div_mod_eq]
    by_cases h : n / 2 ^ k % 2 = 1
    · simp [h, total]
    · have : n / 2 ^ k % 2 = 0 := by omega
      simp [this, total]
theorem total_bitsL {u : Nat} (h : u ≤ 4611686018427387903) : total (bitsL (u : Int)) = u := by
  rw [bitsL_nat h, total_bits]
  exact Nat.mod_eq_of_lt (by have : (2 : Nat) ^ 62 = 4611686018427387904 := by decide
                             omega)
def awayB (l : List Int) : Bool := l.any fun e => decide (e < 0) || decide (61 < e)
theorem awayB_no {l : List Int} (h : ∀ e ∈ l, 0 ≤ e ∧ e ≤ 61) : awayB l = false := by
  unfold awayB
  rw [List.any_eq_false]
  intro e he
  have := h e he
  simp
  omega
def sumL (l : List Int) : Int × Int := if awayB l = true then (0, 1) else if 4611686018427387903 < total l then (0, 21) else (total l, 0)
theorem sumL_ok {l : List Int} (h : ∀ e ∈ l, 0 ≤ e ∧ e ≤ 61) (ht : total l ≤ 4611686018427387903) : sumL l = ((total l : Int), 0) := by
  unfold sumL
  rw [awayB_no h, if_neg (by decide), if_neg (by omega)]
theorem sumL_bits {u : Nat} (h : u ≤ 4611686018427387903) : sumL (bitsL (u : Int)) = ((u : Int), 0) := by
  have := sumL_ok (bitsL_bd (u : Int)) (by rw [total_bitsL h]; exact h)
  rwa [total_bitsL h] at this

theorem bits_twice {x : Nat} (h : x < 1152921504606846976) : bitsTo (2 * x) 62 = (bitsTo x 62).map (· + 1) := by
  have h61 : x.testBit 61 = false := Nat.testBit_lt_two_pow (by have : (2 : Nat) ^ 61 = 2305843009213693952 := by decide
                                                                omega)
  have e1 : bitsTo x 62 = bitsTo x 61 := by rw [bitsTo_succ]; simp [h61]
  rw [e1]
  unfold bitsTo
  rw [List.range_succ_eq_map, List.filter_cons]
  have h0 : (2 * x).testBit 0 = false := by simp
  rw [if_neg (by rw [h0]; decide), List.filter_map, List.map_map, List.map_map]
  have e2 : ((fun i => (2 * x).testBit i) ∘ Nat.succ) = fun i => x.testBit i := by
    funext i
    simp only [Function.comp_apply]
    rw [Nat.testBit_succ, show 2 * x / 2 = x by omega]
  rw [e2]
  refine List.map_congr_left fun i _ => ?_
  simp
theorem bits_twice1 {x : Nat} (h : x < 1152921504606846976) : bitsTo (2 * x + 1) 62 = 0 :: (bitsTo x 62).map (· + 1) := by
  have h61 : x.testBit 61 = false := Nat.testBit_lt_two_pow (by have : (2 : Nat) ^ 61 = 2305843009213693952 := by decide
                                                                omega)
  have e1 : bitsTo x 62 = bitsTo x 61 := by rw [bitsTo_succ]; simp [h61]
  rw [e1]
  unfold bitsTo
  rw [List.range_succ_eq_map, List.filter_cons]
  have h0 : (2 * x + 1).testBit 0 = true := by simp
  rw [if_pos h0, List.filter_map, List.map_cons, List.map_map, List.map_map]
  have e2 : ((fun i => (2 * x + 1).testBit i) ∘ Nat.succ) = fun i => x.testBit i := by
    funext i
    simp only [Function.comp_apply]
    rw [Nat.testBit_succ, show (2 * x + 1) / 2 = x by omega]
  rw [e2]
  rfl

end Go.Proofs.Ytcmdhochofoohaa
namespace Go.Proofs.Ytcmdhochofoohaa
open Go.RowKit Go.Sort

def I64 (n : Int) : Prop := -9223372036854775808 ≤ n ∧ n ≤ 9223372036854775807

/-- The table of powers of ten, that the library's Itoa looks into. -/
def tabName : String := Rows.nodeTellsRow.named.getD 0 default
def Tab (w : World) : Prop := Lib.TabIs Try.prog w tabName .u64 Lib.pow10Tab
theorem Tab.below {w w' : World} (h : Tab w) (hb : Below w.heap.size w w') : Tab w' := Lib.tabBelow_of_tabIs h w' hb

def pickI (c n : Int) : Int := if c < 0 then (-(c + 1)) % n else c % n
theorem pickI_bd (c n : Int) (hn : 1 ≤ n) : 0 ≤ pickI c n ∧ pickI c n < n := by
  unfold pickI
  split
  · exact ⟨Int.emod_nonneg _ (by omega), Int.emod_lt_of_pos _ (by omega)⟩
  · exact ⟨Int.emod_nonneg _ (by omega), Int.emod_lt_of_pos _ (by omega)⟩

theorem pick_any (c n : Int) (w : World) (h1 : -9223372036854775808 ≤ c) (h2 : c ≤ 9223372036854775807) (hn : 1 ≤ n) (hn2 : n ≤ 9223372036854775807) :
    Calls Try.prog 21 #[.int .i64 c, .int .i64 n] w fun e w' => e = .returned (.int .i64 (pickI c n)) ∧ w = w' := by
  generalize hr : pickI c n = r
  have HR := Lib.hid hr
  clear hr
  go_enter Try.func21, Try.ntmps21
  go_wp2
  all_goals go_ret
  all_goals refine ⟨?_, rfl⟩
  all_goals (refine Qt.ret_int ?_; rw [← HR.out]; unfold pickI)
  · rw [if_pos (by assumption), ← Int.neg_tmod, Int.tmod_eq_emod_of_nonneg (by omega)]
  · rw [if_neg (by omega)]
/-- .. whatever number comes in: a number from 0 on, below n. -/
theorem pick_nat (c n : Int) (w : World) (hc : I64 c) (hn : 1 ≤ n) (hn2 : n ≤ 9223372036854775807) :
    Calls Try.prog 21 #[.int .i64 c, .int .i64 n] w fun e w' => e = .returned (.int .i64 ((pickI c n).toNat : Int)) ∧ w = w' := by
  have h := pickI_bd c n hn
  have := pick_any c n w hc.1 hc.2 hn hn2
  rwa [show (((pickI c n).toNat : Nat) : Int) = pickI c n by omega]

def txt (n : Int) : ByteArray := ⟨(txtL n).toArray⟩

/-! ### slices of numbers -/

/-- The slice at A of l.length numbers reads as l, below block B. -/
def Rd (w : World) (B : Nat) (A : Option Addr) (l : List Int) : Prop :=
  ∀ j, j < l.length → ∃ b off, A = some ⟨b, off, none⟩ ∧ b < B ∧ w.cell? ⟨b, off + j, none⟩ = some (.int .i64 (l.getD j 0))

theorem Rd.below {w w' : World} {B B' : Nat} {A : Option Addr} {l : List Int} (h : Rd w B A l) (hb : Below B' w w') (hB : B ≤ B') : Rd w' B A l := fun j hj => by
  obtain ⟨b, off, e, hlt, h0⟩ := h j hj
  exact ⟨b, off, e, hlt, (hb.cell (p := ⟨b, off + j, none⟩) (Nat.lt_of_lt_of_le hlt hB)).trans h0⟩
theorem Rd.more {w : World} {B B' : Nat} {A : Option Addr} {l : List Int} (h : Rd w B A l) (hB : B ≤ B') : Rd w B' A l := fun j hj => by
  obtain ⟨b, off, e, hlt, h0⟩ := h j hj
  exact ⟨b, off, e, by omega, h0⟩
theorem Rd.nil (w : World) (B : Nat) (A : Option Addr) : Rd w B A [] := fun j hj => absurd hj (Nat.not_lt_zero j)
theorem Rd.at_ {w : World} {B : Nat} {A : Option Addr} {l : List Int} (h : Rd w B A l) (hn : 0 < l.length) :
    ∃ b off, A = some ⟨b, off, none⟩ ∧ b < B ∧ ∀ j, j < l.length → w.cell? ⟨b, off + j, none⟩ = some (.int .i64 (l.getD j 0)) := by
  obtain ⟨b, off, e, hlt, _⟩ := h 0 hn
  refine ⟨b, off, e, hlt, fun j hj => ?_⟩
  obtain ⟨b', off', e', _, h0⟩ := h j hj
  rw [e] at e'
  injection e' with e'
  injection e' with e1 e2
  subst e1 e2
  exact h0
/-- A slice whose cells read as a list, now. -/
def Now (w : World) (A : Option Addr) (l : List Int) : Prop := Rd w w.heap.size A l
theorem Now.below {w w' : World} {A : Option Addr} {l : List Int} (h : Now w A l) (hb : Below w.heap.size w w') : Now w' A l := (Rd.below h hb (Nat.le_refl _)).more hb.size
theorem now_nil (w : World) (A : Option Addr) : Now w A [] := Rd.nil _ _ _

/-- A slice that the call itself has made. -/
abbrev Own (w : World) (B : Nat) (v : Value) (l : List Int) : Prop := w.ownsRow B 3 1 v l.length (l.map (Value.int .i64))
/-- It reads as its list. -/
def Reads (w : World) (v : Value) (l : List Int) : Prop := ∃ A c, v = .slice A l.length c ∧ l.length ≤ c ∧ Now w A l
theorem Own.reads {w : World} {B : Nat} {v : Value} {l : List Int} (h : Own w B v l) : Reads w v l := by
  rcases h.2 with ⟨rfl, h0⟩ | ⟨g, cap, cur, rfl, hb, hh, hn, hcap, hsz, htake⟩
  · have : l = [] := by simpa using h0
    subst this
    exact ⟨none, 0, rfl, Nat.le_refl _, now_nil _ _⟩
  · refine ⟨some ⟨g, 0, none⟩, cap, rfl, hn, fun j hj => ⟨g, 0, rfl, (World.ownsRow.lt h g rfl).2, ?_⟩⟩
    have := World.ownsRow.cellAt h j (by simpa using hj)
    rw [Nat.zero_add]
    rw [this]
    simp [List.getD_eq_getElem?_getD, List.getElem?_eq_getElem hj]
theorem Reads.below {w w' : World} {v : Value} {l : List Int} (h : Reads w v l) (hb : Below w.heap.size w w') : Reads w' v l := by
  obtain ⟨A, c, e, hc, hR⟩ := h
  exact ⟨A, c, e, hc, hR.below hb⟩

end Go.Proofs.Ytcmdhochofoohaa
namespace Go.Proofs.Ytcmdhochofoohaa
set_option maxRecDepth 100000
set_option linter.unusedVariables false
set_option linter.unusedSimpArgs false
open Go.RowKit Go.Sort Go.Shelf
attribute [local go_sem] Oper.semAt_some

/-- What is known within below: the flags' row, the box of it. -/
structure FlagAt (w wr : World) (n : Nat) (f : Nat → Bool) : Prop where
  row : RowV wr w.heap.size 4 (boolsL n f)
  box : Boxed wr (w.heap.size + 1) 93 (.slice (some ⟨w.heap.size, 0, none⟩) n n)
  bel : Below w.heap.size w wr
theorem FlagAt.size {w wr : World} {n : Nat} {f : Nat → Bool} (h : FlagAt w wr n f) : w.heap.size + 2 ≤ wr.heap.size := h.box.lt
theorem FlagAt.now {w wr w' : World} {n : Nat} {f : Nat → Bool} (h : FlagAt w wr n f) (hb : Below wr.heap.size wr w') : FlagAt w w' n f :=
  ⟨h.row.now hb, (hb.block _ h.box.lt).trans h.box, Qt.more h.bel h.bel.size hb⟩
theorem FlagAt.set {w wr : World} {n : Nat} {f g : Nat → Bool} (h : FlagAt w wr n f) (p : Nat) (hg : (fun x => f x || decide (x = p)) = g) : FlagAt w (wr.setCell ⟨w.heap.size, p, none⟩ (.bool true)) n g := by
  have hr := h.row.set p (.bool true)
  rw [boolsL_set, hg] at hr
  refine ⟨hr, ?_, h.bel.setCell (Nat.le_refl _) _⟩
  have hb := h.box
  unfold Boxed at hb ⊢
  have hne : ¬ w.heap.size = w.heap.size + 1 := by omega
  simp [World.setCell, Array.getElem?_modify, hb]
theorem flagAt_0 (w : World) (n : Nat) : FlagAt w ((w.alloc (.cells (boolsL n fun _ => false).toArray 4)).alloc (.cells #[.slice (some ⟨w.heap.size, 0, none⟩) n n] 93)) n (fun _ => false) := by
  have hs1 : (w.alloc (.cells (boolsL n fun _ => false).toArray 4)).heap.size = w.heap.size + 1 := by simp
  have hb1 := (Below.refl w.heap.size w).alloc (Nat.le_refl _) (.cells (boolsL n fun _ => false).toArray 4)
  refine ⟨(RowV.made w _ _).now ((Below.refl _ _).alloc (Nat.le_refl _) _), ?_, hb1.alloc (by omega) _⟩
  rw [← hs1]
  exact Boxed.new _ _ _

set_option maxRecDepth 100000 in
set_option maxHeartbeats 8000000 in
theorem below_any (A : Option Addr) (l : List Nd) (c : Nat) (B : Option Addr) (R : List Int) (d : Nat) (room : Int) (w : World) (hR : RdN w w.heap.size A l) (hrt : Rd w w.heap.size B R) (hr : Right6 l room) (hin : ∀ r ∈ R, 0 ≤ r ∧ r < l.length) (hRl : R.length ≤ 1000000) :
    Calls Try.prog 53 #[.slice A l.length c, .slice B R.length d] w fun e w' => e = .returned (.slice (some ⟨w.heap.size, 0, none⟩) l.length l.length) ∧ FlagAt w w' l.length (keepF l R) := by
  have hl : l.length ≤ 100000 := by have := hr.len; have := hr.room100; omega
  have h2 := hr.two
  have hmk := makeBools l.length (by omega)
  have HH0 := Lib.hid (flagAt_0 w l.length)
  have HIN := Lib.hid hin
  have HRR := Lib.hid hr
  have HRT := Lib.hid hrt
  obtain ⟨b0, off, rfl, hbB, hcell⟩ := hR.at_ (by omega)
  have HC := Lib.hid hcell
  clear hin hr hrt hcell hR
  refine (callsIn_wide (n := 6)).1 ?_
  refine callsIn_of_wp_marks Try.func53 rfl trivial ?_ rfl
  simp only [Try.ntmps53, List.size_toArray, List.length_cons, List.length_nil, Nat.reduceAdd, Nat.reduceSub, Array.replicate_succ, Array.replicate_zero, List.push_toArray, List.append_toArray, List.nil_append, List.cons_append]
  gi_wp2
  clear hmk
  generalize (w.alloc (.cells (boolsL l.length fun _ => false).toArray 4)).alloc (.cells #[.slice (some ⟨w.heap.size, 0, none⟩) l.length l.length] 93) = w0 at *
  have lb := HH0.out.box.cell
  have c0 := HH0.out.row.cell (boolsL_get (fun _ => false) (i := 0) (by omega))
  have c1 := HH0.out.row.cell (boolsL_get (fun _ => false) (i := 1) (by omega))
  have f0 := HH0.out.row.free 0
  have f1 := HH0.out.row.free 1
  have HH1 : Hid (FlagAt w ((w0.setCell ⟨w.heap.size, 0, none⟩ (.bool true)).setCell ⟨w.heap.size, 1, none⟩ (.bool true)).drew l.length (rootF R 0)) := ((HH0.out.set 0 rfl).set 1 (rootF_zero R).symm).now ((Below.refl _ _).drew)
  gi_region
  generalize ((w0.setCell ⟨w.heap.size, 0, none⟩ (.bool true)).setCell ⟨w.heap.size, 1, none⟩ (.bool true)).drew = w1 at *
  clear lb c0 c1 f0 f1 HH0
  gi_wp2
  gi_loopw [21] (fun i wr => ∃ k : Nat, k ≤ R.length ∧ i = .int .i64 k ∧ Hid (FlagAt w wr l.length (rootF R k))) (fun i _ => R.length - (intOf i).toNat)
  case atStart => exact ⟨0, Nat.zero_le _, rfl, HH1.out⟩
  case round =>
    obtain ⟨k, hk, rfl, HH⟩ := hrel
    by_cases hlt : k < R.length
    · have hltz : (k : Int) < (R.length : Int) := by omega
      obtain ⟨b1, o1, rfl, hb1, hr1⟩ := HRT.out.at_ (by omega)
      have rk := Qt.keep HH.out.bel (hr1 k hlt)
      have hrb := HIN.out (R.getD k 0) (by rw [List.getD_eq_getElem?_getD, List.getElem?_eq_getElem hlt]; exact List.getElem_mem _)
      obtain ⟨p, hp⟩ : ∃ p : Nat, R.getD k 0 = (p : Int) := ⟨(R.getD k 0).toNat, by omega⟩
      rw [hp] at rk hrb
      have hpl : (p : Int) < (l.length : Int) := hrb.2
      have lb := HH.out.box.cell
      have cp := HH.out.row.cell (boolsL_get (rootF R k) (i := p) (by omega))
      have fp := HH.out.row.free p
      have HN := Lib.hid (HH.out.set p (rootF_succ R k p hlt hp))
      clear hr1 hrb hp HH
      generalize rootF R k p = bp at *
      gi_wp2
      go_roundw
      case measure => simp [intOf]; omega
      case rel => exact ⟨k + 1, by omega, by go_num, HN.out⟩
    · obtain rfl : k = R.length := by omega
      have hltz : ¬ (R.length : Int) < (R.length : Int) := by omega
      have hf := HH.out
      rw [rootF_all] at hf
      have HF := Lib.hid hf
      clear hf HH HRT HIN
      gi_wp2
      refine ⟨trivial, (back_in Fence.wide 5 trivial rfl _ _ _ _).mono ?_⟩
      rintro e w' ⟨rfl, rfl⟩
      gi_wp2
      obtain ⟨wo, rfl⟩ : ∃ wo : World, wo = wr := ⟨_, rfl⟩
      have hsz := HF.out.size
      have hbel2 := (HF.out.bel).alloc HF.out.bel.size (.cells #[.slice (some ⟨b0, off, none⟩) l.length c] 23)
      have HF2 : FlagAt w (wo.alloc (.cells #[.slice (some ⟨b0, off, none⟩) l.length c] 23)) l.length (base6 R) := HF.out.now ((Below.refl _ _).alloc (Nat.le_refl _) _)
      have hbx := (Boxed.new wo 23 (.slice (some ⟨b0, off, none⟩) l.length c)).cell
      have hnd : ∀ j, j < l.length → NdAt (wo.alloc (.cells #[.slice (some ⟨b0, off, none⟩) l.length c] 23)) b0 (off + j * 6) (l.getD j deadN) := fun j hj => (HC.out j hj).below hbel2 hbB
      have hs2 : (wo.alloc (.cells #[.slice (some ⟨b0, off, none⟩) l.length c] 23)).heap.size = wo.heap.size + 1 := by simp
      obtain ⟨W0, hW0⟩ : ∃ W0, wo.alloc (.cells #[.slice (some ⟨b0, off, none⟩) l.length c] 23) = W0 := ⟨_, rfl⟩
      rw [hW0] at hbel2 HF2 hbx hnd hs2 ⊢
      have HRO := HRR.out
      refine wpIn_rangeFunc_ownH rfl (by decide) (gf := 99) (lb := #[.pointer (some ⟨wo.heap.size, 0, none⟩)]) rfl trivial (enters_of Try.func99 (by kernel_rfl) rfl)
        (back_stops Fence.wide 5 trivial rfl (by decide) wo.heap.size w.heap.size b0 off c l (by omega) hbB W0 (by omega) (by omega) hbx hnd) kpA_t (kpA_b (by omega) (by omega)) (Below.refl _ _) (fun _ => rfl)
        (fun pre W => (RowV W w.heap.size 4 (boolsL l.length (foldF l pre (base6 R))) ∧ Boxed W (w.heap.size + 1) 93 (.slice (some ⟨w.heap.size, 0, none⟩) l.length l.length)) ∧ Below w.heap.size W0 W)
        (fun _ _ _ => False)
        (OwnFrom.and (OwnFrom.and (Own.from (rowV_own _ _ _) _) (Own.from (boxed_own _ _ _) _)) (ownFrom_below (by omega) (by omega)))
        (fun _ _ _ _ _ hs _ _ => hs)
        ⟨⟨HF2.row, HF2.box⟩, Below.refl _ _⟩
        (fun x a' W => ∃ Bx, wo.heap.size < Bx ∧ RowV W Bx 49 (cellsN (l.getD x.1 deadN)) ∧ ∃ v7 v23 v24 v25 v26 v27 v28 : Value, a' = { tmps := #[.slice (some ⟨b0, off, none⟩) l.length c, .slice B R.length d, undef, undef, .slice none 0 0, .pointer (some ⟨w.heap.size + 1, 0, none⟩), undef, v7, .int .i64 (x.1 : Int), .pointer (some ⟨Bx, 0, none⟩), undef, undef, .slice (some ⟨b0, off, none⟩) l.length c, .int .i64 (l.length : Int), .slice (some ⟨w.heap.size, 0, none⟩) l.length l.length, .slice (some ⟨w.heap.size, 0, none⟩) l.length l.length, .slice (some ⟨w.heap.size, 0, none⟩) l.length l.length, .pointer (some ⟨w.heap.size, 0, none⟩), .pointer (some ⟨w.heap.size, 1, none⟩), .slice B R.length d, .int .i64 (R.length : Int), .int .i64 (R.length : Int), .bool false, v23, v24, v25, v26, v27, v28, .slice (some ⟨b0, off, none⟩) l.length c, .func (.func 99) #[] #[.pointer (some ⟨wo.heap.size, 0, none⟩)], .int .i64 (x.1 : Int), .agg #[.int .i64 (l.getD x.1 deadN).1, .int .i64 (l.getD x.1 deadN).2.1.1, .int .i64 (l.getD x.1 deadN).2.1.2.1, .int .i64 (l.getD x.1 deadN).2.1.2.2.1, .int .i64 (l.getD x.1 deadN).2.1.2.2.2, .int .i64 (l.getD x.1 deadN).2.2], undef, undef, undef, undef, undef, undef, undef, undef, undef, undef, undef, undef, undef, undef, undef], defers := [] })
        (fun x a' _ X Y row hs hg hr => by obtain ⟨Bx, h1, h2, h3⟩ := hs; exact ⟨Bx, h1, rowV_own Bx 49 (fun (_ : Unit) => cellsN (l.getD x.1 deadN)) () X Y row h2 hg (fun r e => (hr r e).2), h3⟩)
        ?assign ?body ?done ?stop
      case assign =>
        rintro lp pre x W K ⟨⟨hrow, hbox⟩, hB⟩ hK
        unfold indV
        dsimp only
        generalize l.getD x.1 deadN = y at *
        obtain ⟨y0, ⟨y1, y2, y3, y4⟩, y5⟩ := y
        dsimp only at hK ⊢
        gi_wp2
        have hal := (Below.refl W.heap.size W).alloc (Nat.le_refl _) (.cells #[.int .i64 y0, .int .i64 y1, .int .i64 y2, .int .i64 y3, .int .i64 y4, .int .i64 y5] 49)
        exact hK _ _ ((KeepsOthers.alloc _ _).from _) (KpA.alloc W _ (by have := hB.size; omega) (by have := hB.size; omega)) ⟨⟨hrow.now hal, (hal.block _ hbox.lt).trans hbox⟩, hB.alloc (by have := hB.size; omega) _⟩ ⟨W.heap.size, by have := hB.size; omega, RowV.made W _ _, _, _, _, _, _, _, _, rfl⟩
      case body =>
        rintro lp pre x a' W hlW ⟨r, hrr⟩ ⟨⟨hrow, hbox⟩, hB⟩ ⟨Bx, hBx, hnx, v7, v23, v24, v25, v26, v27, v28, rfl⟩ hlt9
        clear hs2
        have hxl : (x.1 : Int) < (l.length : Int) := by have := x.2; omega
        have lb := hbox.cell
        have cx := hrow.cell (boolsL_get (foldF l pre (base6 R)) x.2)
        have hkid := fun i (hi : i < 4) => kid_in HRO x.2 hi
        have HSN := Lib.hid (foldF_snoc l pre x (base6 R))
        have HRW := Lib.hid hrow
        have HBX := Lib.hid hbox
        have HBB := Lib.hid hB
        generalize hf : foldF l pre (base6 R) = f at *
        obtain ⟨xi, hxi⟩ := x
        dsimp only at *
        cases hfx : f xi with
        | false =>
          have hst : stepF l f xi = f := by unfold stepF; rw [hfx]; rfl
          have HST := Lib.hid hst
          rw [hfx] at cx
          clear hst hrow hbox hB hkid hfx hf
          gi_wp2
          exact ⟨KeepsFrom.refl _ _, KpA.refl _ _ _, ⟨⟨by rw [HSN.out, HST.out]; exact HRW.out, HBX.out⟩, HBB.out⟩⟩
        | true =>
          have hst : stepF l f xi = setK (l.getD xi deadN).2.1 f := by unfold stepF; rw [hfx]; rfl
          have HST := Lib.hid hst
          have HKD := Lib.hid hkid
          rw [hfx] at cx
          have n1 : W.cell? ⟨Bx, 1, none⟩ = some (.int .i64 (l.getD xi deadN).2.1.1) := hnx.cell rfl
          have n2 : W.cell? ⟨Bx, 2, none⟩ = some (.int .i64 (l.getD xi deadN).2.1.2.1) := hnx.cell rfl
          have n3 : W.cell? ⟨Bx, 3, none⟩ = some (.int .i64 (l.getD xi deadN).2.1.2.2.1) := hnx.cell rfl
          have n4 : W.cell? ⟨Bx, 4, none⟩ = some (.int .i64 (l.getD xi deadN).2.1.2.2.2) := hnx.cell rfl
          have hix := kd_index (l.getD xi deadN).2.1
          clear hst hrow hbox hB hkid hfx hf hnx hrr hlt9
          generalize l.getD xi deadN = y at *
          obtain ⟨y0, k, y5⟩ := y
          dsimp only at *
          gi_wp2
          clear n1 n2 n3 n4 cx lb
          gi_loopw [40] (fun i wr => ∃ j : Nat, j ≤ 4 ∧ i = .int .i64 j ∧ Hid (RowV wr w.heap.size 4 (boolsL l.length (setTo k f j)) ∧ Boxed wr (w.heap.size + 1) 93 (.slice (some ⟨w.heap.size, 0, none⟩) l.length l.length) ∧ Below w.heap.size W0 wr ∧ KeepsFrom W0.heap.size W wr ∧ KpA w.heap.size wo.heap.size W wr)) (fun i _ => 4 - (intOf i).toNat)
          case atStart => exact ⟨0, by omega, rfl, by rw [setTo_zero]; exact HRW.out, HBX.out, HBB.out, KeepsFrom.refl _ _, KpA.refl _ _ _⟩
          case round =>
            obtain ⟨j, hj, rfl, HL⟩ := hrel
            by_cases hlt : j < 4
            · have hltz : (j : Int) < 4 := by omega
              have hixj := hix j hlt
              obtain ⟨p, hp⟩ : ∃ p : Nat, kd k j = (p : Int) := ⟨(kd k j).toNat, by have := (HKD.out j hlt).1; omega⟩
              have hpl : (p : Int) < (l.length : Int) := by have := (HKD.out j hlt).2; omega
              rw [hp] at hixj
              have lb := HL.out.2.1.cell
              have cp := HL.out.1.cell (boolsL_get (setTo k f j) (i := p) (by omega))
              have fp := HL.out.1.free p
              have hset := HL.out.1.set p (.bool true)
              rw [boolsL_set, setTo_succ k f j p hp] at hset
              have HN : Hid (RowV (wr.setCell ⟨w.heap.size, p, none⟩ (.bool true)) w.heap.size 4 (boolsL l.length (setTo k f (j + 1))) ∧ Boxed (wr.setCell ⟨w.heap.size, p, none⟩ (.bool true)) (w.heap.size + 1) 93 (.slice (some ⟨w.heap.size, 0, none⟩) l.length l.length) ∧ Below w.heap.size W0 (wr.setCell ⟨w.heap.size, p, none⟩ (.bool true)) ∧ KeepsFrom W0.heap.size W (wr.setCell ⟨w.heap.size, p, none⟩ (.bool true)) ∧ KpA w.heap.size wo.heap.size W (wr.setCell ⟨w.heap.size, p, none⟩ (.bool true))) :=
                ⟨hset, RowV.other (xs := [_]) (p := w.heap.size) HL.out.2.1 (by omega) _ _, HL.out.2.2.1.setCell (Nat.le_refl _) _, HL.out.2.2.2.1.trans ((KeepsOthers.setCell _ _ _).from _), HL.out.2.2.2.2.trans (KpA.setCell _ _ (Nat.le_refl _) (by omega))⟩
              clear hset hp HL hix
              generalize setTo k f j p = bp at *
              gi_wp2
              go_roundw
              case measure => simp [intOf]; omega
              case rel => exact ⟨j + 1, by omega, by go_num, HN.out⟩
            · obtain rfl : j = 4 := by omega
              have hltz : ¬ ((4 : Nat) : Int) < 4 := by decide
              gi_wp2
              have hh := HL.out
              rw [setTo_all] at hh
              exact ⟨hh.2.2.2.1, hh.2.2.2.2, ⟨⟨by rw [HSN.out, HST.out]; exact hh.1, hh.2.1⟩, hh.2.2.1⟩⟩
      case done =>
        rintro D ys W hD rfl ⟨⟨hrow, hbox⟩, hB⟩ hK
        rw [fold_all HRO rfl] at hrow
        have hfin : FlagAt w W l.length (keepF l R) := ⟨hrow, hbox, hbel2.trans hB⟩
        have lb := hbox.cell
        have HFN := Lib.hid hfin
        clear hrow hB hfin
        gi_wp2
        refine ⟨by simp, .inl ⟨_, _, rfl, run_takeDeferred hK, ?_⟩⟩
        have hbd := belowK_b (n₀ := W0.heap.size) (w := W0) (Nat.le_refl _) W D (.deferred (some [])) (.deferred none) hD hK rfl rfl
        exact ⟨_, results_tmp rfl _ _ _, rfl, ⟨HFN.out.row.below hbd (by omega), (hbd.block _ (by omega)).trans HFN.out.box, HFN.out.bel.trans (hbd.mono (by omega))⟩⟩
      case stop =>
        rintro D c pre W _ _ h _
        exact h.elim
end Go.Proofs.Ytcmdhochofoohaa
namespace Go.Proofs.Ytcmdhochofoohaa
set_option maxRecDepth 100000
set_option linter.unusedVariables false
set_option linter.unusedSimpArgs false
open Go.RowKit Go.Sort

/-- a root is no place -/
def beyondB (n : Nat) (r : Int) : Bool := decide (r < 0) || decide ((n : Int) ≤ r)
def rootsB (l : List Nd) (R : List Int) : Bool := R.all fun r => decide (0 ≤ r) && decide (r < l.length)
theorem beyond_any (l : List Nd) (R : List Int) : (R.any fun r => beyondB l.length r) = !rootsB l R := by
  unfold rootsB
  rw [List.not_all_eq_any_not]
  congr 1
  funext r
  unfold beyondB
  rw [Bool.not_and]
  rw [Bool.eq_iff_iff]
  simp only [Bool.or_eq_true, decide_eq_true_eq, Bool.not_eq_true', decide_eq_false_iff_not]
  omega
theorem rootsB_iff {l : List Nd} {R : List Int} : rootsB l R = true ↔ ∀ r ∈ R, 0 ≤ r ∧ r < l.length := by
  unfold rootsB
  simp [List.all_eq_true]

set_option maxHeartbeats 4000000 in
set_option maxRecDepth 100000 in
theorem beyondClos_any (A : Option Addr) (n c : Nat) (kb : Nat) (r : Int) (w : World) (hs : w.cell? ⟨kb, 0, none⟩ = some (.slice A n c)) :
    Calls Try.prog 51 #[.int .i64 r, .pointer (some ⟨kb, 0, none⟩)] w fun e w' => e = .returned (.bool (beyondB n r)) ∧ w' = w := by
  by_cases h1 : r < 0
  · have hb : beyondB n r = true := by unfold beyondB; rw [decide_eq_true h1]; rfl
    rw [hb]
    clear hb
    go_enter Try.func51, Try.ntmps51
    go_wp2
    go_ret
    exact ⟨rfl, rfl⟩
  · have hb : beyondB n r = decide ((n : Int) ≤ r) := by unfold beyondB; rw [decide_eq_false h1]; rfl
    rw [hb]
    clear hb
    go_enter Try.func51, Try.ntmps51
    go_wp2
    go_ret
    exact ⟨rfl, rfl⟩
theorem contains_any (A : Option Addr) (l : List Nd) (c kb : Nat) (B : Option Addr) (R : List Int) (d : Nat) (w : World) (hs : w.cell? ⟨kb, 0, none⟩ = some (.slice A l.length c)) (hrt : Rd w w.heap.size B R) (hRl : R.length ≤ 1000000) :
    Calls Try.prog 52 #[.slice B R.length d, .func (.func 51) #[] #[.pointer (some ⟨kb, 0, none⟩)]] w fun e w' => e = .returned (.bool (!rootsB l R)) ∧ Below w.heap.size w w' := by
  rw [← beyond_any]
  by_cases h0 : R.length = 0
  · have : R = [] := List.eq_nil_of_length_eq_zero h0
    subst this
    have hcon := AnyE.slices_ContainsFunc_empty Try.cfI B d (.func (.func 51) #[] #[.pointer (some ⟨kb, 0, none⟩)]) w
    change Calls Try.prog 52 _ _ _ at hcon
    refine hcon.mono ?_
    rintro e w' ⟨rfl, rfl⟩
    exact ⟨rfl, Below.refl _ _⟩
  · obtain ⟨b1, o1, rfl, hb1, hr1⟩ := hrt.at_ (by omega)
    have hcon := AnyE.slices_ContainsFunc Try.cfI (fun r : Int => .int .i64 r) (fun r => beyondB l.length r) 51 #[.pointer (some ⟨kb, 0, none⟩)] (enters_of Try.func51 (by kernel_rfl) rfl) b1 o1 R.length d R w
      ?_ (Nat.le_refl _) (by omega) (fun j hj => by rw [getElem!_pos R j hj]; have := hr1 j hj; rwa [List.getD_eq_getElem?_getD, List.getElem?_eq_getElem hj] at this)
    · change Calls Try.prog 52 _ _ _ at hcon
      rw [List.take_length] at hcon
      refine hcon.mono ?_
      rintro e w' ⟨rfl, q, rfl⟩
      exact ⟨rfl, below_drewNn _ _ _⟩
    · intro W r hW
      refine (beyondClos_any A l.length c kb r W ((hW.cell (p := ⟨kb, 0, none⟩) (block_lt_of_cell hs)).trans hs)).mono ?_
      rintro e w' ⟨rfl, rfl⟩
      exact ⟨rfl, 0, rfl⟩
end Go.Proofs.Ytcmdhochofoohaa
