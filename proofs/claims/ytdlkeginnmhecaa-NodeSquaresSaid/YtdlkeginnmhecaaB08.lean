/-
  Texts that the claims of this seat share, part 8.
-/
import Derived.Test.YtdlkeginnmhecaaRows
import Derived.Test.YtdlkeginnmhecaaSh
import Derived.Test.YtdlkeginnmhecaaB07
import Derived.Test.YtdlkeginnmhecaaB00
import Derived.WalkKit
import Derived.WalkSpells
import Derived.WalkLawsBesides
import Derived.WalkArith
import Derived.IntWalk
import Derived.Lib.QuietBelow
import Derived.Lib.Hide
import Derived.Lib.AppendIntMem
import Derived.BigQuiet
import Derived.StillTailTactics
import Derived.LoopN
import Derived.Handy
import Derived.Deep.LoopGhost
set_option linter.unusedVariables false
set_option linter.unusedSimpArgs false
namespace Go.Proofs.Ytdlkeginnmhecaa
open Go.RowKit Go.Sort

def I64 (n : Int) : Prop := -9223372036854775808 ≤ n ∧ n ≤ 9223372036854775807

/-- The table of powers of ten, that the library's Itoa looks into. -/
def tabName : String := Rows.nodeTellsRow.named.getD 0 default
def Tab (w : World) : Prop := Lib.TabIs Try.prog w tabName .u64 Lib.pow10Tab
theorem Tab.below {w w' : World} (h : Tab w) (hb : Below w.heap.size w w') : Tab w' := Lib.tabBelow_of_tabIs h w' hb

def pickI (c n : Int) : Int := if c < 0 then (-(c + 1)) % n else c % n
theorem pickI_bd (c n : Int) (hn : 1 ≤ n) : 0 ≤ pickI c n ∧ pickI c n < n := by
  unfold pickI
  split
  · exact ⟨Int.emod_nonneg _ (by omega), Int.emod_lt_of_pos _ (by omega)⟩
  · exact ⟨Int.emod_nonneg _ (by omega), Int.emod_lt_of_pos _ (by omega)⟩

theorem pick_any (c n : Int) (w : World) (h1 : -9223372036854775808 ≤ c) (h2 : c ≤ 9223372036854775807) (hn : 1 ≤ n) (hn2 : n ≤ 9223372036854775807) :
    Calls Try.prog 20 #[.int .i64 c, .int .i64 n] w fun e w' => e = .returned (.int .i64 (pickI c n)) ∧ w = w' := by
  generalize hr : pickI c n = r
  have HR := Lib.hid hr
  clear hr
  go_enter Try.func20, Try.ntmps20
  go_wp2
  all_goals go_ret
  all_goals refine ⟨?_, rfl⟩
  all_goals (refine Qt.ret_int ?_; rw [← HR.out]; unfold pickI)
  · rw [if_pos (by assumption), ← Int.neg_tmod, Int.tmod_eq_emod_of_nonneg (by omega)]
  · rw [if_neg (by omega)]
/-- .. whatever number comes in: a number from 0 on, below n. -/
theorem pick_nat (c n : Int) (w : World) (hc : I64 c) (hn : 1 ≤ n) (hn2 : n ≤ 9223372036854775807) :
    Calls Try.prog 20 #[.int .i64 c, .int .i64 n] w fun e w' => e = .returned (.int .i64 ((pickI c n).toNat : Int)) ∧ w = w' := by
  have h := pickI_bd c n hn
  have := pick_any c n w hc.1 hc.2 hn hn2
  rwa [show (((pickI c n).toNat : Nat) : Int) = pickI c n by omega]

def txt (n : Int) : ByteArray := ⟨(txtL n).toArray⟩

/-! ### slices of numbers -/

/-- The slice at A of l.length numbers reads as l, below block B. -/
def Rd (w : World) (B : Nat) (A : Option Addr) (l : List Int) : Prop :=
  ∀ j, j < l.length → ∃ b off, A = some ⟨b, off, none⟩ ∧ b < B ∧ w.cell? ⟨b, off + j, none⟩ = some (.int .i64 (l.getD j 0))

theorem Rd.below {w w' : World} {B B' : Nat} {A : Option Addr} {l : List Int} (h : Rd w B A l) (hb : Below B' w w') (hB : B ≤ B') : Rd w' B A l := fun j hj => by
  obtain ⟨b, off, e, hlt, h0⟩ := h j hj
  exact ⟨b, off, e, hlt, (hb.cell (p := ⟨b, off + j, none⟩) (Nat.lt_of_lt_of_le hlt hB)).trans h0⟩
theorem Rd.more {w : World} {B B' : Nat} {A : Option Addr} {l : List Int} (h : Rd w B A l) (hB : B ≤ B') : Rd w B' A l := fun j hj => by
  obtain ⟨b, off, e, hlt, h0⟩ := h j hj
  exact ⟨b, off, e, by omega, h0⟩
theorem Rd.nil (w : World) (B : Nat) (A : Option Addr) : Rd w B A [] := fun j hj => absurd hj (Nat.not_lt_zero j)
theorem Rd.at_ {w : World} {B : Nat} {A : Option Addr} {l : List Int} (h : Rd w B A l) (hn : 0 < l.length) :
    ∃ b off, A = some ⟨b, off, none⟩ ∧ b < B ∧ ∀ j, j < l.length → w.cell? ⟨b, off + j, none⟩ = some (.int .i64 (l.getD j 0)) := by
  obtain ⟨b, off, e, hlt, _⟩ := h 0 hn
  refine ⟨b, off, e, hlt, fun j hj => ?_⟩
  obtain ⟨b', off', e', _, h0⟩ := h j hj
  rw [e] at e'
  injection e' with e'
  injection e' with e1 e2
  subst e1 e2
  exact h0
/-- A slice whose cells read as a list, now. -/
def Now (w : World) (A : Option Addr) (l : List Int) : Prop := Rd w w.heap.size A l
theorem Now.below {w w' : World} {A : Option Addr} {l : List Int} (h : Now w A l) (hb : Below w.heap.size w w') : Now w' A l := (Rd.below h hb (Nat.le_refl _)).more hb.size
theorem now_nil (w : World) (A : Option Addr) : Now w A [] := Rd.nil _ _ _

/-- A slice that the call itself has made. -/
abbrev Own (w : World) (B : Nat) (v : Value) (l : List Int) : Prop := w.ownsRow B 3 1 v l.length (l.map (Value.int .i64))
/-- It reads as its list. -/
def Reads (w : World) (v : Value) (l : List Int) : Prop := ∃ A c, v = .slice A l.length c ∧ l.length ≤ c ∧ Now w A l
theorem Own.reads {w : World} {B : Nat} {v : Value} {l : List Int} (h : Own w B v l) : Reads w v l := by
  rcases h.2 with ⟨rfl, h0⟩ | ⟨g, cap, cur, rfl, hb, hh, hn, hcap, hsz, htake⟩
  · have : l = [] := by simpa using h0
    subst this
    exact ⟨none, 0, rfl, Nat.le_refl _, now_nil _ _⟩
  · refine ⟨some ⟨g, 0, none⟩, cap, rfl, hn, fun j hj => ⟨g, 0, rfl, (World.ownsRow.lt h g rfl).2, ?_⟩⟩
    have := World.ownsRow.cellAt h j (by simpa using hj)
    rw [Nat.zero_add]
    rw [this]
    simp [List.getD_eq_getElem?_getD, List.getElem?_eq_getElem hj]
theorem Reads.below {w w' : World} {v : Value} {l : List Int} (h : Reads w v l) (hb : Below w.heap.size w w') : Reads w' v l := by
  obtain ⟨A, c, e, hc, hR⟩ := h
  exact ⟨A, c, e, hc, hR.below hb⟩

end Go.Proofs.Ytdlkeginnmhecaa
namespace Go.Proofs.Ytdlkeginnmhecaa
set_option linter.unusedVariables false
set_option linter.unusedSimpArgs false
open Go.RowKit Go.Sort Go.Shelf
attribute [local go_sem] Oper.semAt_some

/-- What is known within below: the flags' row, the box of it. -/
structure FlagAt (w wr : World) (n : Nat) (f : Nat → Bool) : Prop where
  row : RowV wr w.heap.size 4 (boolsL n f)
  box : Boxed wr (w.heap.size + 1) 70 (.slice (some ⟨w.heap.size, 0, none⟩) n n)
  bel : Below w.heap.size w wr
theorem FlagAt.size {w wr : World} {n : Nat} {f : Nat → Bool} (h : FlagAt w wr n f) : w.heap.size + 2 ≤ wr.heap.size := h.box.lt
theorem FlagAt.now {w wr w' : World} {n : Nat} {f : Nat → Bool} (h : FlagAt w wr n f) (hb : Below wr.heap.size wr w') : FlagAt w w' n f :=
  ⟨h.row.now hb, (hb.block _ h.box.lt).trans h.box, Qt.more h.bel h.bel.size hb⟩
theorem FlagAt.set {w wr : World} {n : Nat} {f g : Nat → Bool} (h : FlagAt w wr n f) (p : Nat) (hg : (fun x => f x || decide (x = p)) = g) : FlagAt w (wr.setCell ⟨w.heap.size, p, none⟩ (.bool true)) n g := by
  have hr := h.row.set p (.bool true)
  rw [boolsL_set, hg] at hr
  refine ⟨hr, ?_, h.bel.setCell (Nat.le_refl _) _⟩
  have hb := h.box
  unfold Boxed at hb ⊢
  have hne : ¬ w.heap.size = w.heap.size + 1 := by omega
  simp [World.setCell, Array.getElem?_modify, hb]
theorem flagAt_0 (w : World) (n : Nat) : FlagAt w ((w.alloc (.cells (boolsL n fun _ => false).toArray 4)).alloc (.cells #[.slice (some ⟨w.heap.size, 0, none⟩) n n] 70)) n (fun _ => false) := by
  have hs1 : (w.alloc (.cells (boolsL n fun _ => false).toArray 4)).heap.size = w.heap.size + 1 := by simp
  have hb1 := (Below.refl w.heap.size w).alloc (Nat.le_refl _) (.cells (boolsL n fun _ => false).toArray 4)
  refine ⟨(RowV.made w _ _).now ((Below.refl _ _).alloc (Nat.le_refl _) _), ?_, hb1.alloc (by omega) _⟩
  rw [← hs1]
  exact Boxed.new _ _ _

set_option maxRecDepth 100000 in
set_option maxHeartbeats 8000000 in
theorem below_any (A : Option Addr) (l : List Nd) (c : Nat) (B : Option Addr) (R : List Int) (d : Nat) (room : Int) (w : World) (hR : RdN w w.heap.size A l) (hrt : Rd w w.heap.size B R) (hr : Right6 l room) (hin : ∀ r ∈ R, 0 ≤ r ∧ r < l.length) (hRl : R.length ≤ 1000000) :
    Calls Try.prog 37 #[.slice A l.length c, .slice B R.length d] w fun e w' => e = .returned (.slice (some ⟨w.heap.size, 0, none⟩) l.length l.length) ∧ FlagAt w w' l.length (keepF l R) := by
  have hl : l.length ≤ 100000 := by have := hr.len; have := hr.room100; omega
  have h2 := hr.two
  have hmk := makeBools l.length (by omega)
  have HH0 := Lib.hid (flagAt_0 w l.length)
  have HIN := Lib.hid hin
  have HRR := Lib.hid hr
  have HRT := Lib.hid hrt
  obtain ⟨b0, off, rfl, hbB, hcell⟩ := hR.at_ (by omega)
  have HC := Lib.hid hcell
  clear hin hr hrt hcell hR
  refine (callsIn_wide (n := 6)).1 ?_
  refine callsIn_of_wp_marks Try.func37 rfl trivial ?_ rfl
  simp only [Try.ntmps37, List.size_toArray, List.length_cons, List.length_nil, Nat.reduceAdd, Nat.reduceSub, Array.replicate_succ, Array.replicate_zero, List.push_toArray, List.append_toArray, List.nil_append, List.cons_append]
  gi_wp2
  clear hmk
  generalize (w.alloc (.cells (boolsL l.length fun _ => false).toArray 4)).alloc (.cells #[.slice (some ⟨w.heap.size, 0, none⟩) l.length l.length] 70) = w0 at *
  have lb := HH0.out.box.cell
  have c0 := HH0.out.row.cell (boolsL_get (fun _ => false) (i := 0) (by omega))
  have c1 := HH0.out.row.cell (boolsL_get (fun _ => false) (i := 1) (by omega))
  have f0 := HH0.out.row.free 0
  have f1 := HH0.out.row.free 1
  have HH1 : Hid (FlagAt w ((w0.setCell ⟨w.heap.size, 0, none⟩ (.bool true)).setCell ⟨w.heap.size, 1, none⟩ (.bool true)).drew l.length (rootF R 0)) := ((HH0.out.set 0 rfl).set 1 (rootF_zero R).symm).now ((Below.refl _ _).drew)
  gi_region
  generalize ((w0.setCell ⟨w.heap.size, 0, none⟩ (.bool true)).setCell ⟨w.heap.size, 1, none⟩ (.bool true)).drew = w1 at *
  clear lb c0 c1 f0 f1 HH0
  gi_wp2
  gi_loopw [21] (fun i wr => ∃ k : Nat, k ≤ R.length ∧ i = .int .i64 k ∧ Hid (FlagAt w wr l.length (rootF R k))) (fun i _ => R.length - (intOf i).toNat)
  case atStart => exact ⟨0, Nat.zero_le _, rfl, HH1.out⟩
  case round =>
    obtain ⟨k, hk, rfl, HH⟩ := hrel
    by_cases hlt : k < R.length
    · have hltz : (k : Int) < (R.length : Int) := by omega
      obtain ⟨b1, o1, rfl, hb1, hr1⟩ := HRT.out.at_ (by omega)
      have rk := Qt.keep HH.out.bel (hr1 k hlt)
      have hrb := HIN.out (R.getD k 0) (by rw [List.getD_eq_getElem?_getD, List.getElem?_eq_getElem hlt]; exact List.getElem_mem _)
      obtain ⟨p, hp⟩ : ∃ p : Nat, R.getD k 0 = (p : Int) := ⟨(R.getD k 0).toNat, by omega⟩
      rw [hp] at rk hrb
      have hpl : (p : Int) < (l.length : Int) := hrb.2
      have lb := HH.out.box.cell
      have cp := HH.out.row.cell (boolsL_get (rootF R k) (i := p) (by omega))
      have fp := HH.out.row.free p
      have HN := Lib.hid (HH.out.set p (rootF_succ R k p hlt hp))
      clear hr1 hrb hp HH
      generalize rootF R k p = bp at *
      gi_wp2
      go_roundw
      case measure => simp [intOf]; omega
      case rel => exact ⟨k + 1, by omega, by go_num, HN.out⟩
    · obtain rfl : k = R.length := by omega
      have hltz : ¬ (R.length : Int) < (R.length : Int) := by omega
      have hf := HH.out
      rw [rootF_all] at hf
      have HF := Lib.hid hf
      clear hf HH HRT HIN
      gi_wp2
      refine ⟨trivial, (back_in Fence.wide 5 trivial rfl _ _ _ _).mono ?_⟩
      rintro e w' ⟨rfl, rfl⟩
      gi_wp2
      obtain ⟨wo, rfl⟩ : ∃ wo : World, wo = wr := ⟨_, rfl⟩
      have hsz := HF.out.size
      have hbel2 := (HF.out.bel).alloc HF.out.bel.size (.cells #[.slice (some ⟨b0, off, none⟩) l.length c] 23)
      have HF2 : FlagAt w (wo.alloc (.cells #[.slice (some ⟨b0, off, none⟩) l.length c] 23)) l.length (base6 R) := HF.out.now ((Below.refl _ _).alloc (Nat.le_refl _) _)
      have hbx := (Boxed.new wo 23 (.slice (some ⟨b0, off, none⟩) l.length c)).cell
      have hnd : ∀ j, j < l.length → NdAt (wo.alloc (.cells #[.slice (some ⟨b0, off, none⟩) l.length c] 23)) b0 (off + j * 6) (l.getD j deadN) := fun j hj => (HC.out j hj).below hbel2 hbB
      have hs2 : (wo.alloc (.cells #[.slice (some ⟨b0, off, none⟩) l.length c] 23)).heap.size = wo.heap.size + 1 := by simp
      obtain ⟨W0, hW0⟩ : ∃ W0, wo.alloc (.cells #[.slice (some ⟨b0, off, none⟩) l.length c] 23) = W0 := ⟨_, rfl⟩
      rw [hW0] at hbel2 HF2 hbx hnd hs2 ⊢
      have HRO := HRR.out
      refine wpIn_rangeFunc_ownH rfl (by decide) (gf := 44) (lb := #[.pointer (some ⟨wo.heap.size, 0, none⟩)]) rfl trivial (enters_of Try.func44 (by kernel_rfl) rfl)
        (back_stops Fence.wide 5 trivial rfl (by decide) wo.heap.size w.heap.size b0 off c l (by omega) hbB W0 (by omega) (by omega) hbx hnd) kpA_t (kpA_b (by omega) (by omega)) (Below.refl _ _) (fun _ => rfl)
        (fun pre W => (RowV W w.heap.size 4 (boolsL l.length (foldF l pre (base6 R))) ∧ Boxed W (w.heap.size + 1) 70 (.slice (some ⟨w.heap.size, 0, none⟩) l.length l.length)) ∧ Below w.heap.size W0 W)
        (fun _ _ _ => False)
        (OwnFrom.and (OwnFrom.and (Own.from (rowV_own _ _ _) _) (Own.from (boxed_own _ _ _) _)) (ownFrom_below (by omega) (by omega)))
        (fun _ _ _ _ _ hs _ _ => hs)
        ⟨⟨HF2.row, HF2.box⟩, Below.refl _ _⟩
        (fun x a' W => ∃ Bx, wo.heap.size < Bx ∧ RowV W Bx 49 (cellsN (l.getD x.1 deadN)) ∧ ∃ v7 v23 v24 v25 v26 v27 v28 : Value, a' = { tmps := #[.slice (some ⟨b0, off, none⟩) l.length c, .slice B R.length d, undef, undef, .slice none 0 0, .pointer (some ⟨w.heap.size + 1, 0, none⟩), undef, v7, .int .i64 (x.1 : Int), .pointer (some ⟨Bx, 0, none⟩), undef, undef, .slice (some ⟨b0, off, none⟩) l.length c, .int .i64 (l.length : Int), .slice (some ⟨w.heap.size, 0, none⟩) l.length l.length, .slice (some ⟨w.heap.size, 0, none⟩) l.length l.length, .slice (some ⟨w.heap.size, 0, none⟩) l.length l.length, .pointer (some ⟨w.heap.size, 0, none⟩), .pointer (some ⟨w.heap.size, 1, none⟩), .slice B R.length d, .int .i64 (R.length : Int), .int .i64 (R.length : Int), .bool false, v23, v24, v25, v26, v27, v28, .slice (some ⟨b0, off, none⟩) l.length c, .func (.func 44) #[] #[.pointer (some ⟨wo.heap.size, 0, none⟩)], .int .i64 (x.1 : Int), .agg #[.int .i64 (l.getD x.1 deadN).1, .int .i64 (l.getD x.1 deadN).2.1.1, .int .i64 (l.getD x.1 deadN).2.1.2.1, .int .i64 (l.getD x.1 deadN).2.1.2.2.1, .int .i64 (l.getD x.1 deadN).2.1.2.2.2, .int .i64 (l.getD x.1 deadN).2.2], undef, undef, undef, undef, undef, undef, undef, undef, undef, undef, undef, undef, undef, undef, undef], defers := [] })
        (fun x a' _ X Y row hs hg hr => by obtain ⟨Bx, h1, h2, h3⟩ := hs; exact ⟨Bx, h1, rowV_own Bx 49 (fun (_ : Unit) => cellsN (l.getD x.1 deadN)) () X Y row h2 hg (fun r e => (hr r e).2), h3⟩)
        ?assign ?body ?done ?stop
      case assign =>
        rintro lp pre x W K ⟨⟨hrow, hbox⟩, hB⟩ hK
        unfold indV
        dsimp only
        generalize l.getD x.1 deadN = y at *
        obtain ⟨y0, ⟨y1, y2, y3, y4⟩, y5⟩ := y
        dsimp only at hK ⊢
        gi_wp2
        have hal := (Below.refl W.heap.size W).alloc (Nat.le_refl _) (.cells #[.int .i64 y0, .int .i64 y1, .int .i64 y2, .int .i64 y3, .int .i64 y4, .int .i64 y5] 49)
        exact hK _ _ ((KeepsOthers.alloc _ _).from _) (KpA.alloc W _ (by have := hB.size; omega) (by have := hB.size; omega)) ⟨⟨hrow.now hal, (hal.block _ hbox.lt).trans hbox⟩, hB.alloc (by have := hB.size; omega) _⟩ ⟨W.heap.size, by have := hB.size; omega, RowV.made W _ _, _, _, _, _, _, _, _, rfl⟩
      case body =>
        rintro lp pre x a' W hlW ⟨r, hrr⟩ ⟨⟨hrow, hbox⟩, hB⟩ ⟨Bx, hBx, hnx, v7, v23, v24, v25, v26, v27, v28, rfl⟩ hlt9
        clear hs2
        have hxl : (x.1 : Int) < (l.length : Int) := by have := x.2; omega
        have lb := hbox.cell
        have cx := hrow.cell (boolsL_get (foldF l pre (base6 R)) x.2)
        have hkid := fun i (hi : i < 4) => kid_in HRO x.2 hi
        have HSN := Lib.hid (foldF_snoc l pre x (base6 R))
        have HRW := Lib.hid hrow
        have HBX := Lib.hid hbox
        have HBB := Lib.hid hB
        generalize hf : foldF l pre (base6 R) = f at *
        obtain ⟨xi, hxi⟩ := x
        dsimp only at *
        cases hfx : f xi with
        | false =>
          have hst : stepF l f xi = f := by unfold stepF; rw [hfx]; rfl
          have HST := Lib.hid hst
          rw [hfx] at cx
          clear hst hrow hbox hB hkid hfx hf
          gi_wp2
          exact ⟨KeepsFrom.refl _ _, KpA.refl _ _ _, ⟨⟨by rw [HSN.out, HST.out]; exact HRW.out, HBX.out⟩, HBB.out⟩⟩
        | true =>
          have hst : stepF l f xi = setK (l.getD xi deadN).2.1 f := by unfold stepF; rw [hfx]; rfl
          have HST := Lib.hid hst
          have HKD := Lib.hid hkid
          rw [hfx] at cx
          have n1 : W.cell? ⟨Bx, 1, none⟩ = some (.int .i64 (l.getD xi deadN).2.1.1) := hnx.cell rfl
          have n2 : W.cell? ⟨Bx, 2, none⟩ = some (.int .i64 (l.getD xi deadN).2.1.2.1) := hnx.cell rfl
          have n3 : W.cell? ⟨Bx, 3, none⟩ = some (.int .i64 (l.getD xi deadN).2.1.2.2.1) := hnx.cell rfl
          have n4 : W.cell? ⟨Bx, 4, none⟩ = some (.int .i64 (l.getD xi deadN).2.1.2.2.2) := hnx.cell rfl
          have hix := kd_index (l.getD xi deadN).2.1
          clear hst hrow hbox hB hkid hfx hf hnx hrr hlt9
          generalize l.getD xi deadN = y at *
          obtain ⟨y0, k, y5⟩ := y
          dsimp only at *
          gi_wp2
          clear n1 n2 n3 n4 cx lb
          gi_loopw [40] (fun i wr => ∃ j : Nat, j ≤ 4 ∧ i = .int .i64 j ∧ Hid (RowV wr w.heap.size 4 (boolsL l.length (setTo k f j)) ∧ Boxed wr (w.heap.size + 1) 70 (.slice (some ⟨w.heap.size, 0, none⟩) l.length l.length) ∧ Below w.heap.size W0 wr ∧ KeepsFrom W0.heap.size W wr ∧ KpA w.heap.size wo.heap.size W wr)) (fun i _ => 4 - (intOf i).toNat)
          case atStart => exact ⟨0, by omega, rfl, by rw [setTo_zero]; exact HRW.out, HBX.out, HBB.out, KeepsFrom.refl _ _, KpA.refl _ _ _⟩
          case round =>
            obtain ⟨j, hj, rfl, HL⟩ := hrel
            by_cases hlt : j < 4
            · have hltz : (j : Int) < 4 := by omega
              have hixj := hix j hlt
              obtain ⟨p, hp⟩ : ∃ p : Nat, kd k j = (p : Int) := ⟨(kd k j).toNat, by have := (HKD.out j hlt).1; omega⟩
              have hpl : (p : Int) < (l.length : Int) := by have := (HKD.out j hlt).2; omega
              rw [hp] at hixj
              have lb := HL.out.2.1.cell
              have cp := HL.out.1.cell (boolsL_get (setTo k f j) (i := p) (by omega))
              have fp := HL.out.1.free p
              have hset := HL.out.1.set p (.bool true)
              rw [boolsL_set, setTo_succ k f j p hp] at hset
              have HN : Hid (RowV (wr.setCell ⟨w.heap.size, p, none⟩ (.bool true)) w.heap.size 4 (boolsL l.length (setTo k f (j + 1))) ∧ Boxed (wr.setCell ⟨w.heap.size, p, none⟩ (.bool true)) (w.heap.size + 1) 70 (.slice (some ⟨w.heap.size, 0, none⟩) l.length l.length) ∧ Below w.heap.size W0 (wr.setCell ⟨w.heap.size, p, none⟩ (.bool true)) ∧ KeepsFrom W0.heap.size W (wr.setCell ⟨w.heap.size, p, none⟩ (.bool true)) ∧ KpA w.heap.size wo.heap.size W (wr.setCell ⟨w.heap.size, p, none⟩ (.bool true))) :=
                ⟨hset, RowV.other (xs := [_]) (p := w.heap.size) HL.out.2.1 (by omega) _ _, HL.out.2.2.1.setCell (Nat.le_refl _) _, HL.out.2.2.2.1.trans ((KeepsOthers.setCell _ _ _).from _), HL.out.2.2.2.2.trans (KpA.setCell _ _ (Nat.le_refl _) (by omega))⟩
              clear hset hp HL hix
              generalize setTo k f j p = bp at *
              gi_wp2
              go_roundw
              case measure => simp [intOf]; omega
              case rel => exact ⟨j + 1, by omega, by go_num, HN.out⟩
            · obtain rfl : j = 4 := by omega
              have hltz : ¬ ((4 : Nat) : Int) < 4 := by decide
              gi_wp2
              have hh := HL.out
              rw [setTo_all] at hh
              exact ⟨hh.2.2.2.1, hh.2.2.2.2, ⟨⟨by rw [HSN.out, HST.out]; exact hh.1, hh.2.1⟩, hh.2.2.1⟩⟩
      case done =>
        rintro D ys W hD rfl ⟨⟨hrow, hbox⟩, hB⟩ hK
        rw [fold_all HRO rfl] at hrow
        have hfin : FlagAt w W l.length (keepF l R) := ⟨hrow, hbox, hbel2.trans hB⟩
        have lb := hbox.cell
        have HFN := Lib.hid hfin
        clear hrow hB hfin
        gi_wp2
        refine ⟨by simp, .inl ⟨_, _, rfl, run_takeDeferred hK, ?_⟩⟩
        have hbd := belowK_b (n₀ := W0.heap.size) (w := W0) (Nat.le_refl _) W D (.deferred (some [])) (.deferred none) hD hK rfl rfl
        exact ⟨_, results_tmp rfl _ _ _, rfl, ⟨HFN.out.row.below hbd (by omega), (hbd.block _ (by omega)).trans HFN.out.box, HFN.out.bel.trans (hbd.mono (by omega))⟩⟩
      case stop =>
        rintro D c pre W _ _ h _
        exact h.elim
end Go.Proofs.Ytdlkeginnmhecaa
namespace Go.Proofs.Ytdlkeginnmhecaa
set_option linter.unusedVariables false
set_option linter.unusedSimpArgs false
open Go.RowKit Go.Sort

/-- a root is no place -/
def beyondB (n : Nat) (r : Int) : Bool := decide (r < 0) || decide ((n : Int) ≤ r)
def rootsB (l : List Nd) (R : List Int) : Bool := R.all fun r => decide (0 ≤ r) && decide (r < l.length)
theorem beyond_any (l : List Nd) (R : List Int) : (R.any fun r => beyondB l.length r) = !rootsB l R := by
  unfold rootsB
  rw [List.not_all_eq_any_not]
  congr 1
  funext r
  unfold beyondB
  rw [Bool.not_and]
  rw [Bool.eq_iff_iff]
  simp only [Bool.or_eq_true, decide_eq_true_eq, Bool.not_eq_true', decide_eq_false_iff_not]
  omega
theorem rootsB_iff {l : List Nd} {R : List Int} : rootsB l R = true ↔ ∀ r ∈ R, 0 ≤ r ∧ r < l.length := by
  unfold rootsB
  simp [List.all_eq_true]

set_option maxHeartbeats 4000000 in
set_option maxRecDepth 100000 in
theorem beyondClos_any (A : Option Addr) (n c : Nat) (kb : Nat) (r : Int) (w : World) (hs : w.cell? ⟨kb, 0, none⟩ = some (.slice A n c)) :
    Calls Try.prog 35 #[.int .i64 r, .pointer (some ⟨kb, 0, none⟩)] w fun e w' => e = .returned (.bool (beyondB n r)) ∧ w' = w := by
  by_cases h1 : r < 0
  · have hb : beyondB n r = true := by unfold beyondB; rw [decide_eq_true h1]; rfl
    rw [hb]
    clear hb
    go_enter Try.func35, Try.ntmps35
    go_wp2
    go_ret
    exact ⟨rfl, rfl⟩
  · have hb : beyondB n r = decide ((n : Int) ≤ r) := by unfold beyondB; rw [decide_eq_false h1]; rfl
    rw [hb]
    clear hb
    go_enter Try.func35, Try.ntmps35
    go_wp2
    go_ret
    exact ⟨rfl, rfl⟩
theorem contains_any (A : Option Addr) (l : List Nd) (c kb : Nat) (B : Option Addr) (R : List Int) (d : Nat) (w : World) (hs : w.cell? ⟨kb, 0, none⟩ = some (.slice A l.length c)) (hrt : Rd w w.heap.size B R) (hRl : R.length ≤ 1000000) :
    Calls Try.prog 36 #[.slice B R.length d, .func (.func 35) #[] #[.pointer (some ⟨kb, 0, none⟩)]] w fun e w' => e = .returned (.bool (!rootsB l R)) ∧ Below w.heap.size w w' := by
  rw [← beyond_any]
  by_cases h0 : R.length = 0
  · have : R = [] := List.eq_nil_of_length_eq_zero h0
    subst this
    have hcon := AnyE.slices_ContainsFunc_empty Try.cfI B d (.func (.func 35) #[] #[.pointer (some ⟨kb, 0, none⟩)]) w
    change Calls Try.prog 36 _ _ _ at hcon
    refine hcon.mono ?_
    rintro e w' ⟨rfl, rfl⟩
    exact ⟨rfl, Below.refl _ _⟩
  · obtain ⟨b1, o1, rfl, hb1, hr1⟩ := hrt.at_ (by omega)
    have hcon := AnyE.slices_ContainsFunc Try.cfI (fun r : Int => .int .i64 r) (fun r => beyondB l.length r) 35 #[.pointer (some ⟨kb, 0, none⟩)] (enters_of Try.func35 (by kernel_rfl) rfl) b1 o1 R.length d R w
      ?_ (Nat.le_refl _) (by omega) (fun j hj => by rw [getElem!_pos R j hj]; have := hr1 j hj; rwa [List.getD_eq_getElem?_getD, List.getElem?_eq_getElem hj] at this)
    · change Calls Try.prog 36 _ _ _ at hcon
      rw [List.take_length] at hcon
      refine hcon.mono ?_
      rintro e w' ⟨rfl, q, rfl⟩
      exact ⟨rfl, below_drewNn _ _ _⟩
    · intro W r hW
      refine (beyondClos_any A l.length c kb r W ((hW.cell (p := ⟨kb, 0, none⟩) (block_lt_of_cell hs)).trans hs)).mono ?_
      rintro e w' ⟨rfl, rfl⟩
      exact ⟨rfl, 0, rfl⟩
end Go.Proofs.Ytdlkeginnmhecaa
namespace Go.Proofs.Ytdlkeginnmhecaa
set_option linter.unusedVariables false
set_option linter.unusedSimpArgs false
open Go.RowKit Go.Sort

/-- where the nodes seen so far are in the new store -/
def toF (K : Nat → Bool) (n : Nat) : Nat → Int := fun i => if i < n ∧ K i = true then (cnt K i : Int) else 0
theorem toF_zero (K : Nat → Bool) : toF K 0 = fun _ => 0 := by
  funext i
  unfold toF
  rw [if_neg (by omega)]
theorem toF_on (K : Nat → Bool) (n : Nat) (h : K n = true) : (fun k => if k = n then (cnt K n : Int) else toF K n k) = toF K (n + 1) := by
  funext k
  unfold toF
  by_cases e : k = n
  · subst e
    rw [if_pos rfl, if_pos ⟨Nat.lt_succ_self _, h⟩]
  · rw [if_neg e]
    by_cases h1 : k < n ∧ K k = true
    · rw [if_pos h1, if_pos ⟨by omega, h1.2⟩]
    · rw [if_neg h1, if_neg (fun h2 => h1 ⟨by omega, h2.2⟩)]
theorem toF_off (K : Nat → Bool) (n : Nat) (h : K n = false) : toF K n = toF K (n + 1) := by
  funext k
  unfold toF
  by_cases h1 : k < n ∧ K k = true
  · rw [if_pos h1, if_pos ⟨by omega, h1.2⟩]
  · rw [if_neg h1, if_neg (fun h2 => h1 ⟨by
      have : k ≠ n := fun e => by rw [e, h] at h2; exact absurd h2.2 (by decide)
      omega, h2.2⟩)]
section
variable {l : List Nd} {room : Int} {R : List Int} {K : Nat → Bool}
theorem to_kid (hr : Right6 l room) (hK : Kept l R K) {n : Nat} (hn : n < l.length) (hKn : K n = true) {c : Nat} (hc : c < 4) : toF K n (kd (l.getD n deadN).2.1 c).toNat = (cnt K (kd (l.getD n deadN).2.1 c).toNat : Int) := by
  by_cases h2 : 2 ≤ n
  · have h1 := (fits_iff.1 (hr.fits n h2 hn)).kid c hc
    unfold toF
    rw [if_pos ⟨by omega, hK.kid n h2 hn hKn c hc⟩]
  · have hk : (l.getD n deadN).2.1 = (0, 0, 0, 0) := by
      rcases (by omega : n = 0 ∨ n = 1) with rfl | rfl
      · rw [hr.dead]; rfl
      · rw [hr.live]; rfl
    rw [hk]
    have h0 : kd (0, 0, 0, 0) c = 0 := by rcases (by omega : c = 0 ∨ c = 1 ∨ c = 2 ∨ c = 3) with rfl | rfl | rfl | rfl <;> rfl
    rw [h0]
    have hc0 : cnt K 0 = 0 := rfl
    unfold toF
    simp only [Int.toNat_zero, hc0]
    split <;> rfl
theorem to_root (hK : Kept l R K) {r : Int} (hr : r ∈ R) (h0 : 0 ≤ r ∧ r < l.length) : toF K l.length r.toNat = (cnt K r.toNat : Int) := by
  unfold toF
  rw [if_pos ⟨by omega, hK.root r hr h0.1⟩]
end
/-- the first kids mapped -/
def mixK (K : Nat → Bool) (k : Kd) (j : Nat) : Kd :=
  (if 0 < j then (cnt K k.1.toNat : Int) else k.1, if 1 < j then (cnt K k.2.1.toNat : Int) else k.2.1, if 2 < j then (cnt K k.2.2.1.toNat : Int) else k.2.2.1, if 3 < j then (cnt K k.2.2.2.toNat : Int) else k.2.2.2)
theorem mixK_zero (K : Nat → Bool) (k : Kd) : mixK K k 0 = k := rfl
theorem mixK_all (K : Nat → Bool) (k : Kd) : mixK K k 4 = mapK K k := rfl
theorem mixK_set (K : Nat → Bool) (lv pp : Int) (k : Kd) (j : Nat) (hj : j < 4) : (cellsN (lv, mixK K k j, pp)).set (1 + j) (.int .i64 (cnt K (kd k j).toNat : Int)) = cellsN (lv, mixK K k (j + 1), pp) := by
  rcases (by omega : j = 0 ∨ j = 1 ∨ j = 2 ∨ j = 3) with rfl | rfl | rfl | rfl <;> rfl
theorem mixK_get (K : Nat → Bool) (lv pp : Int) (k : Kd) (j : Nat) (hj : j < 4) : ∃ v, (cellsN (lv, mixK K k j, pp))[1 + j]? = some v := by
  rcases (by omega : j = 0 ∨ j = 1 ∨ j = 2 ∨ j = 3) with rfl | rfl | rfl | rfl <;> exact ⟨_, rfl⟩

/-- where the roots are, so many told -/
def foundF (K : Nat → Bool) (R : List Int) (k : Nat) : Nat → Int := fun i => if i < k then (cnt K (R.getD i 0).toNat : Int) else 0
theorem foundF_zero (K : Nat → Bool) (R : List Int) : foundF K R 0 = fun _ => 0 := by
  funext i
  unfold foundF
  rw [if_neg (by omega)]
theorem foundF_succ (K : Nat → Bool) (R : List Int) (k : Nat) : (fun i => if i = k then (cnt K (R.getD k 0).toNat : Int) else foundF K R k i) = foundF K R (k + 1) := by
  funext i
  unfold foundF
  by_cases e : i = k
  · subst e
    rw [if_pos rfl, if_pos (Nat.lt_succ_self _)]
  · rw [if_neg e]
    by_cases h : i < k
    · rw [if_pos h, if_pos (by omega)]
    · rw [if_neg h, if_neg (by omega)]
theorem foundF_all (K : Nat → Bool) (R : List Int) : numsL R.length (foundF K R R.length) = R.map fun r => (cnt K r.toNat : Int) := by
  refine List.ext_getElem? fun i => ?_
  unfold numsL
  by_cases h : i < R.length
  · rw [List.getElem?_map, List.getElem?_range h, List.getElem?_map, List.getElem?_eq_getElem h]
    unfold foundF
    simp [h]
  · rw [List.getElem?_eq_none (by simp; omega), List.getElem?_eq_none (by simp; omega)]
theorem reads_row {w : World} {f : Nat} {xs : List Int} (h : RowV w f 3 (intsL xs)) : Reads w (.slice (some ⟨f, 0, none⟩) xs.length xs.length) xs :=
  ⟨_, _, rfl, Nat.le_refl _, fun j hj => ⟨f, 0, rfl, h.lt, by rw [Nat.zero_add]; exact h.cell (intsL_get hj)⟩⟩
/-- What Live answers, of a store and roots. -/
def live6 (l : List Nd) (room : Int) (R : List Int) : List Nd × List Int × Int := if (right6 l room && rootsB l R) = true then (liveL l R, liveAt l R, 0) else (l, [], 1)
def LiveR (p : List Nd × List Int × Int) (room : Int) (w : World) (e : Ending) (w' : World) : Prop :=
  ∃ v u, e = .returned (.tuple #[.agg #[v, .int .i64 room], u, .int .i64 p.2.2]) ∧ ReadsN w' v p.1 ∧ Reads w' u p.2.1 ∧ Below w.heap.size w w'

/-- What is known at the head of the loop over nodes. -/
structure LvAt (w wr : World) (A : Option Addr) (l : List Nd) (c : Nat) (room : Int) (K : Nat → Bool) (o q t n : Nat) (v : Value) : Prop where
  head : EmpHead w wr A l.length c room
  flg : RowV wr q 4 (boolsL l.length K)
  tor : RowV wr t 3 (intsL (numsL l.length (toF K n)))
  out : wr.heap[o]? = some (.cells #[v, .int .i64 room] 25 (0, 0))
  own : OwnN wr (w.heap.size + 2) v (newTo l K n)
  lo : w.heap.size + 2 ≤ o ∧ w.heap.size + 2 ≤ q ∧ w.heap.size + 2 ≤ t
section
variable {w wr w' : World} {A : Option Addr} {l : List Nd} {c : Nat} {room : Int} {K : Nat → Bool} {o q t n : Nat} {v : Value}
theorem LvAt.below (h : LvAt w wr A l c room K o q t n v) (hb : Below wr.heap.size wr w') : LvAt w w' A l c room K o q t n v :=
  ⟨h.head.below hb, h.flg.now hb, h.tor.now hb, (hb.block _ (lt_heap6 h.out)).trans h.out, h.own.below hb, h.lo⟩
theorem LvAt.c0 (h : LvAt w wr A l c room K o q t n v) : wr.cell? ⟨o, 0, none⟩ = some v := by rw [Lib.cell_of_heap h.out]; rfl
theorem LvAt.c1 (h : LvAt w wr A l c room K o q t n v) : wr.cell? ⟨o, 1, none⟩ = some (.int .i64 room) := by rw [Lib.cell_of_heap h.out]; rfl
theorem LvAt.f0 (h : LvAt w wr A l c room K o q t n v) : wr.frozen? ⟨o, 0, none⟩ = false := Lib.frozen_of_heap h.out 0
theorem LvAt.ot (h : LvAt w wr A l c room K o q t n v) : o ≠ t := by
  intro e
  have h1 := h.out
  have h2 := h.tor
  unfold RowV at h2
  rw [e, h2] at h1
  injection h1 with h1
  injection h1 with _ h1 _
  exact absurd h1 (by decide)
theorem LvAt.oq (h : LvAt w wr A l c room K o q t n v) : o ≠ q := by
  intro e
  have h1 := h.out
  have h2 := h.flg
  unfold RowV at h2
  rw [e, h2] at h1
  injection h1 with h1
  injection h1 with _ h1 _
  exact absurd h1 (by decide)
theorem LvAt.qt (h : LvAt w wr A l c room K o q t n v) : q ≠ t := by
  intro e
  have h1 := h.flg
  have h2 := h.tor
  unfold RowV at h1 h2
  rw [e, h2] at h1
  injection h1 with h1
  injection h1 with _ h1 _
  exact absurd h1 (by decide)
theorem own_ne {B i T : Nat} {cs : Array Value} {m : List Nd} (ho : OwnN wr B v m) (hi : wr.heap[i]? = some (.cells cs T (0, 0))) (hT : T ≠ 49) : v.ownBlock ≠ some i := by
  intro e
  obtain ⟨_, _, cs', fz, hc⟩ := ownN_kind ho i e
  rw [hi] at hc
  injection hc with hc
  injection hc with _ hc _
  exact hT hc
/-- a node's place is told -/
theorem LvAt.told (h : LvAt w wr A l c room K o q t n v) (i : Nat) (x : Int) (f : Nat → Int) (hf : (fun k => if k = i then x else toF K n k) = f) :
    EmpHead w (wr.setCell ⟨t, i, none⟩ (.int .i64 x)) A l.length c room ∧ RowV (wr.setCell ⟨t, i, none⟩ (.int .i64 x)) q 4 (boolsL l.length K) ∧ RowV (wr.setCell ⟨t, i, none⟩ (.int .i64 x)) t 3 (intsL (numsL l.length f)) ∧ (wr.setCell ⟨t, i, none⟩ (.int .i64 x)).heap[o]? = some (.cells #[v, .int .i64 room] 25 (0, 0)) ∧ OwnN (wr.setCell ⟨t, i, none⟩ (.int .i64 x)) (w.heap.size + 2) v (newTo l K n) := by
  have hb := h.lo.2.2
  have hset := h.tor.set i (.int .i64 x)
  rw [intsL_set, numsL_set, hf] at hset
  have hk : ∀ p, p < t → (wr.setCell ⟨t, i, none⟩ (.int .i64 x)).heap[p]? = wr.heap[p]? := fun p hp => Below.heap_setCell _ _ _ _ (by show p ≠ t; omega)
  have htor : wr.heap[t]? = some (.cells (intsL (numsL l.length (toF K n))).toArray 3 (0, 0)) := h.tor
  refine ⟨⟨(hk _ (by omega)).trans h.head.store, (hk _ (by omega)).trans h.head.res, h.head.bel.setCell (by show w.heap.size ≤ t; omega) _⟩, h.flg.other h.qt _ _, hset, ?_, World.ownsRow.kept h.own (but_set i _) (.inr (own_ne h.own htor (by decide)))⟩
  rw [Below.heap_setCell _ _ _ _ (by show o ≠ t; exact h.ot)]
  exact h.out
theorem LvAt.pushed {w7 w8 : World} {v v' : Value} {x : Nd} {ob : Obj} {m : List Nd} (hhead : EmpHead w w7 A l.length c room) (hflg : RowV w7 q 4 (boolsL l.length K)) (htor : RowV w7 t 3 (intsL (numsL l.length (toF K (n + 1)))))
    (hout : w7.heap[o]? = some (.cells #[v, .int .i64 room] 25 (0, 0))) (hown : OwnN w7 (w.heap.size + 2) v m) (hlo : w.heap.size + 2 ≤ o ∧ w.heap.size + 2 ≤ q ∧ w.heap.size + 2 ≤ t)
    (hg : (w7.alloc ob).grownBy w8 v.ownBlock) (hbp : Below (w.heap.size + 2) w7 w8) (ho : OwnN w8 (w.heap.size + 2) v' (m ++ [x])) (hs : newTo l K (n + 1) = m ++ [x]) :
    LvAt w (w8.setCell ⟨o, 0, none⟩ v') A l c room K o q t (n + 1) v' ∧ w8.heap[o]? = some (.cells #[v, .int .i64 room] 25 (0, 0)) := by
  have hsz : (w7.alloc ob).heap.size = w7.heap.size + 1 := by simp
  have hkeep : ∀ {i T : Nat} {cs : Array Value}, w7.heap[i]? = some (.cells cs T (0, 0)) → T ≠ 49 → w8.heap[i]? = some (.cells cs T (0, 0)) := by
    intro i T cs hi hT
    rw [hg.block i (by have := lt_heap6 hi; omega) (fun e => own_ne hown hi hT e.symm), Lib.alloc_old _ _ _ (lt_heap6 hi)]
    exact hi
  have hout8 := hkeep hout (by decide)
  have hflg8 : RowV w8 q 4 (boolsL l.length K) := hkeep hflg (by decide)
  have htor8 : RowV w8 t 3 (intsL (numsL l.length (toF K (n + 1)))) := hkeep htor (by decide)
  have hoq : q ≠ o := by
    intro e
    have h1 := hflg8
    unfold RowV at h1
    rw [e, hout8] at h1
    injection h1 with h1
    injection h1 with _ h1 _
    exact absurd h1 (by decide)
  have hot : t ≠ o := by
    intro e
    have h1 := htor8
    unfold RowV at h1
    rw [e, hout8] at h1
    injection h1 with h1
    injection h1 with _ h1 _
    exact absurd h1 (by decide)
  have hk : ∀ p, p < o → (w8.setCell ⟨o, 0, none⟩ v').heap[p]? = w8.heap[p]? := fun p hp => Below.heap_setCell _ _ _ _ (by show p ≠ o; omega)
  refine ⟨⟨⟨?_, ?_, (hhead.bel.trans (hbp.mono (by omega))).setCell (by show w.heap.size ≤ o; omega) _⟩, hflg8.other hoq _ _, htor8.other hot _ _, ?_, ?_, hlo⟩, hout8⟩
  · rw [hk _ (by omega), hbp.block _ (by omega)]
    exact hhead.store
  · rw [hk _ (by omega), hbp.block _ (by omega)]
    exact hhead.res
  · simp [World.setCell, Array.getElem?_modify, hout8]
  · rw [hs]
    exact World.ownsRow.kept ho (but_set 0 _) (.inr (own_ne ho hout8 (by decide)))
end
end Go.Proofs.Ytdlkeginnmhecaa
