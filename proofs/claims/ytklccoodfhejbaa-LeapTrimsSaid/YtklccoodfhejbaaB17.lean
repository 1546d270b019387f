/-
  Texts that the claims of this seat share, part 17.
-/
import Derived.Test.YtklccoodfhejbaaB16
import Derived.Test.YtklccoodfhejbaaB11
set_option linter.unusedVariables false
set_option linter.unusedSimpArgs false
namespace Go.Proofs.Ytklccoodfhejbaa
set_option maxRecDepth 100000
set_option linter.unusedVariables false
set_option linter.unusedSimpArgs false
open Go.RowKit Go.Sort

/-- nine numbers -/
abbrev row9 (f : Nat → Int) : Array Value := #[.int .i64 (f 0), .int .i64 (f 1), .int .i64 (f 2), .int .i64 (f 3), .int .i64 (f 4), .int .i64 (f 5), .int .i64 (f 6), .int .i64 (f 7), .int .i64 (f 8)]
/-- nine numbers in a box -/
def N9 (w : World) (b : Nat) (f : Nat → Int) : Prop := w.heap[b]? = some (.cells (row9 f) 110 (0, 0))
theorem N9.below {w w' : World} {b : Nat} {f : Nat → Int} (h : N9 w b f) (hb : Below w.heap.size w w') : N9 w' b f := (hb.block _ (lt_heap6 h)).trans h
theorem N9.kp {w w' : World} {b : Nat} {f : Nat → Int} (h : N9 w b f) (hk : Kp w w') : N9 w' b f := hk _ _ _ _ h ⟨.inl (by decide), by decide⟩
theorem N9.c {w : World} {b : Nat} {f : Nat → Int} (h : N9 w b f) {p : Nat} (hp : p < 9) : w.cell? ⟨b, p, none⟩ = some (.int .i64 (f p)) := by
  rw [Lib.cell_of_heap h]
  rcases (by omega : p = 0 ∨ p = 1 ∨ p = 2 ∨ p = 3 ∨ p = 4 ∨ p = 5 ∨ p = 6 ∨ p = 7 ∨ p = 8) with rfl | rfl | rfl | rfl | rfl | rfl | rfl | rfl | rfl <;> rfl
theorem N9.f {w : World} {b : Nat} {f : Nat → Int} (h : N9 w b f) (p : Nat) : w.frozen? ⟨b, p, none⟩ = false := Lib.frozen_of_heap h p
theorem N9.set {w : World} {b : Nat} {f : Nat → Int} (h : N9 w b f) {p : Nat} (hp : p < 9) (x : Int) : N9 (w.setCell ⟨b, p, none⟩ (.int .i64 x)) b (fun i => if i = p then x else f i) := by
  unfold N9 at h ⊢
  have hs : (w.setCell ⟨b, p, none⟩ (.int .i64 x)).heap[b]? = some (.cells ((row9 f).setIfInBounds p (.int .i64 x)) 110 (0, 0)) := by
    simp [World.setCell, Array.getElem?_modify, h]
  rw [hs]
  congr 2
  rcases (by omega : p = 0 ∨ p = 1 ∨ p = 2 ∨ p = 3 ∨ p = 4 ∨ p = 5 ∨ p = 6 ∨ p = 7 ∨ p = 8) with rfl | rfl | rfl | rfl | rfl | rfl | rfl | rfl | rfl <;> rfl
theorem quo3_quiet (W : World) (i : Nat) (hi : i < 9) (ev : Operand → Value) (o : Oper) (x y : Operand) (ho : o.op = Op.binOp .quo 3 x y 3) (hx : ev x = .int .i64 (i : Int)) (hy : ev y = .int .i64 3) : Oper.quietUpon Try.prog (fun w' => w' = W) W (.int .i64 ((i / 3 : Nat) : Int)) ((execOp ev o).run Try.prog W) := by
  rcases (by omega : i = 0 ∨ i = 1 ∨ i = 2 ∨ i = 3 ∨ i = 4 ∨ i = 5 ∨ i = 6 ∨ i = 7 ∨ i = 8) with rfl | rfl | rfl | rfl | rfl | rfl | rfl | rfl | rfl
  all_goals
    simp only [execOp, ho, hx, hy]
    go_simp
    first | done | rfl
theorem rem3_quiet (W : World) (i : Nat) (hi : i < 9) (ev : Operand → Value) (o : Oper) (x y : Operand) (ho : o.op = Op.binOp .rem 3 x y 3) (hx : ev x = .int .i64 (i : Int)) (hy : ev y = .int .i64 3) : Oper.quietUpon Try.prog (fun w' => w' = W) W (.int .i64 ((i % 3 : Nat) : Int)) ((execOp ev o).run Try.prog W) := by
  rcases (by omega : i = 0 ∨ i = 1 ∨ i = 2 ∨ i = 3 ∨ i = 4 ∨ i = 5 ∨ i = 6 ∨ i = 7 ∨ i = 8) with rfl | rfl | rfl | rfl | rfl | rfl | rfl | rfl | rfl
  all_goals
    simp only [execOp, ho, hx, hy]
    go_simp
    first | done | rfl
/-- What a making of nine answers. -/
def IxN (p : List Nd × (Nat → Int) × Int) (n0 g b : Nat) (room : Int) (w : World) (e : Ending) (w' : World) : Prop :=
  e = .returned (.tuple #[.agg (row9 p.2.1), .int .i64 p.2.2]) ∧ Ix n0 w' g b p.1 room ∧ BelK n0 b w w'
/-- what Maker.Nine answers -/
def nineZ (room : Int) (l : List Nd) (n : Int) : List Nd × (Nat → Int) × Int :=
  if levI l n < 2 then (l, fun _ => 0, 1) else if (nineTo room l n.toNat 9).2.2 = 0 then nineTo room l n.toNat 9 else ((nineTo room l n.toNat 9).1, fun _ => 0, (nineTo room l n.toNat 9).2.2)
theorem results_cell_tmp {P : Program} {fn : Func} {p u : Tmp} {ty : TypeId} (h : fn.results = #[.cell p ty, .tmp u]) (tmps : Array Value) (w : World) (g : Nat) (t : TypeId) (cs : Array Value) (fr : Nat × Nat) (d : TypeDesc)
    (hp : tmps.getD p undef = .pointer (some ⟨g, 0, none⟩)) (hg : w.heap[g]? = some (.cells cs t fr))
    (hu : P.underlying ty = some d) (hd : (match d with | .struct _ | .array _ _ => true | _ => false) = true) (hi : (P.info? ty).map (·.size) = some cs.size) :
    (results fn tmps).run P w = .ok (.tuple #[.agg cs, tmps.getD u undef]) w := results_cell2 h tmps w g t cs fr d hp hg hu hd hi
/-- What is known within Maker.Nine: the maker, what is told, the sixteen, the nine so far. -/
structure NnAt (n0 : Nat) (w wr : World) (g b pb : Nat) (m : List Nd) (room : Int) (v f : Nat → Int) : Prop where
  ix : Ix n0 wr g b m room
  mb : MB wr w.heap.size g
  res : N9 wr (w.heap.size + 1) (fun _ => 0)
  six : S16 wr pb v
  out : N9 wr (pb + 1) f
  bel : BelK n0 b w wr
  lo : w.heap.size + 2 ≤ pb
theorem NnAt.step {n0 : Nat} {w wr w' : World} {g b pb : Nat} {m m' : List Nd} {room : Int} {v f : Nat → Int} (h : NnAt n0 w wr g b pb m room v f) (hi : Ix n0 w' g b m' room) (hb : BelK n0 b wr w') : NnAt n0 w w' g b pb m' room v f :=
  ⟨hi, h.mb.kp hb.kp, h.res.kp hb.kp, h.six.kp hb.kp, h.out.kp hb.kp, h.bel.trans hb, h.lo⟩
theorem Ix.setNew9 {n0 : Nat} {wr : World} {g b pb : Nat} {m : List Nd} {room : Int} {f : Nat → Int} (h : Ix n0 wr g b m room) (h2 : 2 ≤ m.length) (hN : N9 wr pb f) (j : Nat) (u : Value) : Ix n0 (wr.setCell ⟨pb, j, none⟩ u) g b m room := h.setOff h2 hN ⟨.inl (by decide), by decide⟩ j u
theorem NnAt.put {n0 : Nat} {w wr : World} {g b pb : Nat} {m : List Nd} {room : Int} {v f : Nat → Int} (h : NnAt n0 w wr g b pb m room v f) (hn : n0 ≤ w.heap.size) (h2 : 2 ≤ m.length) {j : Nat} (hj : j < 9) (x : Int) : NnAt n0 w (wr.setCell ⟨pb + 1, j, none⟩ (.int .i64 x)) g b pb m room v (fun i => if i = j then x else f i) := by
  have hlo := h.lo
  have ho : ∀ i, i ≠ pb + 1 → (wr.setCell ⟨pb + 1, j, none⟩ (.int .i64 x)).heap[i]? = wr.heap[i]? := fun i hi => Below.heap_setCell _ _ _ _ hi
  exact ⟨h.ix.setNew9 h2 h.out j _, (ho _ (by omega)).trans h.mb, (ho _ (by omega)).trans h.res, (ho _ (by omega)).trans h.six, h.out.set hj x, h.bel.setNew (by omega) hn j _, hlo⟩
/-- what is told by Maker.Nine, under way -/
structure T9 (n0 : Nat) (w W : World) (g b : Nat) (m : List Nd) (room : Int) (f : Nat → Int) : Prop where
  ix : Ix n0 W g b m room
  row : N9 W (w.heap.size + 1) f
  bel : BelK n0 b w W
theorem T9.set {n0 : Nat} {w W : World} {g b : Nat} {m : List Nd} {room : Int} {f : Nat → Int} (h : T9 n0 w W g b m room f) (hn0 : n0 ≤ w.heap.size) (h2 : 2 ≤ m.length) {j : Nat} (hj : j < 9) (x : Int) : T9 n0 w (W.setCell ⟨w.heap.size + 1, j, none⟩ (.int .i64 x)) g b m room (fun i => if i = j then x else f i) :=
  ⟨h.ix.setNew9 h2 h.row j _, h.row.set hj x, h.bel.setNew (by omega) hn0 j _⟩
theorem t9_all {n0 : Nat} {w W : World} {g b : Nat} {m : List Nd} {room : Int} {f : Nat → Int} (hn0 : n0 ≤ w.heap.size) (h2 : 2 ≤ m.length) (hi : Ix n0 W g b m room) (hq : N9 W (w.heap.size + 1) f) (hb : BelK n0 b w W) (x0 x1 x2 x3 x4 x5 x6 x7 x8 : Int) :
    (((((((((W.setCell ⟨w.heap.size + 1, 0, none⟩ (.int .i64 x0)).setCell ⟨w.heap.size + 1, 1, none⟩ (.int .i64 x1)).setCell ⟨w.heap.size + 1, 2, none⟩ (.int .i64 x2)).setCell ⟨w.heap.size + 1, 3, none⟩ (.int .i64 x3)).setCell ⟨w.heap.size + 1, 4, none⟩ (.int .i64 x4)).setCell ⟨w.heap.size + 1, 5, none⟩ (.int .i64 x5)).setCell ⟨w.heap.size + 1, 6, none⟩ (.int .i64 x6)).setCell ⟨w.heap.size + 1, 7, none⟩ (.int .i64 x7)).setCell ⟨w.heap.size + 1, 8, none⟩ (.int .i64 x8)).heap[w.heap.size + 1]? = some (.cells #[.int .i64 x0, .int .i64 x1, .int .i64 x2, .int .i64 x3, .int .i64 x4, .int .i64 x5, .int .i64 x6, .int .i64 x7, .int .i64 x8] 110 (0, 0)) ∧ Ix n0 (((((((((W.setCell ⟨w.heap.size + 1, 0, none⟩ (.int .i64 x0)).setCell ⟨w.heap.size + 1, 1, none⟩ (.int .i64 x1)).setCell ⟨w.heap.size + 1, 2, none⟩ (.int .i64 x2)).setCell ⟨w.heap.size + 1, 3, none⟩ (.int .i64 x3)).setCell ⟨w.heap.size + 1, 4, none⟩ (.int .i64 x4)).setCell ⟨w.heap.size + 1, 5, none⟩ (.int .i64 x5)).setCell ⟨w.heap.size + 1, 6, none⟩ (.int .i64 x6)).setCell ⟨w.heap.size + 1, 7, none⟩ (.int .i64 x7)).setCell ⟨w.heap.size + 1, 8, none⟩ (.int .i64 x8)) g b m room ∧ BelK n0 b w (((((((((W.setCell ⟨w.heap.size + 1, 0, none⟩ (.int .i64 x0)).setCell ⟨w.heap.size + 1, 1, none⟩ (.int .i64 x1)).setCell ⟨w.heap.size + 1, 2, none⟩ (.int .i64 x2)).setCell ⟨w.heap.size + 1, 3, none⟩ (.int .i64 x3)).setCell ⟨w.heap.size + 1, 4, none⟩ (.int .i64 x4)).setCell ⟨w.heap.size + 1, 5, none⟩ (.int .i64 x5)).setCell ⟨w.heap.size + 1, 6, none⟩ (.int .i64 x6)).setCell ⟨w.heap.size + 1, 7, none⟩ (.int .i64 x7)).setCell ⟨w.heap.size + 1, 8, none⟩ (.int .i64 x8)) := by
  have h : T9 n0 w W g b m room f := ⟨hi, hq, hb⟩
  have h9 := (((((((((h.set hn0 h2 (j := 0) (by decide) x0).set hn0 h2 (j := 1) (by decide) x1).set hn0 h2 (j := 2) (by decide) x2).set hn0 h2 (j := 3) (by decide) x3).set hn0 h2 (j := 4) (by decide) x4).set hn0 h2 (j := 5) (by decide) x5).set hn0 h2 (j := 6) (by decide) x6).set hn0 h2 (j := 7) (by decide) x7).set hn0 h2 (j := 8) (by decide) x8)
  exact ⟨h9.row, h9.ix, h9.bel⟩
set_option maxHeartbeats 16000000 in
theorem makerNine_any (room : Int) (n0 g b : Nat) (l : List Nd) (n : Int) (w : World) (hix : Ix n0 w g b l room) (hr : Right6 l room) :
    Calls Try.prog 83 #[makerV g, .int .i64 n] w (IxN (nineZ room l n) n0 g b room w) := by
  have hn0 := hix.hB
  have hal1 := (Below.refl w.heap.size w).alloc (Nat.le_refl _) (.cells #[.pointer (some ⟨g, 0, none⟩)] 73)
  have hal := hal1.alloc hal1.size (.cells #[.int .i64 0, .int .i64 0, .int .i64 0, .int .i64 0, .int .i64 0, .int .i64 0, .int .i64 0, .int .i64 0, .int .i64 0] 110)
  have hM : MB ((w.alloc (.cells #[.pointer (some ⟨g, 0, none⟩)] 73)).alloc (.cells #[.int .i64 0, .int .i64 0, .int .i64 0, .int .i64 0, .int .i64 0, .int .i64 0, .int .i64 0, .int .i64 0, .int .i64 0] 110)) w.heap.size g := heap_old (heap_alloc_new w _)
  have hQ : N9 ((w.alloc (.cells #[.pointer (some ⟨g, 0, none⟩)] 73)).alloc (.cells #[.int .i64 0, .int .i64 0, .int .i64 0, .int .i64 0, .int .i64 0, .int .i64 0, .int .i64 0, .int .i64 0, .int .i64 0] 110)) (w.heap.size + 1) (fun _ => 0) := heap_new (by simp)
  have hlv := level_any room n0 g b l n _ (hix.below hal) hr
  have m0 := hM.c
  have HIX := Lib.hid (hix.below hal)
  have HM := Lib.hid hM
  have HQ := Lib.hid hQ
  have HA := Lib.hid (BelK.of (b := b) hal hn0)
  have HR := Lib.hid hr
  clear hix hr hal hal1 hM hQ
  by_cases h2 : levI l n < 2
  · have hz : nineZ room l n = (l, fun _ => 0, 1) := if_pos h2
    rw [hz]
    generalize levI l n = lv at *
    clear hz
    go_enter Try.func83, Try.ntmps83
    go_wp2_with fail
    refine hlv.mono ?_
    generalize ((w.alloc (.cells #[.pointer (some ⟨g, 0, none⟩)] 73)).alloc (.cells #[.int .i64 0, .int .i64 0, .int .i64 0, .int .i64 0, .int .i64 0, .int .i64 0, .int .i64 0, .int .i64 0, .int .i64 0] 110)) = v0 at *
    rintro r w1 ⟨rfl, hb1⟩
    have hq1 := HQ.out.below hb1
    have hb1k := HA.out.more hb1 hn0
    have hi1 := HIX.out.below hb1
    have h2l := HR.out.two
    have r0 := hq1.c (p := 0) (by decide)
    have f0 := hq1.f 0
    have r1 := hq1.c (p := 1) (by decide)
    have f1 := hq1.f 1
    have r2 := hq1.c (p := 2) (by decide)
    have f2 := hq1.f 2
    have r3 := hq1.c (p := 3) (by decide)
    have f3 := hq1.f 3
    have r4 := hq1.c (p := 4) (by decide)
    have f4 := hq1.f 4
    have r5 := hq1.c (p := 5) (by decide)
    have f5 := hq1.f 5
    have r6 := hq1.c (p := 6) (by decide)
    have f6 := hq1.f 6
    have r7 := hq1.c (p := 7) (by decide)
    have f7 := hq1.f 7
    have r8 := hq1.c (p := 8) (by decide)
    have f8 := hq1.f 8
    have HT := Lib.hid (t9_all hn0 h2l hi1 hq1 hb1k 0 0 0 0 0 0 0 0 0)
    clear hlv hb1 m0 HM HQ HA HIX hi1 hb1k hq1
    go_wp2_with fail
    clear r0 f0 r1 f1 r2 f2 r3 f3 r4 f4 r5 f5 r6 f6 r7 f7 r8 f8
    refine bodyPost_ret (results_cell_tmp rfl _ _ _ _ _ _ _ rfl HT.out.1 Try.underlying110 rfl (by kernel_rfl)) rfl ?_
    exact ⟨rfl, HT.out.2.1, HT.out.2.2⟩
  · obtain ⟨e, k, rfl, hn, he, hle⟩ := lev_is HR.out (n := n) (by omega)
    have hz : nineZ room l (k : Int) = if (nineTo room l k 9).2.2 = 0 then nineTo room l k 9 else ((nineTo room l k 9).1, fun _ => 0, (nineTo room l k 9).2.2) := by
      unfold nineZ
      rw [if_neg h2, Int.toNat_natCast]
    obtain ⟨z, hzz⟩ : ∃ z, z = nineZ room l (k : Int) := ⟨_, rfl⟩
    rw [← hzz] at hz ⊢
    have HZ := Lib.hid hz
    have HN := Lib.hid hn
    rw [hle] at hlv
    have hl2 : ¬ (e : Int) + 2 < 2 := by omega
    obtain ⟨v, hv⟩ : ∃ v : Nat → Int, v = v16 l k := ⟨_, rfl⟩
    have hsx := fun W hW => sixteen_any room n0 g b e l k W hW HR.out HN.out
    have hsq := fun y x hy hx => sqV_sqK l k y x hy hx
    rw [← hv] at hsx hsq
    have HSQ := Lib.hid hsq
    clear hz hzz hn h2 hle hv hsq
    go_enter Try.func83, Try.ntmps83
    go_wp2_with fail
    refine hlv.mono ?_
    generalize ((w.alloc (.cells #[.pointer (some ⟨g, 0, none⟩)] 73)).alloc (.cells #[.int .i64 0, .int .i64 0, .int .i64 0, .int .i64 0, .int .i64 0, .int .i64 0, .int .i64 0, .int .i64 0, .int .i64 0] 110)) = v0 at *
    rintro r w1 ⟨rfl, hb1⟩
    have HI := Lib.hid (HIX.out.below hb1)
    have HB := Lib.hid (HA.out.more hb1 hn0)
    have HM1 := Lib.hid (HM.out.below hb1)
    have HQ1 := Lib.hid (HQ.out.below hb1)
    have m1 := HM1.out.c
    have hsx := hsx w1 HI.out
    clear hlv hb1 m0 HIX HM HA HQ
    go_wp2_with fail
    refine hsx.mono ?_
    rintro r w2 ⟨rfl, hb2⟩
    have hal := (Below.refl w2.heap.size w2).alloc (Nat.le_refl _) (.cells (row16 v) 119)
    have hal2 := hal.alloc hal.size (.cells #[.int .i64 0, .int .i64 0, .int .i64 0, .int .i64 0, .int .i64 0, .int .i64 0, .int .i64 0, .int .i64 0, .int .i64 0] 110)
    have hb' := Qt.more (B := w1.heap.size) hb2 hb2.size hal2
    have hsz : (w2.alloc (.cells (row16 v) 119)).heap.size = w2.heap.size + 1 := by simp
    have H0 := Lib.hid (show NnAt n0 w ((w2.alloc (.cells (row16 v) 119)).alloc (.cells #[.int .i64 0, .int .i64 0, .int .i64 0, .int .i64 0, .int .i64 0, .int .i64 0, .int .i64 0, .int .i64 0, .int .i64 0] 110)) g b w2.heap.size l room v (fun _ => 0) from
      ⟨HI.out.below hb', HM1.out.below hb', HQ1.out.below hb', heap_old (heap_new rfl), heap_new hsz, HB.out.more hb' hn0, by have := lt_heap6 HQ1.out; have := hb2.size; omega⟩)
    clear hsx hb2 hb' hal hal2 HI HB HM1 HQ1 m1 hsz
    go_wp2_with fail
    generalize ((w2.alloc (.cells (row16 v) 119)).alloc (.cells #[.int .i64 0, .int .i64 0, .int .i64 0, .int .i64 0, .int .i64 0, .int .i64 0, .int .i64 0, .int .i64 0, .int .i64 0] 110)) = v2 at *
    generalize w2.heap.size = pb at *
    go_loopw [18] (fun u wr => ∃ (i : Nat) (m : List Nd) (f : Nat → Int), i ≤ 9 ∧ u = .int .i64 i ∧ Hid (NnAt n0 w wr g b pb m room v f ∧ nineTo room l k i = (m, f, 0))) (fun u _ => 9 - (intOf u).toNat)
    case atStart => exact ⟨0, l, fun _ => 0, by decide, rfl, H0.out, rfl⟩
    case round =>
      obtain ⟨i, m, f, hi, rfl, HH⟩ := hrel
      obtain ⟨H, hto⟩ := HH.out
      have hm6 : Right6 m room := by
        have := nineTo_right HR.out (n := k) i
        rw [hto] at this
        exact this
      by_cases hlt : i < 9
      · obtain ⟨⟨ml, p, ee⟩, hpp⟩ : ∃ z, z = put6 m room (sqK l k (i / 3) (i % 3)) := ⟨_, rfl⟩
        have hnext : nineTo room l k (i + 1) = (ml, fun j => if j = i then p else f j, ee) := by
          show (if (nineTo room l k i).2.2 = 0 then _ else _) = _
          rw [hto, if_pos rfl, ← hpp]
        have HP := Lib.hid hpp
        have HX := Lib.hid hnext
        have HW := Lib.hid H
        have HR6 := Lib.hid hm6
        have h2l : 2 ≤ ml.length := by
          have := put_right hm6 (sqK l k (i / 3) (i % 3))
          rw [← hpp] at this
          exact this.two
        have hq : ∀ W, MB W w.heap.size g ∧ S16 W pb v → W.cell? ⟨w.heap.size, 0, none⟩ = some (.pointer (some ⟨g, 0, none⟩)) := fun W hW => hW.1.c
        have hC0 : MB wr.drew w.heap.size g ∧ S16 wr.drew pb v := ⟨H.mb, H.six⟩
        clear hpp hnext HH hto H hm6
        have hltz : (i : Int) < 9 := by omega
        go_wp2_with fail
        refine region_calm_to (fun W => MB W w.heap.size g ∧ S16 W pb v) (fun (a0 a9 : Act) (w9 : World) => a9 = (((((((((((((((a0.put (some 22) (.int .i64 (i : Int))).put (some 23) (.pointer (some ⟨w.heap.size, 0, none⟩))).put (some 24) (.pointer (some ⟨g, 0, none⟩))).put (some 25) (.agg (row16 v))).put (some 26) (.int .i64 (i : Int))).put (some 27) (.int .i64 ((i / 3 : Nat) : Int))).put (some 28) (.int .i64 (i : Int))).put (some 29) (.int .i64 ((i % 3 : Nat) : Int))).put (some 30) (kidsV (sqK l k (i / 3) (i % 3)))).put (some 31) (.tuple #[.int .i64 p, .int .i64 ee])).put (some 21) (.tuple #[.int .i64 p, .int .i64 ee])).put (some 32) (.int .i64 p)).put (some 33) (.int .i64 ee)).put (some 34) (.pointer (some ⟨pb + 1, i, none⟩))).put (some 9) (.int .i64 ee)) ∧ NnAt n0 w w9 g b pb ml room v (fun j => if j = i then p else f j)) (.calm 0 (.calm 1 (.calm 2 (.calm 3 (.calm 4 (.calm 5 (.calm 6 (.calm 7 (.only 8 (.only 9 (.calm 10 (.calm 11 (.calm 12 (.calm 13 (.only 14 (.calm 15 .done)))))))))))))))) (by kernel_rfl) (by kernel_rfl) (by kernel_rfl) (by rfl) hC0 ?_ ?_
        · skip
          refine ⟨_, _, (.int .i64 (i : Int)), rfl, rfl, ⟨rfl, fun W hW => by first | exact ⟨rfl, rfl⟩ | (simp only [Act.eval, execOp]; go_simp; try exact ⟨rfl, rfl⟩)⟩, ?_⟩
          simp only [Act.put, List.getElem_toArray, List.getElem_cons_zero, List.getElem_cons_succ, List.setIfInBounds_toArray, List.set_cons_succ, List.set_cons_zero]
          refine ⟨_, _, (.pointer (some ⟨w.heap.size, 0, none⟩)), rfl, rfl, ⟨rfl, fun W hW => by first | exact ⟨rfl, rfl⟩ | (simp only [Act.eval, execOp]; go_simp; try exact ⟨rfl, rfl⟩)⟩, ?_⟩
          simp only [Act.put, List.getElem_toArray, List.getElem_cons_zero, List.getElem_cons_succ, List.setIfInBounds_toArray, List.set_cons_succ, List.set_cons_zero]
          refine ⟨_, _, (.pointer (some ⟨g, 0, none⟩)), rfl, rfl, ⟨rfl, fun W hW => by have q := hq W hW; simp only [execOp]; go_simp; done⟩, ?_⟩
          simp only [Act.put, List.getElem_toArray, List.getElem_cons_zero, List.getElem_cons_succ, List.setIfInBounds_toArray, List.set_cons_succ, List.set_cons_zero]
          refine ⟨_, _, (.agg (row16 v)), rfl, rfl, ⟨rfl, fun W hW => by exact load16_quiet W pb v hW.2 _ _ _ rfl rfl⟩, ?_⟩
          simp only [Act.put, List.getElem_toArray, List.getElem_cons_zero, List.getElem_cons_succ, List.setIfInBounds_toArray, List.set_cons_succ, List.set_cons_zero]
          refine ⟨_, _, (.int .i64 (i : Int)), rfl, rfl, ⟨rfl, fun W hW => by first | exact ⟨rfl, rfl⟩ | (simp only [Act.eval, execOp]; go_simp; try exact ⟨rfl, rfl⟩)⟩, ?_⟩
          simp only [Act.put, List.getElem_toArray, List.getElem_cons_zero, List.getElem_cons_succ, List.setIfInBounds_toArray, List.set_cons_succ, List.set_cons_zero]
          refine ⟨_, _, (.int .i64 ((i / 3 : Nat) : Int)), rfl, rfl, ⟨rfl, fun W hW => by exact quo3_quiet W i hlt _ _ _ _ rfl rfl rfl⟩, ?_⟩
          simp only [Act.put, List.getElem_toArray, List.getElem_cons_zero, List.getElem_cons_succ, List.setIfInBounds_toArray, List.set_cons_succ, List.set_cons_zero]
          refine ⟨_, _, (.int .i64 (i : Int)), rfl, rfl, ⟨rfl, fun W hW => by first | exact ⟨rfl, rfl⟩ | (simp only [Act.eval, execOp]; go_simp; try exact ⟨rfl, rfl⟩)⟩, ?_⟩
          simp only [Act.put, List.getElem_toArray, List.getElem_cons_zero, List.getElem_cons_succ, List.setIfInBounds_toArray, List.set_cons_succ, List.set_cons_zero]
          refine ⟨_, _, (.int .i64 ((i % 3 : Nat) : Int)), rfl, rfl, ⟨rfl, fun W hW => by exact rem3_quiet W i hlt _ _ _ _ rfl rfl rfl⟩, ?_⟩
          simp only [Act.put, List.getElem_toArray, List.getElem_cons_zero, List.getElem_cons_succ, List.setIfInBounds_toArray, List.set_cons_succ, List.set_cons_zero]
          refine ⟨_, rfl, ?_⟩
          go_wp2_with fail
          refine (sqB_any v (i / 3) (i % 3) (by omega) (by omega) wr.drew).mono ?_
          rw [HSQ.out (i / 3) (i % 3) (by omega) (by omega)]
          rintro r w8 ⟨rfl, hb8⟩
          have hbb := Qt.more (below_drew wr) (Nat.le_refl _) hb8
          have hC : MB w8 w.heap.size g ∧ S16 w8 pb v := ⟨HW.out.mb.below hbb, HW.out.six.below hbb⟩
          have hW8 := HW.out.step (HW.out.ix.below hbb) (.of hbb HW.out.ix.hB)
          clear hb8 hbb
          go_wp2_with fail
          refine ⟨rfl, hC, ?_⟩
          refine ⟨_, rfl, ?_⟩
          go_wp2_with fail
          have hin := intern_anyK n0 g b m room (sqK l k (i / 3) (i % 3)) w8 hW8.ix HR6.out
          rw [show put6 m room (sqK l k (i / 3) (i % 3)) = (ml, p, ee) from HP.out.symm] at hin
          refine hin.mono ?_
          rintro r w9 ⟨rfl, hi9, hb9⟩
          have hW9 := hW8.step hi9 hb9
          have hC : MB w9 w.heap.size g ∧ S16 w9 pb v := ⟨hW9.mb, hW9.six⟩
          have of := hW9.out.f i
          have oc := hW9.out.c (p := i) hlt
          have hWA := hW9.put hn0 h2l (j := i) hlt p
          have hCA : MB (w9.setCell ⟨pb + 1, i, none⟩ (.int .i64 p)) w.heap.size g ∧ S16 (w9.setCell ⟨pb + 1, i, none⟩ (.int .i64 p)) pb v := ⟨hWA.mb, hWA.six⟩
          go_wp2_with fail
          refine ⟨rfl, hC, ?_⟩
          refine ⟨_, _, (.tuple #[.int .i64 p, .int .i64 ee]), rfl, rfl, ⟨rfl, fun W hW => by first | exact ⟨rfl, rfl⟩ | (simp only [Act.eval, execOp]; go_simp; try exact ⟨rfl, rfl⟩)⟩, ?_⟩
          simp only [Act.put, List.getElem_toArray, List.getElem_cons_zero, List.getElem_cons_succ, List.setIfInBounds_toArray, List.set_cons_succ, List.set_cons_zero]
          refine ⟨_, _, (.int .i64 p), rfl, rfl, ⟨rfl, fun W hW => by first | exact ⟨rfl, rfl⟩ | (simp only [Act.eval, execOp]; go_simp; try exact ⟨rfl, rfl⟩)⟩, ?_⟩
          simp only [Act.put, List.getElem_toArray, List.getElem_cons_zero, List.getElem_cons_succ, List.setIfInBounds_toArray, List.set_cons_succ, List.set_cons_zero]
          refine ⟨_, _, (.int .i64 ee), rfl, rfl, ⟨rfl, fun W hW => by first | exact ⟨rfl, rfl⟩ | (simp only [Act.eval, execOp]; go_simp; try exact ⟨rfl, rfl⟩)⟩, ?_⟩
          simp only [Act.put, List.getElem_toArray, List.getElem_cons_zero, List.getElem_cons_succ, List.setIfInBounds_toArray, List.set_cons_succ, List.set_cons_zero]
          refine ⟨_, _, (.pointer (some ⟨pb + 1, i, none⟩)), rfl, rfl, ⟨rfl, fun W hW => by first | exact ⟨rfl, rfl⟩ | (simp only [Act.eval, execOp]; go_simp; try exact ⟨rfl, rfl⟩)⟩, ?_⟩
          simp only [Act.put, List.getElem_toArray, List.getElem_cons_zero, List.getElem_cons_succ, List.setIfInBounds_toArray, List.set_cons_succ, List.set_cons_zero]
          refine ⟨_, rfl, ?_⟩
          go_wp2_with fail
          refine ⟨rfl, hCA, ?_⟩
          refine ⟨_, _, (.int .i64 ee), rfl, rfl, ⟨rfl, fun W hW => by first | exact ⟨rfl, rfl⟩ | (simp only [Act.eval, execOp]; go_simp; try exact ⟨rfl, rfl⟩)⟩, ?_⟩
          simp only [Act.put, List.getElem_toArray, List.getElem_cons_zero, List.getElem_cons_succ, List.setIfInBounds_toArray, List.set_cons_succ, List.set_cons_zero]
          refine ⟨?_, hWA⟩
          first | rfl | simp only [Act.put, List.getElem_toArray, List.getElem_cons_zero, List.getElem_cons_succ, List.setIfInBounds_toArray, List.set_cons_succ, List.set_cons_zero]
        rintro a9 w9 ⟨rfl, hW9⟩
        simp only [Act.put, List.getElem_toArray, List.getElem_cons_zero, List.getElem_cons_succ, List.setIfInBounds_toArray, List.set_cons_succ, List.set_cons_zero]
        have HF := Lib.hid hW9
        clear hq hC0 hW9 HW HP
        by_cases hee : ee = 0
        · subst hee
          go_wp2_with fail
          go_roundw
          case measure => simp [intOf]; omega
          case rel => exact ⟨i + 1, ml, _, by omega, by go_num, HF.out, HX.out⟩
        · have hzz : z = (ml, fun _ => 0, ee) := by
            have hst := nineTo_stop (room := room) (l := l) (n := k) (i := i + 1) (by rw [HX.out]; exact hee) (9 - (i + 1))
            rw [show i + 1 + (9 - (i + 1)) = 9 by omega] at hst
            have hst : nineTo room l k 9 = (ml, fun j => if j = i then p else f j, ee) := hst.trans HX.out
            rw [HZ.out, hst, if_neg hee]
          subst hzz
          have hq1 := HF.out.res
          have hb1k := HF.out.bel
          have hi1 := HF.out.ix
          have r0 := hq1.c (p := 0) (by decide)
          have f0 := hq1.f 0
          have r1 := hq1.c (p := 1) (by decide)
          have f1 := hq1.f 1
          have r2 := hq1.c (p := 2) (by decide)
          have f2 := hq1.f 2
          have r3 := hq1.c (p := 3) (by decide)
          have f3 := hq1.f 3
          have r4 := hq1.c (p := 4) (by decide)
          have f4 := hq1.f 4
          have r5 := hq1.c (p := 5) (by decide)
          have f5 := hq1.f 5
          have r6 := hq1.c (p := 6) (by decide)
          have f6 := hq1.f 6
          have r7 := hq1.c (p := 7) (by decide)
          have f7 := hq1.f 7
          have r8 := hq1.c (p := 8) (by decide)
          have f8 := hq1.f 8
          have HT := Lib.hid (t9_all hn0 h2l hi1 hq1 hb1k 0 0 0 0 0 0 0 0 0)
          clear HF HX HZ hq1 hb1k hi1
          go_wp2_with fail
          clear r0 f0 r1 f1 r2 f2 r3 f3 r4 f4 r5 f5 r6 f6 r7 f7 r8 f8
          refine bodyPost_ret (results_cell_tmp rfl _ _ _ _ _ _ _ rfl HT.out.1 Try.underlying110 rfl (by kernel_rfl)) rfl ?_
          exact ⟨rfl, HT.out.2.1, HT.out.2.2⟩
      · obtain rfl : i = 9 := by omega
        have hzz : z = (m, f, 0) := by rw [HZ.out, hto, if_pos rfl]
        subst hzz
        have hq1 := H.res
        have hb1k := H.bel
        have hi1 := H.ix
        have h2l := hm6.two
        have r0 := hq1.c (p := 0) (by decide)
        have f0 := hq1.f 0
        have r1 := hq1.c (p := 1) (by decide)
        have f1 := hq1.f 1
        have r2 := hq1.c (p := 2) (by decide)
        have f2 := hq1.f 2
        have r3 := hq1.c (p := 3) (by decide)
        have f3 := hq1.f 3
        have r4 := hq1.c (p := 4) (by decide)
        have f4 := hq1.f 4
        have r5 := hq1.c (p := 5) (by decide)
        have f5 := hq1.f 5
        have r6 := hq1.c (p := 6) (by decide)
        have f6 := hq1.f 6
        have r7 := hq1.c (p := 7) (by decide)
        have f7 := hq1.f 7
        have r8 := hq1.c (p := 8) (by decide)
        have f8 := hq1.f 8
        have o0 := H.out.c (p := 0) (by decide)
        have o1 := H.out.c (p := 1) (by decide)
        have o2 := H.out.c (p := 2) (by decide)
        have o3 := H.out.c (p := 3) (by decide)
        have o4 := H.out.c (p := 4) (by decide)
        have o5 := H.out.c (p := 5) (by decide)
        have o6 := H.out.c (p := 6) (by decide)
        have o7 := H.out.c (p := 7) (by decide)
        have o8 := H.out.c (p := 8) (by decide)
        have HT := Lib.hid (t9_all hn0 h2l hi1 hq1 hb1k (f 0) (f 1) (f 2) (f 3) (f 4) (f 5) (f 6) (f 7) (f 8))
        clear HH HZ H hto hm6 hq1 hb1k hi1
        go_wp2_with fail
        clear r0 f0 r1 f1 r2 f2 r3 f3 r4 f4 r5 f5 r6 f6 r7 f7 r8 f8 o0 o1 o2 o3 o4 o5 o6 o7 o8
        refine bodyPost_ret (results_cell_tmp rfl _ _ _ _ _ _ _ rfl HT.out.1 Try.underlying110 rfl (by kernel_rfl)) rfl ?_
        exact ⟨rfl, HT.out.2.1, HT.out.2.2⟩
end Go.Proofs.Ytklccoodfhejbaa
namespace Go.Proofs.Ytklccoodfhejbaa
set_option maxRecDepth 100000
set_option linter.unusedVariables false
set_option linter.unusedSimpArgs false

abbrev Zn := List Nd × Int × Int
/-- one thing, and then another; the first error ends it -/
def andZ {α : Type} (z : List Nd × α × Int) (f : List Nd → α → Zn) : Zn := if z.2.2 = 0 then f z.1 z.2.1 else (z.1, 0, z.2.2)
/-- of some numbers, in order, what comes of each; the first error ends it -/
def eachTo (f : List Nd → Int → Zn) (l : List Nd) (p : Nat → Int) : Nat → List Nd × (Nat → Int) × Int
  | 0 => (l, p, 0)
  | i + 1 => if (eachTo f l p i).2.2 = 0 then ((f (eachTo f l p i).1 (p i)).1, fun t => if t = i then (f (eachTo f l p i).1 (p i)).2.1 else (eachTo f l p i).2.1 t, (f (eachTo f l p i).1 (p i)).2.2) else eachTo f l p i
/-- which of the nine each of the four begins with -/
def cornP (i : Nat) : Int := ((i / 2 * 3 + i % 2 : Nat) : Int)
/-- the kids of one of the four -/
def overK (q : Nat → Int) (i : Int) : Kd := (q i.toNat, q (i.toNat + 1), q (i.toNat + 3), q (i.toNat + 4))
def fourK (q : Nat → Int) : Kd := (q 0, q 1, q 2, q 3)
/-- a leap of a level from 3 on, by what is done at first, and then -/
def farZ (room : Int) (first second : List Nd → Int → Zn) (l : List Nd) (n : Int) : Zn :=
  andZ (nineZ room l n) fun l1 p => andZ (eachTo first l1 p 9) fun l2 q => andZ (eachTo (fun m i => put6 m room (overK q i)) l2 cornP 4) fun l3 r => andZ (eachTo second l3 r 4) fun l4 s => put6 l4 room (fourK s)
/-- a leap of a node of the level e + 2 -/
def leapN (room : Int) : Nat → Nat → List Nd → Int → Zn
  | 0, _, l, n => stepZ room l n
  | e + 1, j, l, n => farZ room (if j = e + 1 then leapN room e (min j e) else centreZ room) (leapN room e (min j e)) l n

/-- what is made of a store: an error, for want of room, or a node that is found again from then on -/
def DoneR (room : Int) (l : List Nd) (f : List Nd → Zn) (N : Nat) (Q : List Nd → Nat → Prop) : Prop :=
  ((f l).2.2 = 40 ∧ room < ((l.length + N : Nat) : Int)) ∨ ∃ (m : List Nd) (p : Nat), f l = (m, (p : Int), 0) ∧ Grows l m ∧ Right6 m room ∧ m.length ≤ l.length + N ∧ Q m p ∧ ∀ b, Grows m b → Right6 b room → f b = (b, (p : Int), 0)
/-- some of these, one behind the other -/
def ManyR {α : Type} (room : Int) (l : List Nd) (f : List Nd → List Nd × α × Int) (N : Nat) (Q : List Nd → α → Prop) : Prop :=
  ((f l).2.2 = 40 ∧ room < ((l.length + N : Nat) : Int)) ∨ ∃ (m : List Nd) (q : α), f l = (m, q, 0) ∧ Grows l m ∧ Right6 m room ∧ m.length ≤ l.length + N ∧ Q m q ∧ ∀ b, Grows m b → Right6 b room → f b = (b, q, 0)
section
variable {room : Int} {l : List Nd} {N M : Nat}
theorem DoneR.mono {f : List Nd → Zn} {Q Q' : List Nd → Nat → Prop} (h : DoneR room l f N Q) (hN : N ≤ M) (hQ : ∀ m p, Grows l m → Right6 m room → Q m p → Q' m p) : DoneR room l f M Q' := by
  rcases h with ⟨h1, h2⟩ | ⟨m, p, e, g, r, len, q, a⟩
  · exact .inl ⟨h1, by omega⟩
  · exact .inr ⟨m, p, e, g, r, by omega, hQ m p g r q, a⟩
theorem put_done (hr : Right6 l room) {k : Kd} (hk : Fit4 l k) : DoneR room l (fun m => put6 m room k) 1 (fun m p => at6 m k = some p) := by
  rcases put_ok hr hk with ⟨m, n, e, hp⟩ | ⟨e, h1, h2⟩
  · exact .inr ⟨m, n, e, hp.grows, hp.right, hp.more, hp.at_, fun b g r => put_again (g.fit4 (hp.grows.fit4 hk)) (g.at_ hp.at_)⟩
  · exact .inl ⟨by show (put6 l room k).2.2 = 40; rw [e], by omega⟩
/-- one thing, and then another -/
theorem and_done {α : Type} {z : List Nd → List Nd × α × Int} {f : List Nd → α → Zn} {Q : List Nd → α → Prop} {Q' : List Nd → Nat → Prop} (h : ManyR room l z N Q) (hf : ∀ m q, Grows l m → Right6 m room → Q m q → DoneR room m (fun b => f b q) M Q') : DoneR room l (fun b => andZ (z b) f) (N + M) Q' := by
  rcases h with ⟨h1, h2⟩ | ⟨m, q, e, g, r, len, hq, a⟩
  · left
    have e : andZ (z l) f = ((z l).1, 0, (z l).2.2) := by unfold andZ; rw [if_neg (by rw [h1]; decide)]
    exact ⟨by show (andZ (z l) f).2.2 = 40; rw [e]; exact h1, by omega⟩
  · have e0 : andZ (z l) f = f m q := by unfold andZ; rw [e, if_pos rfl]
    rcases hf m q g r hq with ⟨h1, h2⟩ | ⟨m', p, e', g', r', len', hq', a'⟩
    · exact .inl ⟨by show (andZ (z l) f).2.2 = 40; rw [e0]; exact h1, by omega⟩
    · refine .inr ⟨m', p, by show andZ (z l) f = _; rw [e0]; exact e', g.trans g', r', by omega, hq', fun b gb rb => ?_⟩
      show andZ (z b) f = _
      rw [a b (g'.trans gb) rb]
      unfold andZ
      rw [if_pos rfl]
      exact a' b gb rb
theorem each_done {f : List Nd → Int → Zn} {p : Nat → Int} {K : Nat} {Q : Nat → List Nd → Nat → Prop} (hr : Right6 l room) (hQ : ∀ i m b q, i < K → Q i m q → Grows m b → Right6 b room → Q i b q)
    (h : ∀ i, i < K → ∀ m, Grows l m → Right6 m room → DoneR room m (fun b => f b (p i)) N (Q i)) : ∀ i, i ≤ K →
    ManyR room l (fun b => eachTo f b p i) (i * N) (fun m q => ∀ t, t < i → ∃ q' : Nat, q t = (q' : Int) ∧ Q t m q')
  | 0, _ => .inr ⟨l, p, rfl, Grows.refl l, hr, by omega, fun t ht => absurd ht (Nat.not_lt_zero t), fun b _ _ => rfl⟩
  | i + 1, hi => by
    have hm : (i + 1) * N = i * N + N := Nat.succ_mul i N
    rcases each_done hr hQ h i (by omega) with ⟨h1, h2⟩ | ⟨m, q, e, g, r, len, hq, a⟩
    · left
      have e : eachTo f l p (i + 1) = eachTo f l p i := by
        show (if (eachTo f l p i).2.2 = 0 then _ else eachTo f l p i) = _
        rw [if_neg (by rw [show (eachTo f l p i).2.2 = 40 from h1]; decide)]
      exact ⟨by show (eachTo f l p (i + 1)).2.2 = 40; rw [e]; exact h1, by omega⟩
    · have step : ∀ b b', eachTo f b p i = (b', q, 0) → eachTo f b p (i + 1) = ((f b' (p i)).1, fun t => if t = i then (f b' (p i)).2.1 else q t, (f b' (p i)).2.2) := fun b b' hb => by
        show (if (eachTo f b p i).2.2 = 0 then _ else eachTo f b p i) = _
        rw [hb, if_pos rfl]
      have e0 := step l m e
      rcases h i (by omega) m g r with ⟨h1, h2⟩ | ⟨m', p', e', g', r', len', hq', a'⟩
      · exact .inl ⟨by show (eachTo f l p (i + 1)).2.2 = 40; rw [e0]; exact h1, by omega⟩
      · refine .inr ⟨m', fun t => if t = i then (p' : Int) else q t, ?_, g.trans g', r', by omega, fun t ht => ?_, fun b gb rb => ?_⟩
        · show eachTo f l p (i + 1) = _
          rw [e0, show f m (p i) = _ from e']
        · by_cases hti : t = i
          · subst hti
            exact ⟨p', by simp, hq'⟩
          · obtain ⟨q', e1, e2⟩ := hq t (by omega)
            exact ⟨q', by simp only [if_neg hti]; exact e1, hQ t m m' q' (by omega) e2 g' r'⟩
        · show eachTo f b p (i + 1) = _
          rw [step b b (a b (g'.trans gb) rb), show f b (p i) = _ from a' b gb rb]
end
section
variable {room : Int} {l : List Nd} {e n : Nat}
theorem lev_at {k : Nat} (hn : Is l k n) : levI l n = (k : Int) := by
  unfold levI
  have := hn.lt
  rw [if_pos (by omega), ndAt_nat, hn.lev]
theorem DoneR.congr {f f' : List Nd → Zn} {N : Nat} {Q : List Nd → Nat → Prop} (hr : Right6 l room) (he : ∀ b, Grows l b → Right6 b room → f b = f' b) (h : DoneR room l f' N Q) : DoneR room l f N Q := by
  have e0 := he l (Grows.refl l) hr
  rcases h with ⟨h1, h2⟩ | ⟨m, p, e, g, r, len, q, a⟩
  · exact .inl ⟨by rw [e0]; exact h1, h2⟩
  · exact .inr ⟨m, p, by rw [e0]; exact e, g, r, len, q, fun b gb rb => by rw [he b (g.trans gb) rb]; exact a b gb rb⟩
theorem nine_to (hr : Right6 l room) (hn : Is l (e + 2) n) (he : e + 2 ≤ 42) : ∀ i, i ≤ 9 →
    ManyR room l (fun b => nineTo room b n i) i (fun m q => ∀ t, t < i → ∃ q' : Nat, q t = (q' : Int) ∧ at6 m (sqK l n (t / 3) (t % 3)) = some q')
  | 0, _ => .inr ⟨l, fun _ => 0, rfl, Grows.refl l, hr, by omega, fun t ht => absurd ht (Nat.not_lt_zero t), fun b _ _ => rfl⟩
  | i + 1, hi => by
    rcases nine_to hr hn he i (by omega) with ⟨h1, h2⟩ | ⟨m, q, e0, g, r, len, hq, a⟩
    · left
      have e : nineTo room l n (i + 1) = nineTo room l n i := by
        show (if (nineTo room l n i).2.2 = 0 then _ else nineTo room l n i) = _
        rw [if_neg (by rw [show (nineTo room l n i).2.2 = 40 from h1]; decide)]
      exact ⟨by show (nineTo room l n (i + 1)).2.2 = 40; rw [e]; exact h1, by omega⟩
    · have step : ∀ b b', Grows l b → nineTo room b n i = (b', q, 0) → nineTo room b n (i + 1) = ((put6 b' room (sqK l n (i / 3) (i % 3))).1, fun t => if t = i then (put6 b' room (sqK l n (i / 3) (i % 3))).2.1 else q t, (put6 b' room (sqK l n (i / 3) (i % 3))).2.2) := fun b b' gb hb => by
        show (if (nineTo room b n i).2.2 = 0 then _ else nineTo room b n i) = _
        rw [hb, if_pos rfl, sqK_grows hr hn gb (by omega) (by omega)]
      have e1 := step l m (Grows.refl l) e0
      rcases put_done r (g.fit4 (sq_fit hr hn he (y := i / 3) (x := i % 3) (by omega) (by omega))) with ⟨h1, h2⟩ | ⟨m', p', e', g', r', len', hq', a'⟩
      · exact .inl ⟨by show (nineTo room l n (i + 1)).2.2 = 40; rw [e1]; exact h1, by omega⟩
      · refine .inr ⟨m', fun t => if t = i then (p' : Int) else q t, ?_, g.trans g', r', by omega, fun t ht => ?_, fun b gb rb => ?_⟩
        · show nineTo room l n (i + 1) = _
          rw [e1, show put6 m room (sqK l n (i / 3) (i % 3)) = _ from e']
        · by_cases hti : t = i
          · subst hti
            exact ⟨p', by simp, hq'⟩
          · obtain ⟨q', e1, e2⟩ := hq t (by omega)
            exact ⟨q', by simp only [if_neg hti]; exact e1, g'.at_ e2⟩
        · show nineTo room b n (i + 1) = _
          rw [step b b (g.trans (g'.trans gb)) (a b (g'.trans gb) rb), show put6 b room (sqK l n (i / 3) (i % 3)) = _ from a' b gb rb]
theorem nine_done (hr : Right6 l room) (hn : Is l (e + 2) n) (he : e + 2 ≤ 42) : ManyR room l (fun b => nineZ room b n) 9 (fun m q => ∀ t, t < 9 → ∃ q' : Nat, q t = (q' : Int) ∧ at6 m (sqK l n (t / 3) (t % 3)) = some q') := by
  have e9 : ∀ b, Grows l b → nineZ room b n = if (nineTo room b n 9).2.2 = 0 then nineTo room b n 9 else ((nineTo room b n 9).1, fun _ => 0, (nineTo room b n 9).2.2) := fun b g => by
    unfold nineZ
    rw [lev_at (hn.grows g), if_neg (by omega), Int.toNat_natCast]
  rcases nine_to hr hn he 9 (Nat.le_refl _) with ⟨h1, h2⟩ | ⟨m, q, e0, g, r, len, hq, a⟩
  · exact .inl ⟨by show (nineZ room l n).2.2 = 40; rw [e9 l (Grows.refl l), if_neg (by rw [show (nineTo room l n 9).2.2 = 40 from h1]; decide)]; exact h1, h2⟩
  · refine .inr ⟨m, q, ?_, g, r, len, hq, fun b gb rb => ?_⟩
    · show nineZ room l n = _
      rw [e9 l (Grows.refl l), show nineTo room l n 9 = _ from e0, if_pos rfl]
    · show nineZ room b n = _
      rw [e9 b (g.trans gb), show nineTo room b n 9 = _ from a b gb rb, if_pos rfl]
theorem centre_done (hr : Right6 l room) (hn : Is l (e + 2) n) (he : e + 2 ≤ 42) : DoneR room l (fun b => centreZ room b n) 1 (fun m p => at6 m (sqK l n 1 1) = some p) := by
  refine (put_done hr (sq_fit hr hn he (y := 1) (x := 1) (by decide) (by decide))).congr hr fun b g rb => ?_
  unfold centreZ
  rw [lev_at (hn.grows g), if_neg (by omega), Int.toNat_natCast, sqK_grows hr hn g (by decide) (by decide)]
theorem step_done (hr : Right6 l room) (hn : Is l 2 n) : DoneR room l (fun b => stepZ room b n) 1 (fun m p => at6 m (stepK l n) = some p) := by
  refine (put_done hr (step_fit hr)).congr hr fun b g rb => ?_
  unfold stepZ
  rw [lev_at (hn.grows g), if_pos (by rfl), Int.toNat_natCast, stepK_grows hr hn g]
end
end Go.Proofs.Ytklccoodfhejbaa
namespace Go.Proofs.Ytklccoodfhejbaa
set_option maxRecDepth 100000
set_option linter.unusedVariables false
set_option linter.unusedSimpArgs false

abbrev Pic := Int × Int → Bool
def cnt1 (F : Pic) (a b : Int) : Nat := if F (a, b) = true then 1 else 0
def aboutF (F : Pic) (c : Int × Int) : Nat := cnt1 F (c.1 - 1) (c.2 - 1) + cnt1 F c.1 (c.2 - 1) + cnt1 F (c.1 + 1) (c.2 - 1) + cnt1 F (c.1 - 1) c.2 + cnt1 F (c.1 + 1) c.2 + cnt1 F (c.1 - 1) (c.2 + 1) + cnt1 F c.1 (c.2 + 1) + cnt1 F (c.1 + 1) (c.2 + 1)
def nextF (F : Pic) : Pic := fun c => Cel.livesB (F c) (aboutF F c : Nat)
def runF : Nat → Pic → Pic
  | 0, F => F
  | t + 1, F => runF t (nextF F)
def moveF (F : Pic) (d : Int × Int) : Pic := fun c => F (c.1 + d.1, c.2 + d.2)
theorem run_add (b : Nat) : ∀ (a : Nat) (F : Pic), runF (a + b) F = runF b (runF a F)
  | 0, F => by rw [Nat.zero_add]; rfl
  | a + 1, F => by rw [show a + 1 + b = a + b + 1 by omega]; exact run_add b a (nextF F)
theorem cnt_move (F : Pic) (d : Int × Int) (a b : Int) : cnt1 (moveF F d) a b = cnt1 F (a + d.1) (b + d.2) := rfl
theorem next_move (F : Pic) (d : Int × Int) : nextF (moveF F d) = moveF (nextF F) d := by
  funext c
  unfold nextF
  show Cel.livesB (F (c.1 + d.1, c.2 + d.2)) _ = Cel.livesB (F (c.1 + d.1, c.2 + d.2)) _
  congr 2
  unfold aboutF
  simp only [cnt_move]
  rw [show c.1 - 1 + d.1 = c.1 + d.1 - 1 by omega, show c.1 + 1 + d.1 = c.1 + d.1 + 1 by omega, show c.2 - 1 + d.2 = c.2 + d.2 - 1 by omega, show c.2 + 1 + d.2 = c.2 + d.2 + 1 by omega]
theorem run_move (d : Int × Int) : ∀ (t : Nat) (F : Pic), runF t (moveF F d) = moveF (runF t F) d
  | 0, F => rfl
  | t + 1, F => by
    show runF t (nextF (moveF F d)) = moveF (runF t (nextF F)) d
    rw [next_move, run_move d t]
theorem move_move (F : Pic) (d d' : Int × Int) : moveF (moveF F d) d' = moveF F (d'.1 + d.1, d'.2 + d.2) := by
  funext c
  show F (c.1 + d'.1 + d.1, c.2 + d'.2 + d.2) = F (c.1 + (d'.1 + d.1), c.2 + (d'.2 + d.2))
  rw [show c.1 + d'.1 + d.1 = c.1 + (d'.1 + d.1) by omega, show c.2 + d'.2 + d.2 = c.2 + (d'.2 + d.2) by omega]
/-- the same within a square of half a side R about the middle -/
def SameIn (R : Int) (F G : Pic) : Prop := ∀ a b, -R ≤ a → a < R → -R ≤ b → b < R → F (a, b) = G (a, b)
theorem SameIn.less {R R' : Int} {F G : Pic} (h : SameIn R F G) (hR : R' ≤ R) : SameIn R' F G := fun a b h1 h2 h3 h4 => h a b (by omega) (by omega) (by omega) (by omega)

/-- A node stands for a picture, as far as its square goes. -/
structure Sf (l : List Nd) (room : Int) (e n : Nat) (F : Pic) : Prop where
  right : Right6 l room
  is : Is l (e + 1) n
  low : e ≤ 41
  al : ∀ c, insideB e c = true → alive l (e + 1) n (inwardC e c) = F c
theorem in_iff {e : Nat} {a b : Int} : insideB e (a, b) = true ↔ -(2 ^ e) ≤ a ∧ a < 2 ^ e ∧ -(2 ^ e) ≤ b ∧ b < 2 ^ e := by unfold insideB; exact decide_eq_true_iff
section
variable {l m : List Nd} {room : Int} {e n p : Nat} {F G : Pic}
theorem Sf.grows (h : Sf l room e n F) (g : Grows l m) (hr : Right6 m room) : Sf m room e n F := ⟨hr, h.is.grows g, h.low, fun c hc => by rw [alive_grows h.right g _ _ _ h.is]; exact h.al c hc⟩
theorem Sf.congr (h : Sf l room e n F) (hs : SameIn (2 ^ e) F G) : Sf l room e n G := ⟨h.right, h.is, h.low, fun c hc => by
  obtain ⟨a, b⟩ := c
  obtain ⟨h1, h2, h3, h4⟩ := in_iff.1 hc
  rw [h.al _ hc]
  exact hs a b h1 h2 h3 h4⟩
theorem Sf.of (hr : Right6 l room) (hn : Is l (e + 1) n) (he : e ≤ 41) : Sf l room e n (fun c => Go.Proofs.Ytklccoodfhejbaa.alive l (e + 1) n (inwardC e c)) := ⟨hr, hn, he, fun _ _ => rfl⟩
theorem Sq.pic {S : List (Int × Int)} (h : Sq l room e n S) : Sf l room e n (fun c => decide (c ∈ S)) := ⟨h.right, h.is, h.low, fun c hc => by
  rw [Bool.eq_iff_iff, decide_eq_true_iff]
  exact h.mem hc⟩
theorem Sf.part (h : Sf l room (e + 1) n F) (g : Grows l m) (hm : Right6 m room) (hp : Is m (e + 1) p) {y x : Nat} (hy : y < 3) (hx : x < 3) (hk : (m.getD p deadN).2.1 = sqK l n y x) :
    Sf m room e p (moveF F (((x : Int) - 1) * 2 ^ e, ((y : Int) - 1) * 2 ^ e)) := by
  have hr := h.right
  refine ⟨hm, hp, by have := h.low; omega, fun c hc => ?_⟩
  obtain ⟨c1, c2⟩ := c
  obtain ⟨h1, h2, h3, h4⟩ := in_iff.1 hc
  have hP := pow_pos7 e
  have e2 : (2 : Int) ^ (e + 1) = 2 ^ e * 2 := Int.pow_succ _ _
  obtain ⟨u, hu⟩ : ∃ u : Int × Int, u = inwardC e (c1, c2) := ⟨_, rfl⟩
  have hu1 : u.1 = c1 + 2 ^ e := by rw [hu]; rfl
  have hu2 : u.2 = c2 + 2 ^ e := by rw [hu]; rfl
  rw [← hu]
  have hcb : ∀ z : Int, 0 ≤ z → z < 2 ^ e * 2 → ∃ a : Nat, z / 2 ^ e = (a : Int) ∧ a < 2 := fun z h0 h1 => by
    by_cases hz : z < 2 ^ e
    · exact ⟨0, div_zero h0 hz, by decide⟩
    · exact ⟨1, div_one hP (by omega) h1, by decide⟩
  obtain ⟨a, ha, ha2⟩ := hcb u.1 (by omega) (by omega)
  obtain ⟨b, hb, hb2⟩ := hcb u.2 (by omega) (by omega)
  have hq : q7 e u = b * 2 + a := by unfold q7; rw [ha, hb]; omega
  have hkid : kidN m p (q7 e u) = sx l n (y + b) (x + a) := by
    unfold kidN
    rw [hk, kd_sqK l n y x (q7_lt e u), hq, Int.toNat_natCast, show (b * 2 + a) / 2 = b by omega, show (b * 2 + a) % 2 = a by omega]
  obtain ⟨v, hv⟩ : ∃ v : Int × Int, v = (u.1 + 2 ^ e * (x : Int), u.2 + 2 ^ e * (y : Int)) := ⟨_, rfl⟩
  have hv1 : v.1 / 2 ^ e = ((x + a : Nat) : Int) := by rw [hv]; simp only; rw [Int.add_mul_ediv_left _ _ (by omega), ha]; omega
  have hv2 : v.2 / 2 ^ e = ((y + b : Nat) : Int) := by rw [hv]; simp only; rw [Int.add_mul_ediv_left _ _ (by omega), hb]; omega
  have hag : Agree e v u := by rw [hv]; exact agree_shift u _ _ e
  have hal : Go.Proofs.Ytklccoodfhejbaa.alive m (e + 1) p u = Go.Proofs.Ytklccoodfhejbaa.alive l (e + 1 + 1) n v := by
    show Go.Proofs.Ytklccoodfhejbaa.alive m e (kidN m p (q7 e u)) u = _
    rw [hkid, alive_grows hr g u e _ (sx_is hr h.is (by omega) (by omega)), ← alive_agree e _ hag]
    exact (alive_sx l n v hv2 hv1 (by omega) (by omega)).symm
  have hdx : ((x : Int) - 1) * 2 ^ e = 2 ^ e * (x : Int) - 2 ^ e := by rw [Int.sub_mul, Int.mul_comm]; omega
  have hdy : ((y : Int) - 1) * 2 ^ e = 2 ^ e * (y : Int) - 2 ^ e := by rw [Int.sub_mul, Int.mul_comm]; omega
  have hmulx : (2 : Int) ^ e * (x : Int) ≤ 2 ^ e * 2 := Int.mul_le_mul_of_nonneg_left (by omega) (by omega)
  have hmuly : (2 : Int) ^ e * (y : Int) ≤ 2 ^ e * 2 := Int.mul_le_mul_of_nonneg_left (by omega) (by omega)
  have hmx0 : 0 ≤ (2 : Int) ^ e * (x : Int) := Int.mul_nonneg (by omega) (by omega)
  have hmy0 : 0 ≤ (2 : Int) ^ e * (y : Int) := Int.mul_nonneg (by omega) (by omega)
  have hv3 : v = inwardC (e + 1) (c1 + ((x : Int) - 1) * 2 ^ e, c2 + ((y : Int) - 1) * 2 ^ e) := by
    rw [hv]
    unfold inwardC
    rw [e2]
    exact Prod.ext (by simp only; omega) (by simp only; omega)
  rw [hal, hv3, h.al _ (in_iff.2 (by rw [e2]; omega))]
  rfl
/-- four squares, side by side -/
theorem Sf.join (hm : Right6 m room) (hp : Is m (e + 1 + 1) p) (he : e + 1 ≤ 41) {q : Nat → Nat} (hk : ∀ k, k < 4 → kidN m p k = q k)
    (hq : ∀ k, k < 4 → Sf m room e (q k) (moveF F ((2 * ((k % 2 : Nat) : Int) - 1) * 2 ^ e, (2 * ((k / 2 : Nat) : Int) - 1) * 2 ^ e))) : Sf m room (e + 1) p F := by
  refine ⟨hm, hp, he, fun c hc => ?_⟩
  obtain ⟨c1, c2⟩ := c
  obtain ⟨h1, h2, h3, h4⟩ := in_iff.1 hc
  have hP := pow_pos7 e
  have e2 : (2 : Int) ^ (e + 1) = 2 ^ e * 2 := Int.pow_succ _ _
  rw [e2] at h1 h2 h3 h4
  have hside : ∀ z : Int, -(2 ^ e * 2) ≤ z → z < 2 ^ e * 2 → ∃ a : Nat, a < 2 ∧ (z + 2 ^ e * 2) / (2 ^ e * 2) = (a : Int) ∧ -(2 ^ e) ≤ z - (2 * (a : Int) - 1) * 2 ^ e ∧ z - (2 * (a : Int) - 1) * 2 ^ e < 2 ^ e ∧ (2 * (a : Int) - 1) * 2 ^ e = 2 ^ e * 2 * (a : Int) - 2 ^ e := fun z h0 h1 => by
    by_cases hz : z < 0
    · exact ⟨0, by decide, div_zero (by omega) (by omega), by omega, by omega, by omega⟩
    · exact ⟨1, by decide, div_one (by omega) (by omega) (by omega), by omega, by omega, by omega⟩
  obtain ⟨a, ha, ha1, ha2, ha3, ha4⟩ := hside c1 h1 h2
  obtain ⟨b, hb, hb1, hb2, hb3, hb4⟩ := hside c2 h3 h4
  have hu : inwardC (e + 1) (c1, c2) = (c1 + 2 ^ e * 2, c2 + 2 ^ e * 2) := by unfold inwardC; rw [e2]
  have hq7 : q7 (e + 1) (inwardC (e + 1) (c1, c2)) = b * 2 + a := by
    rw [hu]
    unfold q7
    rw [e2]
    simp only
    rw [ha1, hb1]
    omega
  have hs := hq (b * 2 + a) (by omega)
  rw [show (b * 2 + a) % 2 = a by omega, show (b * 2 + a) / 2 = b by omega] at hs
  obtain ⟨d, hd⟩ : ∃ d : Int × Int, d = (c1 - (2 * (a : Int) - 1) * 2 ^ e, c2 - (2 * (b : Int) - 1) * 2 ^ e) := ⟨_, rfl⟩
  have hds := hs.al d (by rw [hd]; exact in_iff.2 ⟨ha2, ha3, hb2, hb3⟩)
  have hag : Agree (e + 1) (inwardC (e + 1) (c1, c2)) (inwardC e d) := by
    have : inwardC (e + 1) (c1, c2) = ((inwardC e d).1 + 2 ^ (e + 1) * (a : Int), (inwardC e d).2 + 2 ^ (e + 1) * (b : Int)) := by
      rw [hu, hd, e2]
      unfold inwardC
      exact Prod.ext (by simp only; omega) (by simp only; omega)
    rw [this]
    exact agree_shift _ _ _ _
  show Go.Proofs.Ytklccoodfhejbaa.alive m (e + 1) (kidN m p (q7 (e + 1) (inwardC (e + 1) (c1, c2)))) (inwardC (e + 1) (c1, c2)) = _
  rw [hq7, hk _ (by omega), alive_agree (e + 1) _ hag, hds, hd]
  show F (c1 - (2 * (a : Int) - 1) * 2 ^ e + (2 * (a : Int) - 1) * 2 ^ e, c2 - (2 * (b : Int) - 1) * 2 ^ e + (2 * (b : Int) - 1) * 2 ^ e) = F (c1, c2)
  rw [Int.sub_add_cancel, Int.sub_add_cancel]
theorem sx_pic (h : Sf l room 1 n F) {y x : Nat} (hy : y < 4) (hx : x < 4) : sx l n y x = cnt1 F ((x : Int) - 2) ((y : Int) - 2) := by
  have h2 := sx_two h.right h.is hy hx
  have hin : insideB 1 ((x : Int) - 2, (y : Int) - 2) = true := in_iff.2 (by rw [show (2 : Int) ^ 1 = 2 from rfl]; omega)
  have hm := h.al _ hin
  have e1 : inwardC 1 ((x : Int) - 2, (y : Int) - 2) = ((x : Int), (y : Int)) := by
    unfold inwardC
    rw [show (2 : Int) ^ 1 = 2 from rfl]
    exact Prod.ext (by simp only; omega) (by simp only; omega)
  rw [e1, alive_sx (e := 0) l n ((x : Int), (y : Int)) (y := y) (x := x) (by rw [show (2 : Int) ^ 0 = 1 from rfl]; exact Int.ediv_one _) (by rw [show (2 : Int) ^ 0 = 1 from rfl]; exact Int.ediv_one _) hy hx] at hm
  have hm : decide (sx l n y x = 1) = F ((x : Int) - 2, (y : Int) - 2) := hm
  unfold cnt1
  rw [← hm]
  by_cases hs : sx l n y x = 1
  · rw [if_pos (decide_eq_true hs), hs]
  · rw [if_neg (by simpa using hs)]; omega
theorem nx_pic (h : Sf l room 1 n F) {y x : Nat} (hy : 1 ≤ y ∧ y < 3) (hx : 1 ≤ x ∧ x < 3) : nxK l n y x = cnt1 (nextF F) ((x : Int) - 2) ((y : Int) - 2) := by
  have hab : aboutK l n y x = aboutF F ((x : Int) - 2, (y : Int) - 2) := by
    unfold aboutK aboutF
    have ex1 : ((x - 1 : Nat) : Int) - 2 = (x : Int) - 2 - 1 := by omega
    have ex2 : ((x + 1 : Nat) : Int) - 2 = (x : Int) - 2 + 1 := by omega
    have ey1 : ((y - 1 : Nat) : Int) - 2 = (y : Int) - 2 - 1 := by omega
    have ey2 : ((y + 1 : Nat) : Int) - 2 = (y : Int) - 2 + 1 := by omega
    rw [sx_pic h (y := y - 1) (x := x - 1) (by omega) (by omega), sx_pic h (y := y - 1) (x := x) (by omega) (by omega), sx_pic h (y := y - 1) (x := x + 1) (by omega) (by omega), sx_pic h (y := y) (x := x - 1) (by omega) (by omega), sx_pic h (y := y) (x := x + 1) (by omega) (by omega), sx_pic h (y := y + 1) (x := x - 1) (by omega) (by omega), sx_pic h (y := y + 1) (x := x) (by omega) (by omega), sx_pic h (y := y + 1) (x := x + 1) (by omega) (by omega)]
    rw [ex1, ex2, ey1, ey2]
  have hme : decide (sx l n y x = 1) = F ((x : Int) - 2, (y : Int) - 2) := by
    rw [sx_pic h (by omega) (by omega)]
    unfold cnt1
    cases F ((x : Int) - 2, (y : Int) - 2) <;> rfl
  unfold nxK cnt1 nextF
  rw [hab, hme]
theorem Sf.step (h : Sf l room 1 n F) (hm : Right6 m room) (hp : Is m 1 p) (hk : (m.getD p deadN).2.1 = stepK l n) : Sf m room 0 p (nextF F) := by
  refine ⟨hm, hp, by decide, fun c hc => ?_⟩
  obtain ⟨c1, c2⟩ := c
  obtain ⟨h1, h2, h3, h4⟩ := in_iff.1 hc
  rw [show (2 : Int) ^ 0 = 1 from rfl] at h1 h2 h3 h4
  have hu : inwardC 0 (c1, c2) = (c1 + 1, c2 + 1) := rfl
  rw [hu]
  have hq : q7 0 (c1 + 1, c2 + 1) = (c2 + 1).toNat * 2 + (c1 + 1).toNat := by
    unfold q7
    rw [show (2 : Int) ^ 0 = 1 from rfl, Int.ediv_one, Int.ediv_one]
    simp only
    omega
  have hkid : kidN m p (q7 0 (c1 + 1, c2 + 1)) = nxK l n (1 + (c2 + 1).toNat) (1 + (c1 + 1).toNat) := by
    unfold kidN
    rw [hk, kd_stepK l n (q7_lt 0 _), hq, Int.toNat_natCast, show ((c2 + 1).toNat * 2 + (c1 + 1).toNat) / 2 = (c2 + 1).toNat by omega, show ((c2 + 1).toNat * 2 + (c1 + 1).toNat) % 2 = (c1 + 1).toNat by omega]
  show decide (kidN m p (q7 0 (c1 + 1, c2 + 1)) = 1) = _
  rw [hkid, nx_pic h (by omega) (by omega), show ((1 + (c1 + 1).toNat : Nat) : Int) - 2 = c1 by omega, show ((1 + (c2 + 1).toNat : Nat) : Int) - 2 = c2 by omega]
  unfold cnt1
  cases nextF F (c1, c2) <;> rfl
end
/-- how many nodes a leap makes, at most -/
def costN : Nat → Nat
  | 0 => 1
  | e + 1 => 14 + 13 * costN e
theorem cost_pos : ∀ e, 1 ≤ costN e
  | 0 => Nat.le_refl _
  | e + 1 => by unfold costN; omega
end Go.Proofs.Ytklccoodfhejbaa
namespace Go.Proofs.Ytklccoodfhejbaa
set_option maxRecDepth 100000
set_option linter.unusedVariables false
set_option linter.unusedSimpArgs false

section
variable {room : Int} {l m : List Nd} {e n p : Nat} {F : Pic}
theorem at_lev (hr : Right6 m room) {k : Kd} (ha : at6 m k = some p) (h0 : (ndAt m k.1).1 = (e : Int)) : Is m (e + 1) p := by
  obtain ⟨a1, a2, a3, _⟩ := at_some ha
  have hf := fits_iff.1 (hr.fits p a1 a2)
  have := (hf.kid 0 (by decide)).2.2
  rw [a3] at this
  have e0 : kd k 0 = k.1 := rfl
  rw [e0, h0] at this
  exact ⟨a2, by omega⟩
theorem fit_of {k : Kd} {q : Nat → Nat} (hq : ∀ i, i < 4 → kd k i = ((q i : Nat) : Int) ∧ Is m e (q i)) (he : e + 1 ≤ 42) : Fit4 m k := by
  have h0 : (ndAt m k.1).1 = (e : Int) := by
    have := hq 0 (by decide)
    rw [show k.1 = kd k 0 from rfl, this.1, ndAt_nat]
    exact this.2.lev
  refine ⟨fun i hi => ?_, by omega⟩
  obtain ⟨e1, e2⟩ := hq i hi
  rw [e1, h0, ndAt_nat]
  exact ⟨by omega, by have := e2.lt; omega, e2.lev⟩
/-- four squares side by side, put together -/
theorem join_done (hr : Right6 m room) (he : e + 1 ≤ 41) {k : Kd} {q : Nat → Nat} (hk : ∀ i, i < 4 → kd k i = ((q i : Nat) : Int))
    (hq : ∀ i, i < 4 → Sf m room e (q i) (moveF F ((2 * ((i % 2 : Nat) : Int) - 1) * 2 ^ e, (2 * ((i / 2 : Nat) : Int) - 1) * 2 ^ e))) : DoneR room m (fun b => put6 b room k) 1 (fun b p => Sf b room (e + 1) p F) := by
  refine (put_done hr (fit_of (fun i hi => ⟨hk i hi, (hq i hi).is⟩) (by omega))).mono (Nat.le_refl _) fun b p g rb ha => ?_
  obtain ⟨_, _, a3, _⟩ := at_some ha
  have h0 : (ndAt b k.1).1 = ((e + 1 : Nat) : Int) := by
    rw [show k.1 = kd k 0 from rfl, hk 0 (by decide), ndAt_nat]
    exact ((hq 0 (by decide)).is.grows g).lev
  refine Sf.join rb (at_lev rb ha h0) he (q := q) (fun i hi => ?_) fun i hi => (hq i hi).grows g rb
  unfold kidN
  rw [a3, hk i hi, Int.toNat_natCast]
theorem Sf.centre (h : Sf l room (e + 1) n F) : DoneR room l (fun b => centreZ room b n) 1 (fun b p => Sf b room e p F) := by
  have he := h.low
  refine (centre_done h.right h.is (by omega)).mono (Nat.le_refl _) fun b p g rb ha => ?_
  obtain ⟨_, _, a3, _⟩ := at_some ha
  have := h.part g rb (at_lev rb ha (sq_lev h.right h.is g (by decide) (by decide))) (y := 1) (x := 1) (by decide) (by decide) a3
  have e0 : moveF F ((((1 : Nat) : Int) - 1) * 2 ^ e, (((1 : Nat) : Int) - 1) * 2 ^ e) = F := by
    funext c
    show F (c.1 + (((1 : Nat) : Int) - 1) * 2 ^ e, c.2 + (((1 : Nat) : Int) - 1) * 2 ^ e) = F c
    rw [show (((1 : Nat) : Int) - 1) = 0 from rfl, Int.zero_mul, Int.add_zero, Int.add_zero]
  rw [e0] at this
  exact this
theorem Sf.one (h : Sf l room 1 n F) : DoneR room l (fun b => stepZ room b n) 1 (fun b p => Sf b room 0 p (nextF F)) := by
  refine (step_done h.right h.is).mono (Nat.le_refl _) fun b p g rb ha => ?_
  obtain ⟨_, _, a3, _⟩ := at_some ha
  have h0 : (ndAt b (stepK l n).1).1 = ((0 : Nat) : Int) := by
    show (ndAt b ((nxK l n 1 1 : Nat) : Int)).1 = _
    rw [ndAt_nat]
    exact (cell_is rb (nxK_lt _ _ _ _)).lev
  exact h.step rb (at_lev rb ha h0) a3
/-- the nine, each for its part -/
def dNine (e t : Nat) : Int × Int := ((((t % 3 : Nat) : Int) - 1) * 2 ^ e, (((t / 3 : Nat) : Int) - 1) * 2 ^ e)
def dFour (e i : Nat) : Int × Int := ((2 * ((i % 2 : Nat) : Int) - 1) * 2 ^ e, (2 * ((i / 2 : Nat) : Int) - 1) * 2 ^ e)
theorem Sf.nine (h : Sf l room (e + 1) n F) : ManyR room l (fun b => nineZ room b n) 9 (fun b q => ∀ t, t < 9 → ∃ q' : Nat, q t = (q' : Int) ∧ Sf b room e q' (moveF F (dNine e t))) := by
  have he := h.low
  rcases nine_done h.right h.is (by omega) with h1 | ⟨b, q, e0, g, r, len, hq, a⟩
  · exact .inl h1
  · refine .inr ⟨b, q, e0, g, r, len, fun t ht => ?_, a⟩
    obtain ⟨q', e1, ha⟩ := hq t ht
    obtain ⟨_, _, a3, _⟩ := at_some ha
    exact ⟨q', e1, h.part g r (at_lev r ha (sq_lev h.right h.is g (by omega) (by omega))) (by omega) (by omega) a3⟩
theorem quad_sum (e i k : Nat) (hi : i < 4) (hk : k < 4) : ((dFour e k).1 + (dFour e i).1, (dFour e k).2 + (dFour e i).2) = dNine (e + 1) (i / 2 * 3 + i % 2 + (k / 2 * 3 + k % 2)) := by
  have e2 : (2 : Int) ^ (e + 1) = 2 ^ e * 2 := Int.pow_succ _ _
  unfold dFour dNine
  rw [e2]
  generalize (2 : Int) ^ e = P
  have h1 : (i / 2 * 3 + i % 2 + (k / 2 * 3 + k % 2)) % 3 = i % 2 + k % 2 := by omega
  have h2 : (i / 2 * 3 + i % 2 + (k / 2 * 3 + k % 2)) / 3 = i / 2 + k / 2 := by omega
  rw [h1, h2]
  rcases (by omega : i = 0 ∨ i = 1 ∨ i = 2 ∨ i = 3) with rfl | rfl | rfl | rfl <;> rcases (by omega : k = 0 ∨ k = 1 ∨ k = 2 ∨ k = 3) with rfl | rfl | rfl | rfl <;> exact Prod.ext (by simp; omega) (by simp; omega)
theorem Many.of {α : Type} {l : List Nd} {f : List Nd → List Nd × α × Int} {N : Nat} {Q Q' : List Nd → α → Prop} (h : ManyR room l f N Q) (hQ : ∀ m q, Grows l m → Right6 m room → Q m q → Q' m q) : ManyR room l f N Q' := by
  rcases h with h1 | ⟨m, q, e0, g, r, len, hq, a⟩
  · exact .inl h1
  · exact .inr ⟨m, q, e0, g, r, len, hQ m q g r hq, a⟩
end
theorem pick_nat {p : Nat → Int} {K : Nat} {Q : Nat → Nat → Prop} (h : ∀ t, t < K → ∃ q' : Nat, p t = (q' : Int) ∧ Q t q') : ∃ p' : Nat → Nat, ∀ t, t < K → p t = ((p' t : Nat) : Int) ∧ Q t (p' t) := ⟨fun t => (p t).toNat, fun t ht => by
  obtain ⟨q', e1, e2⟩ := h t ht
  have e3 : (p t).toNat = q' := by rw [e1, Int.toNat_natCast]
  show p t = (((p t).toNat : Nat) : Int) ∧ Q t (p t).toNat
  rw [e3]
  exact ⟨e1, e2⟩⟩
/-- a leap from a level on, given what is done at first, and then -/
theorem far_done {room : Int} {l : List Nd} {e n : Nat} {F F1 F2 : Pic} {first second : List Nd → Int → Zn} {N : Nat} (hN : 1 ≤ N) (h : Sf l room (e + 2) n F)
    (h1 : ∀ (m : List Nd) (q : Nat) (d : Int × Int), Right6 m room → Sf m room (e + 1) q (moveF F d) → DoneR room m (fun b => first b q) N (fun b p => Sf b room e p (moveF F1 d)))
    (h2 : ∀ (m : List Nd) (q : Nat) (d : Int × Int), Right6 m room → Sf m room (e + 1) q (moveF F1 d) → DoneR room m (fun b => second b q) N (fun b p => Sf b room e p (moveF F2 d))) :
    DoneR room l (fun b => farZ room first second b n) (9 + (9 * N + (4 * 1 + (4 * N + 1)))) (fun b p => Sf b room (e + 1) p F2) := by
  have hlow := h.low
  unfold farZ
  refine and_done h.nine fun l1 p g1 r1 hp => ?_
  have hp' : ∃ p' : Nat → Nat, ∀ t, t < 9 → p t = ((p' t : Nat) : Int) ∧ Sf l1 room (e + 1) (p' t) (moveF F (dNine (e + 1) t)) := pick_nat hp
  obtain ⟨p', hp'⟩ := hp'
  refine and_done (each_done (f := first) (K := 9) (N := N) (Q := fun t b q => Sf b room e q (moveF F1 (dNine (e + 1) t))) r1 (fun t m b q _ hs g r => hs.grows g r) (fun t ht m g r => ?_) 9 (Nat.le_refl _)) fun l2 q g2 r2 hq => ?_
  · obtain ⟨e1, e2⟩ := hp' t ht
    rw [e1]
    exact h1 m _ _ r (e2.grows g r)
  have hq' : ∃ q' : Nat → Nat, ∀ t, t < 9 → q t = ((q' t : Nat) : Int) ∧ Sf l2 room e (q' t) (moveF F1 (dNine (e + 1) t)) := pick_nat hq
  obtain ⟨q', hq'⟩ := hq'
  refine and_done (each_done (f := fun m i => put6 m room (overK q i)) (p := cornP) (K := 4) (N := 1) (Q := fun i b r => Sf b room (e + 1) r (moveF F1 (dFour e i))) r2 (fun t m b q _ hs g r => hs.grows g r) (fun i hi m g r => ?_) 4 (Nat.le_refl _)) fun l3 s g3 r3 hs => ?_
  · refine join_done r (by omega) (q := fun k => q' (i / 2 * 3 + i % 2 + (k / 2 * 3 + k % 2))) (fun k hk => ?_) fun k hk => ?_
    · have hc : (cornP i).toNat = i / 2 * 3 + i % 2 := by unfold cornP; rw [Int.toNat_natCast]
      have := (hq' (i / 2 * 3 + i % 2 + (k / 2 * 3 + k % 2)) (by omega)).1
      unfold overK
      rw [hc]
      rcases (by omega : k = 0 ∨ k = 1 ∨ k = 2 ∨ k = 3) with rfl | rfl | rfl | rfl <;> exact this
    · rw [move_move]
      have := ((hq' (i / 2 * 3 + i % 2 + (k / 2 * 3 + k % 2)) (by omega)).2).grows g r
      rw [← quad_sum e i k hi hk] at this
      exact this
  have hs' : ∃ s' : Nat → Nat, ∀ t, t < 4 → s t = ((s' t : Nat) : Int) ∧ Sf l3 room (e + 1) (s' t) (moveF F1 (dFour e t)) := pick_nat hs
  obtain ⟨s', hs'⟩ := hs'
  refine and_done (each_done (f := second) (K := 4) (N := N) (Q := fun t b q => Sf b room e q (moveF F2 (dFour e t))) r3 (fun t m b q _ hs g r => hs.grows g r) (fun t ht m g r => ?_) 4 (Nat.le_refl _)) fun l4 u g4 r4 hu => ?_
  · obtain ⟨e1, e2⟩ := hs' t ht
    rw [e1]
    exact h2 m _ _ r (e2.grows g r)
  have hu' : ∃ u' : Nat → Nat, ∀ t, t < 4 → u t = ((u' t : Nat) : Int) ∧ Sf l4 room e (u' t) (moveF F2 (dFour e t)) := pick_nat hu
  obtain ⟨u', hu'⟩ := hu'
  refine join_done r4 (by omega) (q := u') (fun k hk => ?_) fun k hk => (hu' k hk).2
  have := (hu' k hk).1
  unfold fourK
  rcases (by omega : k = 0 ∨ k = 1 ∨ k = 2 ∨ k = 3) with rfl | rfl | rfl | rfl <;> exact this
/-- THE STAGE'S THEOREM, as maths -/
theorem leap_done (room : Int) : ∀ (e j n : Nat) (l : List Nd) (F : Pic), Sf l room (e + 1) n F → j ≤ e → DoneR room l (fun b => leapN room e j b n) (costN e) (fun b p => Sf b room e p (runF (2 ^ j) F))
  | 0, j, n, l, F, h, hj => by
    obtain rfl : j = 0 := by omega
    exact h.one
  | e + 1, j, n, l, F, h, hj => by
    have hc := cost_pos e
    have hcost : 9 + (9 * costN e + (4 * 1 + (4 * costN e + 1))) = costN (e + 1) := by
      show _ = 14 + 13 * costN e
      omega
    rw [← hcost]
    have hsec : ∀ (F1 : Pic) (m : List Nd) (q : Nat) (d : Int × Int), Right6 m room → Sf m room (e + 1) q (moveF F1 d) → DoneR room m (fun b => leapN room e (min j e) b q) (costN e) (fun b p => Sf b room e p (moveF (runF (2 ^ min j e) F1) d)) := fun F1 m q d r hs => by
      have := leap_done room e (min j e) q m _ hs (Nat.min_le_right _ _)
      rw [run_move] at this
      exact this
    by_cases hje : j = e + 1
    · have hme : min j e = e := by omega
      have e0 : (fun b => leapN room (e + 1) j b (n : Int)) = fun b => farZ room (leapN room e (min j e)) (leapN room e (min j e)) b n := by
        funext b
        show farZ room (if j = e + 1 then leapN room e (min j e) else centreZ room) _ b n = _
        rw [if_pos hje]
      rw [e0]
      have hF : runF (2 ^ j) F = runF (2 ^ min j e) (runF (2 ^ min j e) F) := by
        rw [← run_add, hme, hje, Nat.pow_succ]
        congr 1
        omega
      rw [hF]
      exact far_done hc h (hsec F) (hsec _)
    · have hme : min j e = j := by omega
      have e0 : (fun b => leapN room (e + 1) j b (n : Int)) = fun b => farZ room (centreZ room) (leapN room e (min j e)) b n := by
        funext b
        show farZ room (if j = e + 1 then leapN room e (min j e) else centreZ room) _ b n = _
        rw [if_neg hje]
      rw [e0, show runF (2 ^ j) F = runF (2 ^ min j e) F by rw [hme]]
      exact far_done hc h (fun m q d r hs => hs.centre.mono hc fun b p g rb hp => hp) (hsec F)
end Go.Proofs.Ytklccoodfhejbaa
namespace Go.Proofs.Ytklccoodfhejbaa
set_option maxRecDepth 100000
set_option linter.unusedVariables false
set_option linter.unusedSimpArgs false

section
variable {room : Int} {l : List Nd} {N : Nat}
theorem fourTo_done {F : Nat → List Nd → Zn} {Q : Nat → List Nd → Nat → Prop} (hr : Right6 l room) (hQ : ∀ i m b q, i < 4 → Q i m q → Grows m b → Right6 b room → Q i b q)
    (h : ∀ i, i < 4 → ∀ m, Grows l m → Right6 m room → DoneR room m (F i) N (Q i)) : ∀ i, i ≤ 4 →
    ManyR room l (fun b => fourTo F b i) (i * N) (fun m k => ∀ t, t < i → ∃ q' : Nat, kd k t = (q' : Int) ∧ Q t m q')
  | 0, _ => .inr ⟨l, (0, 0, 0, 0), rfl, Grows.refl l, hr, by omega, fun t ht => absurd ht (Nat.not_lt_zero t), fun b _ _ => rfl⟩
  | i + 1, hi => by
    have hm : (i + 1) * N = i * N + N := Nat.succ_mul i N
    rcases fourTo_done hr hQ h i (by omega) with ⟨h1, h2⟩ | ⟨m, q, e, g, r, len, hq, a⟩
    · left
      have e : fourTo F l (i + 1) = fourTo F l i := by
        show (if (fourTo F l i).2.2 = 0 then _ else fourTo F l i) = _
        rw [if_neg (by rw [show (fourTo F l i).2.2 = 40 from h1]; decide)]
      exact ⟨by show (fourTo F l (i + 1)).2.2 = 40; rw [e]; exact h1, by omega⟩
    · have step : ∀ b b', fourTo F b i = (b', q, 0) → fourTo F b (i + 1) = ((F i b').1, kset q i (F i b').2.1, (F i b').2.2) := fun b b' hb => by
        show (if (fourTo F b i).2.2 = 0 then _ else fourTo F b i) = _
        rw [hb, if_pos rfl]
      have e0 := step l m e
      rcases h i (by omega) m g r with ⟨h1, h2⟩ | ⟨m', p', e', g', r', len', hq', a'⟩
      · exact .inl ⟨by show (fourTo F l (i + 1)).2.2 = 40; rw [e0]; exact h1, by omega⟩
      · refine .inr ⟨m', kset q i (p' : Int), ?_, g.trans g', r', by omega, fun t ht => ?_, fun b gb rb => ?_⟩
        · show fourTo F l (i + 1) = _
          rw [e0, show F i m = _ from e']
        · rw [kd_kset _ _ (by omega) (by omega)]
          by_cases hti : t = i
          · subst hti
            exact ⟨p', by rw [if_pos rfl], hq'⟩
          · obtain ⟨q', e1, e2⟩ := hq t (by omega)
            exact ⟨q', by rw [if_neg hti]; exact e1, hQ t m m' q' (by omega) e2 g' r'⟩
        · show fourTo F b (i + 1) = _
          rw [step b b (a b (g'.trans gb) rb), show F i b = _ from a' b gb rb]
theorem four_and (F : Nat → List Nd → Zn) : (fun b => four room F b) = fun b => andZ (fourTo F b 4) (fun m k => put6 m room k) := by
  funext b
  unfold four andZ
  rfl
theorem four_done {F : Nat → List Nd → Zn} {Q : Nat → List Nd → Nat → Prop} {e : Nat} (he : e + 1 ≤ 42) (hr : Right6 l room) (hQ : ∀ i m b q, i < 4 → Q i m q → Grows m b → Right6 b room → Q i b q)
    (h : ∀ i, i < 4 → ∀ m, Grows l m → Right6 m room → DoneR room m (F i) N (Q i)) (hi : ∀ i m q, i < 4 → Q i m q → Is m e q) :
    DoneR room l (four room F) (4 * N + 1) (fun m p => Is m (e + 1) p ∧ ∀ t, t < 4 → Q t m (kidN m p t)) := by
  have h4 := fourTo_done hr hQ h 4 (Nat.le_refl _)
  have := and_done (f := fun m k => put6 m room k) (M := 1) (Q' := fun m p => Is m (e + 1) p ∧ ∀ t, t < 4 → Q t m (kidN m p t)) h4 (fun m k g r hq => by
    obtain ⟨q, hq2⟩ : ∃ q : Nat → Nat, ∀ t, t < 4 → kd k t = ((q t : Nat) : Int) ∧ Q t m (q t) :=
      ⟨fun t => (kd k t).toNat, fun t ht => by
        obtain ⟨q', e1, e2⟩ := hq t ht
        have h5 : (kd k t).toNat = q' := by omega
        show kd k t = (((kd k t).toNat : Nat) : Int) ∧ Q t m (kd k t).toNat
        rw [h5]; exact ⟨e1, e2⟩⟩
    refine (put_done r (fit_of (fun t ht => ⟨(hq2 t ht).1, hi t m _ ht (hq2 t ht).2⟩) he)).mono (Nat.le_refl _) fun b p g2 rb ha => ?_
    obtain ⟨_, _, a3, _⟩ := at_some ha
    have h0 : (ndAt b k.1).1 = (e : Int) := by
      rw [show k.1 = kd k 0 from rfl, (hq2 0 (by decide)).1, ndAt_nat]
      exact ((hi 0 m _ (by decide) (hq2 0 (by decide)).2).grows g2).lev
    refine ⟨at_lev rb ha h0, fun t ht => ?_⟩
    have : kidN b p t = q t := by unfold kidN; rw [a3, (hq2 t ht).1, Int.toNat_natCast]
    rw [this]
    exact hQ t m b _ ht (hq2 t ht).2 g2 rb)
  rw [← four_and] at this
  exact this
theorem emptyTo_done (hr : Right6 l room) : ∀ j, j ≤ 42 → DoneR room l (fun b => emptyTo b room j) j (fun m p => Emp m j p)
  | 0, _ => .inr ⟨l, 0, rfl, Grows.refl l, hr, by omega, rfl, fun b _ _ => rfl⟩
  | j + 1, hj => by
    rcases emptyTo_done hr j (by omega) with ⟨h1, h2⟩ | ⟨m, p, e, g, r, len, hq, a⟩
    · left
      have e : emptyTo l room (j + 1) = emptyTo l room j := by
        show (if (emptyTo l room j).2.2 = 0 then _ else emptyTo l room j) = _
        rw [if_neg (by rw [show (emptyTo l room j).2.2 = 40 from h1]; decide)]
      exact ⟨by show (emptyTo l room (j + 1)).2.2 = 40; rw [e]; exact h1, by omega⟩
    · have step : ∀ b b', emptyTo b room j = (b', (p : Int), 0) → emptyTo b room (j + 1) = put6 b' room ((p : Int), (p : Int), (p : Int), (p : Int)) := fun b b' hb => by
        show (if (emptyTo b room j).2.2 = 0 then _ else emptyTo b room j) = _
        rw [hb, if_pos rfl]
      have e0 := step l m e
      have hip := emp_is r hq
      rcases put_done r (fit_of (q := fun _ => p) (fun t ht => ⟨kd_four _ t ht, hip⟩) (by omega)) with ⟨h1, h2⟩ | ⟨m', p', e', g', r', len', hq', a'⟩
      · exact .inl ⟨by show (emptyTo l room (j + 1)).2.2 = 40; rw [e0]; exact h1, by omega⟩
      · exact .inr ⟨m', p', by show emptyTo l room (j + 1) = _; rw [e0]; exact e', g.trans g', r', by omega, ⟨p, emp_grows g' _ _ hq, hq'⟩, fun b gb rb => by
          show emptyTo b room (j + 1) = _
          rw [step b b (a b (g'.trans gb) rb)]
          exact a' b gb rb⟩
/-- what a grown node is made of -/
def GrownQ (l : List Nd) (e n : Nat) (m : List Nd) (p : Nat) : Prop := Is m (e + 2) p ∧ ∃ d, Emp m e d ∧ ∀ i, i < 4 → Is m (e + 1) (kidN m p i) ∧ ∀ j, j < 4 → kidN m (kidN m p i) j = if j = 3 - i then kidN l n i else d
theorem grow_done (hr : Right6 l room) {e n : Nat} (hn : Is l (e + 1) n) (he : e + 1 ≤ 41) : DoneR room l (fun b => growZ room b (n : Int)) (e + 5) (GrownQ l e n) := by
  have hkd : ∀ i, i < 4 → kd (l.getD n deadN).2.1 i = ((kidN l n i : Nat) : Int) := fun i hi => kid_cast hr hn hi
  refine DoneR.congr (f' := fun b => andZ (emptyTo b room e) (fun m d => four room (fun i l' => put6 l' room (growK (l.getD n deadN).2.1 d i)) m)) hr (fun b g rb => ?_) ?_
  · have h1 := hn.grows g
    have hb : hasB b (n : Int) = true := by
      unfold hasB
      rw [decide_eq_true_eq]
      have := h1.lt
      rw [ndAt_nat, h1.lev]
      omega
    have h2 : ¬ (ndAt b (n : Int)).1 = 42 := by rw [ndAt_nat, h1.lev]; omega
    show growZ room b (n : Int) = _
    unfold growZ
    rw [if_pos (by rw [hb, decide_eq_true h2]; rfl), ndAt_nat, h1.lev, show (((e + 1 : Nat) : Int).toNat - 1) = e by omega, Int.toNat_natCast]
    unfold growC andZ
    rw [g.same n hn.lt]
  · have key := and_done (z := fun b => emptyTo b room e) (f := fun m d => four room (fun i l' => put6 l' room (growK (l.getD n deadN).2.1 d i)) m) (N := e) (M := 5) (Q := fun m d => ∃ d' : Nat, d = (d' : Int) ∧ Emp m e d') (Q' := GrownQ l e n)
      (by
        rcases emptyTo_done hr e (by omega) with h1 | ⟨m, p, e0, g, r, len, hq, a⟩
        · exact .inl h1
        · exact .inr ⟨m, (p : Int), e0, g, r, len, ⟨p, rfl, hq⟩, a⟩)
      (fun m d g r hd => by
        obtain ⟨d', rfl, hem⟩ := hd
        have hdi := emp_is r hem
        have := four_done (room := room) (l := m) (N := 1) (F := fun i l' => put6 l' room (growK (l.getD n deadN).2.1 (d' : Int) i)) (e := e + 1) (Q := fun i b q => Is b (e + 1) q ∧ ∀ j, j < 4 → kidN b q j = if j = 3 - i then kidN l n i else d')
          (by omega) r (fun i b b2 q hi hq g2 r2 => ⟨hq.1.grows g2, fun j hj => by rw [kidN_grows g2 hq.1.lt]; exact hq.2 j hj⟩)
          (fun i hi b gb rb => by
            have hval : ∀ j, j < 4 → kd (growK (l.getD n deadN).2.1 (d' : Int) i) j = (((if j = 3 - i then kidN l n i else d') : Nat) : Int) := fun j hj => by
              unfold growK
              rw [kd_kset _ _ (by omega) hj]
              by_cases hji : j = 3 - i
              · rw [if_pos hji, if_pos hji]; exact hkd i hi
              · rw [if_neg hji, if_neg hji]; exact kd_four _ j hj
            have hlv : ∀ c, Grows b c → ∀ j, j < 4 → Is c e (if j = 3 - i then kidN l n i else d') := fun c gc j hj => by
              by_cases hji : j = 3 - i
              · rw [if_pos hji]; exact (((kid_is hr hn hi).grows g).grows gb).grows gc
              · rw [if_neg hji]; exact (hdi.grows gb).grows gc
            refine (put_done rb (fit_of (e := e) (q := fun j => if j = 3 - i then kidN l n i else d') (fun j hj => ⟨hval j hj, hlv b (Grows.refl b) j hj⟩) (by omega))).mono (Nat.le_refl _) fun c p gc rc ha => ?_
            obtain ⟨_, _, a3, _⟩ := at_some ha
            have h0 : (ndAt c (growK (l.getD n deadN).2.1 (d' : Int) i).1).1 = (e : Int) := by
              rw [show (growK (l.getD n deadN).2.1 (d' : Int) i).1 = kd (growK (l.getD n deadN).2.1 (d' : Int) i) 0 from rfl, hval 0 (by decide), ndAt_nat]
              exact (hlv c gc 0 (by decide)).lev
            refine ⟨at_lev rc ha h0, fun j hj => ?_⟩
            unfold kidN
            rw [a3, hval j hj, Int.toNat_natCast]
            rfl) (fun i b q hi hq => hq.1)
        have g4 : 4 * 1 + 1 = 5 := rfl
        rw [g4] at this
        rcases this with h1 | ⟨b, p, e0, gb, rb, len, hq, a⟩
        · exact .inl h1
        · exact .inr ⟨b, p, e0, gb, rb, len, ⟨hq.1, d', emp_grows gb _ _ hem, fun i hi => hq.2 i hi⟩, a⟩)
    exact key
end
end Go.Proofs.Ytklccoodfhejbaa
namespace Go.Proofs.Ytklccoodfhejbaa
set_option maxRecDepth 100000
set_option linter.unusedVariables false
set_option linter.unusedSimpArgs false

/-- a picture, cut at a square -/
def boxP9 (e : Nat) (F : Pic) : Pic := fun c => insideB e c && F c
theorem half_mid {z P : Int} (hP : 0 < P) (h0 : 0 ≤ z) (h1 : z < 4 * P) (h : z / P % 2 ≠ z / (P * 2) % 2) : P ≤ z ∧ z < 3 * P := by
  have hlo : 0 ≤ z / P := Int.ediv_nonneg h0 (by omega)
  have hhi : z / P < 4 := Int.ediv_lt_of_lt_mul hP (by omega)
  have hm := Int.mul_ediv_add_emod z P
  have hr0 := Int.emod_nonneg z (show P ≠ 0 by omega)
  have hr1 := Int.emod_lt_of_pos z hP
  rcases (by omega : z / P = 0 ∨ z / P = 1 ∨ z / P = 2 ∨ z / P = 3) with h3 | h3 | h3 | h3
  · rw [h3] at hm h
    rw [div_zero h0 (show z < P * 2 by omega)] at h
    exact absurd rfl h
  · rw [h3] at hm; omega
  · rw [h3] at hm; omega
  · rw [h3] at hm h
    rw [div_one (show 0 < P * 2 by omega) (show P * 2 ≤ z by omega) (by omega)] at h
    exact absurd rfl h
theorem out_bits {e : Nat} {c : Int × Int} (h1 : insideB (e + 1) c = true) (h2 : insideB e c = false) : q7 e (inwardC (e + 1) c) ≠ 3 - q7 (e + 1) (inwardC (e + 1) c) := by
  intro h
  obtain ⟨x, y⟩ := c
  obtain ⟨a1, a2, a3, a4⟩ := in_iff.1 h1
  have hP := pow_pos7 e
  have e2 : (2 : Int) ^ (e + 1) = 2 ^ e * 2 := Int.pow_succ _ _
  have c0 := q7_cast e (inwardC (e + 1) (x, y))
  have c1 := q7_cast (e + 1) (inwardC (e + 1) (x, y))
  have l1 := q7_lt (e + 1) (inwardC (e + 1) (x, y))
  have u1 : (inwardC (e + 1) (x, y)).1 = x + 2 ^ (e + 1) := rfl
  have u2 : (inwardC (e + 1) (x, y)).2 = y + 2 ^ (e + 1) := rfl
  rw [u1, u2, e2] at c0 c1
  rw [e2] at a1 a2 a3 a4
  have hx : (x + 2 ^ e * 2) / 2 ^ e % 2 ≠ (x + 2 ^ e * 2) / (2 ^ e * 2) % 2 := by omega
  have hy : (y + 2 ^ e * 2) / 2 ^ e % 2 ≠ (y + 2 ^ e * 2) / (2 ^ e * 2) % 2 := by omega
  have mx := half_mid hP (by omega) (by omega) hx
  have my := half_mid hP (by omega) (by omega) hy
  have : insideB e (x, y) = true := in_iff.2 (by omega)
  rw [this] at h2
  cases h2
section
variable {l : List Nd} {room : Int} {e n : Nat} {F : Pic}
theorem Sf.grow (h : Sf l room e n F) (he : e + 1 ≤ 41) : DoneR room l (fun b => growZ room b (n : Int)) (e + 5) (fun m p => Sf m room (e + 1) p (boxP9 e F)) := by
  refine (grow_done h.right h.is he).mono (Nat.le_refl _) fun m p g rm hq => ?_
  obtain ⟨hp, d, hd, hk⟩ := hq
  refine ⟨rm, hp, he, fun c hc => ?_⟩
  have hq1 := q7_lt (e + 1) (inwardC (e + 1) c)
  have hq0 := q7_lt e (inwardC (e + 1) c)
  have ha : Go.Proofs.Ytklccoodfhejbaa.alive m (e + 1 + 1) p (inwardC (e + 1) c) = Go.Proofs.Ytklccoodfhejbaa.alive m e (kidN m (kidN m p (q7 (e + 1) (inwardC (e + 1) c))) (q7 e (inwardC (e + 1) c))) (inwardC (e + 1) c) := rfl
  rw [ha, (hk _ hq1).2 _ hq0]
  unfold boxP9
  cases hi : insideB e c with
  | false =>
    rw [if_neg (out_bits hc hi), emp_alive _ _ _ hd, Bool.false_and]
  | true =>
    obtain ⟨b1, b2, b3⟩ := grow_bits hi
    rw [b1, b2, if_pos rfl, Bool.true_and, alive_grows h.right g _ _ _ (kid_is h.right h.is (q7_lt _ _)), alive_agree _ _ b3, ← h.al c hi]
    rfl
end
end Go.Proofs.Ytklccoodfhejbaa
