/-
  Texts that the claims of this seat share, part 25.
-/
import Derived.Test.YtikgnjcjbjafaaaB24
import Derived.Test.YtikgnjcjbjafaaaB15
set_option linter.unusedVariables false
set_option linter.unusedSimpArgs false
namespace Go.Proofs.Ytikgnjcjbjafaaa
set_option maxRecDepth 100000
set_option linter.unusedVariables false
set_option linter.unusedSimpArgs false
open Go.RowKit Go.Sort

/-- nine numbers -/
abbrev row9 (f : Nat → Int) : Array Value := #[.int .i64 (f 0), .int .i64 (f 1), .int .i64 (f 2), .int .i64 (f 3), .int .i64 (f 4), .int .i64 (f 5), .int .i64 (f 6), .int .i64 (f 7), .int .i64 (f 8)]
/-- nine numbers in a box -/
def N9 (w : World) (b : Nat) (f : Nat → Int) : Prop := w.heap[b]? = some (.cells (row9 f) 61 (0, 0))
theorem N9.below {w w' : World} {b : Nat} {f : Nat → Int} (h : N9 w b f) (hb : Below w.heap.size w w') : N9 w' b f := (hb.block _ (lt_heap6 h)).trans h
theorem N9.kp {w w' : World} {b : Nat} {f : Nat → Int} (h : N9 w b f) (hk : Kp w w') : N9 w' b f := hk _ _ _ _ h ⟨.inl (by decide), by decide⟩
theorem N9.c {w : World} {b : Nat} {f : Nat → Int} (h : N9 w b f) {p : Nat} (hp : p < 9) : w.cell? ⟨b, p, none⟩ = some (.int .i64 (f p)) := by
  rw [Lib.cell_of_heap h]
  rcases (by omega : p = 0 ∨ p = 1 ∨ p = 2 ∨ p = 3 ∨ p = 4 ∨ p = 5 ∨ p = 6 ∨ p = 7 ∨ p = 8) with rfl | rfl | rfl | rfl | rfl | rfl | rfl | rfl | rfl <;> rfl
theorem N9.f {w : World} {b : Nat} {f : Nat → Int} (h : N9 w b f) (p : Nat) : w.frozen? ⟨b, p, none⟩ = false := Lib.frozen_of_heap h p
theorem N9.set {w : World} {b : Nat} {f : Nat → Int} (h : N9 w b f) {p : Nat} (hp : p < 9) (x : Int) : N9 (w.setCell ⟨b, p, none⟩ (.int .i64 x)) b (fun i => if i = p then x else f i) := by
  unfold N9 at h ⊢
  have hs : (w.setCell ⟨b, p, none⟩ (.int .i64 x)).heap[b]? = some (.cells ((row9 f).setIfInBounds p (.int .i64 x)) 61 (0, 0)) := by
    simp [World.setCell, Array.getElem?_modify, h]
  rw [hs]
  congr 2
  rcases (by omega : p = 0 ∨ p = 1 ∨ p = 2 ∨ p = 3 ∨ p = 4 ∨ p = 5 ∨ p = 6 ∨ p = 7 ∨ p = 8) with rfl | rfl | rfl | rfl | rfl | rfl | rfl | rfl | rfl <;> rfl
theorem quo3_quiet (W : World) (i : Nat) (hi : i < 9) (ev : Operand → Value) (o : Oper) (x y : Operand) (ho : o.op = Op.binOp .quo 3 x y 3) (hx : ev x = .int .i64 (i : Int)) (hy : ev y = .int .i64 3) : Oper.quietUpon Try.prog (fun w' => w' = W) W (.int .i64 ((i / 3 : Nat) : Int)) ((execOp ev o).run Try.prog W) := by
  rcases (by omega : i = 0 ∨ i = 1 ∨ i = 2 ∨ i = 3 ∨ i = 4 ∨ i = 5 ∨ i = 6 ∨ i = 7 ∨ i = 8) with rfl | rfl | rfl | rfl | rfl | rfl | rfl | rfl | rfl
  all_goals
    simp only [execOp, ho, hx, hy]
    go_simp
    first | done | rfl
theorem rem3_quiet (W : World) (i : Nat) (hi : i < 9) (ev : Operand → Value) (o : Oper) (x y : Operand) (ho : o.op = Op.binOp .rem 3 x y 3) (hx : ev x = .int .i64 (i : Int)) (hy : ev y = .int .i64 3) : Oper.quietUpon Try.prog (fun w' => w' = W) W (.int .i64 ((i % 3 : Nat) : Int)) ((execOp ev o).run Try.prog W) := by
  rcases (by omega : i = 0 ∨ i = 1 ∨ i = 2 ∨ i = 3 ∨ i = 4 ∨ i = 5 ∨ i = 6 ∨ i = 7 ∨ i = 8) with rfl | rfl | rfl | rfl | rfl | rfl | rfl | rfl | rfl
  all_goals
    simp only [execOp, ho, hx, hy]
    go_simp
    first | done | rfl
/-- What a making of nine answers. -/
def IxN (p : List Nd × (Nat → Int) × Int) (n0 g b : Nat) (room : Int) (w : World) (e : Ending) (w' : World) : Prop :=
  e = .returned (.tuple #[.agg (row9 p.2.1), .int .i64 p.2.2]) ∧ Ix n0 w' g b p.1 room ∧ BelK n0 w w'
/-- what Maker.Nine answers -/
def nineZ (room : Int) (l : List Nd) (n : Int) : List Nd × (Nat → Int) × Int :=
  if levI l n < 2 then (l, fun _ => 0, 1) else if (nineTo room l n.toNat 9).2.2 = 0 then nineTo room l n.toNat 9 else ((nineTo room l n.toNat 9).1, fun _ => 0, (nineTo room l n.toNat 9).2.2)
/-- two results in cells, and a third one -/
theorem results_cells {P : Program} {fn : Func} {p q u : Tmp} {ty ty2 : TypeId} (h : fn.results = #[.cell p ty, .cell q ty2, .tmp u]) (tmps : Array Value) (w : World) (g g2 : Nat) (t t2 : TypeId) (cs cs2 : Array Value) (fr fr2 : Nat × Nat) (d d2 : TypeDesc)
    (hp : tmps.getD p undef = .pointer (some ⟨g, 0, none⟩)) (hq : tmps.getD q undef = .pointer (some ⟨g2, 0, none⟩)) (hg : w.heap[g]? = some (.cells cs t fr)) (hg2 : w.heap[g2]? = some (.cells cs2 t2 fr2))
    (hu : P.underlying ty = some d) (hd : (match d with | .struct _ | .array _ _ => true | _ => false) = true) (hi : (P.info? ty).map (·.size) = some cs.size)
    (hu2 : P.underlying ty2 = some d2) (hd2 : (match d2 with | .struct _ | .array _ _ => true | _ => false) = true) (hi2 : (P.info? ty2).map (·.size) = some cs2.size) :
    (results fn tmps).run P w = .ok (.tuple #[.agg cs, .agg cs2, tmps.getD u undef]) w := by
  have hp' : tmps[p]?.getD undef = .pointer (some ⟨g, 0, none⟩) := by simpa using hp
  have hq' : tmps[q]?.getD undef = .pointer (some ⟨g2, 0, none⟩) := by simpa using hq
  simp [results, h, hp', hq', asAddr, run_loadVar_row w g t ty cs fr d hg hu hd hi, run_loadVar_row w g2 t2 ty2 cs2 fr2 d2 hg2 hu2 hd2 hi2]
theorem results_cell_tmp {P : Program} {fn : Func} {p u : Tmp} {ty : TypeId} (h : fn.results = #[.cell p ty, .tmp u]) (tmps : Array Value) (w : World) (g : Nat) (t : TypeId) (cs : Array Value) (fr : Nat × Nat) (d : TypeDesc)
    (hp : tmps.getD p undef = .pointer (some ⟨g, 0, none⟩)) (hg : w.heap[g]? = some (.cells cs t fr))
    (hu : P.underlying ty = some d) (hd : (match d with | .struct _ | .array _ _ => true | _ => false) = true) (hi : (P.info? ty).map (·.size) = some cs.size) :
    (results fn tmps).run P w = .ok (.tuple #[.agg cs, tmps.getD u undef]) w := results_cell2 h tmps w g t cs fr d hp hg hu hd hi
/-- What is known within Maker.Nine: the maker, what is told, the sixteen, the nine so far. -/
structure NnAt (n0 : Nat) (w wr : World) (g b pb : Nat) (m : List Nd) (room : Int) (v f : Nat → Int) : Prop where
  ix : Ix n0 wr g b m room
  mb : MB wr w.heap.size g
  res : N9 wr (w.heap.size + 1) (fun _ => 0)
  six : S16 wr pb v
  out : N9 wr (pb + 1) f
  bel : BelK n0 w wr
  lo : w.heap.size + 2 ≤ pb
theorem NnAt.step {n0 : Nat} {w wr w' : World} {g b pb : Nat} {m m' : List Nd} {room : Int} {v f : Nat → Int} (h : NnAt n0 w wr g b pb m room v f) (hi : Ix n0 w' g b m' room) (hb : BelK n0 wr w') : NnAt n0 w w' g b pb m' room v f :=
  ⟨hi, h.mb.kp hb.kp, h.res.kp hb.kp, h.six.kp hb.kp, h.out.kp hb.kp, h.bel.trans hb, h.lo⟩
theorem Ix.setNew9 {n0 : Nat} {wr : World} {g b pb : Nat} {m : List Nd} {room : Int} {f : Nat → Int} (h : Ix n0 wr g b m room) (h2 : 2 ≤ m.length) (hN : N9 wr pb f) (j : Nat) (u : Value) : Ix n0 (wr.setCell ⟨pb, j, none⟩ u) g b m room := h.setOff h2 hN ⟨.inl (by decide), by decide⟩ j u
theorem NnAt.put {n0 : Nat} {w wr : World} {g b pb : Nat} {m : List Nd} {room : Int} {v f : Nat → Int} (h : NnAt n0 w wr g b pb m room v f) (hn : n0 ≤ w.heap.size) (h2 : 2 ≤ m.length) {j : Nat} (hj : j < 9) (x : Int) : NnAt n0 w (wr.setCell ⟨pb + 1, j, none⟩ (.int .i64 x)) g b pb m room v (fun i => if i = j then x else f i) := by
  have hlo := h.lo
  have ho : ∀ i, i ≠ pb + 1 → (wr.setCell ⟨pb + 1, j, none⟩ (.int .i64 x)).heap[i]? = wr.heap[i]? := fun i hi => Below.heap_setCell _ _ _ _ hi
  exact ⟨h.ix.setNew9 h2 h.out j _, (ho _ (by omega)).trans h.mb, (ho _ (by omega)).trans h.res, (ho _ (by omega)).trans h.six, h.out.set hj x, h.bel.setNew (by omega) hn j _, hlo⟩
/-- what is told by Maker.Nine, under way -/
structure T9 (n0 : Nat) (w W : World) (g b : Nat) (m : List Nd) (room : Int) (f : Nat → Int) : Prop where
  ix : Ix n0 W g b m room
  row : N9 W (w.heap.size + 1) f
  bel : BelK n0 w W
theorem T9.set {n0 : Nat} {w W : World} {g b : Nat} {m : List Nd} {room : Int} {f : Nat → Int} (h : T9 n0 w W g b m room f) (hn0 : n0 ≤ w.heap.size) (h2 : 2 ≤ m.length) {j : Nat} (hj : j < 9) (x : Int) : T9 n0 w (W.setCell ⟨w.heap.size + 1, j, none⟩ (.int .i64 x)) g b m room (fun i => if i = j then x else f i) :=
  ⟨h.ix.setNew9 h2 h.row j _, h.row.set hj x, h.bel.setNew (by omega) hn0 j _⟩
theorem t9_all {n0 : Nat} {w W : World} {g b : Nat} {m : List Nd} {room : Int} {f : Nat → Int} (hn0 : n0 ≤ w.heap.size) (h2 : 2 ≤ m.length) (hi : Ix n0 W g b m room) (hq : N9 W (w.heap.size + 1) f) (hb : BelK n0 w W) (x0 x1 x2 x3 x4 x5 x6 x7 x8 : Int) :
    (((((((((W.setCell ⟨w.heap.size + 1, 0, none⟩ (.int .i64 x0)).setCell ⟨w.heap.size + 1, 1, none⟩ (.int .i64 x1)).setCell ⟨w.heap.size + 1, 2, none⟩ (.int .i64 x2)).setCell ⟨w.heap.size + 1, 3, none⟩ (.int .i64 x3)).setCell ⟨w.heap.size + 1, 4, none⟩ (.int .i64 x4)).setCell ⟨w.heap.size + 1, 5, none⟩ (.int .i64 x5)).setCell ⟨w.heap.size + 1, 6, none⟩ (.int .i64 x6)).setCell ⟨w.heap.size + 1, 7, none⟩ (.int .i64 x7)).setCell ⟨w.heap.size + 1, 8, none⟩ (.int .i64 x8)).heap[w.heap.size + 1]? = some (.cells #[.int .i64 x0, .int .i64 x1, .int .i64 x2, .int .i64 x3, .int .i64 x4, .int .i64 x5, .int .i64 x6, .int .i64 x7, .int .i64 x8] 61 (0, 0)) ∧ Ix n0 (((((((((W.setCell ⟨w.heap.size + 1, 0, none⟩ (.int .i64 x0)).setCell ⟨w.heap.size + 1, 1, none⟩ (.int .i64 x1)).setCell ⟨w.heap.size + 1, 2, none⟩ (.int .i64 x2)).setCell ⟨w.heap.size + 1, 3, none⟩ (.int .i64 x3)).setCell ⟨w.heap.size + 1, 4, none⟩ (.int .i64 x4)).setCell ⟨w.heap.size + 1, 5, none⟩ (.int .i64 x5)).setCell ⟨w.heap.size + 1, 6, none⟩ (.int .i64 x6)).setCell ⟨w.heap.size + 1, 7, none⟩ (.int .i64 x7)).setCell ⟨w.heap.size + 1, 8, none⟩ (.int .i64 x8)) g b m room ∧ BelK n0 w (((((((((W.setCell ⟨w.heap.size + 1, 0, none⟩ (.int .i64 x0)).setCell ⟨w.heap.size + 1, 1, none⟩ (.int .i64 x1)).setCell ⟨w.heap.size + 1, 2, none⟩ (.int .i64 x2)).setCell ⟨w.heap.size + 1, 3, none⟩ (.int .i64 x3)).setCell ⟨w.heap.size + 1, 4, none⟩ (.int .i64 x4)).setCell ⟨w.heap.size + 1, 5, none⟩ (.int .i64 x5)).setCell ⟨w.heap.size + 1, 6, none⟩ (.int .i64 x6)).setCell ⟨w.heap.size + 1, 7, none⟩ (.int .i64 x7)).setCell ⟨w.heap.size + 1, 8, none⟩ (.int .i64 x8)) := by
  have h : T9 n0 w W g b m room f := ⟨hi, hq, hb⟩
  have h9 := (((((((((h.set hn0 h2 (j := 0) (by decide) x0).set hn0 h2 (j := 1) (by decide) x1).set hn0 h2 (j := 2) (by decide) x2).set hn0 h2 (j := 3) (by decide) x3).set hn0 h2 (j := 4) (by decide) x4).set hn0 h2 (j := 5) (by decide) x5).set hn0 h2 (j := 6) (by decide) x6).set hn0 h2 (j := 7) (by decide) x7).set hn0 h2 (j := 8) (by decide) x8)
  exact ⟨h9.row, h9.ix, h9.bel⟩
set_option maxHeartbeats 16000000 in
theorem makerNine_any (room : Int) (n0 g b : Nat) (l : List Nd) (n : Int) (w : World) (hix : Ix n0 w g b l room) (hr : Right6 l room) :
    Calls Try.prog 70 #[makerV g, .int .i64 n] w (IxN (nineZ room l n) n0 g b room w) := by
  have hn0 := hix.hB
  have hal1 := (Below.refl w.heap.size w).alloc (Nat.le_refl _) (.cells #[.pointer (some ⟨g, 0, none⟩)] 98)
  have hal := hal1.alloc hal1.size (.cells #[.int .i64 0, .int .i64 0, .int .i64 0, .int .i64 0, .int .i64 0, .int .i64 0, .int .i64 0, .int .i64 0, .int .i64 0] 61)
  have hM : MB ((w.alloc (.cells #[.pointer (some ⟨g, 0, none⟩)] 98)).alloc (.cells #[.int .i64 0, .int .i64 0, .int .i64 0, .int .i64 0, .int .i64 0, .int .i64 0, .int .i64 0, .int .i64 0, .int .i64 0] 61)) w.heap.size g := heap_old (heap_alloc_new w _)
  have hQ : N9 ((w.alloc (.cells #[.pointer (some ⟨g, 0, none⟩)] 98)).alloc (.cells #[.int .i64 0, .int .i64 0, .int .i64 0, .int .i64 0, .int .i64 0, .int .i64 0, .int .i64 0, .int .i64 0, .int .i64 0] 61)) (w.heap.size + 1) (fun _ => 0) := heap_new (by simp)
  have hlv := level_any room n0 g b l n _ (hix.below hal) hr
  have m0 := hM.c
  have HIX := Lib.hid (hix.below hal)
  have HM := Lib.hid hM
  have HQ := Lib.hid hQ
  have HA := Lib.hid (BelK.of hal hn0)
  have HR := Lib.hid hr
  clear hix hr hal hal1 hM hQ
  by_cases h2 : levI l n < 2
  · have hz : nineZ room l n = (l, fun _ => 0, 1) := if_pos h2
    rw [hz]
    generalize levI l n = lv at *
    clear hz
    go_enter Try.func70, Try.ntmps70
    go_wp2_with fail
    refine hlv.mono ?_
    generalize ((w.alloc (.cells #[.pointer (some ⟨g, 0, none⟩)] 98)).alloc (.cells #[.int .i64 0, .int .i64 0, .int .i64 0, .int .i64 0, .int .i64 0, .int .i64 0, .int .i64 0, .int .i64 0, .int .i64 0] 61)) = v0 at *
    rintro r w1 ⟨rfl, hb1⟩
    have hq1 := HQ.out.below hb1
    have hb1k := HA.out.more hb1 hn0
    have hi1 := HIX.out.below hb1
    have h2l := HR.out.two
    have r0 := hq1.c (p := 0) (by decide)
    have f0 := hq1.f 0
    have r1 := hq1.c (p := 1) (by decide)
    have f1 := hq1.f 1
    have r2 := hq1.c (p := 2) (by decide)
    have f2 := hq1.f 2
    have r3 := hq1.c (p := 3) (by decide)
    have f3 := hq1.f 3
    have r4 := hq1.c (p := 4) (by decide)
    have f4 := hq1.f 4
    have r5 := hq1.c (p := 5) (by decide)
    have f5 := hq1.f 5
    have r6 := hq1.c (p := 6) (by decide)
    have f6 := hq1.f 6
    have r7 := hq1.c (p := 7) (by decide)
    have f7 := hq1.f 7
    have r8 := hq1.c (p := 8) (by decide)
    have f8 := hq1.f 8
    have HT := Lib.hid (t9_all hn0 h2l hi1 hq1 hb1k 0 0 0 0 0 0 0 0 0)
    clear hlv hb1 m0 HM HQ HA HIX hi1 hb1k hq1
    go_wp2_with fail
    clear r0 f0 r1 f1 r2 f2 r3 f3 r4 f4 r5 f5 r6 f6 r7 f7 r8 f8
    refine bodyPost_ret (results_cell_tmp rfl _ _ _ _ _ _ _ rfl HT.out.1 Try.underlying61 rfl (by kernel_rfl)) rfl ?_
    exact ⟨rfl, HT.out.2.1, HT.out.2.2⟩
  · obtain ⟨e, k, rfl, hn, he, hle⟩ := lev_is HR.out (n := n) (by omega)
    have hz : nineZ room l (k : Int) = if (nineTo room l k 9).2.2 = 0 then nineTo room l k 9 else ((nineTo room l k 9).1, fun _ => 0, (nineTo room l k 9).2.2) := by
      unfold nineZ
      rw [if_neg h2, Int.toNat_natCast]
    obtain ⟨z, hzz⟩ : ∃ z, z = nineZ room l (k : Int) := ⟨_, rfl⟩
    rw [← hzz] at hz ⊢
    have HZ := Lib.hid hz
    have HN := Lib.hid hn
    rw [hle] at hlv
    have hl2 : ¬ (e : Int) + 2 < 2 := by omega
    obtain ⟨v, hv⟩ : ∃ v : Nat → Int, v = v16 l k := ⟨_, rfl⟩
    have hsx := fun W hW => sixteen_any room n0 g b e l k W hW HR.out HN.out
    have hsq := fun y x hy hx => sqV_sqK l k y x hy hx
    rw [← hv] at hsx hsq
    have HSQ := Lib.hid hsq
    clear hz hzz hn h2 hle hv hsq
    go_enter Try.func70, Try.ntmps70
    go_wp2_with fail
    refine hlv.mono ?_
    generalize ((w.alloc (.cells #[.pointer (some ⟨g, 0, none⟩)] 98)).alloc (.cells #[.int .i64 0, .int .i64 0, .int .i64 0, .int .i64 0, .int .i64 0, .int .i64 0, .int .i64 0, .int .i64 0, .int .i64 0] 61)) = v0 at *
    rintro r w1 ⟨rfl, hb1⟩
    have HI := Lib.hid (HIX.out.below hb1)
    have HB := Lib.hid (HA.out.more hb1 hn0)
    have HM1 := Lib.hid (HM.out.below hb1)
    have HQ1 := Lib.hid (HQ.out.below hb1)
    have m1 := HM1.out.c
    have hsx := hsx w1 HI.out
    clear hlv hb1 m0 HIX HM HA HQ
    go_wp2_with fail
    refine hsx.mono ?_
    rintro r w2 ⟨rfl, hb2⟩
    have hal := (Below.refl w2.heap.size w2).alloc (Nat.le_refl _) (.cells (row16 v) 133)
    have hal2 := hal.alloc hal.size (.cells #[.int .i64 0, .int .i64 0, .int .i64 0, .int .i64 0, .int .i64 0, .int .i64 0, .int .i64 0, .int .i64 0, .int .i64 0] 61)
    have hb' := Qt.more (B := w1.heap.size) hb2 hb2.size hal2
    have hsz : (w2.alloc (.cells (row16 v) 133)).heap.size = w2.heap.size + 1 := by simp
    have H0 := Lib.hid (show NnAt n0 w ((w2.alloc (.cells (row16 v) 133)).alloc (.cells #[.int .i64 0, .int .i64 0, .int .i64 0, .int .i64 0, .int .i64 0, .int .i64 0, .int .i64 0, .int .i64 0, .int .i64 0] 61)) g b w2.heap.size l room v (fun _ => 0) from
      ⟨HI.out.below hb', HM1.out.below hb', HQ1.out.below hb', heap_old (heap_new rfl), heap_new hsz, HB.out.more hb' hn0, by have := lt_heap6 HQ1.out; have := hb2.size; omega⟩)
    clear hsx hb2 hb' hal hal2 HI HB HM1 HQ1 m1 hsz
    go_wp2_with fail
    generalize ((w2.alloc (.cells (row16 v) 133)).alloc (.cells #[.int .i64 0, .int .i64 0, .int .i64 0, .int .i64 0, .int .i64 0, .int .i64 0, .int .i64 0, .int .i64 0, .int .i64 0] 61)) = v2 at *
    generalize w2.heap.size = pb at *
    go_loopw [18] (fun u wr => ∃ (i : Nat) (m : List Nd) (f : Nat → Int), i ≤ 9 ∧ u = .int .i64 i ∧ Hid (NnAt n0 w wr g b pb m room v f ∧ nineTo room l k i = (m, f, 0))) (fun u _ => 9 - (intOf u).toNat)
    case atStart => exact ⟨0, l, fun _ => 0, by decide, rfl, H0.out, rfl⟩
    case round =>
      obtain ⟨i, m, f, hi, rfl, HH⟩ := hrel
      obtain ⟨H, hto⟩ := HH.out
      have hm6 : Right6 m room := by
        have := nineTo_right HR.out (n := k) i
        rw [hto] at this
        exact this
      by_cases hlt : i < 9
      · obtain ⟨⟨ml, p, ee⟩, hpp⟩ : ∃ z, z = put6 m room (sqK l k (i / 3) (i % 3)) := ⟨_, rfl⟩
        have hnext : nineTo room l k (i + 1) = (ml, fun j => if j = i then p else f j, ee) := by
          show (if (nineTo room l k i).2.2 = 0 then _ else _) = _
          rw [hto, if_pos rfl, ← hpp]
        have HP := Lib.hid hpp
        have HX := Lib.hid hnext
        have HW := Lib.hid H
        have HR6 := Lib.hid hm6
        have h2l : 2 ≤ ml.length := by
          have := put_right hm6 (sqK l k (i / 3) (i % 3))
          rw [← hpp] at this
          exact this.two
        have hq : ∀ W, MB W w.heap.size g ∧ S16 W pb v → W.cell? ⟨w.heap.size, 0, none⟩ = some (.pointer (some ⟨g, 0, none⟩)) := fun W hW => hW.1.c
        have hC0 : MB wr.drew w.heap.size g ∧ S16 wr.drew pb v := ⟨H.mb, H.six⟩
        clear hpp hnext HH hto H hm6
        have hltz : (i : Int) < 9 := by omega
        go_wp2_with fail
        refine region_calm_to (fun W => MB W w.heap.size g ∧ S16 W pb v) (fun (a0 a9 : Act) (w9 : World) => a9 = (((((((((((((((a0.put (some 22) (.int .i64 (i : Int))).put (some 23) (.pointer (some ⟨w.heap.size, 0, none⟩))).put (some 24) (.pointer (some ⟨g, 0, none⟩))).put (some 25) (.agg (row16 v))).put (some 26) (.int .i64 (i : Int))).put (some 27) (.int .i64 ((i / 3 : Nat) : Int))).put (some 28) (.int .i64 (i : Int))).put (some 29) (.int .i64 ((i % 3 : Nat) : Int))).put (some 30) (kidsV (sqK l k (i / 3) (i % 3)))).put (some 31) (.tuple #[.int .i64 p, .int .i64 ee])).put (some 21) (.tuple #[.int .i64 p, .int .i64 ee])).put (some 32) (.int .i64 p)).put (some 33) (.int .i64 ee)).put (some 34) (.pointer (some ⟨pb + 1, i, none⟩))).put (some 9) (.int .i64 ee)) ∧ NnAt n0 w w9 g b pb ml room v (fun j => if j = i then p else f j)) (.calm 0 (.calm 1 (.calm 2 (.calm 3 (.calm 4 (.calm 5 (.calm 6 (.calm 7 (.only 8 (.only 9 (.calm 10 (.calm 11 (.calm 12 (.calm 13 (.only 14 (.calm 15 .done)))))))))))))))) (by kernel_rfl) (by kernel_rfl) (by kernel_rfl) (by rfl) hC0 ?_ ?_
        · skip
          refine ⟨_, _, (.int .i64 (i : Int)), rfl, rfl, ⟨rfl, fun W hW => by first | exact ⟨rfl, rfl⟩ | (simp only [Act.eval, execOp]; go_simp; try exact ⟨rfl, rfl⟩)⟩, ?_⟩
          simp only [Act.put, List.getElem_toArray, List.getElem_cons_zero, List.getElem_cons_succ, List.setIfInBounds_toArray, List.set_cons_succ, List.set_cons_zero]
          refine ⟨_, _, (.pointer (some ⟨w.heap.size, 0, none⟩)), rfl, rfl, ⟨rfl, fun W hW => by first | exact ⟨rfl, rfl⟩ | (simp only [Act.eval, execOp]; go_simp; try exact ⟨rfl, rfl⟩)⟩, ?_⟩
          simp only [Act.put, List.getElem_toArray, List.getElem_cons_zero, List.getElem_cons_succ, List.setIfInBounds_toArray, List.set_cons_succ, List.set_cons_zero]
          refine ⟨_, _, (.pointer (some ⟨g, 0, none⟩)), rfl, rfl, ⟨rfl, fun W hW => by have q := hq W hW; simp only [execOp]; go_simp; done⟩, ?_⟩
          simp only [Act.put, List.getElem_toArray, List.getElem_cons_zero, List.getElem_cons_succ, List.setIfInBounds_toArray, List.set_cons_succ, List.set_cons_zero]
          refine ⟨_, _, (.agg (row16 v)), rfl, rfl, ⟨rfl, fun W hW => by exact load16_quiet W pb v hW.2 _ _ _ rfl rfl⟩, ?_⟩
          simp only [Act.put, List.getElem_toArray, List.getElem_cons_zero, List.getElem_cons_succ, List.setIfInBounds_toArray, List.set_cons_succ, List.set_cons_zero]
          refine ⟨_, _, (.int .i64 (i : Int)), rfl, rfl, ⟨rfl, fun W hW => by first | exact ⟨rfl, rfl⟩ | (simp only [Act.eval, execOp]; go_simp; try exact ⟨rfl, rfl⟩)⟩, ?_⟩
          simp only [Act.put, List.getElem_toArray, List.getElem_cons_zero, List.getElem_cons_succ, List.setIfInBounds_toArray, List.set_cons_succ, List.set_cons_zero]
          refine ⟨_, _, (.int .i64 ((i / 3 : Nat) : Int)), rfl, rfl, ⟨rfl, fun W hW => by exact quo3_quiet W i hlt _ _ _ _ rfl rfl rfl⟩, ?_⟩
          simp only [Act.put, List.getElem_toArray, List.getElem_cons_zero, List.getElem_cons_succ, List.setIfInBounds_toArray, List.set_cons_succ, List.set_cons_zero]
          refine ⟨_, _, (.int .i64 (i : Int)), rfl, rfl, ⟨rfl, fun W hW => by first | exact ⟨rfl, rfl⟩ | (simp only [Act.eval, execOp]; go_simp; try exact ⟨rfl, rfl⟩)⟩, ?_⟩
          simp only [Act.put, List.getElem_toArray, List.getElem_cons_zero, List.getElem_cons_succ, List.setIfInBounds_toArray, List.set_cons_succ, List.set_cons_zero]
          refine ⟨_, _, (.int .i64 ((i % 3 : Nat) : Int)), rfl, rfl, ⟨rfl, fun W hW => by exact rem3_quiet W i hlt _ _ _ _ rfl rfl rfl⟩, ?_⟩
          simp only [Act.put, List.getElem_toArray, List.getElem_cons_zero, List.getElem_cons_succ, List.setIfInBounds_toArray, List.set_cons_succ, List.set_cons_zero]
          refine ⟨_, rfl, ?_⟩
          go_wp2_with fail
          refine (sqB_any v (i / 3) (i % 3) (by omega) (by omega) wr.drew).mono ?_
          rw [HSQ.out (i / 3) (i % 3) (by omega) (by omega)]
          rintro r w8 ⟨rfl, hb8⟩
          have hbb := Qt.more (below_drew wr) (Nat.le_refl _) hb8
          have hC : MB w8 w.heap.size g ∧ S16 w8 pb v := ⟨HW.out.mb.below hbb, HW.out.six.below hbb⟩
          have hW8 := HW.out.step (HW.out.ix.below hbb) (.of hbb HW.out.ix.hB)
          clear hb8 hbb
          go_wp2_with fail
          refine ⟨rfl, hC, ?_⟩
          refine ⟨_, rfl, ?_⟩
          go_wp2_with fail
          have hin := intern_anyK n0 g b m room (sqK l k (i / 3) (i % 3)) w8 hW8.ix HR6.out
          rw [show put6 m room (sqK l k (i / 3) (i % 3)) = (ml, p, ee) from HP.out.symm] at hin
          refine hin.mono ?_
          rintro r w9 ⟨rfl, hi9, hb9⟩
          have hW9 := hW8.step hi9 hb9
          have hC : MB w9 w.heap.size g ∧ S16 w9 pb v := ⟨hW9.mb, hW9.six⟩
          have of := hW9.out.f i
          have oc := hW9.out.c (p := i) hlt
          have hWA := hW9.put hn0 h2l (j := i) hlt p
          have hCA : MB (w9.setCell ⟨pb + 1, i, none⟩ (.int .i64 p)) w.heap.size g ∧ S16 (w9.setCell ⟨pb + 1, i, none⟩ (.int .i64 p)) pb v := ⟨hWA.mb, hWA.six⟩
          go_wp2_with fail
          refine ⟨rfl, hC, ?_⟩
          refine ⟨_, _, (.tuple #[.int .i64 p, .int .i64 ee]), rfl, rfl, ⟨rfl, fun W hW => by first | exact ⟨rfl, rfl⟩ | (simp only [Act.eval, execOp]; go_simp; try exact ⟨rfl, rfl⟩)⟩, ?_⟩
          simp only [Act.put, List.getElem_toArray, List.getElem_cons_zero, List.getElem_cons_succ, List.setIfInBounds_toArray, List.set_cons_succ, List.set_cons_zero]
          refine ⟨_, _, (.int .i64 p), rfl, rfl, ⟨rfl, fun W hW => by first | exact ⟨rfl, rfl⟩ | (simp only [Act.eval, execOp]; go_simp; try exact ⟨rfl, rfl⟩)⟩, ?_⟩
          simp only [Act.put, List.getElem_toArray, List.getElem_cons_zero, List.getElem_cons_succ, List.setIfInBounds_toArray, List.set_cons_succ, List.set_cons_zero]
          refine ⟨_, _, (.int .i64 ee), rfl, rfl, ⟨rfl, fun W hW => by first | exact ⟨rfl, rfl⟩ | (simp only [Act.eval, execOp]; go_simp; try exact ⟨rfl, rfl⟩)⟩, ?_⟩
          simp only [Act.put, List.getElem_toArray, List.getElem_cons_zero, List.getElem_cons_succ, List.setIfInBounds_toArray, List.set_cons_succ, List.set_cons_zero]
          refine ⟨_, _, (.pointer (some ⟨pb + 1, i, none⟩)), rfl, rfl, ⟨rfl, fun W hW => by first | exact ⟨rfl, rfl⟩ | (simp only [Act.eval, execOp]; go_simp; try exact ⟨rfl, rfl⟩)⟩, ?_⟩
          simp only [Act.put, List.getElem_toArray, List.getElem_cons_zero, List.getElem_cons_succ, List.setIfInBounds_toArray, List.set_cons_succ, List.set_cons_zero]
          refine ⟨_, rfl, ?_⟩
          go_wp2_with fail
          refine ⟨rfl, hCA, ?_⟩
          refine ⟨_, _, (.int .i64 ee), rfl, rfl, ⟨rfl, fun W hW => by first | exact ⟨rfl, rfl⟩ | (simp only [Act.eval, execOp]; go_simp; try exact ⟨rfl, rfl⟩)⟩, ?_⟩
          simp only [Act.put, List.getElem_toArray, List.getElem_cons_zero, List.getElem_cons_succ, List.setIfInBounds_toArray, List.set_cons_succ, List.set_cons_zero]
          refine ⟨?_, hWA⟩
          first | rfl | simp only [Act.put, List.getElem_toArray, List.getElem_cons_zero, List.getElem_cons_succ, List.setIfInBounds_toArray, List.set_cons_succ, List.set_cons_zero]
        rintro a9 w9 ⟨rfl, hW9⟩
        simp only [Act.put, List.getElem_toArray, List.getElem_cons_zero, List.getElem_cons_succ, List.setIfInBounds_toArray, List.set_cons_succ, List.set_cons_zero]
        have HF := Lib.hid hW9
        clear hq hC0 hW9 HW HP
        by_cases hee : ee = 0
        · subst hee
          go_wp2_with fail
          go_roundw
          case measure => simp [intOf]; omega
          case rel => exact ⟨i + 1, ml, _, by omega, by go_num, HF.out, HX.out⟩
        · have hzz : z = (ml, fun _ => 0, ee) := by
            have hst := nineTo_stop (room := room) (l := l) (n := k) (i := i + 1) (by rw [HX.out]; exact hee) (9 - (i + 1))
            rw [show i + 1 + (9 - (i + 1)) = 9 by omega] at hst
            have hst : nineTo room l k 9 = (ml, fun j => if j = i then p else f j, ee) := hst.trans HX.out
            rw [HZ.out, hst, if_neg hee]
          subst hzz
          have hq1 := HF.out.res
          have hb1k := HF.out.bel
          have hi1 := HF.out.ix
          have r0 := hq1.c (p := 0) (by decide)
          have f0 := hq1.f 0
          have r1 := hq1.c (p := 1) (by decide)
          have f1 := hq1.f 1
          have r2 := hq1.c (p := 2) (by decide)
          have f2 := hq1.f 2
          have r3 := hq1.c (p := 3) (by decide)
          have f3 := hq1.f 3
          have r4 := hq1.c (p := 4) (by decide)
          have f4 := hq1.f 4
          have r5 := hq1.c (p := 5) (by decide)
          have f5 := hq1.f 5
          have r6 := hq1.c (p := 6) (by decide)
          have f6 := hq1.f 6
          have r7 := hq1.c (p := 7) (by decide)
          have f7 := hq1.f 7
          have r8 := hq1.c (p := 8) (by decide)
          have f8 := hq1.f 8
          have HT := Lib.hid (t9_all hn0 h2l hi1 hq1 hb1k 0 0 0 0 0 0 0 0 0)
          clear HF HX HZ hq1 hb1k hi1
          go_wp2_with fail
          clear r0 f0 r1 f1 r2 f2 r3 f3 r4 f4 r5 f5 r6 f6 r7 f7 r8 f8
          refine bodyPost_ret (results_cell_tmp rfl _ _ _ _ _ _ _ rfl HT.out.1 Try.underlying61 rfl (by kernel_rfl)) rfl ?_
          exact ⟨rfl, HT.out.2.1, HT.out.2.2⟩
      · obtain rfl : i = 9 := by omega
        have hzz : z = (m, f, 0) := by rw [HZ.out, hto, if_pos rfl]
        subst hzz
        have hq1 := H.res
        have hb1k := H.bel
        have hi1 := H.ix
        have h2l := hm6.two
        have r0 := hq1.c (p := 0) (by decide)
        have f0 := hq1.f 0
        have r1 := hq1.c (p := 1) (by decide)
        have f1 := hq1.f 1
        have r2 := hq1.c (p := 2) (by decide)
        have f2 := hq1.f 2
        have r3 := hq1.c (p := 3) (by decide)
        have f3 := hq1.f 3
        have r4 := hq1.c (p := 4) (by decide)
        have f4 := hq1.f 4
        have r5 := hq1.c (p := 5) (by decide)
        have f5 := hq1.f 5
        have r6 := hq1.c (p := 6) (by decide)
        have f6 := hq1.f 6
        have r7 := hq1.c (p := 7) (by decide)
        have f7 := hq1.f 7
        have r8 := hq1.c (p := 8) (by decide)
        have f8 := hq1.f 8
        have o0 := H.out.c (p := 0) (by decide)
        have o1 := H.out.c (p := 1) (by decide)
        have o2 := H.out.c (p := 2) (by decide)
        have o3 := H.out.c (p := 3) (by decide)
        have o4 := H.out.c (p := 4) (by decide)
        have o5 := H.out.c (p := 5) (by decide)
        have o6 := H.out.c (p := 6) (by decide)
        have o7 := H.out.c (p := 7) (by decide)
        have o8 := H.out.c (p := 8) (by decide)
        have HT := Lib.hid (t9_all hn0 h2l hi1 hq1 hb1k (f 0) (f 1) (f 2) (f 3) (f 4) (f 5) (f 6) (f 7) (f 8))
        clear HH HZ H hto hm6 hq1 hb1k hi1
        go_wp2_with fail
        clear r0 f0 r1 f1 r2 f2 r3 f3 r4 f4 r5 f5 r6 f6 r7 f7 r8 f8 o0 o1 o2 o3 o4 o5 o6 o7 o8
        refine bodyPost_ret (results_cell_tmp rfl _ _ _ _ _ _ _ rfl HT.out.1 Try.underlying61 rfl (by kernel_rfl)) rfl ?_
        exact ⟨rfl, HT.out.2.1, HT.out.2.2⟩
end Go.Proofs.Ytikgnjcjbjafaaa
namespace Go.Proofs.Ytikgnjcjbjafaaa
set_option maxRecDepth 100000
set_option linter.unusedVariables false
set_option linter.unusedSimpArgs false
open Go.RowKit Go.Sort

/-- within base.made of nine: the store, what is told, nothing -/
structure E9 (w wr : World) (A : Option Addr) (n c : Nat) (room : Int) : Prop where
  st : wr.heap[w.heap.size]? = some (.cells #[.slice A n c, .int .i64 room] 27 (0, 0))
  res : wr.heap[w.heap.size + 1]? = some (.cells #[.slice none 0 0, .int .i64 0] 27 (0, 0))
  row : N9 wr (w.heap.size + 2) (fun _ => 0)
  non : N9 wr (w.heap.size + 3) (fun _ => 0)
  bel : Below w.heap.size w wr
theorem E9.size {w wr : World} {A : Option Addr} {n c : Nat} {room : Int} (h : E9 w wr A n c room) : w.heap.size + 4 ≤ wr.heap.size := lt_heap6 h.non
theorem E9.low {w wr w' : World} {A : Option Addr} {n c : Nat} {room : Int} (h : E9 w wr A n c room) (hb : Below (w.heap.size + 4) wr w') : E9 w w' A n c room :=
  ⟨(hb.block _ (by omega)).trans h.st, (hb.block _ (by omega)).trans h.res, (hb.block _ (by omega)).trans h.row, (hb.block _ (by omega)).trans h.non, h.bel.trans (hb.mono (by omega))⟩
theorem E9.below {w wr w' : World} {A : Option Addr} {n c : Nat} {room : Int} (h : E9 w wr A n c room) (hb : Below wr.heap.size wr w') : E9 w w' A n c room := h.low (hb.mono h.size)
theorem E9.s0 {w wr : World} {A : Option Addr} {n c : Nat} {room : Int} (h : E9 w wr A n c room) : wr.cell? ⟨w.heap.size, 0, none⟩ = some (.slice A n c) := by rw [Lib.cell_of_heap h.st]; rfl
theorem E9.s1 {w wr : World} {A : Option Addr} {n c : Nat} {room : Int} (h : E9 w wr A n c room) : wr.cell? ⟨w.heap.size, 1, none⟩ = some (.int .i64 room) := by rw [Lib.cell_of_heap h.st]; rfl
theorem E9.r0 {w wr : World} {A : Option Addr} {n c : Nat} {room : Int} (h : E9 w wr A n c room) : wr.cell? ⟨w.heap.size + 1, 0, none⟩ = some (.slice none 0 0) := by rw [Lib.cell_of_heap h.res]; rfl
theorem E9.r1 {w wr : World} {A : Option Addr} {n c : Nat} {room : Int} (h : E9 w wr A n c room) : wr.cell? ⟨w.heap.size + 1, 1, none⟩ = some (.int .i64 0) := by rw [Lib.cell_of_heap h.res]; rfl
theorem E9.free {w wr : World} {A : Option Addr} {n c : Nat} {room : Int} (h : E9 w wr A n c room) (j : Nat) : wr.frozen? ⟨w.heap.size + 1, j, none⟩ = false := Lib.frozen_of_heap h.res j
theorem e9_0 (w : World) (A : Option Addr) (n c : Nat) (room : Int) : E9 w ((((w.alloc (.cells #[.slice A n c, .int .i64 room] 27)).alloc (.cells #[.slice none 0 0, .int .i64 0] 27)).alloc (.cells #[.int .i64 0, .int .i64 0, .int .i64 0, .int .i64 0, .int .i64 0, .int .i64 0, .int .i64 0, .int .i64 0, .int .i64 0] 61)).alloc (.cells #[.int .i64 0, .int .i64 0, .int .i64 0, .int .i64 0, .int .i64 0, .int .i64 0, .int .i64 0, .int .i64 0, .int .i64 0] 61)) A n c room := by
  have h1 := (Below.refl w.heap.size w).alloc (Nat.le_refl _) (.cells #[.slice A n c, .int .i64 room] 27)
  have h2 := h1.alloc h1.size (.cells #[.slice none 0 0, .int .i64 0] 27)
  have h3 := h2.alloc h2.size (.cells #[.int .i64 0, .int .i64 0, .int .i64 0, .int .i64 0, .int .i64 0, .int .i64 0, .int .i64 0, .int .i64 0, .int .i64 0] 61)
  have h4 := h3.alloc h3.size (.cells #[.int .i64 0, .int .i64 0, .int .i64 0, .int .i64 0, .int .i64 0, .int .i64 0, .int .i64 0, .int .i64 0, .int .i64 0] 61)
  exact ⟨heap_old (heap_old (heap_old (heap_alloc_new w _))), heap_old (heap_old (heap_new (by simp))), heap_old (heap_new (by simp)), heap_new (by simp), h4⟩

/-- what is told, under way; C: what else is known -/
structure F9 (w W : World) (C : World → Prop) (B : Nat) (x y : Value) (f : Nat → Int) : Prop where
  res : W.heap[w.heap.size + 1]? = some (.cells #[x, y] 27 (0, 0))
  row : N9 W (w.heap.size + 2) f
  bel : Below w.heap.size w W
  lo : B ≤ W.heap.size
  c : C W
section
variable {w W : World} {C : World → Prop} {B : Nat} {x y : Value} {f : Nat → Int}
theorem F9.set0 (h : F9 w W C B x y f) (hC : ∀ W b j x, (b = w.heap.size + 1 ∨ b = w.heap.size + 2) → C W → C (W.setCell ⟨b, j, none⟩ x)) (u : Value) : F9 w (W.setCell ⟨w.heap.size + 1, 0, none⟩ u) C B u y f := by
  have hr := h.res
  exact ⟨by simp [World.setCell, Array.getElem?_modify, hr], (Below.heap_setCell _ _ _ _ (by show w.heap.size + 2 ≠ w.heap.size + 1; omega)).trans h.row, h.bel.setCell (by show _ ≤ _ + 1; omega) _, by have := h.lo; simpa [World.setCell] using this, hC _ _ _ _ (.inl rfl) h.c⟩
theorem F9.set1 (h : F9 w W C B x y f) (hC : ∀ W b j x, (b = w.heap.size + 1 ∨ b = w.heap.size + 2) → C W → C (W.setCell ⟨b, j, none⟩ x)) (u : Value) : F9 w (W.setCell ⟨w.heap.size + 1, 1, none⟩ u) C B x u f := by
  have hr := h.res
  exact ⟨by simp [World.setCell, Array.getElem?_modify, hr], (Below.heap_setCell _ _ _ _ (by show w.heap.size + 2 ≠ w.heap.size + 1; omega)).trans h.row, h.bel.setCell (by show _ ≤ _ + 1; omega) _, by have := h.lo; simpa [World.setCell] using this, hC _ _ _ _ (.inl rfl) h.c⟩
theorem F9.setr (h : F9 w W C B x y f) (hC : ∀ W b j x, (b = w.heap.size + 1 ∨ b = w.heap.size + 2) → C W → C (W.setCell ⟨b, j, none⟩ x)) {j : Nat} (hj : j < 9) (u : Int) : F9 w (W.setCell ⟨w.heap.size + 2, j, none⟩ (.int .i64 u)) C B x y (fun i => if i = j then u else f i) :=
  ⟨(Below.heap_setCell _ _ _ _ (by show w.heap.size + 1 ≠ w.heap.size + 2; omega)).trans h.res, h.row.set hj u, h.bel.setCell (by show _ ≤ _ + 2; omega) _, by have := h.lo; simpa [World.setCell] using this, hC _ _ _ _ (.inr rfl) h.c⟩
theorem f9_told (h : F9 w W C B x y f) (hC : ∀ W b j x, (b = w.heap.size + 1 ∨ b = w.heap.size + 2) → C W → C (W.setCell ⟨b, j, none⟩ x)) (u v : Value) (x0 x1 x2 x3 x4 x5 x6 x7 x8 : Int) : F9 w (((((((((((W.setCell ⟨w.heap.size + 1, 0, none⟩ u).setCell ⟨w.heap.size + 1, 1, none⟩ v).setCell ⟨w.heap.size + 2, 0, none⟩ (.int .i64 x0)).setCell ⟨w.heap.size + 2, 1, none⟩ (.int .i64 x1)).setCell ⟨w.heap.size + 2, 2, none⟩ (.int .i64 x2)).setCell ⟨w.heap.size + 2, 3, none⟩ (.int .i64 x3)).setCell ⟨w.heap.size + 2, 4, none⟩ (.int .i64 x4)).setCell ⟨w.heap.size + 2, 5, none⟩ (.int .i64 x5)).setCell ⟨w.heap.size + 2, 6, none⟩ (.int .i64 x6)).setCell ⟨w.heap.size + 2, 7, none⟩ (.int .i64 x7)).setCell ⟨w.heap.size + 2, 8, none⟩ (.int .i64 x8)) C B u v (fun i => if i = 8 then x8 else if i = 7 then x7 else if i = 6 then x6 else if i = 5 then x5 else if i = 4 then x4 else if i = 3 then x3 else if i = 2 then x2 else if i = 1 then x1 else if i = 0 then x0 else f i) :=
  ((((((((((h.set0 hC u).set1 hC v).setr hC (j := 0) (by decide) x0).setr hC (j := 1) (by decide) x1).setr hC (j := 2) (by decide) x2).setr hC (j := 3) (by decide) x3).setr hC (j := 4) (by decide) x4).setr hC (j := 5) (by decide) x5).setr hC (j := 6) (by decide) x6).setr hC (j := 7) (by decide) x7).setr hC (j := 8) (by decide) x8
end
/-- a class of worlds: a store's row, and nine numbers, outside of what is told -/
def K9 (w : World) (g q : Nat) (cs : Array Value) (T : Nat) (f : Nat → Int) (W : World) : Prop := W.heap[g]? = some (.cells cs T (0, 0)) ∧ N9 W q f ∧ (g ≠ w.heap.size + 1 ∧ g ≠ w.heap.size + 2 ∧ q ≠ w.heap.size + 1 ∧ q ≠ w.heap.size + 2)
theorem K9.set {w W : World} {g q T : Nat} {cs : Array Value} {f : Nat → Int} (h : K9 w g q cs T f W) {b : Nat} (hb : b = w.heap.size + 1 ∨ b = w.heap.size + 2) (j : Nat) (u : Value) : K9 w g q cs T f (W.setCell ⟨b, j, none⟩ u) := by
  obtain ⟨h1, h2, h3, h4, h5, h6⟩ := h
  refine ⟨(Below.heap_setCell _ _ _ _ ?_).trans h1, (Below.heap_setCell _ _ _ _ ?_).trans h2, h3, h4, h5, h6⟩
  · show g ≠ b
    omega
  · show q ≠ b
    omega
theorem K9.two {w W : World} {g q T : Nat} {cs : Array Value} {f : Nat → Int} (h : K9 w g q cs T f W) (u v : Value) : K9 w g q cs T f ((W.setCell ⟨w.heap.size + 1, 0, none⟩ u).setCell ⟨w.heap.size + 1, 1, none⟩ v) := (h.set (.inl rfl) 0 u).set (.inl rfl) 1 v
theorem K9.all {w W : World} {g q T : Nat} {cs : Array Value} {f : Nat → Int} (h : K9 w g q cs T f W) (u v : Value) (x0 x1 x2 x3 x4 x5 x6 x7 x8 : Int) : K9 w g q cs T f (((((((((((W.setCell ⟨w.heap.size + 1, 0, none⟩ u).setCell ⟨w.heap.size + 1, 1, none⟩ v).setCell ⟨w.heap.size + 2, 0, none⟩ (.int .i64 x0)).setCell ⟨w.heap.size + 2, 1, none⟩ (.int .i64 x1)).setCell ⟨w.heap.size + 2, 2, none⟩ (.int .i64 x2)).setCell ⟨w.heap.size + 2, 3, none⟩ (.int .i64 x3)).setCell ⟨w.heap.size + 2, 4, none⟩ (.int .i64 x4)).setCell ⟨w.heap.size + 2, 5, none⟩ (.int .i64 x5)).setCell ⟨w.heap.size + 2, 6, none⟩ (.int .i64 x6)).setCell ⟨w.heap.size + 2, 7, none⟩ (.int .i64 x7)).setCell ⟨w.heap.size + 2, 8, none⟩ (.int .i64 x8)) :=
  (((((((((h.two u v).set (.inr rfl) 0 _).set (.inr rfl) 1 _).set (.inr rfl) 2 _).set (.inr rfl) 3 _).set (.inr rfl) 4 _).set (.inr rfl) 5 _).set (.inr rfl) 6 _).set (.inr rfl) 7 _).set (.inr rfl) 8 _
theorem K9.c0 {w W : World} {g q T : Nat} {cs : Array Value} {f : Nat → Int} (h : K9 w g q cs T f W) (j : Nat) : W.cell? ⟨g, j, none⟩ = cs[j]? := Lib.cell_of_heap h.1 j
theorem load9_quiet (W : World) (pb : Nat) (f : Nat → Int) (h : N9 W pb f) (ev : Operand → Value) (o : Oper) (x : Operand) (ho : o.op = Op.load 61 x) (hx : ev x = .pointer (some ⟨pb, 0, none⟩)) : Oper.quietUpon Try.prog (fun w' => w' = W) W (.agg (row9 f)) ((execOp ev o).run Try.prog W) := by
  have q0 := h.c (p := 0) (by decide)
  have q1 := h.c (p := 1) (by decide)
  have q2 := h.c (p := 2) (by decide)
  have q3 := h.c (p := 3) (by decide)
  have q4 := h.c (p := 4) (by decide)
  have q5 := h.c (p := 5) (by decide)
  have q6 := h.c (p := 6) (by decide)
  have q7 := h.c (p := 7) (by decide)
  have q8 := h.c (p := 8) (by decide)
  simp only [execOp, ho, hx]
  go_simp
theorem rdN_off {w : World} {B p : Nat} {A : Option Addr} {l : List Nd} (h : RdN w B A l) (ha : 0 < l.length → ∀ b off, A = some ⟨b, off, none⟩ → b ≠ p) (j : Nat) (u : Value) : RdN (w.setCell ⟨p, j, none⟩ u) B A l := by
  intro i hi
  obtain ⟨b, off, e, hlt, hN⟩ := h i hi
  have hc : ∀ o, (w.setCell ⟨p, j, none⟩ u).cell? ⟨b, o, none⟩ = w.cell? ⟨b, o, none⟩ := fun o => World.cell?_of_block (w := w) (Below.heap_setCell _ _ _ _ (ha (by omega) b off e))
  obtain ⟨h0, h1, h2, h3, h4, h5⟩ := hN
  exact ⟨b, off, e, hlt, (hc _).trans h0, (hc _).trans h1, (hc _).trans h2, (hc _).trans h3, (hc _).trans h4, (hc _).trans h5⟩
/-- What a making of nine answers. -/
def grown9 (l : List Nd) (room : Int) (z : List Nd × (Nat → Int) × Int) : List Nd × (Nat → Int) × Int := if right6 l room = true then (if z.2.2 = 0 then z else (l, fun _ => 0, z.2.2)) else (l, fun _ => 0, 1)
def Nin9 (p : List Nd × (Nat → Int) × Int) (A : Option Addr) (l : List Nd) (room : Int) (w : World) (e : Ending) (w' : World) : Prop :=
  ∃ A2 c2, e = .returned (.tuple #[.agg #[.slice A2 p.1.length c2, .int .i64 room], .agg (row9 p.2.1), .int .i64 p.2.2]) ∧ p.1.length ≤ c2 ∧ RdN w' w'.heap.size A2 p.1 ∧ Below w.heap.size w w' ∧ ((A2 = A ∧ p.1 = l) ∨ ∀ b off, A2 = some ⟨b, off, none⟩ → w.heap.size ≤ b)
set_option maxHeartbeats 16000000 in
theorem made9_any (F : Nat) (eg : ∀ args w, (callFunc F args).run Try.prog w = .ok (.enter F args) w) (n : Int) (z : List Nd × (Nat → Int) × Int) (A : Option Addr) (l : List Nd) (c : Nat) (room : Int) (w : World) (hR : RdN w w.heap.size A l) (hl : l.length ≤ 1000000) (hc : l.length ≤ c)
    (hmade : right6 l room = true → ∀ (g b : Nat) (W : World), Below w.heap.size w W → Ix (w.heap.size + 4) W g b l room → w.heap.size + 4 ≤ W.heap.size → Calls Try.prog F #[makerV g, .int .i64 n] W (IxN z (w.heap.size + 4) g b room W)) :
    Calls Try.prog 69 #[storeV A l.length c room, .int .i64 n, .func (.func F) #[] #[]] w (Nin9 (grown9 l room z) A l room w) := by
  have HE0 := Lib.hid (e9_0 w A l.length c room)
  have hs0 := HE0.out.s0
  have hs1 := HE0.out.s1
  have hidx := indexOf_any A l c room _ ((hR.below HE0.out.bel (Nat.le_refl _)).more HE0.out.bel.size) hl hc
  have HMD := Lib.hid hmade
  unfold storeV IndexR at hidx
  unfold storeV
  clear hmade
  cases hr : right6 l room with
  | false =>
    have hz : grown9 l room z = (l, fun _ => 0, 1) := by unfold grown9; rw [hr]; rfl
    rw [hz]
    rw [hr] at hidx
    clear hz hr HMD
    go_enter Try.func69, Try.ntmps69
    go_wp2_with fail
    refine hidx.mono ?_
    generalize ((((w.alloc (.cells #[.slice A l.length c, .int .i64 room] 27)).alloc (.cells #[.slice none 0 0, .int .i64 0] 27)).alloc (.cells #[.int .i64 0, .int .i64 0, .int .i64 0, .int .i64 0, .int .i64 0, .int .i64 0, .int .i64 0, .int .i64 0, .int .i64 0] 61)).alloc (.cells #[.int .i64 0, .int .i64 0, .int .i64 0, .int .i64 0, .int .i64 0, .int .i64 0, .int .i64 0, .int .i64 0, .int .i64 0] 61)) = v0 at *
    rintro e w1 ⟨hb1, (⟨_, rfl⟩ | ⟨hh, _⟩)⟩
    rotate_left
    · exact absurd hh (by decide)
    clear hidx hs0 hs1
    go_wp2_with fail
    generalize hv1 : w1.alloc _ = v1
    have HD := Lib.hid ((HE0.out.below (Qt.more hb1 hb1.size (hv1 ▸ (Below.refl w1.heap.size w1).alloc (Nat.le_refl _) _))).below (below_drew v1))
    have hC0 : K9 w w.heap.size (w.heap.size + 3) #[.slice A l.length c, .int .i64 room] 27 (fun _ => 0) v1.drew := ⟨HD.out.st, HD.out.non, by omega⟩
    clear hv1 hb1 HE0
    have hT := f9_told (C := fun _ => True) (B := v1.drew.heap.size) ⟨HD.out.res, HD.out.row, HD.out.bel, Nat.le_refl _, trivial⟩ (fun _ _ _ _ _ _ => trivial) (.slice A l.length c) (.int .i64 room) 0 0 0 0 0 0 0 0 0 
    simp only [ite_self] at hT
    have r0 := HD.out.r0
    have r1 := HD.out.r1
    have f0 := HD.out.free 0
    have f1 := HD.out.free 1
    have n0 := HD.out.row.c (p := 0) (by decide)
    have k0 := HD.out.row.f 0
    have n1 := HD.out.row.c (p := 1) (by decide)
    have k1 := HD.out.row.f 1
    have n2 := HD.out.row.c (p := 2) (by decide)
    have k2 := HD.out.row.f 2
    have n3 := HD.out.row.c (p := 3) (by decide)
    have k3 := HD.out.row.f 3
    have n4 := HD.out.row.c (p := 4) (by decide)
    have k4 := HD.out.row.f 4
    have n5 := HD.out.row.c (p := 5) (by decide)
    have k5 := HD.out.row.f 5
    have n6 := HD.out.row.c (p := 6) (by decide)
    have k6 := HD.out.row.f 6
    have n7 := HD.out.row.c (p := 7) (by decide)
    have k7 := HD.out.row.f 7
    have n8 := HD.out.row.c (p := 8) (by decide)
    have k8 := HD.out.row.f 8
    clear HD
    refine region_calm_to (fun W => K9 w w.heap.size (w.heap.size + 3) #[.slice A l.length c, .int .i64 room] 27 (fun _ => 0) W) (fun (a0 a9 : Act) (w9 : World) => a9 = (((a0.put (some 21) (.agg #[.slice A l.length c, .int .i64 room])).put (some 22) (.agg #[.int .i64 0, .int .i64 0, .int .i64 0, .int .i64 0, .int .i64 0, .int .i64 0, .int .i64 0, .int .i64 0, .int .i64 0])).put (some 8) (.int .i64 1)) ∧ F9 w w9 (fun _ => True) v1.drew.heap.size (.slice A l.length c) (.int .i64 room) (fun i => 0)) (.calm 0 (.calm 1 (.only 2 (.only 3 (.calm 4 .done))))) (by kernel_rfl) (by kernel_rfl) (by kernel_rfl) (by rfl) hC0 ?_ ?_
    · generalize v1.drew = vd at *
      refine ⟨_, _, (.agg #[.slice A l.length c, .int .i64 room]), rfl, rfl, ⟨rfl, fun W hW => by have q0 := hW.c0 0; have q1 := hW.c0 1; simp only [execOp]; go_simp; done⟩, ?_⟩
      simp only [Act.put, List.getElem_toArray, List.getElem_cons_zero, List.getElem_cons_succ, List.setIfInBounds_toArray, List.set_cons_succ, List.set_cons_zero]
      refine ⟨_, _, (.agg #[.int .i64 0, .int .i64 0, .int .i64 0, .int .i64 0, .int .i64 0, .int .i64 0, .int .i64 0, .int .i64 0, .int .i64 0]), rfl, rfl, ⟨rfl, fun W hW => by exact load9_quiet W _ _ hW.2.1 _ _ _ rfl rfl⟩, ?_⟩
      simp only [Act.put, List.getElem_toArray, List.getElem_cons_zero, List.getElem_cons_succ, List.setIfInBounds_toArray, List.set_cons_succ, List.set_cons_zero]
      refine ⟨_, rfl, ?_⟩
      go_wp2_with fail
      refine ⟨rfl, hC0.two _ _, ?_⟩
      refine ⟨_, rfl, ?_⟩
      go_wp2_with fail
      refine ⟨rfl, hC0.all _ _ 0 0 0 0 0 0 0 0 0, ?_⟩
      refine ⟨_, _, (.int .i64 1), rfl, rfl, ⟨rfl, fun W hW => by first | exact ⟨rfl, rfl⟩ | (simp only [Act.eval, execOp]; go_simp; try exact ⟨rfl, rfl⟩)⟩, ?_⟩
      simp only [Act.put, List.getElem_toArray, List.getElem_cons_zero, List.getElem_cons_succ, List.setIfInBounds_toArray, List.set_cons_succ, List.set_cons_zero]
      refine ⟨?_, hT⟩
      first | rfl | simp only [Act.put, List.getElem_toArray, List.getElem_cons_zero, List.getElem_cons_succ, List.setIfInBounds_toArray, List.set_cons_succ, List.set_cons_zero]
    rintro a9 w9 ⟨rfl, hW9⟩
    simp only [Act.put, List.setIfInBounds_toArray, List.set_cons_succ, List.set_cons_zero]
    have HF := Lib.hid hW9
    clear hC0 hT hW9
    clear r0 r1 f0 f1 n0 k0 n1 k1 n2 k2 n3 k3 n4 k4 n5 k5 n6 k6 n7 k7 n8 k8
    go_wp2_with fail
    refine bodyPost_ret (results_cells rfl _ _ _ _ _ _ _ _ _ _ _ _ rfl rfl HF.out.res HF.out.row Try.underlying27 rfl (by kernel_rfl) Try.underlying61 rfl (by kernel_rfl)) rfl ?_
    exact ⟨A, c, rfl, hc, (hR.below HF.out.bel (Nat.le_refl _)).more HF.out.bel.size, HF.out.bel, .inl ⟨rfl, rfl⟩⟩
  | true =>
    rw [hr] at hidx
    have hz : grown9 l room z = (if z.2.2 = 0 then z else (l, fun _ => 0, z.2.2)) := by unfold grown9; rw [hr]; rfl
    rw [hz]
    have HMM := Lib.hid (HMD.out hr)
    have h2 := (right_iff.1 hr).two
    clear hz hr HMD
    obtain ⟨m, f, ee⟩ := z
    obtain ⟨y, hy⟩ : ∃ y, y = (if ee = 0 then (m, f, ee) else (l, (fun _ => 0 : Nat → Int), ee)) := ⟨_, rfl⟩
    simp only
    rw [← hy]
    have HY := Lib.hid hy
    clear hy
    go_enter Try.func69, Try.ntmps69
    go_wp2_with fail
    refine hidx.mono ?_
    generalize ((((w.alloc (.cells #[.slice A l.length c, .int .i64 room] 27)).alloc (.cells #[.slice none 0 0, .int .i64 0] 27)).alloc (.cells #[.int .i64 0, .int .i64 0, .int .i64 0, .int .i64 0, .int .i64 0, .int .i64 0, .int .i64 0, .int .i64 0, .int .i64 0] 61)).alloc (.cells #[.int .i64 0, .int .i64 0, .int .i64 0, .int .i64 0, .int .i64 0, .int .i64 0, .int .i64 0, .int .i64 0, .int .i64 0] 61)) = v0 at *
    rintro e w1 ⟨hb1, (⟨hh, _⟩ | ⟨_, v, b, D, rfl, hown, hmap, hsays, hbB⟩)⟩
    · exact absurd hh (by decide)
    obtain ⟨q1, cap, rfl, hcap⟩ := ownN_val hown (by omega)
    have hsz := HE0.out.size
    have H1 := HE0.out.below hb1
    have hbx : Below w1.heap.size w1 (w1.alloc (.cells #[.slice (some ⟨q1, 0, none⟩) l.length cap, .int .i64 room, .map (some b)] 115)) := (Below.refl _ _).alloc (Nat.le_refl _) _
    have H2 := Lib.hid (H1.below hbx)
    have hn2 : w.heap.size + 4 ≤ w1.heap.size := H1.size
    have HX : Hid (Ix (w.heap.size + 4) (w1.alloc (.cells #[.slice (some ⟨q1, 0, none⟩) l.length cap, .int .i64 room, .map (some b)] 115)) w1.heap.size b l room) := ix_boxed (ownN_low hown hsz) hmap hsays (by omega) hn2
    have hcall := HMM.out w1.heap.size b (w1.alloc (.cells #[.slice (some ⟨q1, 0, none⟩) l.length cap, .int .i64 room, .map (some b)] 115)) H2.out.bel HX.out (by simp; omega)
    clear hidx hb1 hs0 hs1 H1 hown hmap hsays hbx hbB HE0
    go_wp2_with fail
    refine hcall.mono ?_
    rintro e w2 ⟨rfl, hi2, hb2k⟩
    have H3 := Lib.hid (H2.out.low hb2k.bel)
    have HI2 := Lib.hid hi2
    have hn4 : w.heap.size + 4 ≤ w1.heap.size := hn2
    generalize w1.heap.size = g at *
    clear hcall hb2k hi2 HX HMM H2 hcap
    have hal : Below w2.heap.size w2 (w2.alloc (.cells #[.int .i64 (f 0), .int .i64 (f 1), .int .i64 (f 2), .int .i64 (f 3), .int .i64 (f 4), .int .i64 (f 5), .int .i64 (f 6), .int .i64 (f 7), .int .i64 (f 8)] 61)) := (Below.refl _ _).alloc (Nat.le_refl _) _
    have HQ := Lib.hid (show N9 (w2.alloc (.cells #[.int .i64 (f 0), .int .i64 (f 1), .int .i64 (f 2), .int .i64 (f 3), .int .i64 (f 4), .int .i64 (f 5), .int .i64 (f 6), .int .i64 (f 7), .int .i64 (f 8)] 61)) w2.heap.size f from heap_alloc_new w2 _)
    have HIa := Lib.hid (HI2.out.below hal)
    have H4 := Lib.hid (H3.out.below hal)
    have hq4 : w.heap.size + 4 ≤ w2.heap.size := H3.out.size
    clear HI2 H3 hal
    by_cases he : ee = 0
    · have hy := HY.out
      rw [if_pos he] at hy
      subst hy he
      go_wp2_with fail
      generalize (w2.alloc (.cells #[.int .i64 (f 0), .int .i64 (f 1), .int .i64 (f 2), .int .i64 (f 3), .int .i64 (f 4), .int .i64 (f 5), .int .i64 (f 6), .int .i64 (f 7), .int .i64 (f 8)] 61)) = v2 at *
      generalize w2.heap.size = q at *
      have HD := Lib.hid (H4.out.below (below_drew v2))
      obtain ⟨vv, D2, hI⟩ := HIa.out.below (below_drew v2)
      obtain ⟨B, d, rfl, hd, _⟩ : ∃ B d, vv = .slice B m.length d ∧ m.length ≤ d ∧ NowN v2.drew B m := hI.own.reads
      have hlow : ∀ x, (Value.slice B m.length d).ownBlock = some x → w.heap.size + 4 ≤ x := fun x hx => (ownN_kind hI.own x hx).1
      have hrow := hI.row
      unfold IxRow at hrow
      have hC0 : K9 w g q #[.slice B m.length d, .int .i64 room, .map (some b)] 115 f v2.drew := ⟨hrow, HQ.out.below (below_drew v2), by omega⟩
      have hOW : ∀ W b j x, (b = w.heap.size + 1 ∨ b = w.heap.size + 2) → OwnN W (w.heap.size + 4) (.slice B m.length d) m → OwnN (W.setCell ⟨b, j, none⟩ x) (w.heap.size + 4) (.slice B m.length d) m := fun W b j x hb h => World.ownsRow.kept h (but_set (b := b) j x) (by
        cases hx : (Value.slice B m.length d).ownBlock with
        | none => exact .inl rfl
        | some x => exact .inr (fun e => by injection e with e; have := hlow x hx; omega))
      have hT := f9_told (C := fun W => OwnN W (w.heap.size + 4) (.slice B m.length d) m) (B := v2.drew.heap.size) ⟨HD.out.res, HD.out.row, HD.out.bel, Nat.le_refl _, hI.own⟩ hOW (.slice B m.length d) (.int .i64 room) (f 0) (f 1) (f 2) (f 3) (f 4) (f 5) (f 6) (f 7) (f 8)
      have r0 := HD.out.r0
      have r1 := HD.out.r1
      have f0 := HD.out.free 0
      have f1 := HD.out.free 1
      have n0 := HD.out.row.c (p := 0) (by decide)
      have k0 := HD.out.row.f 0
      have n1 := HD.out.row.c (p := 1) (by decide)
      have k1 := HD.out.row.f 1
      have n2 := HD.out.row.c (p := 2) (by decide)
      have k2 := HD.out.row.f 2
      have n3 := HD.out.row.c (p := 3) (by decide)
      have k3 := HD.out.row.f 3
      have n4 := HD.out.row.c (p := 4) (by decide)
      have k4 := HD.out.row.f 4
      have n5 := HD.out.row.c (p := 5) (by decide)
      have k5 := HD.out.row.f 5
      have n6 := HD.out.row.c (p := 6) (by decide)
      have k6 := HD.out.row.f 6
      have n7 := HD.out.row.c (p := 7) (by decide)
      have k7 := HD.out.row.f 7
      have n8 := HD.out.row.c (p := 8) (by decide)
      have k8 := HD.out.row.f 8
      clear HD H4 HIa HQ hI hOW hrow
      refine region_calm_to (fun W => K9 w g q #[.slice B m.length d, .int .i64 room, .map (some b)] 115 f W) (fun (a0 a9 : Act) (w9 : World) => a9 = ((((a0.put (some 35) (.pointer (some ⟨g, 0, none⟩))).put (some 36) (.agg #[.slice B m.length d, .int .i64 room])).put (some 37) (.agg #[.int .i64 (f 0), .int .i64 (f 1), .int .i64 (f 2), .int .i64 (f 3), .int .i64 (f 4), .int .i64 (f 5), .int .i64 (f 6), .int .i64 (f 7), .int .i64 (f 8)])).put (some 8) (.int .i64 0)) ∧ F9 w w9 (fun W => OwnN W (w.heap.size + 4) (.slice B m.length d) m) v2.drew.heap.size (.slice B m.length d) (.int .i64 room) (fun i => if i = 8 then (f 8) else if i = 7 then (f 7) else if i = 6 then (f 6) else if i = 5 then (f 5) else if i = 4 then (f 4) else if i = 3 then (f 3) else if i = 2 then (f 2) else if i = 1 then (f 1) else if i = 0 then (f 0) else (0 : Int))) (.calm 0 (.calm 1 (.calm 2 (.only 3 (.only 4 (.calm 5 .done)))))) (by kernel_rfl) (by kernel_rfl) (by kernel_rfl) (by rfl) hC0 ?_ ?_
      · generalize v2.drew = vd at *
        refine ⟨_, _, (.pointer (some ⟨g, 0, none⟩)), rfl, rfl, ⟨rfl, fun W hW => by first | exact ⟨rfl, rfl⟩ | (simp only [Act.eval, execOp]; go_simp; try exact ⟨rfl, rfl⟩)⟩, ?_⟩
        simp only [Act.put, List.getElem_toArray, List.getElem_cons_zero, List.getElem_cons_succ, List.setIfInBounds_toArray, List.set_cons_succ, List.set_cons_zero]
        refine ⟨_, _, (.agg #[.slice B m.length d, .int .i64 room]), rfl, rfl, ⟨rfl, fun W hW => by have q0 := hW.c0 0; have q1 := hW.c0 1; simp only [execOp]; go_simp; done⟩, ?_⟩
        simp only [Act.put, List.getElem_toArray, List.getElem_cons_zero, List.getElem_cons_succ, List.setIfInBounds_toArray, List.set_cons_succ, List.set_cons_zero]
        refine ⟨_, _, (.agg #[.int .i64 (f 0), .int .i64 (f 1), .int .i64 (f 2), .int .i64 (f 3), .int .i64 (f 4), .int .i64 (f 5), .int .i64 (f 6), .int .i64 (f 7), .int .i64 (f 8)]), rfl, rfl, ⟨rfl, fun W hW => by exact load9_quiet W _ _ hW.2.1 _ _ _ rfl rfl⟩, ?_⟩
        simp only [Act.put, List.getElem_toArray, List.getElem_cons_zero, List.getElem_cons_succ, List.setIfInBounds_toArray, List.set_cons_succ, List.set_cons_zero]
        refine ⟨_, rfl, ?_⟩
        go_wp2_with fail
        refine ⟨rfl, hC0.two _ _, ?_⟩
        refine ⟨_, rfl, ?_⟩
        go_wp2_with fail
        refine ⟨rfl, hC0.all _ _ (f 0) (f 1) (f 2) (f 3) (f 4) (f 5) (f 6) (f 7) (f 8), ?_⟩
        refine ⟨_, _, (.int .i64 0), rfl, rfl, ⟨rfl, fun W hW => by first | exact ⟨rfl, rfl⟩ | (simp only [Act.eval, execOp]; go_simp; try exact ⟨rfl, rfl⟩)⟩, ?_⟩
        simp only [Act.put, List.getElem_toArray, List.getElem_cons_zero, List.getElem_cons_succ, List.setIfInBounds_toArray, List.set_cons_succ, List.set_cons_zero]
        refine ⟨?_, hT⟩
        first | rfl | simp only [Act.put, List.getElem_toArray, List.getElem_cons_zero, List.getElem_cons_succ, List.setIfInBounds_toArray, List.set_cons_succ, List.set_cons_zero]
      rintro a9 w9 ⟨rfl, hW9⟩
      simp only [Act.put, List.setIfInBounds_toArray, List.set_cons_succ, List.set_cons_zero]
      have HF := Lib.hid hW9
      clear hC0 hT hW9
      clear r0 r1 f0 f1 n0 k0 n1 k1 n2 k2 n3 k3 n4 k4 n5 k5 n6 k6 n7 k7 n8 k8
      go_wp2_with fail
      refine bodyPost_ret (results_cells rfl _ _ _ _ _ _ _ _ _ _ _ _ rfl rfl HF.out.res HF.out.row Try.underlying27 rfl (by kernel_rfl) Try.underlying61 rfl (by kernel_rfl)) rfl ?_
      obtain ⟨B', d', hv, hd', hN⟩ := OwnN.reads HF.out.c
      injection hv with hv1 _ hv2
      subst hv1 hv2
      exact ⟨B, d, rfl, hd, hN, HF.out.bel, .inr (fun b off e => by subst e; have := hlow b rfl; omega)⟩
    · have hy := HY.out
      rw [if_neg he] at hy
      subst hy
      go_wp2_with fail
      generalize (w2.alloc (.cells #[.int .i64 (f 0), .int .i64 (f 1), .int .i64 (f 2), .int .i64 (f 3), .int .i64 (f 4), .int .i64 (f 5), .int .i64 (f 6), .int .i64 (f 7), .int .i64 (f 8)] 61)) = v2 at *
      have HD := Lib.hid (H4.out.below (below_drew v2))
      have hC0 : K9 w w.heap.size (w.heap.size + 3) #[.slice A l.length c, .int .i64 room] 27 (fun _ => 0) v2.drew := ⟨HD.out.st, HD.out.non, by omega⟩
      have hT := f9_told (C := fun _ => True) (B := v2.drew.heap.size) ⟨HD.out.res, HD.out.row, HD.out.bel, Nat.le_refl _, trivial⟩ (fun _ _ _ _ _ _ => trivial) (.slice A l.length c) (.int .i64 room) 0 0 0 0 0 0 0 0 0 
      simp only [ite_self] at hT
      have r0 := HD.out.r0
      have r1 := HD.out.r1
      have f0 := HD.out.free 0
      have f1 := HD.out.free 1
      have n0 := HD.out.row.c (p := 0) (by decide)
      have k0 := HD.out.row.f 0
      have n1 := HD.out.row.c (p := 1) (by decide)
      have k1 := HD.out.row.f 1
      have n2 := HD.out.row.c (p := 2) (by decide)
      have k2 := HD.out.row.f 2
      have n3 := HD.out.row.c (p := 3) (by decide)
      have k3 := HD.out.row.f 3
      have n4 := HD.out.row.c (p := 4) (by decide)
      have k4 := HD.out.row.f 4
      have n5 := HD.out.row.c (p := 5) (by decide)
      have k5 := HD.out.row.f 5
      have n6 := HD.out.row.c (p := 6) (by decide)
      have k6 := HD.out.row.f 6
      have n7 := HD.out.row.c (p := 7) (by decide)
      have k7 := HD.out.row.f 7
      have n8 := HD.out.row.c (p := 8) (by decide)
      have k8 := HD.out.row.f 8
      clear HD H4 HIa HQ
      refine region_calm_to (fun W => K9 w w.heap.size (w.heap.size + 3) #[.slice A l.length c, .int .i64 room] 27 (fun _ => 0) W) (fun (a0 a9 : Act) (w9 : World) => a9 = ((((a0.put (some 32) (.agg #[.slice A l.length c, .int .i64 room])).put (some 33) (.agg #[.int .i64 0, .int .i64 0, .int .i64 0, .int .i64 0, .int .i64 0, .int .i64 0, .int .i64 0, .int .i64 0, .int .i64 0])).put (some 34) (.int .i64 ee)).put (some 8) (.int .i64 ee)) ∧ F9 w w9 (fun _ => True) v2.drew.heap.size (.slice A l.length c) (.int .i64 room) (fun i => 0)) (.calm 0 (.calm 1 (.calm 2 (.only 3 (.only 4 (.calm 5 .done)))))) (by kernel_rfl) (by kernel_rfl) (by kernel_rfl) (by rfl) hC0 ?_ ?_
      · generalize v2.drew = vd at *
        refine ⟨_, _, (.agg #[.slice A l.length c, .int .i64 room]), rfl, rfl, ⟨rfl, fun W hW => by have q0 := hW.c0 0; have q1 := hW.c0 1; simp only [execOp]; go_simp; done⟩, ?_⟩
        simp only [Act.put, List.getElem_toArray, List.getElem_cons_zero, List.getElem_cons_succ, List.setIfInBounds_toArray, List.set_cons_succ, List.set_cons_zero]
        refine ⟨_, _, (.agg #[.int .i64 0, .int .i64 0, .int .i64 0, .int .i64 0, .int .i64 0, .int .i64 0, .int .i64 0, .int .i64 0, .int .i64 0]), rfl, rfl, ⟨rfl, fun W hW => by exact load9_quiet W _ _ hW.2.1 _ _ _ rfl rfl⟩, ?_⟩
        simp only [Act.put, List.getElem_toArray, List.getElem_cons_zero, List.getElem_cons_succ, List.setIfInBounds_toArray, List.set_cons_succ, List.set_cons_zero]
        refine ⟨_, _, (.int .i64 ee), rfl, rfl, ⟨rfl, fun W hW => by first | exact ⟨rfl, rfl⟩ | (simp only [Act.eval, execOp]; go_simp; try exact ⟨rfl, rfl⟩)⟩, ?_⟩
        simp only [Act.put, List.getElem_toArray, List.getElem_cons_zero, List.getElem_cons_succ, List.setIfInBounds_toArray, List.set_cons_succ, List.set_cons_zero]
        refine ⟨_, rfl, ?_⟩
        go_wp2_with fail
        refine ⟨rfl, hC0.two _ _, ?_⟩
        refine ⟨_, rfl, ?_⟩
        go_wp2_with fail
        refine ⟨rfl, hC0.all _ _ 0 0 0 0 0 0 0 0 0, ?_⟩
        refine ⟨_, _, (.int .i64 ee), rfl, rfl, ⟨rfl, fun W hW => by first | exact ⟨rfl, rfl⟩ | (simp only [Act.eval, execOp]; go_simp; try exact ⟨rfl, rfl⟩)⟩, ?_⟩
        simp only [Act.put, List.getElem_toArray, List.getElem_cons_zero, List.getElem_cons_succ, List.setIfInBounds_toArray, List.set_cons_succ, List.set_cons_zero]
        refine ⟨?_, hT⟩
        first | rfl | simp only [Act.put, List.getElem_toArray, List.getElem_cons_zero, List.getElem_cons_succ, List.setIfInBounds_toArray, List.set_cons_succ, List.set_cons_zero]
      rintro a9 w9 ⟨rfl, hW9⟩
      simp only [Act.put, List.setIfInBounds_toArray, List.set_cons_succ, List.set_cons_zero]
      have HF := Lib.hid hW9
      clear hC0 hT hW9
      clear r0 r1 f0 f1 n0 k0 n1 k1 n2 k2 n3 k3 n4 k4 n5 k5 n6 k6 n7 k7 n8 k8
      go_wp2_with fail
      refine bodyPost_ret (results_cells rfl _ _ _ _ _ _ _ _ _ _ _ _ rfl rfl HF.out.res HF.out.row Try.underlying27 rfl (by kernel_rfl) Try.underlying61 rfl (by kernel_rfl)) rfl ?_
      exact ⟨A, c, rfl, hc, (hR.below HF.out.bel (Nat.le_refl _)).more HF.out.bel.size, HF.out.bel, .inl ⟨rfl, rfl⟩⟩
end Go.Proofs.Ytikgnjcjbjafaaa
namespace Go.Proofs.Ytikgnjcjbjafaaa
set_option maxRecDepth 100000
set_option linter.unusedVariables false
set_option linter.unusedSimpArgs false
open Go.RowKit Go.Sort

/-- what Centre and Step answer -/
def centre8 (l : List Nd) (room n : Int) : List Nd × Int × Int := grown6 l room (centreZ room l n)
def step8 (l : List Nd) (room n : Int) : List Nd × Int × Int := grown6 l room (stepZ room l n)
set_option maxHeartbeats 4000000 in
theorem centre8_any (A : Option Addr) (l : List Nd) (c : Nat) (room n : Int) (w : World) (hR : RdN w w.heap.size A l) (hl : l.length ≤ 1000000) (hc : l.length ≤ c) :
    Calls Try.prog 29 #[storeV A l.length c room, .int .i64 n] w (PutR (centre8 l room n) room w) := by
  have HE := Lib.hid (e7_0 hR hc room)
  have hcall := madeB_any 64 (enters_of Try.func64 (by kernel_rfl) rfl) n (centreZ room l n) A l c room _ HE.out.st.rd hl hc (fun hr g b W _ hix _ => makerCentre_any room _ g b l n W hix (right_iff.1 hr))
  rw [show grown6 l room (centreZ room l n) = centre8 l room n from rfl] at hcall
  generalize centre8 l room n = z at *
  have s0 := HE.out.s0
  have s1 := HE.out.s1
  clear hR
  unfold storeV at hcall ⊢
  go_enter Try.func29, Try.ntmps29
  go_wp2_with fail
  refine hcall.mono ?_
  generalize (w.alloc (.cells #[.slice A l.length c, .int .i64 room] 27)).alloc (.cells #[.slice none 0 0, .int .i64 0] 27) = wx at *
  rintro e w2 ⟨v, rfl, ⟨A2, c2, rfl, hc2, hR2⟩, hb2⟩
  have HD := Lib.hid (HE.out.below hb2)
  have r0 := HD.out.r0
  have r1 := HD.out.r1
  have fr0 := HD.out.free 0
  have fr1 := HD.out.free 1
  have ht := HD.out.told hR2 (.slice A2 z.1.length c2) (.int .i64 room)
  have HT := Lib.hid ht
  clear hcall HE HD hb2 hR2 ht s0 s1
  go_wp2_with fail
  clear r0 r1 fr0 fr1
  refine bodyPost_ret (results_cell3 rfl _ _ _ _ _ _ _ rfl HT.out.1 Try.underlying27 rfl (by kernel_rfl)) rfl ?_
  exact ⟨_, rfl, ⟨A2, c2, rfl, hc2, HT.out.2.2⟩, HT.out.2.1⟩
set_option maxHeartbeats 4000000 in
theorem step8_any (A : Option Addr) (l : List Nd) (c : Nat) (room n : Int) (w : World) (hR : RdN w w.heap.size A l) (hl : l.length ≤ 1000000) (hc : l.length ≤ c) :
    Calls Try.prog 31 #[storeV A l.length c room, .int .i64 n] w (PutR (step8 l room n) room w) := by
  have HE := Lib.hid (e7_0 hR hc room)
  have hcall := madeB_any 67 (enters_of Try.func67 (by kernel_rfl) rfl) n (stepZ room l n) A l c room _ HE.out.st.rd hl hc (fun hr g b W _ hix _ => makerStep_any room _ g b l n W hix (right_iff.1 hr))
  rw [show grown6 l room (stepZ room l n) = step8 l room n from rfl] at hcall
  generalize step8 l room n = z at *
  have s0 := HE.out.s0
  have s1 := HE.out.s1
  clear hR
  unfold storeV at hcall ⊢
  go_enter Try.func31, Try.ntmps31
  go_wp2_with fail
  refine hcall.mono ?_
  generalize (w.alloc (.cells #[.slice A l.length c, .int .i64 room] 27)).alloc (.cells #[.slice none 0 0, .int .i64 0] 27) = wx at *
  rintro e w2 ⟨v, rfl, ⟨A2, c2, rfl, hc2, hR2⟩, hb2⟩
  have HD := Lib.hid (HE.out.below hb2)
  have r0 := HD.out.r0
  have r1 := HD.out.r1
  have fr0 := HD.out.free 0
  have fr1 := HD.out.free 1
  have ht := HD.out.told hR2 (.slice A2 z.1.length c2) (.int .i64 room)
  have HT := Lib.hid ht
  clear hcall HE HD hb2 hR2 ht s0 s1
  go_wp2_with fail
  clear r0 r1 fr0 fr1
  refine bodyPost_ret (results_cell3 rfl _ _ _ _ _ _ _ rfl HT.out.1 Try.underlying27 rfl (by kernel_rfl)) rfl ?_
  exact ⟨_, rfl, ⟨A2, c2, rfl, hc2, HT.out.2.2⟩, HT.out.2.1⟩
end Go.Proofs.Ytikgnjcjbjafaaa
namespace Go.Proofs.Ytikgnjcjbjafaaa
set_option maxRecDepth 100000
set_option linter.unusedVariables false
set_option linter.unusedSimpArgs false
open Go.RowKit Go.Sort

/-- what Nine answers -/
def nine8 (l : List Nd) (room n : Int) : List Nd × (Nat → Int) × Int := grown9 l room (nineZ room l n)
def Nin8 (p : List Nd × (Nat → Int) × Int) (room : Int) (w : World) (e : Ending) (w' : World) : Prop :=
  ∃ A2 c2, e = .returned (.tuple #[.agg #[.slice A2 p.1.length c2, .int .i64 room], .agg (row9 p.2.1), .int .i64 p.2.2]) ∧ p.1.length ≤ c2 ∧ RdN w' w'.heap.size A2 p.1 ∧ Below w.heap.size w w'
set_option maxHeartbeats 4000000 in
theorem nine8_any (A : Option Addr) (l : List Nd) (c : Nat) (room n : Int) (w : World) (hR : RdN w w.heap.size A l) (hl : l.length ≤ 1000000) (hc : l.length ≤ c) :
    Calls Try.prog 33 #[storeV A l.length c room, .int .i64 n] w (Nin8 (nine8 l room n) room w) := by
  have h1 := (Below.refl w.heap.size w).alloc (Nat.le_refl _) (.cells #[.slice A l.length c, .int .i64 room] 27)
  have h2 := h1.alloc h1.size (.cells #[.slice none 0 0, .int .i64 0] 27)
  have h3 := h2.alloc h2.size (.cells #[.int .i64 0, .int .i64 0, .int .i64 0, .int .i64 0, .int .i64 0, .int .i64 0, .int .i64 0, .int .i64 0, .int .i64 0] 61)
  have hcall := made9_any 70 (enters_of Try.func70 (by kernel_rfl) rfl) n (nineZ room l n) A l c room _ ((hR.below h3 (Nat.le_refl _)).more h3.size) hl hc (fun hr g b W _ hix _ => makerNine_any room _ g b l n W hix (right_iff.1 hr))
  rw [show grown9 l room (nineZ room l n) = nine8 l room n from rfl] at hcall
  generalize nine8 l room n = z at *
  obtain ⟨m, f, ee⟩ := z
  have hst : (((w.alloc (.cells #[.slice A l.length c, .int .i64 room] 27)).alloc (.cells #[.slice none 0 0, .int .i64 0] 27)).alloc (.cells #[.int .i64 0, .int .i64 0, .int .i64 0, .int .i64 0, .int .i64 0, .int .i64 0, .int .i64 0, .int .i64 0, .int .i64 0] 61)).heap[w.heap.size]? = some (.cells #[.slice A l.length c, .int .i64 room] 27 (0, 0)) := heap_old (heap_old (heap_alloc_new w _))
  have hrs : (((w.alloc (.cells #[.slice A l.length c, .int .i64 room] 27)).alloc (.cells #[.slice none 0 0, .int .i64 0] 27)).alloc (.cells #[.int .i64 0, .int .i64 0, .int .i64 0, .int .i64 0, .int .i64 0, .int .i64 0, .int .i64 0, .int .i64 0, .int .i64 0] 61)).heap[w.heap.size + 1]? = some (.cells #[.slice none 0 0, .int .i64 0] 27 (0, 0)) := heap_old (heap_new (by simp))
  have hrw : N9 (((w.alloc (.cells #[.slice A l.length c, .int .i64 room] 27)).alloc (.cells #[.slice none 0 0, .int .i64 0] 27)).alloc (.cells #[.int .i64 0, .int .i64 0, .int .i64 0, .int .i64 0, .int .i64 0, .int .i64 0, .int .i64 0, .int .i64 0, .int .i64 0] 61)) (w.heap.size + 2) (fun _ => 0) := heap_new (by simp)
  have s0 : (((w.alloc (.cells #[.slice A l.length c, .int .i64 room] 27)).alloc (.cells #[.slice none 0 0, .int .i64 0] 27)).alloc (.cells #[.int .i64 0, .int .i64 0, .int .i64 0, .int .i64 0, .int .i64 0, .int .i64 0, .int .i64 0, .int .i64 0, .int .i64 0] 61)).cell? ⟨w.heap.size, 0, none⟩ = some (.slice A l.length c) := by rw [Lib.cell_of_heap hst]; rfl
  have s1 : (((w.alloc (.cells #[.slice A l.length c, .int .i64 room] 27)).alloc (.cells #[.slice none 0 0, .int .i64 0] 27)).alloc (.cells #[.int .i64 0, .int .i64 0, .int .i64 0, .int .i64 0, .int .i64 0, .int .i64 0, .int .i64 0, .int .i64 0, .int .i64 0] 61)).cell? ⟨w.heap.size, 1, none⟩ = some (.int .i64 room) := by rw [Lib.cell_of_heap hst]; rfl
  have HRS := Lib.hid hrs
  have HRW := Lib.hid hrw
  have H3 := Lib.hid h3
  have hsz : w.heap.size + 3 ≤ (((w.alloc (.cells #[.slice A l.length c, .int .i64 room] 27)).alloc (.cells #[.slice none 0 0, .int .i64 0] 27)).alloc (.cells #[.int .i64 0, .int .i64 0, .int .i64 0, .int .i64 0, .int .i64 0, .int .i64 0, .int .i64 0, .int .i64 0, .int .i64 0] 61)).heap.size := by simp
  have HSZ := Lib.hid hsz
  clear h1 h2 h3 hst hrs hrw hsz
  unfold storeV at hcall ⊢
  go_enter Try.func33, Try.ntmps33
  go_wp2_with fail
  refine hcall.mono ?_
  generalize (((w.alloc (.cells #[.slice A l.length c, .int .i64 room] 27)).alloc (.cells #[.slice none 0 0, .int .i64 0] 27)).alloc (.cells #[.int .i64 0, .int .i64 0, .int .i64 0, .int .i64 0, .int .i64 0, .int .i64 0, .int .i64 0, .int .i64 0, .int .i64 0] 61)) = wx at *
  rintro e w2 ⟨A2, c2, rfl, hc2, hR2, hb2, hoff⟩
  have hsz := HSZ.out
  have hC : ∀ W b j x, (b = w.heap.size + 1 ∨ b = w.heap.size + 2) → RdN W w2.heap.size A2 m → RdN (W.setCell ⟨b, j, none⟩ x) w2.heap.size A2 m := fun W b j x hb h => rdN_off h (fun hm b' off e hbb => by
    rcases hoff with ⟨ha, hl'⟩ | hoff
    · simp only at hl'
      subst ha hl'
      obtain ⟨b2, o2, e2, hlt, _⟩ := hR 0 hm
      rw [e] at e2
      injection e2 with e2
      injection e2 with e2
      omega
    · have := hoff b' off e
      omega) j x
  have hrow := HRW.out.below hb2
  have hres := (hb2.block _ (lt_heap6 HRS.out)).trans HRS.out
  have hT := f9_told (C := fun W => RdN W w2.heap.size A2 m) (B := w2.heap.size) ⟨hres, hrow, Qt.more H3.out H3.out.size hb2, Nat.le_refl _, hR2⟩ hC (.slice A2 m.length c2) (.int .i64 room) (f 0) (f 1) (f 2) (f 3) (f 4) (f 5) (f 6) (f 7) (f 8)
  have HT := Lib.hid hT
  have r0 : w2.cell? ⟨w.heap.size + 1, 0, none⟩ = some (.slice none 0 0) := by rw [Lib.cell_of_heap hres]; rfl
  have r1 : w2.cell? ⟨w.heap.size + 1, 1, none⟩ = some (.int .i64 0) := by rw [Lib.cell_of_heap hres]; rfl
  have f0 : w2.frozen? ⟨w.heap.size + 1, 0, none⟩ = false := Lib.frozen_of_heap hres 0
  have f1 : w2.frozen? ⟨w.heap.size + 1, 1, none⟩ = false := Lib.frozen_of_heap hres 1
  have n0 := hrow.c (p := 0) (by decide)
  have k0 := hrow.f 0
  have n1 := hrow.c (p := 1) (by decide)
  have k1 := hrow.f 1
  have n2 := hrow.c (p := 2) (by decide)
  have k2 := hrow.f 2
  have n3 := hrow.c (p := 3) (by decide)
  have k3 := hrow.f 3
  have n4 := hrow.c (p := 4) (by decide)
  have k4 := hrow.f 4
  have n5 := hrow.c (p := 5) (by decide)
  have k5 := hrow.f 5
  have n6 := hrow.c (p := 6) (by decide)
  have k6 := hrow.f 6
  have n7 := hrow.c (p := 7) (by decide)
  have k7 := hrow.f 7
  have n8 := hrow.c (p := 8) (by decide)
  have k8 := hrow.f 8
  clear hcall HRS HRW H3 HSZ hsz hC hrow hres hT s0 s1 hb2 hoff
  go_wp2_with fail
  clear r0 r1 f0 f1 n0 k0 n1 k1 n2 k2 n3 k3 n4 k4 n5 k5 n6 k6 n7 k7 n8 k8
  refine bodyPost_ret (results_cells rfl _ _ _ _ _ _ _ _ _ _ _ _ rfl rfl HT.out.res HT.out.row Try.underlying27 rfl (by kernel_rfl) Try.underlying61 rfl (by kernel_rfl)) rfl ?_
  exact ⟨A2, c2, rfl, hc2, HT.out.c.more HT.out.lo, HT.out.bel⟩
end Go.Proofs.Ytikgnjcjbjafaaa
