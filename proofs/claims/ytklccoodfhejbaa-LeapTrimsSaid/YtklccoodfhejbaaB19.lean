/-
  Texts that the claims of this seat share, part 19.
-/
import Derived.Test.YtklccoodfhejbaaB18
set_option linter.unusedVariables false
set_option linter.unusedSimpArgs false
namespace Go.Proofs.Ytklccoodfhejbaa
set_option maxRecDepth 100000
set_option linter.unusedVariables false
set_option linter.unusedSimpArgs false
open Go.RowKit Go.Sort

/-- a leap is put into the map -/
theorem LIn.put {n0 : Nat} {w w' : World} {g b mb N : Nat} {l : List Nd} {room n j to : Int} {D : DataW Unit} (h : LIn n0 w g b mb l room) (hs : SaysJ D (okJ room l)) (hm : MapJ w' mb N (D.put (kj n j) (.lit (.int .i64 to)))) (hg : w.grownBy w' (some mb)) (hj : JKey n j) (ht : okJ room l n j to) : LIn n0 w' g b mb l room ∧ BelL n0 w w' := by
  obtain ⟨N0, D0, h1, _⟩ := h.memo
  obtain ⟨es, c, hmm, _⟩ := id h1
  obtain ⟨v, DI, hi⟩ := id h.ix
  have hgm : g ≠ mb := fun e => by
    subst e
    have := hi.row
    unfold IxRow at this
    rw [this] at hmm
    injection hmm with hmm
    cases hmm
  have hvm : v.ownBlock ≠ some mb := fun e => by
    obtain ⟨_, _, cs, fz, hc⟩ := ownN_kind hi.own mb e
    rw [hmm] at hc
    injection hc with hc
    cases hc
  have hrow : IxRow w' g v room (.map (some b)) := by
    unfold IxRow
    rw [hg.block g (lt_heap6 hi.row) (fun e => hgm (by injection e))]
    exact hi.row
  refine ⟨⟨⟨v, DI, hrow, World.ownsRow.kept hi.own hg (.inr hvm), World.ownsMap.kept hi.map hg (fun e => h.ne (by injection e with e; exact e.symm)), hi.says, hi.gB, hi.bB, Nat.le_trans hi.hB hg.size⟩, h.right, ⟨N, _, hm, saysJ_put hs hj ht⟩, h.ne, h.mB⟩, (Below.refl n0 w).grown hg hi.hB (fun k e => by injection e with e; subst e; exact h.mB), Kp.grown hg (fun r e cs T fz hc => by injection e with e; subst e; rw [hmm] at hc; injection hc with hc; cases hc)⟩
set_option maxHeartbeats 8000000 in
theorem leap_of (n0 g b mb : Nat) (room : Int) (e : Nat) (ha : LeapAt 65 n0 g b mb room e) : LeapAt 42 n0 g b mb room e := by
  intro k jn l w hin hk hj he
  have hn0 := hin.ix.hB
  have hal := (Below.refl w.heap.size w).alloc (Nat.le_refl _) (.cells #[.pointer (some ⟨g, 0, none⟩), .map (some mb)] 76)
  have hM : ML (w.alloc (.cells #[.pointer (some ⟨g, 0, none⟩), .map (some mb)] 76)) w.heap.size g mb := heap_new rfl
  have HI := Lib.hid (hin.below hal)
  have HM := Lib.hid hM
  have HA := Lib.hid (BelL.of hal hn0)
  have hsm := hin.right.small
  have hklt := hk.lt
  have HJ := Lib.hid (show JKey (k : Int) (jn : Int) by unfold JKey; omega)
  have hcall := ha k jn l _ HI.out hk hj he
  have HD := Lib.hid (leap_done room e jn k l _ (Sf.of hin.right hk (by omega)) hj)
  have HER := Lib.hid (leap_err room e jn l (k : Int))
  have HK := Lib.hid hk
  have m0 := hM.c0
  have m1 := hM.c1
  obtain ⟨N, D, hmap, hsays⟩ := HI.out.memo
  have hlook := lookJ_run hmap hsays HJ.out
  clear hal hM hin hmap
  rcases hlook with ⟨to, ⟨k', j', p', e', h1, h2, rfl, h4, h5, h6⟩, hrun⟩ | ⟨to, hrun⟩
  · obtain rfl : k' = k := by omega
    obtain rfl : j' = jn := by omega
    obtain rfl : e' = e := by have a1 := h4.lev; have a2 := HK.out.lev; rw [a1] at a2; omega
    have hz : leapN room e' j' l (k' : Int) = (l, (p' : Int), 0) := h6 l (Grows.refl l) HI.out.right
    rw [hz]
    clear hz h6 hcall HD HER
    go_enter Try.func42, Try.ntmps42
    go_wp2_with fail
    go_ret2
    exact ⟨rfl, fun _ => HI.out, HA.out⟩
  · obtain ⟨⟨zl, zn, ze⟩, hzz⟩ : ∃ z, z = leapN room e jn l (k : Int) := ⟨_, rfl⟩
    have her := HER.out
    rw [← hzz] at hcall her ⊢
    have HZ := Lib.hid hzz
    have HE := Lib.hid her
    clear hzz her HER
    go_enter Try.func42, Try.ntmps42
    go_wp2_with fail
    generalize (w.alloc (.cells #[.pointer (some ⟨g, 0, none⟩), .map (some mb)] 76)) = w0 at *
    refine hcall.mono ?_
    rintro r w2 ⟨rfl, hl2, hb2⟩
    dsimp only at hl2
    have hM2 := HM.out.kp hb2.kp
    have m0' := hM2.c0
    have m1' := hM2.c1
    by_cases hze : ze = 0
    · subst hze
      have hL2 := hl2 rfl
      obtain ⟨N2, D2, hmap2, hsays2⟩ := id hL2.memo
      have htight := hmap2.tight hsays2.1.2
      obtain ⟨gr, rr, p, hp, hq, hag⟩ := Done.ok HD.out (by show (leapN room e jn l (k : Int)).2.2 = 0; rw [← HZ.out])
      have hp' : (leapN room e jn l (k : Int)).2.1 = (p : Int) := hp
      have gr' : Grows l (leapN room e jn l (k : Int)).1 := gr
      have hag' : ∀ b, Grows (leapN room e jn l (k : Int)).1 b → Right6 b room → leapN room e jn b (k : Int) = (b, (p : Int), 0) := hag
      have hqs : Sf (leapN room e jn l (k : Int)).1 room e p _ := hq
      have hpl := hqs.is.lt
      have hps := hqs.right.small
      rw [← HZ.out] at hp' gr' hag' hpl hps
      dsimp only at hp' gr' hag' hpl hps
      subst hp'
      have HOK := Lib.hid (show okJ room zl (k : Int) (jn : Int) (p : Int) from ⟨k, jn, p, e, rfl, rfl, rfl, HK.out.grows gr', hj, hag'⟩)
      have hkey := keyOf_jump HJ.out
      have HB2 := Lib.hid (HA.out.trans hb2)
      have HL2 := Lib.hid hL2
      have HS2 := Lib.hid hsays2
      have HP := Lib.hid (show (Lit.int .i64 (p : Int)).wf = true from wf_small ⟨by omega, by omega⟩)
      clear hcall hl2 hb2 hM2 hL2 hmap2 hsays2 gr rr hp hq hag gr' hag' hqs hpl hps HD HM HI HA m0 m1 hrun
      go_wp2_with (at_mapUpdate; refine wpList_mapUpdate_own _ rfl _ _ _ 74 rfl 100 3 jumpKeyed Try.underlying74 (plainElem Try.prog 3) mb 4300043 D2 rfl htight (by unfold maxLen; omega) _ _ _ rfl rfl hkey (.lit (.int .i64 (p : Int))) [] (plainElem_int Try.underlying3 HP.out) ?_; intro w7 hown7 hgrow7; have HF := Lib.hid (LIn.put HL2.out HS2.out hown7 hgrow7 HJ.out HOK.out); clear hown7 hgrow7 htight hkey)
      go_ret2
      exact ⟨rfl, fun _ => HF.out.1, HB2.out.trans HF.out.2⟩
    · have hzn : zn = 0 := HE.out hze
      subst hzn
      have hzb : (ze == 0) = false := beq_eq_false_iff_ne.2 hze
      have HB2 := Lib.hid (HA.out.trans hb2)
      clear hcall hl2 hb2 hM2 HD HM HI HA m0 m1 hrun m0' m1'
      go_wp2_with fail
      go_ret2
      exact ⟨rfl, fun h => absurd h hze, HB2.out⟩
end Go.Proofs.Ytklccoodfhejbaa
namespace Go.Proofs.Ytklccoodfhejbaa
set_option maxRecDepth 100000
set_option linter.unusedVariables false
set_option linter.unusedSimpArgs false

/-- what is done at first -/
def fstZ (room : Int) (e jn : Nat) : List Nd → Int → Zn := if jn = e + 1 then leapN room e (min jn e) else centreZ room
def picF (e jn : Nat) (F : Pic) : Pic := if jn = e + 1 then runF (2 ^ min jn e) F else F
section
variable {room : Int} {l1 l2 l3 l4 : List Nd} {e jn : Nat} {F : Pic}
theorem fst_done (m : List Nd) (q : Nat) (d : Int × Int) (r : Right6 m room) (hs : Sf m room (e + 1) q (moveF F d)) : DoneR room m (fun b => fstZ room e jn b q) (costN e) (fun b p => Sf b room e p (moveF (picF e jn F) d)) := by
  unfold fstZ picF
  by_cases h : jn = e + 1
  · rw [if_pos h, if_pos h]
    have := leap_done room e (min jn e) q m _ hs (Nat.min_le_right _ _)
    rw [run_move] at this
    exact this
  · rw [if_neg h, if_neg h]
    exact hs.centre.mono (cost_pos e) fun b p g rb hp => hp
theorem snd_done (m : List Nd) (q : Nat) (d : Int × Int) (r : Right6 m room) (hs : Sf m room (e + 1) q (moveF F d)) : DoneR room m (fun b => leapN room e (min jn e) b q) (costN e) (fun b p => Sf b room e p (moveF (runF (2 ^ min jn e) F) d)) := by
  have := leap_done room e (min jn e) q m _ hs (Nat.min_le_right _ _)
  rw [run_move] at this
  exact this
theorem stage1 (r1 : Right6 l1 room) {p : Nat → Int} {p' : Nat → Nat} (hp : ∀ t, t < 9 → p t = ((p' t : Nat) : Int) ∧ Sf l1 room (e + 1) (p' t) (moveF F (dNine (e + 1) t))) (i : Nat) (hi : i ≤ 9) :
    ManyR room l1 (fun b => eachTo (fstZ room e jn) b p i) (i * costN e) (fun m q => ∀ t, t < i → ∃ q' : Nat, q t = (q' : Int) ∧ Sf m room e q' (moveF (picF e jn F) (dNine (e + 1) t))) :=
  each_done (f := fstZ room e jn) (K := 9) (N := costN e) (Q := fun t b q => Sf b room e q (moveF (picF e jn F) (dNine (e + 1) t))) r1 (fun t m b q _ hs g r => hs.grows g r) (fun t ht m g r => by
    obtain ⟨e1, e2⟩ := hp t ht
    rw [e1]
    exact fst_done m _ _ r (e2.grows g r)) i hi
theorem stage2 (r2 : Right6 l2 room) (he : e + 1 ≤ 41) {q : Nat → Int} {q' : Nat → Nat} {G : Pic} (hq : ∀ t, t < 9 → q t = ((q' t : Nat) : Int) ∧ Sf l2 room e (q' t) (moveF G (dNine (e + 1) t))) (i : Nat) (hi : i ≤ 4) :
    ManyR room l2 (fun b => eachTo (fun m i => put6 m room (overK q i)) b cornP i) (i * 1) (fun b r => ∀ t, t < i → ∃ r' : Nat, r t = (r' : Int) ∧ Sf b room (e + 1) r' (moveF G (dFour e t))) :=
  each_done (f := fun m i => put6 m room (overK q i)) (p := cornP) (K := 4) (N := 1) (Q := fun i b r => Sf b room (e + 1) r (moveF G (dFour e i))) r2 (fun t m b q _ hs g r => hs.grows g r) (fun i hi m g r => by
    refine join_done r (by omega) (q := fun k => q' (i / 2 * 3 + i % 2 + (k / 2 * 3 + k % 2))) (fun k hk => ?_) fun k hk => ?_
    · have hc : (cornP i).toNat = i / 2 * 3 + i % 2 := by unfold cornP; rw [Int.toNat_natCast]
      have := (hq (i / 2 * 3 + i % 2 + (k / 2 * 3 + k % 2)) (by omega)).1
      unfold overK
      rw [hc]
      rcases (by omega : k = 0 ∨ k = 1 ∨ k = 2 ∨ k = 3) with rfl | rfl | rfl | rfl <;> exact this
    · rw [move_move]
      have := ((hq (i / 2 * 3 + i % 2 + (k / 2 * 3 + k % 2)) (by omega)).2).grows g r
      rw [← quad_sum e i k hi hk] at this
      exact this) i hi
theorem stage3 (r3 : Right6 l3 room) {s : Nat → Int} {s' : Nat → Nat} {G : Pic} (hs : ∀ t, t < 4 → s t = ((s' t : Nat) : Int) ∧ Sf l3 room (e + 1) (s' t) (moveF G (dFour e t))) (i : Nat) (hi : i ≤ 4) :
    ManyR room l3 (fun b => eachTo (leapN room e (min jn e)) b s i) (i * costN e) (fun b u => ∀ t, t < i → ∃ u' : Nat, u t = (u' : Int) ∧ Sf b room e u' (moveF (runF (2 ^ min jn e) G) (dFour e t))) :=
  each_done (f := leapN room e (min jn e)) (K := 4) (N := costN e) (Q := fun t b q => Sf b room e q (moveF (runF (2 ^ min jn e) G) (dFour e t))) r3 (fun t m b q _ hs g r => hs.grows g r) (fun t ht m g r => by
    obtain ⟨e1, e2⟩ := hs t ht
    rw [e1]
    exact snd_done m _ _ r (e2.grows g r)) i hi
end
end Go.Proofs.Ytklccoodfhejbaa
namespace Go.Proofs.Ytklccoodfhejbaa
set_option maxRecDepth 100000
set_option linter.unusedVariables false
set_option linter.unusedSimpArgs false
open Go.RowKit Go.Sort

theorem enterL {F : FuncId} {fn : Func} {c : Code} (hf : Try.prog.funcs[F]? = some fn) (hname : (fn.name == "runtime.NumGoroutine") = false) (hb : fn.body = some c) (args : Array Value) (w : World) : (callFunc F args).run Try.prog w = .ok (.enter F args) w := by
  have h1 : fn.name ≠ "runtime.NumGoroutine" := by simpa using hname
  simp [callFunc, hf, h1, hb]
theorem and_no {α : Type} {z : List Nd × α × Int} {f : List Nd → α → Zn} (h : z.2.2 ≠ 0) : andZ z f = (z.1, 0, z.2.2) := if_neg h
theorem and_yes {α : Type} {z : List Nd × α × Int} {f : List Nd → α → Zn} (h : z.2.2 = 0) : andZ z f = f z.1 z.2.1 := if_pos h
/-- What anew keeps: its boxes. -/
structure AnAt (n0 : Nat) (w W : World) (g mb lb jn : Nat) (lev : Int) : Prop where
  ml : ML W w.heap.size g mb
  jb : LR W (w.heap.size + 1) (jn : Int)
  lb_ : LR W lb lev
  bel : BelL n0 w W
theorem AnAt.keep {n0 : Nat} {w W W' : World} {g mb lb jn : Nat} {lev : Int} (h : AnAt n0 w W g mb lb jn lev) (hb : BelL n0 W W') : AnAt n0 w W' g mb lb jn lev := ⟨h.ml.kp hb.kp, h.jb.kp hb.kp, h.lb_.kp hb.kp, h.bel.trans hb⟩
theorem AnAt.set {n0 : Nat} {w W : World} {g mb lb jn : Nat} {lev : Int} (h : AnAt n0 w W g mb lb jn lev) (hn : n0 ≤ w.heap.size) {qb : Nat} (h1 : w.heap.size + 1 < qb) (h2 : qb ≠ lb) (j : Nat) (u : Value) : AnAt n0 w (W.setCell ⟨qb, j, none⟩ u) g mb lb jn lev := by
  refine ⟨?_, ?_, ?_, h.bel.setNew (by omega) hn j u⟩
  · unfold ML; rw [Below.heap_setCell _ _ _ _ (by show w.heap.size ≠ qb; omega)]; exact h.ml
  · unfold LR; rw [Below.heap_setCell _ _ _ _ (by show w.heap.size + 1 ≠ qb; omega)]; exact h.jb
  · unfold LR; rw [Below.heap_setCell _ _ _ _ (by show lb ≠ qb; exact h2.symm)]; exact h.lb_
set_option maxHeartbeats 8000000 in
theorem anew_more (n0 g b mb : Nat) (room : Int) (e : Nat) (he1 : e + 1 ≤ 40) (ih : LeapAt 42 n0 g b mb room e) : LeapAt 65 n0 g b mb room (e + 1) := by
  intro k jn l w hin hk hj he
  obtain ⟨Z, hZ⟩ : ∃ Z, Z = leapN room (e + 1) jn l (k : Int) := ⟨_, rfl⟩
  rw [← hZ]
  have HZ := Lib.hid (show Z = farZ room (fstZ room e jn) (leapN room e (min jn e)) l (k : Int) from hZ)
  clear hZ
  have hn0 := hin.ix.hB
  have hal := ((Below.refl w.heap.size w).alloc (Nat.le_refl _) (.cells #[.pointer (some ⟨g, 0, none⟩), .map (some mb)] 76)).alloc (by simp) (.cells #[.int .i64 (jn : Int)] 3)
  have hM : ML ((w.alloc (.cells #[.pointer (some ⟨g, 0, none⟩), .map (some mb)] 76)).alloc (.cells #[.int .i64 (jn : Int)] 3)) w.heap.size g mb := heap_old (heap_new rfl)
  have hJ : LR ((w.alloc (.cells #[.pointer (some ⟨g, 0, none⟩), .map (some mb)] 76)).alloc (.cells #[.int .i64 (jn : Int)] 3)) (w.heap.size + 1) (jn : Int) := heap_new (by simp)
  have HI := Lib.hid (hin.below hal)
  have HM := Lib.hid hM
  have HJ := Lib.hid hJ
  have HA := Lib.hid (BelL.of hal hn0)
  have HR := Lib.hid hin.right
  have hlv := levelL_any room n0 g b mb l k hk.lt _ HI.out.ix hin.right
  obtain ⟨lev, hlev⟩ : ∃ lev : Int, lev = (e : Int) + 3 := ⟨_, rfl⟩
  rw [show (l.getD k deadN).1 = lev by rw [hk.lev, hlev]; omega] at hlv
  have HSF := Lib.hid (Sf.of hin.right hk (by omega))
  have hl2 : (lev == 2) = false := beq_eq_false_iff_ne.2 (by omega)
  have m0 := hM.c0
  have m1 := hM.c1
  have HK := Lib.hid hk
  have HLEV := Lib.hid hlev
  have hni := fun W hW => makerNine_any room n0 g b l (k : Int) W hW HR.out
  have HNI := Lib.hid hni
  clear hal hM hJ hin hni hlev
  go_enter Try.func65, Try.ntmps65
  go_wp2_with fail
  generalize ((w.alloc (.cells #[.pointer (some ⟨g, 0, none⟩), .map (some mb)] 76)).alloc (.cells #[.int .i64 (jn : Int)] 3)) = w0 at *
  refine hlv.mono ?_
  rintro r w1 ⟨rfl, hb1⟩
  have hal := (Below.refl w1.heap.size w1).alloc (Nat.le_refl _) (.cells #[.int .i64 lev] 3)
  have hbb := Qt.more hb1 hb1.size hal
  have HI1 := Lib.hid (HI.out.below hbb)
  have hAn : AnAt n0 w (w1.alloc (.cells #[.int .i64 lev] 3)) g mb w1.heap.size jn lev := ⟨HM.out.below hbb, HJ.out.below hbb, heap_new rfl, HA.out.trans (.of hbb HI.out.ix.hB)⟩
  have HAN := Lib.hid hAn
  have hlb : w.heap.size + 1 < w1.heap.size := Nat.lt_of_lt_of_le (lt_heap6 HJ.out) hb1.size
  have m0' := hAn.ml.c0
  have hst := HNI.out _ HI1.out.ix
  obtain ⟨⟨nl, nq, ne⟩, hN⟩ : ∃ z, z = nineZ room l (k : Int) := ⟨_, rfl⟩
  rw [← hN] at hst
  have HN := Lib.hid hN
  clear hlv hb1 hal hbb m0 m1 HI HM HJ HA HNI hAn hN
  go_wp2_with fail
  generalize (w1.alloc (.cells #[.int .i64 lev] 3)) = v1 at *
  generalize w1.heap.size = lb at *
  refine hst.mono ?_
  rintro r w2 ⟨rfl, hi2, hb2⟩
  dsimp only at hi2
  by_cases hne : ne = 0
  · subst hne
    have hmk := Many.ok HSF.out.nine (by show (nineZ room l (k : Int)).2.2 = 0; rw [← HN.out])
    have hmk : Grows l (nineZ room l (k : Int)).1 ∧ Right6 (nineZ room l (k : Int)).1 room ∧ ∀ t, t < 9 → ∃ q' : Nat, (nineZ room l (k : Int)).2.1 t = (q' : Int) ∧ Sf (nineZ room l (k : Int)).1 room (e + 1) q' (moveF _ (dNine (e + 1) t)) := hmk
    rw [← HN.out] at hmk
    obtain ⟨gr, rr, hq⟩ := hmk
    obtain ⟨nq', hnq⟩ := pick_nat hq
    have hal := (Below.refl w2.heap.size w2).alloc (Nat.le_refl _) (.cells (row9 nq) 110)
    have hln : lb < w2.heap.size := lt_heap6 (HAN.out.lb_.kp hb2.kp)
    have HI2 := Lib.hid ((HI1.out.base hb2 hi2 rr gr).below hal)
    have HAN2 := Lib.hid ((HAN.out.keep hb2.l).keep (.of hal hi2.hB))
    have HQ2 := Lib.hid (show N9 (w2.alloc (.cells (row9 nq) 110)) w2.heap.size nq from heap_new rfl)
    have HNQ := Lib.hid hnq
    have HP9 := Lib.hid (show ∀ t, t < 9 → nq t = ((nq' t : Nat) : Int) ∧ Sf nl room (e + 1) (nq' t) (moveF _ (dNine (e + 1) t)) from hnq)
    have HZ1 : Hid (Z = andZ (eachTo (fstZ room e jn) nl nq 9) fun l2 q => andZ (eachTo (fun m i => put6 m room (overK q i)) l2 cornP 4) fun l3 r => andZ (eachTo (leapN room e (min jn e)) l3 r 4) fun l4 s => put6 l4 room (fourK s)) := by
      show _ = _
      rw [HZ.out]
      unfold farZ
      rw [← HN.out]
      exact and_yes rfl
    have HRR := Lib.hid (show Right6 nl room from rr)
    have HQB := Lib.hid (show w.heap.size + 1 < w2.heap.size ∧ w2.heap.size ≠ lb by omega)
    have m0' := HAN2.out.ml.c0
    have m1' := HAN2.out.ml.c1
    have j0 := HAN2.out.jb.c
    have l0 := HAN2.out.lb_.c
    have hw2 : IntKind.i64.wrap (lev - 2) = lev - 2 := by have := HLEV.out; rw [IntKind.wrap_i64]; omega
    have hkeep := fun W W' (h : AnAt n0 w W g mb lb jn lev) (hb : BelL n0 W W') => h.keep hb
    have hset := fun W j u (h : AnAt n0 w W g mb lb jn lev) => h.set (HI2.out.ix.hB |> fun _ => hn0) HQB.out.1 HQB.out.2 j u
    have hst1 := fun i (hi : i ≤ 9) (h0 : (eachTo (fstZ room e jn) nl nq i).2.2 = 0) => Many.ok (stage1 (jn := jn) HRR.out HP9.out i hi) h0
    have HST1 := Lib.hid hst1
    have hlevE : lev = (e : Int) + 3 := HLEV.out
    have hE : ∀ fv, (jn = e + 1 → fv = .func (.func 84) #[] #[.pointer (some ⟨w.heap.size, 0, none⟩), .pointer (some ⟨w.heap.size + 1, 0, none⟩), .pointer (some ⟨lb, 0, none⟩)]) → (jn ≠ e + 1 → fv = .func (.func 69) #[makerV g] #[]) →
        Calls Try.prog 85 #[.slice (some ⟨w2.heap.size, 0, none⟩) 9 9, fv] (w2.alloc (.cells (row9 nq) 110)) fun r w' => r = .returned (.int .i64 (eachTo (fstZ room e jn) nl nq 9).2.2) ∧ ((eachTo (fstZ room e jn) nl nq 9).2.2 = 0 → N9 w' w2.heap.size (eachTo (fstZ room e jn) nl nq 9).2.1 ∧ LIn n0 w' g b mb (eachTo (fstZ room e jn) nl nq 9).1 room) ∧ AnAt n0 w w' g mb lb jn lev ∧ Below n0 (w2.alloc (.cells (row9 nq) 110)) w' := by
      intro fv h1 h2
      by_cases hje : jn = e + 1
      · rw [h1 hje]
        refine each9_3 _ (enterL Try.func84 (by kernel_rfl) rfl) _ _ _ n0 g b mb room _ _ _ _ (fun W => AnAt n0 w W g mb lb jn lev) _ HAN2.out hkeep (fun W j u h => hset W j u h) HQ2.out HI2.out (by omega) ?_
        intro i hi W hP hL h0
        obtain ⟨gi, ri, _⟩ := HST1.out i (by omega) h0
        obtain ⟨e1, e2⟩ := HP9.out i hi
        have hc := ih (nq' i) (min jn e) _ W hL (e2.is.grows gi) (Nat.min_le_right _ _) (by omega)
        have hl := hP.lb_.c
        rw [hlevE] at hl
        have ha := anew1_any n0 g b mb w.heap.size (w.heap.size + 1) lb e jn room (nq' i) _ W hP.ml hP.jb.c hl (by omega) (by omega) hc
        rw [e1]
        have ef : fstZ room e jn = leapN room e (min jn e) := by unfold fstZ; rw [if_pos hje]
        rw [ef] at ha ⊢
        exact ha
      · rw [h2 hje]
        refine each9_b _ (enterL Try.func69 (by kernel_rfl) rfl) _ n0 g b mb room _ _ _ _ (fun W => AnAt n0 w W g mb lb jn lev) _ HAN2.out hkeep (fun W j u h => hset W j u h) HQ2.out HI2.out (by omega) ?_
        intro i hi W hP hL h0
        obtain ⟨gi, ri, _⟩ := HST1.out i (by omega) h0
        obtain ⟨e1, e2⟩ := HP9.out i hi
        have ef : fstZ room e jn = centreZ room := by unfold fstZ; rw [if_neg hje]
        obtain ⟨X, hX⟩ : ∃ X, X = (eachTo (fstZ room e jn) nl nq i).1 := ⟨_, rfl⟩
        rw [← hX] at gi ri hL ⊢
        clear hX
        have hd := fst_done (room := room) (e := e) (jn := jn) _ (nq' i) _ ri (e2.grows gi ri)
        refine (makerCentre_any room n0 g b _ (nq i) W hL.ix ri).mono ?_
        rintro r w' ⟨rfl, hix, hbk⟩
        rw [ef]
        refine ⟨rfl, fun hz => ?_, hbk.l⟩
        rw [ef] at hd
        rw [e1] at hz hix ⊢
        obtain ⟨gd, rd, _⟩ := Done.ok hd hz
        exact hL.base hbk hix rd gd
    have hdc : ((jn : Int) == lev - 2) = decide (jn = e + 1) := by
      by_cases h : jn = e + 1
      · rw [decide_eq_true h]; exact beq_iff_eq.2 (by omega)
      · rw [decide_eq_false h]; exact beq_eq_false_iff_ne.2 (by omega)
    have HE := Lib.hid hE
    clear hst hi2 hb2 hq gr rr hnq hal HI1 HAN hE hlevE hst1 hkeep hset
    have hside : (jn = e + 1) ∨ (jn ≠ e + 1) := by omega
    rcases hside with hje | hje
    all_goals
      first | rw [decide_eq_true hje] at hdc | rw [decide_eq_false hje] at hdc
      go_wp2_with fail
      refine (HE.out _ (fun h => by first | rfl | exact absurd h hje) (fun h => by first | rfl | exact absurd hje h)).mono ?_
      rintro r w3 ⟨rfl, hok3, hP3, hb3⟩
      obtain ⟨E2, hE2⟩ : ∃ E2, E2 = eachTo (fstZ room e jn) nl nq 9 := ⟨_, rfl⟩
      have hS2 := fun h0 => HST1.out 9 (Nat.le_refl _) h0
      rw [← hE2] at hok3 hS2 ⊢
      have hz1 := HZ1.out
      rw [← hE2] at hz1
      obtain ⟨l2, q2, e2⟩ := E2
      dsimp only at hok3 hS2 hz1
      by_cases h2 : e2 = 0
      · subst h2
        rw [and_yes rfl] at hz1
        obtain ⟨hN9, hL3⟩ := hok3 rfl
        obtain ⟨g2, r2, hq2⟩ := hS2 rfl
        obtain ⟨q2', hq2'⟩ := pick_nat hq2
        have hal3 := (Below.refl w3.heap.size w3).alloc (Nat.le_refl _) (.cells #[.int .i64 0, .int .i64 1, .int .i64 3, .int .i64 4] 33)
        have hn3 := hL3.ix.hB
        have HP3 := Lib.hid (hP3.keep (.of hal3 hn3))
        have HL3 := Lib.hid (hL3.below hal3)
        have HN9 := Lib.hid (hN9.below hal3)
        have HN4 := Lib.hid (show N4 (w3.alloc (.cells #[.int .i64 0, .int .i64 1, .int .i64 3, .int .i64 4] 33)) w3.heap.size cornP from heap_new rfl)
        have hz3 : w.heap.size + 1 < w3.heap.size ∧ w3.heap.size ≠ lb ∧ w3.heap.size ≠ w2.heap.size := by
          have h1 := lt_heap6 hP3.jb
          have h2 := lt_heap6 hP3.lb_
          have h3 := lt_heap6 hN9
          omega
        have HZ3 := Lib.hid hz3
        have HZ4 := Lib.hid hz1
        have HG2 := Lib.hid (And.intro r2 hq2')
        have hst2 := fun i (hi : i ≤ 4) (h0 : (eachTo (fun m i => put6 m room (overK q2 i)) l2 cornP i).2.2 = 0) => Many.ok (stage2 (e := e) HG2.out.1 (by omega) HG2.out.2 i hi) h0
        have HST2 := Lib.hid hst2
        have m0' := HP3.out.ml.c0
        have m1' := HP3.out.ml.c1
        have j0 := HP3.out.jb.c
        have l0 := HP3.out.lb_.c
        clear hok3 hP3 hb3 hS2 hz1 hN9 hL3 g2 r2 hq2 hq2' hal3 hst2 hz3
        have hE2' : Calls Try.prog 85 #[.slice (some ⟨w3.heap.size, 0, none⟩) 4 4, .func (.func 86) #[] #[.pointer (some ⟨w.heap.size, 0, none⟩), .pointer (some ⟨w2.heap.size, 0, none⟩)]] (w3.alloc (.cells #[.int .i64 0, .int .i64 1, .int .i64 3, .int .i64 4] 33)) fun r w' => r = .returned (.int .i64 (eachTo (fun m i => put6 m room (overK q2 i)) l2 cornP 4).2.2) ∧ ((eachTo (fun m i => put6 m room (overK q2 i)) l2 cornP 4).2.2 = 0 → N4 w' w3.heap.size (eachTo (fun m i => put6 m room (overK q2 i)) l2 cornP 4).2.1 ∧ LIn n0 w' g b mb (eachTo (fun m i => put6 m room (overK q2 i)) l2 cornP 4).1 room) ∧ (AnAt n0 w w' g mb lb jn lev ∧ N9 w' w2.heap.size q2) ∧ Below n0 (w3.alloc (.cells #[.int .i64 0, .int .i64 1, .int .i64 3, .int .i64 4] 33)) w' := by
          refine each4_2 _ (enterL Try.func86 (by kernel_rfl) rfl) _ _ n0 g b mb room _ _ _ _ (fun W => AnAt n0 w W g mb lb jn lev ∧ N9 W w2.heap.size q2) _ ⟨HP3.out, HN9.out⟩ (fun W W' h hb => ⟨h.1.keep hb, h.2.kp hb.kp⟩) (fun W j u h => ⟨h.1.set hn0 HZ3.out.1 HZ3.out.2.1 j u, ?_⟩) HN4.out HL3.out (by omega) ?_
          · unfold N9
            rw [Below.heap_setCell _ _ _ _ (by show w2.heap.size ≠ w3.heap.size; exact fun e => HZ3.out.2.2 e.symm)]
            exact h.2
          · intro i hi W hP hL h0
            exact anew2_any n0 g b mb w.heap.size w2.heap.size room _ q2 i hi W hL hP.1.ml hP.2
        have HE2' := Lib.hid hE2'
        clear hE2'
        go_wp2_with fail
        refine HE2'.out.mono ?_
        rintro r w4 ⟨rfl, hok4, hP4, hb4⟩
        obtain ⟨E3, hE3⟩ : ∃ E3, E3 = eachTo (fun m i => put6 m room (overK q2 i)) l2 cornP 4 := ⟨_, rfl⟩
        have hS3 := fun h0 => HST2.out 4 (Nat.le_refl _) h0
        have hz4 := HZ4.out
        rw [← hE3] at hok4 hS3 hz4 ⊢
        obtain ⟨l3, s3, e3⟩ := E3
        dsimp only at hok4 hS3 hz4
        by_cases h3 : e3 = 0
        · subst h3
          rw [and_yes rfl] at hz4
          dsimp only at hz4
          obtain ⟨hN4', hL4⟩ := hok4 rfl
          obtain ⟨g3, r3, hs3⟩ := hS3 rfl
          obtain ⟨s3', hs3'⟩ := pick_nat hs3
          have HP4 := Lib.hid hP4.1
          have HL4 := Lib.hid hL4
          have HN4' := Lib.hid hN4'
          have HZ5 := Lib.hid hz4
          have HG3 := Lib.hid (And.intro r3 hs3')
          have hst3 := fun i (hi : i ≤ 4) (h0 : (eachTo (leapN room e (min jn e)) l3 s3 i).2.2 = 0) => Many.ok (stage3 (e := e) (jn := jn) HG3.out.1 HG3.out.2 i hi) h0
          have HST3 := Lib.hid hst3
          have m0'' := HP4.out.ml.c0
          have m1'' := HP4.out.ml.c1
          have hE3' : Calls Try.prog 85 #[.slice (some ⟨w3.heap.size, 0, none⟩) 4 4, .func (.func 84) #[] #[.pointer (some ⟨w.heap.size, 0, none⟩), .pointer (some ⟨w.heap.size + 1, 0, none⟩), .pointer (some ⟨lb, 0, none⟩)]] w4 fun r w' => r = .returned (.int .i64 (eachTo (leapN room e (min jn e)) l3 s3 4).2.2) ∧ ((eachTo (leapN room e (min jn e)) l3 s3 4).2.2 = 0 → N4 w' w3.heap.size (eachTo (leapN room e (min jn e)) l3 s3 4).2.1 ∧ LIn n0 w' g b mb (eachTo (leapN room e (min jn e)) l3 s3 4).1 room) ∧ AnAt n0 w w' g mb lb jn lev ∧ Below n0 w4 w' := by
            refine each4_3 _ (enterL Try.func84 (by kernel_rfl) rfl) _ _ _ n0 g b mb room _ _ _ _ (fun W => AnAt n0 w W g mb lb jn lev) _ HP4.out (fun W W' h hb => h.keep hb) (fun W j u h => h.set hn0 HZ3.out.1 HZ3.out.2.1 j u) HN4'.out HL4.out (by omega) ?_
            intro i hi W hP hL h0
            obtain ⟨gi, ri, _⟩ := HST3.out i (by omega) h0
            obtain ⟨e1, e2⟩ := HG3.out.2 i hi
            have hc := ih (s3' i) (min jn e) _ W hL (e2.is.grows gi) (Nat.min_le_right _ _) (by omega)
            have hl := hP.lb_.c
            rw [HLEV.out] at hl
            have ha := anew1_any n0 g b mb w.heap.size (w.heap.size + 1) lb e jn room (s3' i) _ W hP.ml hP.jb.c hl (by omega) (by omega) hc
            rw [e1]
            exact ha
          have HE3' := Lib.hid hE3'
          clear hE3' hok4 hP4 hb4 hS3 hz4 hN4' hL4 g3 r3 hs3 hs3' hst3 HE2' HST2 HG2 HN9 HN4 HP3 HL3 m0' m1' j0 l0
          go_wp2_with fail
          refine HE3'.out.mono ?_
          rintro r w5 ⟨rfl, hok5, hP5, hb5⟩
          obtain ⟨E4, hE4⟩ : ∃ E4, E4 = eachTo (leapN room e (min jn e)) l3 s3 4 := ⟨_, rfl⟩
          have hS4 := fun h0 => HST3.out 4 (Nat.le_refl _) h0
          have hz5 := HZ5.out
          rw [← hE4] at hok5 hS4 hz5 ⊢
          obtain ⟨l4, s4, e4⟩ := E4
          dsimp only at hok5 hS4 hz5
          by_cases h4 : e4 = 0
          · subst h4
            rw [and_yes rfl] at hz5
            dsimp only at hz5
            obtain ⟨hN5, hL5⟩ := hok5 rfl
            obtain ⟨g4, r4, _⟩ := hS4 rfl
            have hgr := put_grows7 r4 (fourK s4)
            have hrr := put_right r4 (fourK s4)
            have hin := intern_anyK n0 g b l4 room (fourK s4) w5 hL5.ix r4
            rw [← hz5] at hgr hrr hin
            unfold kidsV fourK at hin
            have n0' := hN5.c (p := 0) (by decide)
            have n1' := hN5.c (p := 1) (by decide)
            have n2' := hN5.c (p := 2) (by decide)
            have n3' := hN5.c (p := 3) (by decide)
            have mm0 := hP5.ml.c0
            have mm1 := hP5.ml.c1
            have HL5 := Lib.hid hL5
            have HP5 := Lib.hid hP5
            have HGR := Lib.hid (And.intro hgr hrr)
            clear hok5 hP5 hb5 hS4 hz5 hN5 hL5 g4 r4 hgr hrr HE3' HST3 HG3 HN4' HL4 m0'' m1''
            go_wp2_with fail
            refine hin.mono ?_
            rintro r w6 ⟨rfl, hi6, hb6⟩
            have HF := Lib.hid (fun (hz : Z.2.2 = 0) => HL5.out.base hb6 hi6 HGR.out.2 HGR.out.1)
            have HB6 := Lib.hid ((HP5.out.keep hb6.l).bel)
            clear hin hi6 hb6 n0' n1' n2' n3' mm0 mm1
            go_wp2_with fail
            go_ret2
            exact ⟨rfl, HF.out, HB6.out⟩
          · have hz : Z = (l4, 0, e4) := by rw [hz5]; exact and_no h4
            subst hz
            have h4b : (e4 == 0) = false := beq_eq_false_iff_ne.2 h4
            have HB := Lib.hid hP5.bel
            clear hok5 hP5 hb5 hS4 hz5
            go_wp2_with fail
            go_ret2
            exact ⟨rfl, fun h => absurd h h4, HB.out⟩
        · have hz : Z = (l3, 0, e3) := by rw [hz4]; exact and_no h3
          subst hz
          have h3b : (e3 == 0) = false := beq_eq_false_iff_ne.2 h3
          have HB := Lib.hid hP4.1.bel
          clear hok4 hP4 hb4 hS3 hz4
          go_wp2_with fail
          go_ret2
          exact ⟨rfl, fun h => absurd h h3, HB.out⟩
      · have hz : Z = (l2, 0, e2) := by rw [hz1]; exact and_no h2
        subst hz
        have h2b : (e2 == 0) = false := beq_eq_false_iff_ne.2 h2
        have HB := Lib.hid hP3.bel
        clear hok3 hP3 hb3 hS2 hz1
        go_wp2_with fail
        go_ret2
        exact ⟨rfl, fun h => absurd h h2, HB.out⟩
  · have hz : Z = (nl, 0, ne) := by
      rw [HZ.out]
      unfold farZ andZ
      rw [← HN.out]
      exact if_neg hne
    subst hz
    have hzb : (ne == 0) = false := beq_eq_false_iff_ne.2 hne
    have HB := Lib.hid ((HAN.out.keep hb2.l).bel.trans (.of ((Below.refl w2.heap.size w2).alloc (Nat.le_refl _) (.cells (row9 nq) 110)) hi2.hB))
    clear hst hi2 hb2 m0' HAN
    go_wp2_with fail
    go_ret2
    exact ⟨rfl, fun h => absurd h hne, HB.out⟩
end Go.Proofs.Ytklccoodfhejbaa
namespace Go.Proofs.Ytklccoodfhejbaa
set_option maxRecDepth 100000
set_option linter.unusedVariables false
set_option linter.unusedSimpArgs false
open Go.RowKit Go.Sort

/-- what is made of a node of a level from 2 on, of a store that is right; with an error the store is as it was -/
def grownL (l : List Nd) (room n : Int) (z : Zn) : Zn := if (right6 l room && decide (2 ≤ levI l n)) = true then (if z.2.2 = 0 then z else (l, 0, z.2.2)) else (l, 0, 1)
theorem lIn_new {n0 : Nat} {w : World} {g b : Nat} {l : List Nd} {room : Int} (hi : Ix n0 w g b l room) (hr : Right6 l room) (c : Nat) : LIn n0 (w.alloc (.map #[] c)) g b w.heap.size l room := by
  have hal := (Below.refl w.heap.size w).alloc (Nat.le_refl _) (.map #[] c)
  obtain ⟨v, D, h⟩ := id hi
  obtain ⟨es, c', hm⟩ := map_kind h.map
  refine ⟨hi.below hal, hr, ⟨0, .map [], ⟨#[], c, heap_alloc_new w _, ⟨by simp, ⟨by simp, by simp, by simp⟩, by simp⟩, by simp, by simp⟩, saysJ_new _⟩, ?_, hi.hB⟩
  have := lt_heap6 hm
  omega
theorem makeMapJ_run (w : World) : (Instr.makeMap 74 none).run Try.prog w = .ok (.map (some w.heap.size)) (w.alloc (.map #[] 0)) := by
  have ht := Try.underlying74
  simp [Instr.makeMap, run_underlying ht]
set_option maxHeartbeats 8000000 in
theorem madeL_1 (F : Nat) (eg : ∀ args w, (callFunc F args).run Try.prog w = .ok (.enter F args) w) (k0 : Value) (n : Int) (z : Zn) (A : Option Addr) (l : List Nd) (c : Nat) (room : Int) (w : World) (hR : RdN w w.heap.size A l) (hl : l.length ≤ 1000000) (hc : l.length ≤ c) (hlv : ∀ i, i < l.length → -9223372036854775808 ≤ (l.getD i deadN).1 ∧ (l.getD i deadN).1 ≤ 9223372036854775807)
    (hmade : right6 l room = true → 2 ≤ levI l n → ∀ (g b mb : Nat) (W : World), Below w.heap.size w W → LIn (w.heap.size + 2) W g b mb l room → Calls Try.prog F #[makerL g mb, k0] W (LpR z (w.heap.size + 2) g b mb room W)) :
    Calls Try.prog 39 #[storeV A l.length c room, .int .i64 n, .func (.func F) #[] #[k0]] w (PutR (grownL l room n z) room w) := by
  have HH0 := Lib.hid (empHead_0 w A l.length c room)
  have hs0 := HH0.out.s0
  have hs1 := HH0.out.s1
  have hidx := indexOf_any A l c room _ ((hR.below HH0.out.bel (Nat.le_refl _)).more HH0.out.bel.size) hl hc
  have HMD := Lib.hid hmade
  unfold storeV IndexR at hidx
  unfold storeV
  clear hmade
  cases hr : right6 l room with
  | false =>
    have hz : grownL l room n z = (l, 0, 1) := by unfold grownL; rw [hr]; rfl
    rw [hz]
    rw [hr] at hidx
    clear hz hr
    go_enter Try.func39, Try.ntmps39
    go_wp2_with fail
    refine hidx.mono ?_
    rintro e w1 ⟨hb1, (⟨_, rfl⟩ | ⟨hh, _⟩)⟩
    rotate_left
    · exact absurd hh (by decide)
    have H1 := HH0.out.below hb1
    have H2 := Lib.hid (H1.below ((Below.refl w1.heap.size w1).alloc (Nat.le_refl _) (.cells #[.slice none 0 0, .int .i64 0, .map none] 95)))
    have s0 := H2.out.s0
    have s1 := H2.out.s1
    have r0 := H2.out.r0
    have r1 := H2.out.r1
    have f0 := H2.out.free 0
    have f1 := H2.out.free 1
    have ht := Lib.hid (H2.out.told (.slice A l.length c) (.int .i64 room))
    clear hidx hb1 hs0 hs1 H1
    go_wp2_with fail
    refine bodyPost_ret (results_cell3 rfl _ _ _ _ _ _ _ rfl ht.out.1 Try.underlying26 rfl (by kernel_rfl)) rfl ?_
    exact ⟨_, rfl, ⟨A, c, rfl, hc, (hR.below ht.out.2 (Nat.le_refl _)).more ht.out.2.size⟩, ht.out.2⟩
  | true =>
    rw [hr] at hidx
    have h2 := (right_iff.1 hr).two
    have HR6 := Lib.hid (right_iff.1 hr)
    have HMM := Lib.hid (HMD.out hr)
    by_cases hlev : 2 ≤ levI l n
    · have hz : grownL l room n z = (if z.2.2 = 0 then z else (l, 0, z.2.2)) := by unfold grownL; rw [hr, decide_eq_true hlev]; rfl
      rw [hz]
      have HMN := Lib.hid (HMM.out hlev)
      clear HMM
      obtain ⟨e0, k, rfl, hIs, hle, hlv2⟩ := lev_is HR6.out hlev
      have hklt := hIs.lt
      have hkz : (k : Int) < (l.length : Int) := by omega
      have hkn : ¬ (k : Int) < 0 := by omega
      obtain ⟨b0, off, rfl, hbB, hcell⟩ := hR.at_ (by omega)
      have x0 := (hcell k hklt).1
      rw [hIs.lev] at x0
      obtain ⟨lv, hlvv⟩ : ∃ lv : Int, lv = ((e0 + 2 : Nat) : Int) := ⟨_, rfl⟩
      rw [← hlvv] at x0
      have hlv2' : ¬ lv < 2 := by omega
      obtain ⟨m, q, ee⟩ := z
      obtain ⟨y, hy⟩ : ∃ y, y = (if ee = 0 then (m, q, ee) else (l, 0, ee)) := ⟨_, rfl⟩
      simp only
      rw [← hy]
      have HY := Lib.hid hy
      clear hy hz hr HMD hlv2 hle hIs hlev hcell hlvv
      go_enter Try.func39, Try.ntmps39
      go_wp2_with fail
      refine hidx.mono ?_
      rintro e w1 ⟨hb1, (⟨hh, _⟩ | ⟨_, v, b, D, rfl, hown, hmap, hsays, hbB'⟩)⟩
      · exact absurd hh (by decide)
      obtain ⟨q1, cap, rfl, hcap⟩ := ownN_val hown (by omega)
      have hsz := HH0.out.size
      have H1 := HH0.out.below hb1
      have hbx : Below w1.heap.size w1 (w1.alloc (.cells #[.slice (some ⟨q1, 0, none⟩) l.length cap, .int .i64 room, .map (some b)] 95)) := (Below.refl _ _).alloc (Nat.le_refl _) _
      have H2 := Lib.hid (H1.below hbx)
      have hn2 : w.heap.size + 2 ≤ w1.heap.size := H1.size
      have HX : Hid (Ix (w.heap.size + 2) (w1.alloc (.cells #[.slice (some ⟨q1, 0, none⟩) l.length cap, .int .i64 room, .map (some b)] 95)) w1.heap.size b l room) := ix_boxed (ownN_low hown hsz) hmap hsays (by omega) hn2
      have s0 := H2.out.s0
      have x1 := Qt.keep H2.out.bel x0
      clear hidx hb1 hs0 hs1 H1 hown hmap hsays hbx hbB' x0
      have hmk := makeMapJ_run
      have hs3 : (w1.alloc (.cells #[.slice (some ⟨q1, 0, none⟩) l.length cap, .int .i64 room, .map (some b)] 95)).heap.size = w1.heap.size + 1 := by simp
      have hli := lIn_new HX.out HR6.out 0
      rw [hs3] at hli
      have hb3 := (Below.refl _ (w1.alloc (.cells #[.slice (some ⟨q1, 0, none⟩) l.length cap, .int .i64 room, .map (some b)] 95))).alloc (Nat.le_refl _) (.map #[] 0)
      have H3 := Lib.hid (H2.out.below hb3)
      have hcall := HMN.out w1.heap.size b (w1.heap.size + 1) _ H3.out.bel hli
      clear hli hb3 hs3 HX HMN
      go_wp2_with fail
      refine hcall.mono ?_
      rintro e w2 ⟨rfl, hl2, hb2⟩
      have hb2b := hb2.bel
      have hbel2 := H3.out
      have H4 : EmpHead w w2 (some ⟨b0, off, none⟩) l.length c room := ⟨(hb2b.block _ (by omega)).trans hbel2.store, (hb2b.block _ (by omega)).trans hbel2.res, hbel2.bel.trans (hb2b.mono (by omega))⟩
      have HI2 := Lib.hid hl2
      clear hcall hb2 hb2b hbel2 hl2 H2 H3 hmk s0 x1
      have s0 := H4.s0
      have s1 := H4.s1
      have r0 := H4.r0
      have r1 := H4.r1
      have f0 := H4.free 0
      have f1 := H4.free 1
      by_cases he : ee = 0
      · have hy := HY.out
        rw [if_pos he] at hy
        subst hy he
        obtain ⟨v2, D2, hI⟩ := (HI2.out rfl).ix
        have g0 := hI.row.c0
        have g1 := hI.row.c1
        have hv : ∃ B d, v2 = .slice B m.length d ∧ m.length ≤ d ∧ NowN w2 B m := hI.own.reads
        obtain ⟨B, d, rfl, hd, hNow⟩ := hv
        have hlow : ∀ x, (Value.slice B m.length d).ownBlock = some x → w.heap.size + 2 ≤ x := fun x hx => (ownN_kind hI.own x hx).1
        have ht := Lib.hid (H4.told (.slice B m.length d) (.int .i64 room))
        have hne : (Value.slice B m.length d).ownBlock = none ∨ (Value.slice B m.length d).ownBlock ≠ some (w.heap.size + 1) := by
          cases hx : (Value.slice B m.length d).ownBlock with
          | none => exact .inl rfl
          | some x => exact .inr (fun e => by injection e with e; have := hlow x hx; omega)
        have hfin := World.ownsRow.kept (World.ownsRow.kept hI.own (but_set (b := w.heap.size + 1) 0 (.slice B m.length d)) hne) (but_set (b := w.heap.size + 1) 1 (.int .i64 room)) hne
        have HFN := Lib.hid (OwnN.reads hfin)
        clear hI hNow hlow hne hfin H4
        go_wp2_with fail
        refine bodyPost_ret (results_cell3 rfl _ _ _ _ _ _ _ rfl ht.out.1 Try.underlying26 rfl (by kernel_rfl)) rfl ?_
        exact ⟨_, rfl, HFN.out, ht.out.2⟩
      · have hy := HY.out
        rw [if_neg he] at hy
        subst hy
        have ht := Lib.hid (H4.told (.slice (some ⟨b0, off, none⟩) l.length c) (.int .i64 room))
        clear H4
        go_wp2_with fail
        refine bodyPost_ret (results_cell3 rfl _ _ _ _ _ _ _ rfl ht.out.1 Try.underlying26 rfl (by kernel_rfl)) rfl ?_
        exact ⟨_, rfl, ⟨_, c, rfl, hc, (hR.below ht.out.2 (Nat.le_refl _)).more ht.out.2.size⟩, ht.out.2⟩
    · have hz : grownL l room n z = (l, 0, 1) := by unfold grownL; rw [hr, decide_eq_false hlev]; rfl
      rw [hz]
      have hcase : n < 0 ∨ (¬ n < 0 ∧ (l.length : Int) ≤ n) ∨ (¬ n < 0 ∧ ¬ (l.length : Int) ≤ n ∧ ∃ k : Nat, n = (k : Int) ∧ k < l.length ∧ (l.getD k deadN).1 < 2) := by
        by_cases h0 : n < 0
        · exact .inl h0
        · by_cases h1 : (l.length : Int) ≤ n
          · exact .inr (.inl ⟨h0, h1⟩)
          · refine .inr (.inr ⟨h0, h1, n.toNat, by omega, by omega, ?_⟩)
            unfold levI at hlev
            rw [if_pos (by omega)] at hlev
            unfold ndAt at hlev
            omega
      clear hlev hz hr HMM HMD
      rcases hcase with hn0 | ⟨hn0, hn1⟩ | ⟨hn0, hn1, k, rfl, hkl, hlv2⟩
      · have d0 : decide (n < 0) = true := decide_eq_true hn0
        go_enter Try.func39, Try.ntmps39
        go_wp2_with fail
        refine hidx.mono ?_
        rintro e w1 ⟨hb1, (⟨hh, _⟩ | ⟨_, v, b, D, rfl, hown, hmap, hsays, hbB'⟩)⟩
        · exact absurd hh (by decide)
        obtain ⟨q1, cap, rfl, hcap⟩ := ownN_val hown (by omega)
        have H1 := HH0.out.below hb1
        have hbx : Below w1.heap.size w1 (w1.alloc (.cells #[.slice (some ⟨q1, 0, none⟩) l.length cap, .int .i64 room, .map (some b)] 95)) := (Below.refl _ _).alloc (Nat.le_refl _) _
        have H2 := Lib.hid (H1.below hbx)
        have s0 := H2.out.s0
        have s1 := H2.out.s1
        have r0 := H2.out.r0
        have r1 := H2.out.r1
        have f0 := H2.out.free 0
        have f1 := H2.out.free 1
        have ht := Lib.hid (H2.out.told (.slice A l.length c) (.int .i64 room))
        clear hidx hb1 hs0 hs1 H1 hown hmap hsays hbx hbB'
        go_wp2_with fail
        refine bodyPost_ret (results_cell3 rfl _ _ _ _ _ _ _ rfl ht.out.1 Try.underlying26 rfl (by kernel_rfl)) rfl ?_
        exact ⟨_, rfl, ⟨_, c, rfl, hc, (hR.below ht.out.2 (Nat.le_refl _)).more ht.out.2.size⟩, ht.out.2⟩
      · have d0 : decide (n < 0) = false := decide_eq_false hn0
        have d1 : decide ((l.length : Int) ≤ n) = true := decide_eq_true hn1
        go_enter Try.func39, Try.ntmps39
        go_wp2_with fail
        refine hidx.mono ?_
        rintro e w1 ⟨hb1, (⟨hh, _⟩ | ⟨_, v, b, D, rfl, hown, hmap, hsays, hbB'⟩)⟩
        · exact absurd hh (by decide)
        obtain ⟨q1, cap, rfl, hcap⟩ := ownN_val hown (by omega)
        have H1 := HH0.out.below hb1
        have hbx : Below w1.heap.size w1 (w1.alloc (.cells #[.slice (some ⟨q1, 0, none⟩) l.length cap, .int .i64 room, .map (some b)] 95)) := (Below.refl _ _).alloc (Nat.le_refl _) _
        have H2 := Lib.hid (H1.below hbx)
        have s0 := H2.out.s0
        have s1 := H2.out.s1
        have r0 := H2.out.r0
        have r1 := H2.out.r1
        have f0 := H2.out.free 0
        have f1 := H2.out.free 1
        have ht := Lib.hid (H2.out.told (.slice A l.length c) (.int .i64 room))
        clear hidx hb1 hs0 hs1 H1 hown hmap hsays hbx hbB'
        go_wp2_with fail
        refine bodyPost_ret (results_cell3 rfl _ _ _ _ _ _ _ rfl ht.out.1 Try.underlying26 rfl (by kernel_rfl)) rfl ?_
        exact ⟨_, rfl, ⟨_, c, rfl, hc, (hR.below ht.out.2 (Nat.le_refl _)).more ht.out.2.size⟩, ht.out.2⟩
      · obtain ⟨b0, off, rfl, hbB, hcell⟩ := hR.at_ (by omega)
        have x0 := (hcell k hkl).1
        have hkz : (k : Int) < (l.length : Int) := by omega
        have hkn : ¬ (k : Int) < 0 := by omega
        generalize (l.getD k deadN).1 = lv at *
        clear hcell hn0 hn1
        go_enter Try.func39, Try.ntmps39
        go_wp2_with fail
        refine hidx.mono ?_
        rintro e w1 ⟨hb1, (⟨hh, _⟩ | ⟨_, v, b, D, rfl, hown, hmap, hsays, hbB'⟩)⟩
        · exact absurd hh (by decide)
        obtain ⟨q1, cap, rfl, hcap⟩ := ownN_val hown (by omega)
        have H1 := HH0.out.below hb1
        have hbx : Below w1.heap.size w1 (w1.alloc (.cells #[.slice (some ⟨q1, 0, none⟩) l.length cap, .int .i64 room, .map (some b)] 95)) := (Below.refl _ _).alloc (Nat.le_refl _) _
        have H2 := Lib.hid (H1.below hbx)
        have s0 := H2.out.s0
        have s1 := H2.out.s1
        have r0 := H2.out.r0
        have r1 := H2.out.r1
        have f0 := H2.out.free 0
        have f1 := H2.out.free 1
        have x1 := Qt.keep H2.out.bel x0
        have ht := Lib.hid (H2.out.told (.slice (some ⟨b0, off, none⟩) l.length c) (.int .i64 room))
        clear hidx hb1 hs0 hs1 H1 hown hmap hsays hbx hbB'
        go_wp2_with fail
        refine bodyPost_ret (results_cell3 rfl _ _ _ _ _ _ _ rfl ht.out.1 Try.underlying26 rfl (by kernel_rfl)) rfl ?_
        exact ⟨_, rfl, ⟨_, c, rfl, hc, (hR.below ht.out.2 (Nat.le_refl _)).more ht.out.2.size⟩, ht.out.2⟩
set_option maxHeartbeats 8000000 in
theorem madeL_2 (F : Nat) (eg : ∀ args w, (callFunc F args).run Try.prog w = .ok (.enter F args) w) (k0 k1 : Value) (n : Int) (z : Zn) (A : Option Addr) (l : List Nd) (c : Nat) (room : Int) (w : World) (hR : RdN w w.heap.size A l) (hl : l.length ≤ 1000000) (hc : l.length ≤ c) (hlv : ∀ i, i < l.length → -9223372036854775808 ≤ (l.getD i deadN).1 ∧ (l.getD i deadN).1 ≤ 9223372036854775807)
    (hmade : right6 l room = true → 2 ≤ levI l n → ∀ (g b mb : Nat) (W : World), Below w.heap.size w W → LIn (w.heap.size + 2) W g b mb l room → Calls Try.prog F #[makerL g mb, k0, k1] W (LpR z (w.heap.size + 2) g b mb room W)) :
    Calls Try.prog 39 #[storeV A l.length c room, .int .i64 n, .func (.func F) #[] #[k0, k1]] w (PutR (grownL l room n z) room w) := by
  have HH0 := Lib.hid (empHead_0 w A l.length c room)
  have hs0 := HH0.out.s0
  have hs1 := HH0.out.s1
  have hidx := indexOf_any A l c room _ ((hR.below HH0.out.bel (Nat.le_refl _)).more HH0.out.bel.size) hl hc
  have HMD := Lib.hid hmade
  unfold storeV IndexR at hidx
  unfold storeV
  clear hmade
  cases hr : right6 l room with
  | false =>
    have hz : grownL l room n z = (l, 0, 1) := by unfold grownL; rw [hr]; rfl
    rw [hz]
    rw [hr] at hidx
    clear hz hr
    go_enter Try.func39, Try.ntmps39
    go_wp2_with fail
    refine hidx.mono ?_
    rintro e w1 ⟨hb1, (⟨_, rfl⟩ | ⟨hh, _⟩)⟩
    rotate_left
    · exact absurd hh (by decide)
    have H1 := HH0.out.below hb1
    have H2 := Lib.hid (H1.below ((Below.refl w1.heap.size w1).alloc (Nat.le_refl _) (.cells #[.slice none 0 0, .int .i64 0, .map none] 95)))
    have s0 := H2.out.s0
    have s1 := H2.out.s1
    have r0 := H2.out.r0
    have r1 := H2.out.r1
    have f0 := H2.out.free 0
    have f1 := H2.out.free 1
    have ht := Lib.hid (H2.out.told (.slice A l.length c) (.int .i64 room))
    clear hidx hb1 hs0 hs1 H1
    go_wp2_with fail
    refine bodyPost_ret (results_cell3 rfl _ _ _ _ _ _ _ rfl ht.out.1 Try.underlying26 rfl (by kernel_rfl)) rfl ?_
    exact ⟨_, rfl, ⟨A, c, rfl, hc, (hR.below ht.out.2 (Nat.le_refl _)).more ht.out.2.size⟩, ht.out.2⟩
  | true =>
    rw [hr] at hidx
    have h2 := (right_iff.1 hr).two
    have HR6 := Lib.hid (right_iff.1 hr)
    have HMM := Lib.hid (HMD.out hr)
    by_cases hlev : 2 ≤ levI l n
    · have hz : grownL l room n z = (if z.2.2 = 0 then z else (l, 0, z.2.2)) := by unfold grownL; rw [hr, decide_eq_true hlev]; rfl
      rw [hz]
      have HMN := Lib.hid (HMM.out hlev)
      clear HMM
      obtain ⟨e0, k, rfl, hIs, hle, hlv2⟩ := lev_is HR6.out hlev
      have hklt := hIs.lt
      have hkz : (k : Int) < (l.length : Int) := by omega
      have hkn : ¬ (k : Int) < 0 := by omega
      obtain ⟨b0, off, rfl, hbB, hcell⟩ := hR.at_ (by omega)
      have x0 := (hcell k hklt).1
      rw [hIs.lev] at x0
      obtain ⟨lv, hlvv⟩ : ∃ lv : Int, lv = ((e0 + 2 : Nat) : Int) := ⟨_, rfl⟩
      rw [← hlvv] at x0
      have hlv2' : ¬ lv < 2 := by omega
      obtain ⟨m, q, ee⟩ := z
      obtain ⟨y, hy⟩ : ∃ y, y = (if ee = 0 then (m, q, ee) else (l, 0, ee)) := ⟨_, rfl⟩
      simp only
      rw [← hy]
      have HY := Lib.hid hy
      clear hy hz hr HMD hlv2 hle hIs hlev hcell hlvv
      go_enter Try.func39, Try.ntmps39
      go_wp2_with fail
      refine hidx.mono ?_
      rintro e w1 ⟨hb1, (⟨hh, _⟩ | ⟨_, v, b, D, rfl, hown, hmap, hsays, hbB'⟩)⟩
      · exact absurd hh (by decide)
      obtain ⟨q1, cap, rfl, hcap⟩ := ownN_val hown (by omega)
      have hsz := HH0.out.size
      have H1 := HH0.out.below hb1
      have hbx : Below w1.heap.size w1 (w1.alloc (.cells #[.slice (some ⟨q1, 0, none⟩) l.length cap, .int .i64 room, .map (some b)] 95)) := (Below.refl _ _).alloc (Nat.le_refl _) _
      have H2 := Lib.hid (H1.below hbx)
      have hn2 : w.heap.size + 2 ≤ w1.heap.size := H1.size
      have HX : Hid (Ix (w.heap.size + 2) (w1.alloc (.cells #[.slice (some ⟨q1, 0, none⟩) l.length cap, .int .i64 room, .map (some b)] 95)) w1.heap.size b l room) := ix_boxed (ownN_low hown hsz) hmap hsays (by omega) hn2
      have s0 := H2.out.s0
      have x1 := Qt.keep H2.out.bel x0
      clear hidx hb1 hs0 hs1 H1 hown hmap hsays hbx hbB' x0
      have hmk := makeMapJ_run
      have hs3 : (w1.alloc (.cells #[.slice (some ⟨q1, 0, none⟩) l.length cap, .int .i64 room, .map (some b)] 95)).heap.size = w1.heap.size + 1 := by simp
      have hli := lIn_new HX.out HR6.out 0
      rw [hs3] at hli
      have hb3 := (Below.refl _ (w1.alloc (.cells #[.slice (some ⟨q1, 0, none⟩) l.length cap, .int .i64 room, .map (some b)] 95))).alloc (Nat.le_refl _) (.map #[] 0)
      have H3 := Lib.hid (H2.out.below hb3)
      have hcall := HMN.out w1.heap.size b (w1.heap.size + 1) _ H3.out.bel hli
      clear hli hb3 hs3 HX HMN
      go_wp2_with fail
      refine hcall.mono ?_
      rintro e w2 ⟨rfl, hl2, hb2⟩
      have hb2b := hb2.bel
      have hbel2 := H3.out
      have H4 : EmpHead w w2 (some ⟨b0, off, none⟩) l.length c room := ⟨(hb2b.block _ (by omega)).trans hbel2.store, (hb2b.block _ (by omega)).trans hbel2.res, hbel2.bel.trans (hb2b.mono (by omega))⟩
      have HI2 := Lib.hid hl2
      clear hcall hb2 hb2b hbel2 hl2 H2 H3 hmk s0 x1
      have s0 := H4.s0
      have s1 := H4.s1
      have r0 := H4.r0
      have r1 := H4.r1
      have f0 := H4.free 0
      have f1 := H4.free 1
      by_cases he : ee = 0
      · have hy := HY.out
        rw [if_pos he] at hy
        subst hy he
        obtain ⟨v2, D2, hI⟩ := (HI2.out rfl).ix
        have g0 := hI.row.c0
        have g1 := hI.row.c1
        have hv : ∃ B d, v2 = .slice B m.length d ∧ m.length ≤ d ∧ NowN w2 B m := hI.own.reads
        obtain ⟨B, d, rfl, hd, hNow⟩ := hv
        have hlow : ∀ x, (Value.slice B m.length d).ownBlock = some x → w.heap.size + 2 ≤ x := fun x hx => (ownN_kind hI.own x hx).1
        have ht := Lib.hid (H4.told (.slice B m.length d) (.int .i64 room))
        have hne : (Value.slice B m.length d).ownBlock = none ∨ (Value.slice B m.length d).ownBlock ≠ some (w.heap.size + 1) := by
          cases hx : (Value.slice B m.length d).ownBlock with
          | none => exact .inl rfl
          | some x => exact .inr (fun e => by injection e with e; have := hlow x hx; omega)
        have hfin := World.ownsRow.kept (World.ownsRow.kept hI.own (but_set (b := w.heap.size + 1) 0 (.slice B m.length d)) hne) (but_set (b := w.heap.size + 1) 1 (.int .i64 room)) hne
        have HFN := Lib.hid (OwnN.reads hfin)
        clear hI hNow hlow hne hfin H4
        go_wp2_with fail
        refine bodyPost_ret (results_cell3 rfl _ _ _ _ _ _ _ rfl ht.out.1 Try.underlying26 rfl (by kernel_rfl)) rfl ?_
        exact ⟨_, rfl, HFN.out, ht.out.2⟩
      · have hy := HY.out
        rw [if_neg he] at hy
        subst hy
        have ht := Lib.hid (H4.told (.slice (some ⟨b0, off, none⟩) l.length c) (.int .i64 room))
        clear H4
        go_wp2_with fail
        refine bodyPost_ret (results_cell3 rfl _ _ _ _ _ _ _ rfl ht.out.1 Try.underlying26 rfl (by kernel_rfl)) rfl ?_
        exact ⟨_, rfl, ⟨_, c, rfl, hc, (hR.below ht.out.2 (Nat.le_refl _)).more ht.out.2.size⟩, ht.out.2⟩
    · have hz : grownL l room n z = (l, 0, 1) := by unfold grownL; rw [hr, decide_eq_false hlev]; rfl
      rw [hz]
      have hcase : n < 0 ∨ (¬ n < 0 ∧ (l.length : Int) ≤ n) ∨ (¬ n < 0 ∧ ¬ (l.length : Int) ≤ n ∧ ∃ k : Nat, n = (k : Int) ∧ k < l.length ∧ (l.getD k deadN).1 < 2) := by
        by_cases h0 : n < 0
        · exact .inl h0
        · by_cases h1 : (l.length : Int) ≤ n
          · exact .inr (.inl ⟨h0, h1⟩)
          · refine .inr (.inr ⟨h0, h1, n.toNat, by omega, by omega, ?_⟩)
            unfold levI at hlev
            rw [if_pos (by omega)] at hlev
            unfold ndAt at hlev
            omega
      clear hlev hz hr HMM HMD
      rcases hcase with hn0 | ⟨hn0, hn1⟩ | ⟨hn0, hn1, k, rfl, hkl, hlv2⟩
      · have d0 : decide (n < 0) = true := decide_eq_true hn0
        go_enter Try.func39, Try.ntmps39
        go_wp2_with fail
        refine hidx.mono ?_
        rintro e w1 ⟨hb1, (⟨hh, _⟩ | ⟨_, v, b, D, rfl, hown, hmap, hsays, hbB'⟩)⟩
        · exact absurd hh (by decide)
        obtain ⟨q1, cap, rfl, hcap⟩ := ownN_val hown (by omega)
        have H1 := HH0.out.below hb1
        have hbx : Below w1.heap.size w1 (w1.alloc (.cells #[.slice (some ⟨q1, 0, none⟩) l.length cap, .int .i64 room, .map (some b)] 95)) := (Below.refl _ _).alloc (Nat.le_refl _) _
        have H2 := Lib.hid (H1.below hbx)
        have s0 := H2.out.s0
        have s1 := H2.out.s1
        have r0 := H2.out.r0
        have r1 := H2.out.r1
        have f0 := H2.out.free 0
        have f1 := H2.out.free 1
        have ht := Lib.hid (H2.out.told (.slice A l.length c) (.int .i64 room))
        clear hidx hb1 hs0 hs1 H1 hown hmap hsays hbx hbB'
        go_wp2_with fail
        refine bodyPost_ret (results_cell3 rfl _ _ _ _ _ _ _ rfl ht.out.1 Try.underlying26 rfl (by kernel_rfl)) rfl ?_
        exact ⟨_, rfl, ⟨_, c, rfl, hc, (hR.below ht.out.2 (Nat.le_refl _)).more ht.out.2.size⟩, ht.out.2⟩
      · have d0 : decide (n < 0) = false := decide_eq_false hn0
        have d1 : decide ((l.length : Int) ≤ n) = true := decide_eq_true hn1
        go_enter Try.func39, Try.ntmps39
        go_wp2_with fail
        refine hidx.mono ?_
        rintro e w1 ⟨hb1, (⟨hh, _⟩ | ⟨_, v, b, D, rfl, hown, hmap, hsays, hbB'⟩)⟩
        · exact absurd hh (by decide)
        obtain ⟨q1, cap, rfl, hcap⟩ := ownN_val hown (by omega)
        have H1 := HH0.out.below hb1
        have hbx : Below w1.heap.size w1 (w1.alloc (.cells #[.slice (some ⟨q1, 0, none⟩) l.length cap, .int .i64 room, .map (some b)] 95)) := (Below.refl _ _).alloc (Nat.le_refl _) _
        have H2 := Lib.hid (H1.below hbx)
        have s0 := H2.out.s0
        have s1 := H2.out.s1
        have r0 := H2.out.r0
        have r1 := H2.out.r1
        have f0 := H2.out.free 0
        have f1 := H2.out.free 1
        have ht := Lib.hid (H2.out.told (.slice A l.length c) (.int .i64 room))
        clear hidx hb1 hs0 hs1 H1 hown hmap hsays hbx hbB'
        go_wp2_with fail
        refine bodyPost_ret (results_cell3 rfl _ _ _ _ _ _ _ rfl ht.out.1 Try.underlying26 rfl (by kernel_rfl)) rfl ?_
        exact ⟨_, rfl, ⟨_, c, rfl, hc, (hR.below ht.out.2 (Nat.le_refl _)).more ht.out.2.size⟩, ht.out.2⟩
      · obtain ⟨b0, off, rfl, hbB, hcell⟩ := hR.at_ (by omega)
        have x0 := (hcell k hkl).1
        have hkz : (k : Int) < (l.length : Int) := by omega
        have hkn : ¬ (k : Int) < 0 := by omega
        generalize (l.getD k deadN).1 = lv at *
        clear hcell hn0 hn1
        go_enter Try.func39, Try.ntmps39
        go_wp2_with fail
        refine hidx.mono ?_
        rintro e w1 ⟨hb1, (⟨hh, _⟩ | ⟨_, v, b, D, rfl, hown, hmap, hsays, hbB'⟩)⟩
        · exact absurd hh (by decide)
        obtain ⟨q1, cap, rfl, hcap⟩ := ownN_val hown (by omega)
        have H1 := HH0.out.below hb1
        have hbx : Below w1.heap.size w1 (w1.alloc (.cells #[.slice (some ⟨q1, 0, none⟩) l.length cap, .int .i64 room, .map (some b)] 95)) := (Below.refl _ _).alloc (Nat.le_refl _) _
        have H2 := Lib.hid (H1.below hbx)
        have s0 := H2.out.s0
        have s1 := H2.out.s1
        have r0 := H2.out.r0
        have r1 := H2.out.r1
        have f0 := H2.out.free 0
        have f1 := H2.out.free 1
        have x1 := Qt.keep H2.out.bel x0
        have ht := Lib.hid (H2.out.told (.slice (some ⟨b0, off, none⟩) l.length c) (.int .i64 room))
        clear hidx hb1 hs0 hs1 H1 hown hmap hsays hbx hbB'
        go_wp2_with fail
        refine bodyPost_ret (results_cell3 rfl _ _ _ _ _ _ _ rfl ht.out.1 Try.underlying26 rfl (by kernel_rfl)) rfl ?_
        exact ⟨_, rfl, ⟨_, c, rfl, hc, (hR.below ht.out.2 (Nat.le_refl _)).more ht.out.2.size⟩, ht.out.2⟩
end Go.Proofs.Ytklccoodfhejbaa
namespace Go.Proofs.Ytklccoodfhejbaa
set_option maxRecDepth 100000
set_option linter.unusedVariables false
set_option linter.unusedSimpArgs false
open Go.RowKit Go.Sort

theorem leap_all (n0 g b mb : Nat) (room : Int) : ∀ e, e ≤ 40 → LeapAt 42 n0 g b mb room e
  | 0, _ => leap_of n0 g b mb room 0 (anew_two n0 g b mb room)
  | e + 1, h => leap_of n0 g b mb room (e + 1) (anew_more n0 g b mb room e h (leap_all n0 g b mb room e (by omega)))
/-- Leap's answer: the exponent is from 0 to the level less 2. -/
def leapZ (room : Int) (l : List Nd) (n j : Int) : Zn := if 0 ≤ j ∧ j ≤ levI l n - 2 then leapN room (levI l n - 2).toNat j.toNat l n else (l, 0, 1)
theorem LpR.no {n0 g b mb : Nat} {room : Int} {w w' : World} {l : List Nd} {c : Int} (hc : c ≠ 0) (h : BelL n0 w w') : LpR (l, 0, c) n0 g b mb room w (.returned (.tuple #[.int .i64 0, .int .i64 c])) w' := ⟨rfl, fun h0 => absurd h0 hc, h⟩
set_option maxHeartbeats 8000000 in
theorem leapC_any {n0 g b mb : Nat} {room : Int} {l : List Nd} {w : World} (hin : LIn n0 w g b mb l room) {k e : Nat} (hk : Is l (e + 2) k) (he : e ≤ 40) (j : Int) (hj : I64 j) {jb nb : Nat} (hjb : LR w jb j) (hnb : LR w nb (k : Int)) :
    Calls Try.prog 40 #[makerL g mb, .pointer (some ⟨jb, 0, none⟩), .pointer (some ⟨nb, 0, none⟩)] w (LpR (leapZ room l (k : Int) j) n0 g b mb room w) := by
  have hn0 := hin.ix.hB
  have hal := (Below.refl w.heap.size w).alloc (Nat.le_refl _) (.cells #[.pointer (some ⟨g, 0, none⟩), .map (some mb)] 76)
  have hM : ML (w.alloc (.cells #[.pointer (some ⟨g, 0, none⟩), .map (some mb)] 76)) w.heap.size g mb := heap_new rfl
  have HI := Lib.hid (hin.below hal)
  have HM := Lib.hid hM
  have HJ := Lib.hid (hjb.below hal)
  have HN := Lib.hid (hnb.below hal)
  have HA := Lib.hid (BelL.of hal hn0)
  have hle : levI l (k : Int) = ((e + 2 : Nat) : Int) := lev_at hk
  by_cases hj0 : j < 0
  · have hz : leapZ room l (k : Int) j = (l, 0, 1) := if_neg (by omega)
    rw [hz]
    have j0 := Qt.cell_in HJ.out.c
    clear hal hM hin hjb hnb hle hk hz
    go_enter Try.func40, Try.ntmps40
    go_wp2_with fail
    generalize (w.alloc (.cells #[.pointer (some ⟨g, 0, none⟩), .map (some mb)] 76)) = w0 at *
    refine Qt.below_all (by kernel_rfl) (by kernel_rfl) ?_
    repeat (go_big_quiet_step (fail))
    refine wpQuiet_nil ?_
    intro w7 hb7
    have HB := Lib.hid (HA.out.trans (.of hb7 HI.out.ix.hB))
    clear j0 hb7
    go_wp2_with fail
    go_ret2
    exact LpR.no (by decide) HB.out
  · have HK := Lib.hid hk
    have hnn : 0 ≤ j := by omega
    obtain ⟨jn, rfl⟩ : ∃ jn : Nat, j = jn := ⟨j.toNat, by omega⟩
    obtain ⟨lev, hlev⟩ : ∃ lev : Int, lev = (e : Int) + 2 := ⟨_, rfl⟩
    have hlv := fun W (hb : Below (w.alloc (.cells #[.pointer (some ⟨g, 0, none⟩), .map (some mb)] 76)).heap.size (w.alloc (.cells #[.pointer (some ⟨g, 0, none⟩), .map (some mb)] 76)) W) => levelL_any room n0 g b mb l k hk.lt W (HI.out.below hb).ix hin.right
    rw [show (l.getD k deadN).1 = lev by rw [hk.lev, hlev]; omega] at hlv
    have hw2 : IntKind.i64.wrap (lev - 2) = lev - 2 := by rw [IntKind.wrap_i64]; omega
    obtain ⟨gt, hgt⟩ : ∃ gt, gt = decide (lev - 2 < (jn : Int)) := ⟨_, rfl⟩
    have HW2 := Lib.hid hw2
    have HLV := Lib.hid hlv
    obtain ⟨Z, hZ⟩ : ∃ Z, Z = leapZ room l (k : Int) (jn : Int) := ⟨_, rfl⟩
    rw [← hZ]
    have HZ : Hid (Z = if gt = false then leapN room e jn l (k : Int) else (l, 0, 1)) := by
      show _ = _
      rw [hZ]
      unfold leapZ
      rw [hle, hgt]
      by_cases h : jn ≤ e
      · rw [if_pos (by omega), if_pos (by simp; omega), show (((e + 2 : Nat) : Int) - 2).toNat = e by omega, Int.toNat_natCast]
      · rw [if_neg (by omega), if_neg (by simp; omega)]
    have HGT := Lib.hid hgt
    have HNG := Lib.hid (show ¬ (jn : Int) < 0 by omega)
    have HE := Lib.hid hlev
    clear hal hM hin hjb hnb hle hk hlv hw2 hgt hlev hj hj0 hZ
    go_enter Try.func40, Try.ntmps40
    go_wp2_with fail
    generalize (w.alloc (.cells #[.pointer (some ⟨g, 0, none⟩), .map (some mb)] 76)) = w0 at *
    refine region_calm_to (fun W => Below w0.heap.size w0 W) (fun (a0 a9 : Act) (w9 : World) => a9 = ((((((((((a0.put (some 6) (.int .i64 (jn : Int))).put (some 7) (.bool false)).put (some 8) (.bool false)).put (some 9) (.int .i64 (jn : Int))).put (some 10) (makerL g mb)).put (some 11) (.int .i64 (k : Int))).put (some 12) (.int .i64 lev)).put (some 13) (.int .i64 (lev - 2))).put (some 14) (.bool gt)).put (some 15) (.bool gt)) ∧ Below w0.heap.size w0 w9) (.calm 0 (.calm 1 (.calm 2 (.calm 3 (.calm 4 (.calm 5 (.only 6 (.calm 7 (.calm 8 (.calm 9 .done)))))))))) (by kernel_rfl) (by kernel_rfl) (by kernel_rfl) (by rfl) (below_drew _) ?_ ?_
    · skip
      refine ⟨_, _, .int .i64 (jn : Int), rfl, rfl, ⟨rfl, fun W hW => by have j0 := (HJ.out.below hW).c; simp only [Act.eval, execOp]; go_simp; done⟩, ?_⟩
      simp only [Act.put, List.getElem_toArray, List.getElem_cons_zero, List.getElem_cons_succ, List.setIfInBounds_toArray, List.set_cons_succ, List.set_cons_zero]
      refine ⟨_, _, .bool false, rfl, rfl, ⟨rfl, fun W hW => by have hneg := HNG.out; simp only [Act.eval, execOp]; go_simp; done⟩, ?_⟩
      simp only [Act.put, List.getElem_toArray, List.getElem_cons_zero, List.getElem_cons_succ, List.setIfInBounds_toArray, List.set_cons_succ, List.set_cons_zero]
      refine ⟨_, _, .bool false, rfl, rfl, ⟨rfl, fun W hW => by first | exact ⟨rfl, rfl⟩ | (simp only [Act.eval, execOp]; go_simp; try exact ⟨rfl, rfl⟩)⟩, ?_⟩
      simp only [Act.put, List.getElem_toArray, List.getElem_cons_zero, List.getElem_cons_succ, List.setIfInBounds_toArray, List.set_cons_succ, List.set_cons_zero]
      refine ⟨_, _, .int .i64 (jn : Int), rfl, rfl, ⟨rfl, fun W hW => by have j0 := (HJ.out.below hW).c; simp only [Act.eval, execOp]; go_simp; done⟩, ?_⟩
      simp only [Act.put, List.getElem_toArray, List.getElem_cons_zero, List.getElem_cons_succ, List.setIfInBounds_toArray, List.set_cons_succ, List.set_cons_zero]
      refine ⟨_, _, makerL g mb, rfl, rfl, ⟨rfl, fun W hW => by have m0 := (HM.out.below hW).c0; have m1 := (HM.out.below hW).c1; simp only [Act.eval, execOp]; go_simp; done⟩, ?_⟩
      simp only [Act.put, List.getElem_toArray, List.getElem_cons_zero, List.getElem_cons_succ, List.setIfInBounds_toArray, List.set_cons_succ, List.set_cons_zero]
      refine ⟨_, _, .int .i64 (k : Int), rfl, rfl, ⟨rfl, fun W hW => by have n1 := (HN.out.below hW).c; simp only [Act.eval, execOp]; go_simp; done⟩, ?_⟩
      simp only [Act.put, List.getElem_toArray, List.getElem_cons_zero, List.getElem_cons_succ, List.setIfInBounds_toArray, List.set_cons_succ, List.set_cons_zero]
      refine ⟨_, rfl, ?_⟩
      go_wp2_with fail
      refine (HLV.out _ (below_drew w0)).mono ?_
      rintro r w9 ⟨rfl, hb⟩
      have hBc := Qt.more (below_drew w0) (Nat.le_refl _) hb
      clear hb
      go_wp2_with fail
      refine ⟨rfl, hBc, ?_⟩
      refine ⟨_, _, .int .i64 (lev - 2), rfl, rfl, ⟨rfl, fun W hW => by have hw2 := HW2.out; simp only [Act.eval, execOp]; go_simp; try exact ⟨rfl, rfl⟩⟩, ?_⟩
      simp only [Act.put, List.getElem_toArray, List.getElem_cons_zero, List.getElem_cons_succ, List.setIfInBounds_toArray, List.set_cons_succ, List.set_cons_zero]
      refine ⟨_, _, .bool gt, rfl, rfl, ⟨rfl, fun W hW => by rw [HGT.out]; simp only [Act.eval, execOp]; go_simp; try exact ⟨rfl, rfl⟩⟩, ?_⟩
      simp only [Act.put, List.getElem_toArray, List.getElem_cons_zero, List.getElem_cons_succ, List.setIfInBounds_toArray, List.set_cons_succ, List.set_cons_zero]
      refine ⟨_, _, .bool gt, rfl, rfl, ⟨rfl, fun W hW => by first | exact ⟨rfl, rfl⟩ | (simp only [Act.eval, execOp]; go_simp; try exact ⟨rfl, rfl⟩)⟩, ?_⟩
      simp only [Act.put, List.getElem_toArray, List.getElem_cons_zero, List.getElem_cons_succ, List.setIfInBounds_toArray, List.set_cons_succ, List.set_cons_zero]
      refine ⟨?_, hBc⟩
      first | rfl | simp only [Act.put, List.setIfInBounds_toArray, List.set_cons_succ, List.set_cons_zero]
    · intro a9 w9 h9
      obtain ⟨rfl, hb9⟩ := h9
      simp only [Act.put, List.setIfInBounds_toArray, List.set_cons_succ, List.set_cons_zero]
      have HI9 := Lib.hid (HI.out.below hb9)
      have HA9 := Lib.hid (HA.out.trans (.of hb9 HI.out.ix.hB))
      cases gt with
      | true =>
        have hz : Z = (l, 0, 1) := by rw [HZ.out, if_neg (by decide)]
        subst hz
        clear hb9
        go_wp2_with fail
        go_ret2
        exact LpR.no (by decide) HA9.out
      | false =>
        have hz : Z = leapN room e jn l (k : Int) := by rw [HZ.out, if_pos rfl]
        have j0 := (HJ.out.below hb9).c
        have n1 := (HN.out.below hb9).c
        have m0 := (HM.out.below hb9).c0
        have m1 := (HM.out.below hb9).c1
        have hje : jn ≤ e := by have h := HGT.out; have h2 := HE.out; have h3 := of_decide_eq_false h.symm; omega
        have hlp := leap_all n0 g b mb room e he k jn l w9 HI9.out HK.out hje he
        clear hb9
        rw [← hz] at hlp
        clear hz HZ
        obtain ⟨zl, zn, ze⟩ := Z
        go_wp2_with fail
        refine hlp.mono ?_
        rintro r w2 ⟨rfl, hl2, hb2⟩
        have HB2 := Lib.hid (HA9.out.trans hb2)
        have HL2 := Lib.hid hl2
        clear hlp hl2 hb2 j0 n1 m0 m1
        go_wp2_with fail
        go_ret2
        exact ⟨rfl, HL2.out, HB2.out⟩
end Go.Proofs.Ytklccoodfhejbaa
