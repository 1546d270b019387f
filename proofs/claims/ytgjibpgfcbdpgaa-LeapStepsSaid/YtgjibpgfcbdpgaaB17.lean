/-
  Texts that the claims of this seat share, part 17.
-/
import Derived.Test.YtgjibpgfcbdpgaaB16
set_option linter.unusedVariables false
set_option linter.unusedSimpArgs false
namespace Go.Proofs.Ytgjibpgfcbdpgaa
set_option maxRecDepth 100000
set_option linter.unusedVariables false
set_option linter.unusedSimpArgs false
open Go.RowKit Go.Sort

theorem enterL {F : FuncId} {fn : Func} {c : Code} (hf : Try.prog.funcs[F]? = some fn) (hname : (fn.name == "runtime.NumGoroutine") = false) (hb : fn.body = some c) (args : Array Value) (w : World) : (callFunc F args).run Try.prog w = .ok (.enter F args) w := by
  have h1 : fn.name ≠ "runtime.NumGoroutine" := by simpa using hname
  simp [callFunc, hf, h1, hb]
theorem and_no {α : Type} {z : List Nd × α × Int} {f : List Nd → α → Zn} (h : z.2.2 ≠ 0) : andZ z f = (z.1, 0, z.2.2) := if_neg h
theorem and_yes {α : Type} {z : List Nd × α × Int} {f : List Nd → α → Zn} (h : z.2.2 = 0) : andZ z f = f z.1 z.2.1 := if_pos h
/-- What anew keeps: its boxes. -/
structure AnAt (n0 : Nat) (w W : World) (g mb lb jn : Nat) (lev : Int) : Prop where
  ml : ML W w.heap.size g mb
  jb : LR W (w.heap.size + 1) (jn : Int)
  lb_ : LR W lb lev
  bel : BelL n0 w W
theorem AnAt.keep {n0 : Nat} {w W W' : World} {g mb lb jn : Nat} {lev : Int} (h : AnAt n0 w W g mb lb jn lev) (hb : BelL n0 W W') : AnAt n0 w W' g mb lb jn lev := ⟨h.ml.kp hb.kp, h.jb.kp hb.kp, h.lb_.kp hb.kp, h.bel.trans hb⟩
theorem AnAt.set {n0 : Nat} {w W : World} {g mb lb jn : Nat} {lev : Int} (h : AnAt n0 w W g mb lb jn lev) (hn : n0 ≤ w.heap.size) {qb : Nat} (h1 : w.heap.size + 1 < qb) (h2 : qb ≠ lb) (j : Nat) (u : Value) : AnAt n0 w (W.setCell ⟨qb, j, none⟩ u) g mb lb jn lev := by
  refine ⟨?_, ?_, ?_, h.bel.setNew (by omega) hn j u⟩
  · unfold ML; rw [Below.heap_setCell _ _ _ _ (by show w.heap.size ≠ qb; omega)]; exact h.ml
  · unfold LR; rw [Below.heap_setCell _ _ _ _ (by show w.heap.size + 1 ≠ qb; omega)]; exact h.jb
  · unfold LR; rw [Below.heap_setCell _ _ _ _ (by show lb ≠ qb; exact h2.symm)]; exact h.lb_
set_option maxHeartbeats 8000000 in
theorem anew_more (n0 g b mb : Nat) (room : Int) (e : Nat) (he1 : e + 1 ≤ 40) (ih : LeapAt 42 n0 g b mb room e) : LeapAt 65 n0 g b mb room (e + 1) := by
  intro k jn l w hin hk hj he
  obtain ⟨Z, hZ⟩ : ∃ Z, Z = leapN room (e + 1) jn l (k : Int) := ⟨_, rfl⟩
  rw [← hZ]
  have HZ := Lib.hid (show Z = farZ room (fstZ room e jn) (leapN room e (min jn e)) l (k : Int) from hZ)
  clear hZ
  have hn0 := hin.ix.hB
  have hal := ((Below.refl w.heap.size w).alloc (Nat.le_refl _) (.cells #[.pointer (some ⟨g, 0, none⟩), .map (some mb)] 76)).alloc (by simp) (.cells #[.int .i64 (jn : Int)] 3)
  have hM : ML ((w.alloc (.cells #[.pointer (some ⟨g, 0, none⟩), .map (some mb)] 76)).alloc (.cells #[.int .i64 (jn : Int)] 3)) w.heap.size g mb := heap_old (heap_new rfl)
  have hJ : LR ((w.alloc (.cells #[.pointer (some ⟨g, 0, none⟩), .map (some mb)] 76)).alloc (.cells #[.int .i64 (jn : Int)] 3)) (w.heap.size + 1) (jn : Int) := heap_new (by simp)
  have HI := Lib.hid (hin.below hal)
  have HM := Lib.hid hM
  have HJ := Lib.hid hJ
  have HA := Lib.hid (BelL.of hal hn0)
  have HR := Lib.hid hin.right
  have hlv := levelL_any room n0 g b mb l k hk.lt _ HI.out.ix hin.right
  obtain ⟨lev, hlev⟩ : ∃ lev : Int, lev = (e : Int) + 3 := ⟨_, rfl⟩
  rw [show (l.getD k deadN).1 = lev by rw [hk.lev, hlev]; omega] at hlv
  have HSF := Lib.hid (Sf.of hin.right hk (by omega))
  have hl2 : (lev == 2) = false := beq_eq_false_iff_ne.2 (by omega)
  have m0 := hM.c0
  have m1 := hM.c1
  have HK := Lib.hid hk
  have HLEV := Lib.hid hlev
  have hni := fun W hW => makerNine_any room n0 g b l (k : Int) W hW HR.out
  have HNI := Lib.hid hni
  clear hal hM hJ hin hni hlev
  go_enter Try.func65, Try.ntmps65
  go_wp2_with fail
  generalize ((w.alloc (.cells #[.pointer (some ⟨g, 0, none⟩), .map (some mb)] 76)).alloc (.cells #[.int .i64 (jn : Int)] 3)) = w0 at *
  refine hlv.mono ?_
  rintro r w1 ⟨rfl, hb1⟩
  have hal := (Below.refl w1.heap.size w1).alloc (Nat.le_refl _) (.cells #[.int .i64 lev] 3)
  have hbb := Qt.more hb1 hb1.size hal
  have HI1 := Lib.hid (HI.out.below hbb)
  have hAn : AnAt n0 w (w1.alloc (.cells #[.int .i64 lev] 3)) g mb w1.heap.size jn lev := ⟨HM.out.below hbb, HJ.out.below hbb, heap_new rfl, HA.out.trans (.of hbb HI.out.ix.hB)⟩
  have HAN := Lib.hid hAn
  have hlb : w.heap.size + 1 < w1.heap.size := Nat.lt_of_lt_of_le (lt_heap6 HJ.out) hb1.size
  have m0' := hAn.ml.c0
  have hst := HNI.out _ HI1.out.ix
  obtain ⟨⟨nl, nq, ne⟩, hN⟩ : ∃ z, z = nineZ room l (k : Int) := ⟨_, rfl⟩
  rw [← hN] at hst
  have HN := Lib.hid hN
  clear hlv hb1 hal hbb m0 m1 HI HM HJ HA HNI hAn hN
  go_wp2_with fail
  generalize (w1.alloc (.cells #[.int .i64 lev] 3)) = v1 at *
  generalize w1.heap.size = lb at *
  refine hst.mono ?_
  rintro r w2 ⟨rfl, hi2, hb2⟩
  dsimp only at hi2
  by_cases hne : ne = 0
  · subst hne
    have hmk := Many.ok HSF.out.nine (by show (nineZ room l (k : Int)).2.2 = 0; rw [← HN.out])
    have hmk : Grows l (nineZ room l (k : Int)).1 ∧ Right6 (nineZ room l (k : Int)).1 room ∧ ∀ t, t < 9 → ∃ q' : Nat, (nineZ room l (k : Int)).2.1 t = (q' : Int) ∧ Sf (nineZ room l (k : Int)).1 room (e + 1) q' (moveF _ (dNine (e + 1) t)) := hmk
    rw [← HN.out] at hmk
    obtain ⟨gr, rr, hq⟩ := hmk
    obtain ⟨nq', hnq⟩ := pick_nat hq
    have hal := (Below.refl w2.heap.size w2).alloc (Nat.le_refl _) (.cells (row9 nq) 110)
    have hln : lb < w2.heap.size := lt_heap6 (HAN.out.lb_.kp hb2.kp)
    have HI2 := Lib.hid ((HI1.out.base hb2 hi2 rr gr).below hal)
    have HAN2 := Lib.hid ((HAN.out.keep hb2.l).keep (.of hal hi2.hB))
    have HQ2 := Lib.hid (show N9 (w2.alloc (.cells (row9 nq) 110)) w2.heap.size nq from heap_new rfl)
    have HNQ := Lib.hid hnq
    have HP9 := Lib.hid (show ∀ t, t < 9 → nq t = ((nq' t : Nat) : Int) ∧ Sf nl room (e + 1) (nq' t) (moveF _ (dNine (e + 1) t)) from hnq)
    have HZ1 : Hid (Z = andZ (eachTo (fstZ room e jn) nl nq 9) fun l2 q => andZ (eachTo (fun m i => put6 m room (overK q i)) l2 cornP 4) fun l3 r => andZ (eachTo (leapN room e (min jn e)) l3 r 4) fun l4 s => put6 l4 room (fourK s)) := by
      show _ = _
      rw [HZ.out]
      unfold farZ
      rw [← HN.out]
      exact and_yes rfl
    have HRR := Lib.hid (show Right6 nl room from rr)
    have HQB := Lib.hid (show w.heap.size + 1 < w2.heap.size ∧ w2.heap.size ≠ lb by omega)
    have m0' := HAN2.out.ml.c0
    have m1' := HAN2.out.ml.c1
    have j0 := HAN2.out.jb.c
    have l0 := HAN2.out.lb_.c
    have hw2 : IntKind.i64.wrap (lev - 2) = lev - 2 := by have := HLEV.out; rw [IntKind.wrap_i64]; omega
    have hkeep := fun W W' (h : AnAt n0 w W g mb lb jn lev) (hb : BelL n0 W W') => h.keep hb
    have hset := fun W j u (h : AnAt n0 w W g mb lb jn lev) => h.set (HI2.out.ix.hB |> fun _ => hn0) HQB.out.1 HQB.out.2 j u
    have hst1 := fun i (hi : i ≤ 9) (h0 : (eachTo (fstZ room e jn) nl nq i).2.2 = 0) => Many.ok (stage1 (jn := jn) HRR.out HP9.out i hi) h0
    have HST1 := Lib.hid hst1
    have hlevE : lev = (e : Int) + 3 := HLEV.out
    have hE : ∀ fv, (jn = e + 1 → fv = .func (.func 84) #[] #[.pointer (some ⟨w.heap.size, 0, none⟩), .pointer (some ⟨w.heap.size + 1, 0, none⟩), .pointer (some ⟨lb, 0, none⟩)]) → (jn ≠ e + 1 → fv = .func (.func 69) #[makerV g] #[]) →
        Calls Try.prog 85 #[.slice (some ⟨w2.heap.size, 0, none⟩) 9 9, fv] (w2.alloc (.cells (row9 nq) 110)) fun r w' => r = .returned (.int .i64 (eachTo (fstZ room e jn) nl nq 9).2.2) ∧ ((eachTo (fstZ room e jn) nl nq 9).2.2 = 0 → N9 w' w2.heap.size (eachTo (fstZ room e jn) nl nq 9).2.1 ∧ LIn n0 w' g b mb (eachTo (fstZ room e jn) nl nq 9).1 room) ∧ AnAt n0 w w' g mb lb jn lev ∧ Below n0 (w2.alloc (.cells (row9 nq) 110)) w' := by
      intro fv h1 h2
      by_cases hje : jn = e + 1
      · rw [h1 hje]
        refine each9_3 _ (enterL Try.func84 (by kernel_rfl) rfl) _ _ _ n0 g b mb room _ _ _ _ (fun W => AnAt n0 w W g mb lb jn lev) _ HAN2.out hkeep (fun W j u h => hset W j u h) HQ2.out HI2.out (by omega) ?_
        intro i hi W hP hL h0
        obtain ⟨gi, ri, _⟩ := HST1.out i (by omega) h0
        obtain ⟨e1, e2⟩ := HP9.out i hi
        have hc := ih (nq' i) (min jn e) _ W hL (e2.is.grows gi) (Nat.min_le_right _ _) (by omega)
        have hl := hP.lb_.c
        rw [hlevE] at hl
        have ha := anew1_any n0 g b mb w.heap.size (w.heap.size + 1) lb e jn room (nq' i) _ W hP.ml hP.jb.c hl (by omega) (by omega) hc
        rw [e1]
        have ef : fstZ room e jn = leapN room e (min jn e) := by unfold fstZ; rw [if_pos hje]
        rw [ef] at ha ⊢
        exact ha
      · rw [h2 hje]
        refine each9_b _ (enterL Try.func69 (by kernel_rfl) rfl) _ n0 g b mb room _ _ _ _ (fun W => AnAt n0 w W g mb lb jn lev) _ HAN2.out hkeep (fun W j u h => hset W j u h) HQ2.out HI2.out (by omega) ?_
        intro i hi W hP hL h0
        obtain ⟨gi, ri, _⟩ := HST1.out i (by omega) h0
        obtain ⟨e1, e2⟩ := HP9.out i hi
        have ef : fstZ room e jn = centreZ room := by unfold fstZ; rw [if_neg hje]
        obtain ⟨X, hX⟩ : ∃ X, X = (eachTo (fstZ room e jn) nl nq i).1 := ⟨_, rfl⟩
        rw [← hX] at gi ri hL ⊢
        clear hX
        have hd := fst_done (room := room) (e := e) (jn := jn) _ (nq' i) _ ri (e2.grows gi ri)
        refine (makerCentre_any room n0 g b _ (nq i) W hL.ix ri).mono ?_
        rintro r w' ⟨rfl, hix, hbk⟩
        rw [ef]
        refine ⟨rfl, fun hz => ?_, hbk.l⟩
        rw [ef] at hd
        rw [e1] at hz hix ⊢
        obtain ⟨gd, rd, _⟩ := Done.ok hd hz
        exact hL.base hbk hix rd gd
    have hdc : ((jn : Int) == lev - 2) = decide (jn = e + 1) := by
      by_cases h : jn = e + 1
      · rw [decide_eq_true h]; exact beq_iff_eq.2 (by omega)
      · rw [decide_eq_false h]; exact beq_eq_false_iff_ne.2 (by omega)
    have HE := Lib.hid hE
    clear hst hi2 hb2 hq gr rr hnq hal HI1 HAN hE hlevE hst1 hkeep hset
    have hside : (jn = e + 1) ∨ (jn ≠ e + 1) := by omega
    rcases hside with hje | hje
    all_goals
      first | rw [decide_eq_true hje] at hdc | rw [decide_eq_false hje] at hdc
      go_wp2_with fail
      refine (HE.out _ (fun h => by first | rfl | exact absurd h hje) (fun h => by first | rfl | exact absurd hje h)).mono ?_
      rintro r w3 ⟨rfl, hok3, hP3, hb3⟩
      obtain ⟨E2, hE2⟩ : ∃ E2, E2 = eachTo (fstZ room e jn) nl nq 9 := ⟨_, rfl⟩
      have hS2 := fun h0 => HST1.out 9 (Nat.le_refl _) h0
      rw [← hE2] at hok3 hS2 ⊢
      have hz1 := HZ1.out
      rw [← hE2] at hz1
      obtain ⟨l2, q2, e2⟩ := E2
      dsimp only at hok3 hS2 hz1
      by_cases h2 : e2 = 0
      · subst h2
        rw [and_yes rfl] at hz1
        obtain ⟨hN9, hL3⟩ := hok3 rfl
        obtain ⟨g2, r2, hq2⟩ := hS2 rfl
        obtain ⟨q2', hq2'⟩ := pick_nat hq2
        have hal3 := (Below.refl w3.heap.size w3).alloc (Nat.le_refl _) (.cells #[.int .i64 0, .int .i64 1, .int .i64 3, .int .i64 4] 33)
        have hn3 := hL3.ix.hB
        have HP3 := Lib.hid (hP3.keep (.of hal3 hn3))
        have HL3 := Lib.hid (hL3.below hal3)
        have HN9 := Lib.hid (hN9.below hal3)
        have HN4 := Lib.hid (show N4 (w3.alloc (.cells #[.int .i64 0, .int .i64 1, .int .i64 3, .int .i64 4] 33)) w3.heap.size cornP from heap_new rfl)
        have hz3 : w.heap.size + 1 < w3.heap.size ∧ w3.heap.size ≠ lb ∧ w3.heap.size ≠ w2.heap.size := by
          have h1 := lt_heap6 hP3.jb
          have h2 := lt_heap6 hP3.lb_
          have h3 := lt_heap6 hN9
          omega
        have HZ3 := Lib.hid hz3
        have HZ4 := Lib.hid hz1
        have HG2 := Lib.hid (And.intro r2 hq2')
        have hst2 := fun i (hi : i ≤ 4) (h0 : (eachTo (fun m i => put6 m room (overK q2 i)) l2 cornP i).2.2 = 0) => Many.ok (stage2 (e := e) HG2.out.1 (by omega) HG2.out.2 i hi) h0
        have HST2 := Lib.hid hst2
        have m0' := HP3.out.ml.c0
        have m1' := HP3.out.ml.c1
        have j0 := HP3.out.jb.c
        have l0 := HP3.out.lb_.c
        clear hok3 hP3 hb3 hS2 hz1 hN9 hL3 g2 r2 hq2 hq2' hal3 hst2 hz3
        have hE2' : Calls Try.prog 85 #[.slice (some ⟨w3.heap.size, 0, none⟩) 4 4, .func (.func 86) #[] #[.pointer (some ⟨w.heap.size, 0, none⟩), .pointer (some ⟨w2.heap.size, 0, none⟩)]] (w3.alloc (.cells #[.int .i64 0, .int .i64 1, .int .i64 3, .int .i64 4] 33)) fun r w' => r = .returned (.int .i64 (eachTo (fun m i => put6 m room (overK q2 i)) l2 cornP 4).2.2) ∧ ((eachTo (fun m i => put6 m room (overK q2 i)) l2 cornP 4).2.2 = 0 → N4 w' w3.heap.size (eachTo (fun m i => put6 m room (overK q2 i)) l2 cornP 4).2.1 ∧ LIn n0 w' g b mb (eachTo (fun m i => put6 m room (overK q2 i)) l2 cornP 4).1 room) ∧ (AnAt n0 w w' g mb lb jn lev ∧ N9 w' w2.heap.size q2) ∧ Below n0 (w3.alloc (.cells #[.int .i64 0, .int .i64 1, .int .i64 3, .int .i64 4] 33)) w' := by
          refine each4_2 _ (enterL Try.func86 (by kernel_rfl) rfl) _ _ n0 g b mb room _ _ _ _ (fun W => AnAt n0 w W g mb lb jn lev ∧ N9 W w2.heap.size q2) _ ⟨HP3.out, HN9.out⟩ (fun W W' h hb => ⟨h.1.keep hb, h.2.kp hb.kp⟩) (fun W j u h => ⟨h.1.set hn0 HZ3.out.1 HZ3.out.2.1 j u, ?_⟩) HN4.out HL3.out (by omega) ?_
          · unfold N9
            rw [Below.heap_setCell _ _ _ _ (by show w2.heap.size ≠ w3.heap.size; exact fun e => HZ3.out.2.2 e.symm)]
            exact h.2
          · intro i hi W hP hL h0
            exact anew2_any n0 g b mb w.heap.size w2.heap.size room _ q2 i hi W hL hP.1.ml hP.2
        have HE2' := Lib.hid hE2'
        clear hE2'
        go_wp2_with fail
        refine HE2'.out.mono ?_
        rintro r w4 ⟨rfl, hok4, hP4, hb4⟩
        obtain ⟨E3, hE3⟩ : ∃ E3, E3 = eachTo (fun m i => put6 m room (overK q2 i)) l2 cornP 4 := ⟨_, rfl⟩
        have hS3 := fun h0 => HST2.out 4 (Nat.le_refl _) h0
        have hz4 := HZ4.out
        rw [← hE3] at hok4 hS3 hz4 ⊢
        obtain ⟨l3, s3, e3⟩ := E3
        dsimp only at hok4 hS3 hz4
        by_cases h3 : e3 = 0
        · subst h3
          rw [and_yes rfl] at hz4
          dsimp only at hz4
          obtain ⟨hN4', hL4⟩ := hok4 rfl
          obtain ⟨g3, r3, hs3⟩ := hS3 rfl
          obtain ⟨s3', hs3'⟩ := pick_nat hs3
          have HP4 := Lib.hid hP4.1
          have HL4 := Lib.hid hL4
          have HN4' := Lib.hid hN4'
          have HZ5 := Lib.hid hz4
          have HG3 := Lib.hid (And.intro r3 hs3')
          have hst3 := fun i (hi : i ≤ 4) (h0 : (eachTo (leapN room e (min jn e)) l3 s3 i).2.2 = 0) => Many.ok (stage3 (e := e) (jn := jn) HG3.out.1 HG3.out.2 i hi) h0
          have HST3 := Lib.hid hst3
          have m0'' := HP4.out.ml.c0
          have m1'' := HP4.out.ml.c1
          have hE3' : Calls Try.prog 85 #[.slice (some ⟨w3.heap.size, 0, none⟩) 4 4, .func (.func 84) #[] #[.pointer (some ⟨w.heap.size, 0, none⟩), .pointer (some ⟨w.heap.size + 1, 0, none⟩), .pointer (some ⟨lb, 0, none⟩)]] w4 fun r w' => r = .returned (.int .i64 (eachTo (leapN room e (min jn e)) l3 s3 4).2.2) ∧ ((eachTo (leapN room e (min jn e)) l3 s3 4).2.2 = 0 → N4 w' w3.heap.size (eachTo (leapN room e (min jn e)) l3 s3 4).2.1 ∧ LIn n0 w' g b mb (eachTo (leapN room e (min jn e)) l3 s3 4).1 room) ∧ AnAt n0 w w' g mb lb jn lev ∧ Below n0 w4 w' := by
            refine each4_3 _ (enterL Try.func84 (by kernel_rfl) rfl) _ _ _ n0 g b mb room _ _ _ _ (fun W => AnAt n0 w W g mb lb jn lev) _ HP4.out (fun W W' h hb => h.keep hb) (fun W j u h => h.set hn0 HZ3.out.1 HZ3.out.2.1 j u) HN4'.out HL4.out (by omega) ?_
            intro i hi W hP hL h0
            obtain ⟨gi, ri, _⟩ := HST3.out i (by omega) h0
            obtain ⟨e1, e2⟩ := HG3.out.2 i hi
            have hc := ih (s3' i) (min jn e) _ W hL (e2.is.grows gi) (Nat.min_le_right _ _) (by omega)
            have hl := hP.lb_.c
            rw [HLEV.out] at hl
            have ha := anew1_any n0 g b mb w.heap.size (w.heap.size + 1) lb e jn room (s3' i) _ W hP.ml hP.jb.c hl (by omega) (by omega) hc
            rw [e1]
            exact ha
          have HE3' := Lib.hid hE3'
          clear hE3' hok4 hP4 hb4 hS3 hz4 hN4' hL4 g3 r3 hs3 hs3' hst3 HE2' HST2 HG2 HN9 HN4 HP3 HL3 m0' m1' j0 l0
          go_wp2_with fail
          refine HE3'.out.mono ?_
          rintro r w5 ⟨rfl, hok5, hP5, hb5⟩
          obtain ⟨E4, hE4⟩ : ∃ E4, E4 = eachTo (leapN room e (min jn e)) l3 s3 4 := ⟨_, rfl⟩
          have hS4 := fun h0 => HST3.out 4 (Nat.le_refl _) h0
          have hz5 := HZ5.out
          rw [← hE4] at hok5 hS4 hz5 ⊢
          obtain ⟨l4, s4, e4⟩ := E4
          dsimp only at hok5 hS4 hz5
          by_cases h4 : e4 = 0
          · subst h4
            rw [and_yes rfl] at hz5
            dsimp only at hz5
            obtain ⟨hN5, hL5⟩ := hok5 rfl
            obtain ⟨g4, r4, _⟩ := hS4 rfl
            have hgr := put_grows7 r4 (fourK s4)
            have hrr := put_right r4 (fourK s4)
            have hin := intern_anyK n0 g b l4 room (fourK s4) w5 hL5.ix r4
            rw [← hz5] at hgr hrr hin
            unfold kidsV fourK at hin
            have n0' := hN5.c (p := 0) (by decide)
            have n1' := hN5.c (p := 1) (by decide)
            have n2' := hN5.c (p := 2) (by decide)
            have n3' := hN5.c (p := 3) (by decide)
            have mm0 := hP5.ml.c0
            have mm1 := hP5.ml.c1
            have HL5 := Lib.hid hL5
            have HP5 := Lib.hid hP5
            have HGR := Lib.hid (And.intro hgr hrr)
            clear hok5 hP5 hb5 hS4 hz5 hN5 hL5 g4 r4 hgr hrr HE3' HST3 HG3 HN4' HL4 m0'' m1''
            go_wp2_with fail
            refine hin.mono ?_
            rintro r w6 ⟨rfl, hi6, hb6⟩
            have HF := Lib.hid (fun (hz : Z.2.2 = 0) => HL5.out.base hb6 hi6 HGR.out.2 HGR.out.1)
            have HB6 := Lib.hid ((HP5.out.keep hb6.l).bel)
            clear hin hi6 hb6 n0' n1' n2' n3' mm0 mm1
            go_wp2_with fail
            go_ret2
            exact ⟨rfl, HF.out, HB6.out⟩
          · have hz : Z = (l4, 0, e4) := by rw [hz5]; exact and_no h4
            subst hz
            have h4b : (e4 == 0) = false := beq_eq_false_iff_ne.2 h4
            have HB := Lib.hid hP5.bel
            clear hok5 hP5 hb5 hS4 hz5
            go_wp2_with fail
            go_ret2
            exact ⟨rfl, fun h => absurd h h4, HB.out⟩
        · have hz : Z = (l3, 0, e3) := by rw [hz4]; exact and_no h3
          subst hz
          have h3b : (e3 == 0) = false := beq_eq_false_iff_ne.2 h3
          have HB := Lib.hid hP4.1.bel
          clear hok4 hP4 hb4 hS3 hz4
          go_wp2_with fail
          go_ret2
          exact ⟨rfl, fun h => absurd h h3, HB.out⟩
      · have hz : Z = (l2, 0, e2) := by rw [hz1]; exact and_no h2
        subst hz
        have h2b : (e2 == 0) = false := beq_eq_false_iff_ne.2 h2
        have HB := Lib.hid hP3.bel
        clear hok3 hP3 hb3 hS2 hz1
        go_wp2_with fail
        go_ret2
        exact ⟨rfl, fun h => absurd h h2, HB.out⟩
  · have hz : Z = (nl, 0, ne) := by
      rw [HZ.out]
      unfold farZ andZ
      rw [← HN.out]
      exact if_neg hne
    subst hz
    have hzb : (ne == 0) = false := beq_eq_false_iff_ne.2 hne
    have HB := Lib.hid ((HAN.out.keep hb2.l).bel.trans (.of ((Below.refl w2.heap.size w2).alloc (Nat.le_refl _) (.cells (row9 nq) 110)) hi2.hB))
    clear hst hi2 hb2 m0' HAN
    go_wp2_with fail
    go_ret2
    exact ⟨rfl, fun h => absurd h hne, HB.out⟩
end Go.Proofs.Ytgjibpgfcbdpgaa
