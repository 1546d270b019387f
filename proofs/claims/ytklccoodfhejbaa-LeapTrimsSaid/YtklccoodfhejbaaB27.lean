/-
  Texts that the claims of this seat share, part 27.
-/
import Derived.Test.YtklccoodfhejbaaB26
import Derived.Test.YtklccoodfhejbaaB13
set_option linter.unusedVariables false
set_option linter.unusedSimpArgs false
namespace Go.Proofs.Ytklccoodfhejbaa
set_option maxRecDepth 100000
set_option linter.unusedVariables false
set_option linter.unusedSimpArgs false
open Go.RowKit Go.Sort

theorem make7_no {l : List Nd} {room lev : Int} {S : List (Int × Int)} (h : right6 l room = false ∨ lev < 1 ∨ 42 < lev ∨ Cel.rightB S = false) : make7 l room S lev = (l, 0, 1) := by
  unfold make7 grown6
  by_cases hr : right6 l room = true
  · rw [if_pos hr]
    have : makeZ room l S lev = (l, 0, 1) := by
      rcases h with h | h | h | h
      · rw [hr] at h; cases h
      · exact makeZ_arg (by omega)
      · exact makeZ_arg (by omega)
      · exact makeZ_arg (fun q => by rw [h] at q; exact absurd q.2.2 (by decide))
    rw [this]
    rfl
  · rw [if_neg hr]
theorem make7_in {l : List Nd} {room : Int} {S : List (Int × Int)} {e : Nat} (hr : right6 l room = true) (he : e ≤ 41) (hS : Cel.rightB S = true) : make7 l room S ((e : Int) + 1) = if S.all (insideB e) = true then (if (buildC room (e + 1) l (S.map (inwardC e))).2.2 = 0 then buildC room (e + 1) l (S.map (inwardC e)) else (l, 0, (buildC room (e + 1) l (S.map (inwardC e))).2.2)) else (l, 0, 2) := by
  unfold make7 grown6
  rw [if_pos hr]
  by_cases h : S.all (insideB e) = true
  · rw [if_pos h, makeZ_yes he hS (List.all_eq_true.1 h)]
  · rw [if_neg h]
    have : makeZ room l S ((e : Int) + 1) = (l, 0, 2) := by
      unfold makeZ
      have e1 : ((e : Int) + 1).toNat = e + 1 := by omega
      rw [e1, Nat.add_sub_cancel, if_pos (by simp only [hS, Bool.and_true, Bool.and_eq_true, decide_eq_true_eq]; omega), if_neg h]
    rw [this]
    rfl
set_option maxHeartbeats 16000000 in
theorem refMake7_any (A : Option Addr) (l : List Nd) (c : Nat) (room : Int) (A' : Option Addr) (S : List (Int × Int)) (c' : Nat) (lev : Int) (w : World) (hR : RdN w w.heap.size A l) (hl : l.length ≤ 1000000) (hc : l.length ≤ c) (hw : ∀ i, i < l.length → -9223372036854775808 ≤ (l.getD i deadN).1 ∧ (l.getD i deadN).1 ≤ 9223372036854775807) (hS : RdC w w.heap.size A' S) (hSl : S.length ≤ 900000) (hSc : S.length ≤ c') :
    Calls Try.prog 30 #[storeV A l.length c room, .slice A' S.length c', .int .i64 lev] w (PutR (make7 l room S lev) room w) := by
  have HE := Lib.hid (e7_0 hR hc room)
  have hcall := refRight6_any A l c room _ HE.out.st.rd hl hw
  have hset := fun W (hW : Below w.heap.size w W) => Cel.refRight_any A' S c' W ((Cel.Rd.below hS hW (Nat.le_refl _)).more hW.size) (by omega) hSc
  have HSR := Lib.hid (fun W (hW : Below w.heap.size w W) => (Cel.Rd.below hS hW (Nat.le_refl _)).more hW.size)
  unfold storeV at hcall
  have s0 := HE.out.s0
  have s1 := HE.out.s1
  clear hR hS
  by_cases hbad : right6 l room = false ∨ lev < 1 ∨ 42 < lev ∨ Cel.rightB S = false
  · rw [make7_no hbad]
    have hbb : (right6 l room = false) ∨ (right6 l room = true ∧ lev < 1) ∨ (right6 l room = true ∧ ¬ lev < 1 ∧ 42 < lev) ∨ (right6 l room = true ∧ ¬ lev < 1 ∧ ¬ 42 < lev ∧ Cel.rightB S = false) := by
      cases hr : right6 l room with
      | false => exact .inl rfl
      | true =>
        by_cases h1 : lev < 1
        · exact .inr (.inl ⟨rfl, h1⟩)
        · by_cases h2 : 42 < lev
          · exact .inr (.inr (.inl ⟨rfl, h1, h2⟩))
          · rcases hbad with h | h | h | h
            · rw [hr] at h; cases h
            · exact absurd h h1
            · exact absurd h h2
            · exact .inr (.inr (.inr ⟨rfl, h1, h2, h⟩))
    clear hbad hw
    generalize right6 l room = r at *
    generalize Cel.rightB S = rs at *
    unfold storeV
    rcases hbb with rfl | ⟨rfl, hb1⟩ | ⟨rfl, hb1, hb2⟩ | ⟨rfl, hb1, hb2, rfl⟩
    all_goals
      go_enter Try.func30, Try.ntmps30
      go_wp2_with fail
      refine hcall.mono ?_
      generalize (w.alloc (.cells #[.slice A l.length c, .int .i64 room] 26)).alloc (.cells #[.slice none 0 0, .int .i64 0] 26) = w0 at *
      rintro e w1 ⟨rfl, hbx⟩
      have HD := Lib.hid (HE.out.below hbx)
      have hs2 := hset w1 HD.out.bel
      clear hcall HE hbx s0 s1 hset HSR
      have s0 := HD.out.s0
      have s1 := HD.out.s1
      have r0 := HD.out.r0
      have r1 := HD.out.r1
      have fr0 := HD.out.free 0
      have fr1 := HD.out.free 1
      have ht := Lib.hid (HD.out.told HD.out.st.rd (.slice A l.length c) (.int .i64 room))
      go_wp2_with fail
      first
        | (clear r0 r1 fr0 fr1
           refine bodyPost_ret (results_cell3 rfl _ _ _ _ _ _ _ rfl ht.out.1 Try.underlying26 rfl (by kernel_rfl)) rfl ?_
           exact ⟨_, rfl, ⟨A, c, rfl, hc, ht.out.2.2⟩, ht.out.2.1⟩)
        | (refine hs2.mono ?_
           rintro e w2 ⟨rfl, hb2⟩
           have HD2 := Lib.hid (HD.out.below hb2)
           clear s0 s1 r0 r1 fr0 fr1 ht HD hs2 hb2
           have s0 := HD2.out.s0
           have s1 := HD2.out.s1
           have r0 := HD2.out.r0
           have r1 := HD2.out.r1
           have fr0 := HD2.out.free 0
           have fr1 := HD2.out.free 1
           have ht := Lib.hid (HD2.out.told HD2.out.st.rd (.slice A l.length c) (.int .i64 room))
           go_wp2_with fail
           clear r0 r1 fr0 fr1
           refine bodyPost_ret (results_cell3 rfl _ _ _ _ _ _ _ rfl ht.out.1 Try.underlying26 rfl (by kernel_rfl)) rfl ?_
           exact ⟨_, rfl, ⟨A, c, rfl, hc, ht.out.2.2⟩, ht.out.2.1⟩)
  · have hr : right6 l room = true := by
      cases h : right6 l room with
      | true => rfl
      | false => exact absurd (.inl h) hbad
    have hs : Cel.rightB S = true := by
      cases h : Cel.rightB S with
      | true => rfl
      | false => exact absurd (.inr (.inr (.inr h))) hbad
    have hlev : 1 ≤ lev ∧ lev ≤ 42 := by
      constructor
      · by_cases h : lev < 1
        · exact absurd (.inr (.inl h)) hbad
        · omega
      · by_cases h : 42 < lev
        · exact absurd (.inr (.inr (.inl h))) hbad
        · omega
    obtain ⟨e, rfl⟩ : ∃ e : Nat, lev = (e : Int) + 1 := ⟨(lev - 1).toNat, by omega⟩
    have he : e ≤ 41 := by omega
    have hmk := make7_in (l := l) (room := room) hr he hs
    obtain ⟨z, hz⟩ : ∃ z, z = make7 l room S ((e : Int) + 1) := ⟨_, rfl⟩
    rw [← hz] at hmk ⊢
    rw [hr] at hcall
    rw [hs] at hset
    have HZ := Lib.hid hmk
    have HR6 := Lib.hid (right_iff.1 hr)
    have hin := ((Cel.rightB_iff _).1 hs).2.1
    have hI : ∀ p ∈ S, I64 p.1 ∧ I64 p.2 := fun p hp => by
      have := of_decide_eq_true (hin p hp)
      unfold I64
      omega
    have HI := Lib.hid hI
    clear hbad hw hmk hz hr hs hin hI
    have d1 : decide ((e : Int) + 1 < 1) = false := decide_eq_false (by omega)
    have d2 : decide (42 < (e : Int) + 1) = false := decide_eq_false (by omega)
    have e1 : ¬ (e : Int) + 1 < 1 := by omega
    have e2 : ¬ 42 < (e : Int) + 1 := by omega
    unfold storeV
    go_enter Try.func30, Try.ntmps30
    go_wp2_with fail
    refine hcall.mono ?_
    generalize (w.alloc (.cells #[.slice A l.length c, .int .i64 room] 26)).alloc (.cells #[.slice none 0 0, .int .i64 0] 26) = w0 at *
    rintro e0 w1 ⟨rfl, hbx⟩
    have HD := Lib.hid (HE.out.below hbx)
    have hs2 := hset w1 HD.out.bel
    clear hcall HE hbx s0 s1 hset
    go_wp2_with fail
    refine hs2.mono ?_
    rintro e0 w2 ⟨rfl, hb2⟩
    have HD2 := Lib.hid (HD.out.below hb2)
    clear HD hs2 hb2 d1 d2
    go_wp2_with fail
    go_loopw [9] (fun i wr => ∃ j : Nat, j ≤ S.length ∧ i = .int .i64 j ∧ Hid (E7At w wr A l c room ∧ ∀ k, k < j → insideB e (S.getD k (0, 0)) = true)) (fun i _ => S.length - (intOf i).toNat)
    case atStart => exact ⟨0, Nat.zero_le _, rfl, HD2.out, fun k hk => absurd hk (Nat.not_lt_zero k)⟩
    case round =>
      obtain ⟨j, hj, rfl, HH⟩ := hrel
      obtain ⟨H, hall⟩ := HH.out
      have HAL := Lib.hid hall
      have s0 := H.s0
      have s1 := H.s1
      by_cases hlt : j < S.length
      · have hltz : (j : Int) < (S.length : Int) := by omega
        obtain ⟨b, off, rfl, hbB, hcell⟩ := Cel.Rd.at_ (HSR.out wr H.bel) (by omega)
        obtain ⟨a0, a1⟩ := hcell j hlt
        obtain ⟨hx, hy⟩ := HI.out _ (Cel.getD_mem hlt)
        have hin := refIn7_any e (by omega) (S.getD j (0, 0)) hx hy wr
        obtain ⟨⟨x, y⟩, hxy⟩ : ∃ p, p = S.getD j (0, 0) := ⟨_, rfl⟩
        rw [← hxy] at a0 a1 hin
        simp only at a0 a1 hin
        have HXY := Lib.hid hxy
        have HT := Lib.hid H
        clear hcell hxy H HH hall hx hy
        cases hi : insideB e (x, y) with
        | false =>
          rw [hi] at hin
          have hzz : z = (l, 0, 2) := by
            rw [HZ.out, if_neg]
            intro hall
            have := List.all_eq_true.1 hall _ (Cel.getD_mem hlt)
            rw [← HXY.out, hi] at this
            cases this
          subst hzz
          clear hi HZ
          go_wp2_with fail
          refine hin.mono ?_
          rintro e0 w3 ⟨rfl, hb3⟩
          have HD := Lib.hid (HT.out.below hb3)
          clear hin hb3 HT s0 s1 a0 a1
          have s0 := HD.out.s0
          have s1 := HD.out.s1
          have r0 := HD.out.r0
          have r1 := HD.out.r1
          have fr0 := HD.out.free 0
          have fr1 := HD.out.free 1
          have ht := Lib.hid (HD.out.told HD.out.st.rd (.slice A l.length c) (.int .i64 room))
          go_wp2_with fail
          clear r0 r1 fr0 fr1
          refine bodyPost_ret (results_cell3 rfl _ _ _ _ _ _ _ rfl ht.out.1 Try.underlying26 rfl (by kernel_rfl)) rfl ?_
          exact ⟨_, rfl, ⟨A, c, rfl, hc, ht.out.2.2⟩, ht.out.2.1⟩
        | true =>
          rw [hi] at hin
          have HN := Lib.hid (show ∀ k, k < j + 1 → insideB e (S.getD k (0, 0)) = true from fun k hk => by
            rcases (by omega : k < j ∨ k = j) with h | rfl
            · exact HAL.out k h
            · rw [← HXY.out]; exact hi)
          clear hi
          go_wp2_with fail
          refine hin.mono ?_
          rintro e0 w3 ⟨rfl, hb3⟩
          have HD := Lib.hid (HT.out.below hb3)
          clear hin hb3 HT s0 s1 a0 a1
          go_wp2_with fail
          go_roundw
          case measure => simp [intOf]; omega
          case rel => exact ⟨j + 1, by omega, by go_num, HD.out, HN.out⟩
      · obtain rfl : j = S.length := by omega
        have hltz : ¬ (S.length : Int) < (S.length : Int) := by omega
        have hin : ∀ s ∈ S, insideB e s = true := fun s hs => by
          obtain ⟨k, hk, ek⟩ := List.mem_iff_getElem.1 hs
          have := hall k hk
          rwa [List.getD_eq_getElem?_getD, List.getElem?_eq_getElem hk, Option.getD_some, ek] at this
        have hall2 : S.all (insideB e) = true := List.all_eq_true.2 hin
        have hz2 := HZ.out
        rw [if_pos hall2] at hz2
        obtain ⟨M8, hM8⟩ : ∃ M8, M8 = S.map (inwardC e) := ⟨_, rfl⟩
        have hMl : M8.length = S.length := by rw [hM8, List.length_map]
        have hco := fun W (hW : Below wr.heap.size wr W) => refCorner_any A' S c' e W (HSR.out W (Qt.more H.bel H.bel.size hW)) (by omega) (by omega) hin
        have hbu := fun A8 c8 W (hW : Below wr.heap.size wr W) (hM : RdC W W.heap.size A8 M8) (hc8 : M8.length ≤ c8) => build_any room (e + 1) (by omega) l A c M8 A8 c8 W ((H.st.below hW).rd) HR6.out hc hM (by omega) hc8 (fun s hs => by
          rw [hM8] at hs
          obtain ⟨t, ht, rfl⟩ := List.mem_map.1 hs
          exact inside_sq (hin t ht))
        rw [← hM8] at hz2 hco
        obtain ⟨⟨zl, zn, ze⟩, hzz⟩ : ∃ u, u = buildC room (e + 1) l M8 := ⟨_, rfl⟩
        rw [← hzz] at hz2
        simp only [← hzz] at hbu
        unfold storeV at hbu
        replace hbu : ∀ A8 c8 W, Below wr.heap.size wr W → RdC W W.heap.size A8 M8 → M8.length ≤ c8 → Calls Try.prog 59 #[.agg #[.slice A l.length c, .int .i64 room], .slice A8 M8.length c8, .int .i64 ((e : Int) + 1)] W (PutE (zl, zn, ze) room W) := hbu
        have HZ2 := Lib.hid hz2
        have HT := Lib.hid H
        clear hin hall2 hz2 hM8 hMl hzz HH H hall HAL HZ
        go_wp2_with fail
        refine region_calm_to (fun W => Below wr.heap.size wr W) (fun (a0 a9 : Act) (w9 : World) => ∃ (A8 : Option Addr) (c8 : Nat) (M9 : List Nd) (A9 : Option Addr) (c9 b9 : Nat), a9 = (((((((((((((a0.put (some 45) (.agg #[.slice A l.length c, .int .i64 room])).put (some 46) (.slice A' S.length c')).put (some 47) (.int .i64 ((e : Int) + 1))).put (some 49) (.int .i64 ((e : Int) + 1))).put (some 48) (.slice A8 M8.length c8)).put (some 50) (.tuple #[(.agg #[.slice A9 M9.length c9, .int .i64 room]), .int .i64 zn, .int .i64 ze])).put (some 44) (.tuple #[(.agg #[.slice A9 M9.length c9, .int .i64 room]), .int .i64 zn, .int .i64 ze])).put (some 51) (.agg #[.slice A9 M9.length c9, .int .i64 room])).put (some 52) (.int .i64 zn)).put (some 53) (.int .i64 ze)).put (some 10) (.pointer (some ⟨b9, 0, none⟩))).put (some 11) (.int .i64 zn)).put (some 12) (.int .i64 ze)) ∧ (ze = 0 → M9 = zl) ∧ StB w9 b9 A9 M9 c9 room ∧ Below wr.heap.size wr w9) (.calm 0 (.calm 1 (.calm 2 (.calm 4 (.two 3 10 (.two 5 10 (.calm 6 (.calm 7 (.calm 8 (.calm 9 (.only 10 (.only 11 (.only 12 (.only 13 .done)))))))) (.only 5 (.calm 6 (.calm 7 (.calm 8 (.calm 9 (.only 11 (.only 12 (.only 13 .done))))))))) (.only 3 (.only 5 (.calm 6 (.calm 7 (.calm 8 (.calm 9 (.only 11 (.only 12 (.only 13 .done)))))))))))))) (by kernel_rfl) (by kernel_rfl) (by kernel_rfl) (by rfl) (below_drew _) ?_ ?_
        · skip
          refine ⟨_, _, (.agg #[.slice A l.length c, .int .i64 room]), rfl, rfl, ⟨rfl, fun W hW => by have s0 := (HT.out.below hW).s0; have s1 := (HT.out.below hW).s1; simp only [execOp]; go_simp; done⟩, ?_⟩
          simp only [Act.put, List.setIfInBounds_toArray, List.set_cons_succ, List.set_cons_zero]
          refine ⟨_, _, (.slice A' S.length c'), rfl, rfl, ⟨rfl, fun W hW => by first | exact ⟨rfl, rfl⟩ | (simp only [Act.eval, execOp]; go_simp; try exact ⟨rfl, rfl⟩)⟩, ?_⟩
          simp only [Act.put, List.setIfInBounds_toArray, List.set_cons_succ, List.set_cons_zero]
          refine ⟨_, _, .int .i64 ((e : Int) + 1), rfl, rfl, ⟨rfl, fun W hW => by first | exact ⟨rfl, rfl⟩ | (simp only [Act.eval, execOp]; go_simp; try exact ⟨rfl, rfl⟩)⟩, ?_⟩
          simp only [Act.put, List.setIfInBounds_toArray, List.set_cons_succ, List.set_cons_zero]
          refine ⟨_, _, .int .i64 ((e : Int) + 1), rfl, rfl, ⟨rfl, fun W hW => by first | exact ⟨rfl, rfl⟩ | (simp only [Act.eval, execOp]; go_simp; try exact ⟨rfl, rfl⟩)⟩, ?_⟩
          simp only [Act.put, List.setIfInBounds_toArray, List.set_cons_succ, List.set_cons_zero]
          constructor
          · skip
            refine ⟨_, rfl, ?_⟩
            go_wp2_with fail
            refine (hco _ (below_drew wr)).mono ?_
            intro e w8 h
            obtain ⟨v8, rfl, ho8, hb⟩ := h
            obtain ⟨A8, c8, hv8, hc8, hR8⟩ := Cel.Own.rd ho8
            subst hv8
            clear ho8
            have hBc1 := Qt.more (below_drew wr) (Nat.le_refl _) hb
            have hb_0_1 := hb
            go_wp2_with fail
            refine ⟨rfl, hBc1, ?_⟩
            constructor
            · skip
              refine ⟨_, rfl, ?_⟩
              go_wp2_with fail
              refine (hbu A8 c8 _ hBc1 ((Cel.Rd.below hR8 ((Below.refl w8.heap.size w8)) (Nat.le_refl _)).more ((Below.refl w8.heap.size w8)).size) hc8).mono ?_
              intro e w9 h
              obtain ⟨M9, A9, c9, hM9, rfl, hcap9, N9, hb⟩ := putE_box h
              clear h
              have hBc2 := Qt.more hBc1 (hBc1).size hb
              have hb_1_2 := hb
              go_wp2_with fail
              refine ⟨rfl, hBc2, ?_⟩
              refine ⟨_, _, (.tuple #[(.agg #[.slice A9 M9.length c9, .int .i64 room]), .int .i64 zn, .int .i64 ze]), rfl, rfl, ⟨rfl, fun W hW => by first | exact ⟨rfl, rfl⟩ | (simp only [Act.eval, execOp]; go_simp; try exact ⟨rfl, rfl⟩)⟩, ?_⟩
              simp only [Act.put, List.setIfInBounds_toArray, List.set_cons_succ, List.set_cons_zero]
              refine ⟨_, _, (.agg #[.slice A9 M9.length c9, .int .i64 room]), rfl, rfl, ⟨rfl, fun W hW => by first | exact ⟨rfl, rfl⟩ | (simp only [Act.eval, execOp]; go_simp; try exact ⟨rfl, rfl⟩)⟩, ?_⟩
              simp only [Act.put, List.setIfInBounds_toArray, List.set_cons_succ, List.set_cons_zero]
              refine ⟨_, _, .int .i64 zn, rfl, rfl, ⟨rfl, fun W hW => by first | exact ⟨rfl, rfl⟩ | (simp only [Act.eval, execOp]; go_simp; try exact ⟨rfl, rfl⟩)⟩, ?_⟩
              simp only [Act.put, List.setIfInBounds_toArray, List.set_cons_succ, List.set_cons_zero]
              refine ⟨_, _, .int .i64 ze, rfl, rfl, ⟨rfl, fun W hW => by first | exact ⟨rfl, rfl⟩ | (simp only [Act.eval, execOp]; go_simp; try exact ⟨rfl, rfl⟩)⟩, ?_⟩
              simp only [Act.put, List.setIfInBounds_toArray, List.set_cons_succ, List.set_cons_zero]
              refine ⟨_, rfl, ?_⟩
              have hBa3 := (hBc2).alloc (hBc2).size (.cells #[.slice none 0 0, .int .i64 0] 26)
              have hra3 : (w9.alloc (.cells #[.slice none 0 0, .int .i64 0] 26 (0, 0))).heap[w9.heap.size]? = _ := heap_alloc_new w9 (.cells #[.slice none 0 0, .int .i64 0] 26 (0, 0))
              go_wp2_with fail
              refine ⟨rfl, hBa3, ?_⟩
              have hle_w9 : wr.heap.size ≤ w9.heap.size := (hBc2).size
              have hB9 := (hBc2).alloc (hBc2).size (.cells #[.slice A9 M9.length c9, .int .i64 room] 26)
              have hS9 := stB_new N9 hcap9 room
              refine ⟨_, rfl, ?_⟩
              go_wp2_with fail
              refine ⟨rfl, hB9, ?_⟩
              refine ⟨_, rfl, ?_⟩
              go_wp2_with fail
              refine ⟨rfl, hB9, ?_⟩
              refine ⟨_, rfl, ?_⟩
              go_wp2_with fail
              refine ⟨rfl, hB9, ?_⟩
              show ∃ (A8 : Option Addr) (c8 : Nat) (M9 : List Nd) (A9 : Option Addr) (c9 b9 : Nat), _
              refine ⟨A8, c8, M9, A9, c9, w9.heap.size, ?_, hM9, hS9, hB9⟩
              first | rfl | simp only [Act.put, List.setIfInBounds_toArray, List.set_cons_succ, List.set_cons_zero]
            · skip
              refine ⟨_, rfl, ?_⟩
              have hBa2 := (hBc1).alloc (hBc1).size (.cells #[.slice none 0 0, .int .i64 0] 26)
              have hra2 : (w8.alloc (.cells #[.slice none 0 0, .int .i64 0] 26 (0, 0))).heap[w8.heap.size]? = _ := heap_alloc_new w8 (.cells #[.slice none 0 0, .int .i64 0] 26 (0, 0))
              go_wp2_with fail
              refine ⟨rfl, hBa2, ?_⟩
              have hle_w8 : wr.heap.size ≤ w8.heap.size := (hBc1).size
              refine ⟨_, rfl, ?_⟩
              go_wp2_with fail
              refine (hbu A8 c8 _ hBa2 ((Cel.Rd.below hR8 ((((Below.refl w8.heap.size w8)).alloc ((Below.refl w8.heap.size w8)).size (.cells #[.slice none 0 0, .int .i64 0] 26))) (Nat.le_refl _)).more ((((Below.refl w8.heap.size w8)).alloc ((Below.refl w8.heap.size w8)).size (.cells #[.slice none 0 0, .int .i64 0] 26))).size) hc8).mono ?_
              intro e w9 h
              obtain ⟨M9, A9, c9, hM9, rfl, hcap9, N9, hb⟩ := putE_box h
              clear h
              have hBc4 := Qt.more hBa2 (hBa2).size hb
              have hrw4 := (hb.block _ (lt_heap6 hra2)).trans hra2
              have hb_1_4 := hb
              have f0 : w9.frozen? ⟨w8.heap.size, 0, none⟩ = false := Lib.frozen_of_heap hrw4 0
              have f1 : w9.frozen? ⟨w8.heap.size, 1, none⟩ = false := Lib.frozen_of_heap hrw4 1
              have g0 : w9.cell? ⟨w8.heap.size, 0, none⟩ = some (.slice none 0 0) := by rw [Lib.cell_of_heap hrw4]; rfl
              have g1 : w9.cell? ⟨w8.heap.size, 1, none⟩ = some (.int .i64 0) := by rw [Lib.cell_of_heap hrw4]; rfl
              go_wp2_with fail
              refine ⟨rfl, hBc4, ?_⟩
              refine ⟨_, _, (.tuple #[(.agg #[.slice A9 M9.length c9, .int .i64 room]), .int .i64 zn, .int .i64 ze]), rfl, rfl, ⟨rfl, fun W hW => by first | exact ⟨rfl, rfl⟩ | (simp only [Act.eval, execOp]; go_simp; try exact ⟨rfl, rfl⟩)⟩, ?_⟩
              simp only [Act.put, List.setIfInBounds_toArray, List.set_cons_succ, List.set_cons_zero]
              refine ⟨_, _, (.agg #[.slice A9 M9.length c9, .int .i64 room]), rfl, rfl, ⟨rfl, fun W hW => by first | exact ⟨rfl, rfl⟩ | (simp only [Act.eval, execOp]; go_simp; try exact ⟨rfl, rfl⟩)⟩, ?_⟩
              simp only [Act.put, List.setIfInBounds_toArray, List.set_cons_succ, List.set_cons_zero]
              refine ⟨_, _, .int .i64 zn, rfl, rfl, ⟨rfl, fun W hW => by first | exact ⟨rfl, rfl⟩ | (simp only [Act.eval, execOp]; go_simp; try exact ⟨rfl, rfl⟩)⟩, ?_⟩
              simp only [Act.put, List.setIfInBounds_toArray, List.set_cons_succ, List.set_cons_zero]
              refine ⟨_, _, .int .i64 ze, rfl, rfl, ⟨rfl, fun W hW => by first | exact ⟨rfl, rfl⟩ | (simp only [Act.eval, execOp]; go_simp; try exact ⟨rfl, rfl⟩)⟩, ?_⟩
              simp only [Act.put, List.setIfInBounds_toArray, List.set_cons_succ, List.set_cons_zero]
              have hB9 := ((hBc4.setCell (p := ⟨w8.heap.size, 0, none⟩) (hle_w8) (.slice A9 M9.length c9)).setCell (p := ⟨w8.heap.size, 1, none⟩) (hle_w8) (.int .i64 room))
              have hS9 := stB_put (room := room) hrw4 N9 hcap9
              refine ⟨_, rfl, ?_⟩
              go_wp2_with fail
              refine ⟨rfl, hB9, ?_⟩
              refine ⟨_, rfl, ?_⟩
              go_wp2_with fail
              refine ⟨rfl, hB9, ?_⟩
              refine ⟨_, rfl, ?_⟩
              go_wp2_with fail
              refine ⟨rfl, hB9, ?_⟩
              show ∃ (A8 : Option Addr) (c8 : Nat) (M9 : List Nd) (A9 : Option Addr) (c9 b9 : Nat), _
              refine ⟨A8, c8, M9, A9, c9, w8.heap.size, ?_, hM9, hS9, hB9⟩
              first | rfl | simp only [Act.put, List.setIfInBounds_toArray, List.set_cons_succ, List.set_cons_zero]
          · skip
            refine ⟨_, rfl, ?_⟩
            have hBa1 := ((below_drew wr)).alloc (Nat.le_refl _) (.cells #[.slice none 0 0, .int .i64 0] 26)
            have hra1 : (wr.drew.alloc (.cells #[.slice none 0 0, .int .i64 0] 26 (0, 0))).heap[wr.heap.size]? = _ := heap_alloc_new wr.drew (.cells #[.slice none 0 0, .int .i64 0] 26 (0, 0))
            go_wp2_with fail
            refine ⟨rfl, hBa1, ?_⟩
            refine ⟨_, rfl, ?_⟩
            go_wp2_with fail
            refine (hco _ hBa1).mono ?_
            intro e w8 h
            obtain ⟨v8, rfl, ho8, hb⟩ := h
            obtain ⟨A8, c8, hv8, hc8, hR8⟩ := Cel.Own.rd ho8
            subst hv8
            clear ho8
            have hBc6 := Qt.more hBa1 (hBa1).size hb
            have hrw6 := (hb.block _ (lt_heap6 hra1)).trans hra1
            have hb_0_6 := hb
            go_wp2_with fail
            refine ⟨rfl, hBc6, ?_⟩
            refine ⟨_, rfl, ?_⟩
            go_wp2_with fail
            refine (hbu A8 c8 _ hBc6 ((Cel.Rd.below hR8 ((Below.refl w8.heap.size w8)) (Nat.le_refl _)).more ((Below.refl w8.heap.size w8)).size) hc8).mono ?_
            intro e w9 h
            obtain ⟨M9, A9, c9, hM9, rfl, hcap9, N9, hb⟩ := putE_box h
            clear h
            have hBc7 := Qt.more hBc6 (hBc6).size hb
            have hrw7 := (hb.block _ (lt_heap6 hrw6)).trans hrw6
            have hb_1_7 := hb
            have f0 : w9.frozen? ⟨wr.heap.size, 0, none⟩ = false := Lib.frozen_of_heap hrw7 0
            have f1 : w9.frozen? ⟨wr.heap.size, 1, none⟩ = false := Lib.frozen_of_heap hrw7 1
            have g0 : w9.cell? ⟨wr.heap.size, 0, none⟩ = some (.slice none 0 0) := by rw [Lib.cell_of_heap hrw7]; rfl
            have g1 : w9.cell? ⟨wr.heap.size, 1, none⟩ = some (.int .i64 0) := by rw [Lib.cell_of_heap hrw7]; rfl
            go_wp2_with fail
            refine ⟨rfl, hBc7, ?_⟩
            refine ⟨_, _, (.tuple #[(.agg #[.slice A9 M9.length c9, .int .i64 room]), .int .i64 zn, .int .i64 ze]), rfl, rfl, ⟨rfl, fun W hW => by first | exact ⟨rfl, rfl⟩ | (simp only [Act.eval, execOp]; go_simp; try exact ⟨rfl, rfl⟩)⟩, ?_⟩
            simp only [Act.put, List.setIfInBounds_toArray, List.set_cons_succ, List.set_cons_zero]
            refine ⟨_, _, (.agg #[.slice A9 M9.length c9, .int .i64 room]), rfl, rfl, ⟨rfl, fun W hW => by first | exact ⟨rfl, rfl⟩ | (simp only [Act.eval, execOp]; go_simp; try exact ⟨rfl, rfl⟩)⟩, ?_⟩
            simp only [Act.put, List.setIfInBounds_toArray, List.set_cons_succ, List.set_cons_zero]
            refine ⟨_, _, .int .i64 zn, rfl, rfl, ⟨rfl, fun W hW => by first | exact ⟨rfl, rfl⟩ | (simp only [Act.eval, execOp]; go_simp; try exact ⟨rfl, rfl⟩)⟩, ?_⟩
            simp only [Act.put, List.setIfInBounds_toArray, List.set_cons_succ, List.set_cons_zero]
            refine ⟨_, _, .int .i64 ze, rfl, rfl, ⟨rfl, fun W hW => by first | exact ⟨rfl, rfl⟩ | (simp only [Act.eval, execOp]; go_simp; try exact ⟨rfl, rfl⟩)⟩, ?_⟩
            simp only [Act.put, List.setIfInBounds_toArray, List.set_cons_succ, List.set_cons_zero]
            have hB9 := ((hBc7.setCell (p := ⟨wr.heap.size, 0, none⟩) (Nat.le_refl _) (.slice A9 M9.length c9)).setCell (p := ⟨wr.heap.size, 1, none⟩) (Nat.le_refl _) (.int .i64 room))
            have hS9 := stB_put (room := room) hrw7 N9 hcap9
            refine ⟨_, rfl, ?_⟩
            go_wp2_with fail
            refine ⟨rfl, hB9, ?_⟩
            refine ⟨_, rfl, ?_⟩
            go_wp2_with fail
            refine ⟨rfl, hB9, ?_⟩
            refine ⟨_, rfl, ?_⟩
            go_wp2_with fail
            refine ⟨rfl, hB9, ?_⟩
            show ∃ (A8 : Option Addr) (c8 : Nat) (M9 : List Nd) (A9 : Option Addr) (c9 b9 : Nat), _
            refine ⟨A8, c8, M9, A9, c9, wr.heap.size, ?_, hM9, hS9, hB9⟩
            first | rfl | simp only [Act.put, List.setIfInBounds_toArray, List.set_cons_succ, List.set_cons_zero]
        rintro a9 w3 ⟨A8, c8, M, A9, c9, b9, rfl, hM9, hS9, hb9⟩
        simp only [Act.put, List.setIfInBounds_toArray, List.set_cons_succ, List.set_cons_zero]
        have H3 := Lib.hid (HT.out.below hb9)
        have HS := Lib.hid hS9
        clear hco hbu hb9 hS9 HT s0 s1
        have s0 := H3.out.s0
        have s1 := H3.out.s1
        have r0 := H3.out.r0
        have r1 := H3.out.r1
        have fr0 := H3.out.free 0
        have fr1 := H3.out.free 1
        by_cases hze : ze = 0
        · subst hze
          obtain rfl := hM9 rfl
          have hzz := HZ2.out
          rw [if_pos rfl] at hzz
          subst hzz
          have g0 := HS.out.s0
          have g1 := HS.out.s1
          have ht := Lib.hid (H3.out.told HS.out.rd (.slice A9 M.length c9) (.int .i64 room))
          have hcap := HS.out.cap
          clear H3 HS HZ2 s0 s1
          go_wp2_with fail
          clear r0 r1 fr0 fr1
          refine bodyPost_ret (results_cell3 rfl _ _ _ _ _ _ _ rfl ht.out.1 Try.underlying26 rfl (by kernel_rfl)) rfl ?_
          exact ⟨_, rfl, ⟨A9, c9, rfl, hcap, ht.out.2.2⟩, ht.out.2.1⟩
        · have hzz := HZ2.out
          rw [if_neg hze] at hzz
          subst hzz
          have ht := Lib.hid (H3.out.told H3.out.st.rd (.slice A l.length c) (.int .i64 room))
          clear H3 HS HZ2 hM9
          go_wp2_with fail
          clear r0 r1 fr0 fr1
          refine bodyPost_ret (results_cell3 rfl _ _ _ _ _ _ _ rfl ht.out.1 Try.underlying26 rfl (by kernel_rfl)) rfl ?_
          exact ⟨_, rfl, ⟨A, c, rfl, hc, ht.out.2.2⟩, ht.out.2.1⟩
end Go.Proofs.Ytklccoodfhejbaa
