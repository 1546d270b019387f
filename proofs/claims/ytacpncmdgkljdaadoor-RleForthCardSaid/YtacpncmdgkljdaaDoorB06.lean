/-
  Texts that the claims of this seat share, part 6.
-/
import Derived.Test.YtacpncmdgkljdaaDoorB05
import Derived.Test.YtacpncmdgkljdaaDoorB01
import Derived.Lib.FrozenHead2
import Derived.Lib.OthersKept
import Derived.Laws.IdiomStrings
import Derived.Test.YtacpncmdgkljdaaDoorB02
set_option linter.unusedVariables false
set_option linter.unusedSimpArgs false
namespace Go.Proofs.YtacpncmdgkljdaaDoor
set_option linter.unusedVariables false
set_option linter.unusedSimpArgs false
open Go.RowKit Go.Sort

set_option maxHeartbeats 8000000 in
set_option maxRecDepth 100000 in
theorem drawn_any (A : Option Addr) (I : List Itm) (c : Nat) (w : World) (hR : NowE w A (I.map up)) (hI : ∀ x ∈ I, goodI x = true) (hl : I.length ≤ 1000000) :
    Calls Tryd.prog 30 #[.slice A I.length c] w (SetR (doL I st0) w) := by
  have hmf : ∀ (fn : Fn) (first cap : Array Value) (W : World), (Instr.makeFunc fn first cap).run Tryd.prog W = .ok (.func fn first cap) W := fun _ _ _ _ => rfl
  obtain ⟨r, hr⟩ : ∃ r, r = doL I st0 := ⟨_, rfl⟩
  rw [← hr]
  have HI := Lib.hid hI
  have hpen0 : Pen (w.alloc (.cells #[.int .i64 0, .int .i64 0, .slice none 0 0] 93)) w.heap.size (w.heap.size + 2) 0 0 [] (.slice none 0 0) := ⟨heap_alloc_new w _, World.ownsRow_nil _ _ _ _, by omega⟩
  have hb0 : Below w.heap.size w (w.alloc (.cells #[.int .i64 0, .int .i64 0, .slice none 0 0] 93)) := (Below.refl _ _).alloc (Nat.le_refl _) _
  have hs0 : (w.alloc (.cells #[.int .i64 0, .int .i64 0, .slice none 0 0] 93)).heap.size = w.heap.size + 1 := by simp
  have hmm := @run_makeMap Tryd.prog
  obtain ⟨w3, w4, w5, r3, r4, r5, hmap, hb5⟩ := does_made (w.alloc (.cells #[.int .i64 0, .int .i64 0, .slice none 0 0] 93)) w.heap.size
  rw [hs0] at r3 r4 r5 hmap
  unfold fnV at r3 r4 r5
  have H0 : DrawnAt w w5 I r 0 st0 (.slice none 0 0) := ⟨hpen0.below hb5, fit0, hmap, Qt.more hb0 (by omega) hb5, Nat.zero_le _, hr.symm⟩
  have HH0 := Lib.hid H0
  clear hpen0 hmap hb5 H0 hb0 hs0 hI hr
  go_enter Tryd.func30, Tryd.ntmps30
  go_wp2
  clear r3 r4 r5 hmf hmm
  go_loopw [17] (fun i wr => ∃ (k : Nat) (s : St) (v : Value), i = .int .i64 k ∧ Hid (DrawnAt w wr I r k s v)) (fun i _ => I.length - (intOf i).toNat)
  case atStart => exact ⟨0, st0, _, rfl, HH0.out⟩
  case round =>
    obtain ⟨k, s, v, rfl, HH⟩ := hrel
    have H := HH.out
    have hk := H.pos
    by_cases hlt : k < I.length
    · have hltz : (k : Int) < (I.length : Int) := by omega
      obtain ⟨b0, off, rfl, hbB, hcell⟩ := hR.at_ (by rw [List.length_map]; omega)
      have hcons := List.drop_eq_getElem_cons hlt
      have hgood := HI.out _ (List.getElem_mem hlt)
      have hgd : (I.map up).getD k noE = up I[k] := by rw [List.getD_eq_getElem?_getD, List.getElem?_map, List.getElem?_eq_getElem hlt]; rfl
      have hc3 := hcell k (by rw [List.length_map]; exact hlt)
      rw [hgd] at hc3
      obtain ⟨⟨t, n, p⟩, hx⟩ : ∃ x, x = I[k] := ⟨_, rfl⟩
      rw [← hx] at hc3 hcons hgood
      obtain ⟨ht, hn1, hn2⟩ := (goodI_iff _).1 hgood
      simp only [up] at hc3 ht hn1 hn2
      have a0 := Qt.keep H.bel hc3.1
      have a1 := Qt.keep H.bel hc3.2.1
      have a2 := Qt.keep H.bel hc3.2.2
      have hstep := H.rest
      rw [hcons, doL_cons] at hstep
      have hw : w.heap.size ≤ wr.heap.size := H.bel.size
      have hmlt : w.heap.size + 1 < wr.heap.size := (Array.getElem?_eq_some_iff.1 H.map).1
      have hx2 : s.x ≤ 1099511627776 := H.fit.x
      have hy2 : s.y ≤ 1099511627776 := H.fit.y
      have hm2 : s.out.length ≤ 2000 := by have := H.fit.len; have := H.fit.many; omega
      -- the item's own box
      obtain ⟨T, hT⟩ : ∃ T : Int, T = (t.toNat : Int) := ⟨_, rfl⟩
      rw [← hT] at a0
      have hal : Below wr.heap.size wr (wr.alloc (.cells #[.int .u8 T, .int .i64 n, .int .i64 p] 72)) := (Below.refl _ _).alloc (Nat.le_refl _) _
      have hpen1 := H.pen.below hal
      have hmap1 := (hal.block _ hmlt).trans H.map
      have hbx1 : (wr.alloc (.cells #[.int .u8 T, .int .i64 n, .int .i64 p] 72)).heap[wr.heap.size]? = some (.cells #[.int .u8 T, .int .i64 n, .int .i64 p] 72 (0, 0)) := heap_alloc_new wr _
      have hsz1 : (wr.alloc (.cells #[.int .u8 T, .int .i64 n, .int .i64 p] 72)).heap.size = wr.heap.size + 1 := by simp
      have hb1 := H.bel.alloc hw (.cells #[.int .u8 T, .int .i64 n, .int .i64 p] 72)
      have hfit := H.fit
      have h3 : t = 98 ∨ t = 111 ∨ t = 36 := by
        unfold tagB at ht
        simpa [or_assoc] using ht
      clear H HH hcell hgd hc3 hx hcons hgood ht hal
      have hdone : ∃ x' y' out', Stepped (stepS s t n) x' y' out' ∧ (t = 98 → x' = s.x + n ∧ y' = s.y ∧ out' = s.out) ∧ (t = 111 → x' = s.x + n ∧ y' = s.y ∧ out' = s.out ++ runC s.x s.y (min n (2001 - s.out.length))) ∧ (t = 36 → x' = 0 ∧ y' = s.y + n ∧ out' = s.out) := by
        rcases h3 with rfl | rfl | rfl
        · exact ⟨_, _, _, stepped_b hfit hn2, fun _ => ⟨rfl, rfl, rfl⟩, fun e => absurd e (by decide), fun e => absurd e (by decide)⟩
        · exact ⟨_, _, _, stepped_o hfit hn2, fun e => absurd e (by decide), fun _ => ⟨rfl, rfl, rfl⟩, fun e => absurd e (by decide)⟩
        · exact ⟨_, _, _, stepped_d hfit hn2, fun e => absurd e (by decide), fun e => absurd e (by decide), fun _ => ⟨rfl, rfl, rfl⟩⟩
      obtain ⟨x', y', out', hst, he1, he2, he3⟩ := hdone
      have HST := Lib.hid hst
      have HSTEP := Lib.hid hstep
      have hmfit := hfit
      generalize hs' : stepS s t n = s' at HST HSTEP hst hstep
      have HS := Lib.hid hs'
      clear hst hstep hs' hfit hmfit hn1
      rcases h3 with rfl | rfl | rfl
      · obtain ⟨rfl, rfl, rfl⟩ := he1 rfl
        obtain rfl : T = 98 := hT
        have hcall := skip_any n hpen1 hx2 hn2
        have hlook := map_get (k := 98) (j := 0) (v := fnV 50 w.heap.size) hmap1 (fun em => by kernel_rfl) (by kernel_rfl)
        unfold fnV at hlook
        clear he1 he2 he3 hx2 hy2 hm2
        go_wp2_with fail
        refine hcall.mono ?_
        rintro e w2 ⟨rfl, v2, hp2, hr2⟩
        clear hcall hlook
        have hmap2 := hr2.oth _ _ hmap1 (fun e => by injection e with e; omega) (fun _ _ e => by cases e)
        have hbx2 := hr2.oth _ _ hbx1 (fun e => by injection e with e; omega) (fun _ _ e => by injection e with _ e _; exact absurd e (by decide))
        have hb2 : Below w.heap.size w w2 := hb1.trans hr2.bel
        clear hpen1 hmap1 hbx1 hr2 hb1 a0 a1 a2
        have hfl := fault_any hp2 HST.out.xb HST.out.yb HST.out.lb
        rw [fault_of HST.out] at hfl
        have hst := HST.out
        cases hfar : farS s' with
        | true =>
          rw [hfar] at hfl
          have he : r = ([], 2, p) := by rw [← HSTEP.out, hfar]; rfl
          have hfl2 : Calls Tryd.prog 53 #[.pointer (some ⟨w.heap.size, 0, none⟩)] w2 fun e w' => e = .returned (.int .i64 2) ∧ Below w2.heap.size w2 w' := hfl
          clear hfl hst hp2 hmap2 HSTEP HST HS hfar
          subst he
          go_wp2_with fail
          refine hfl2.mono ?_
          rintro e w6 ⟨rfl, hb6⟩
          have hbx6 := (hb6.block _ (lt_heap hbx2)).trans hbx2
          have e2 : w6.cell? ⟨wr.heap.size, 2, none⟩ = some (.int .i64 p) := by rw [Lib.cell_of_heap hbx6]; rfl
          have k2 := Qt.cell_in e2
          have hbb := Qt.more hb2 hb2.size hb6
          clear hfl2 hbx2 hbx6 hb2 hb6
          go_wp2_with fail
          refine Qt.below_all (by kernel_rfl) (by kernel_rfl) ?_
          repeat (go_big_quiet_step (fail))
          refine wpQuiet_nil ?_
          intro w7 hb7
          clear k2
          go_wp2
          go_ret3
          exact setR_none (Qt.more hbb hbb.size hb7)
        | false =>
          rw [hfar, if_neg (by decide)] at hfl
          have hstep2 := HSTEP.out
          rw [hfar, if_neg (by decide)] at hstep2
          cases hfull : fullS s' with
          | true =>
            rw [hfull] at hfl hstep2
            have he : r = ([], 3, p) := hstep2.symm
            have hfl2 : Calls Tryd.prog 53 #[.pointer (some ⟨w.heap.size, 0, none⟩)] w2 fun e w' => e = .returned (.int .i64 3) ∧ Below w2.heap.size w2 w' := hfl
            clear hfl hst hp2 hmap2 HSTEP HST HS hfar hfull hstep2
            subst he
            go_wp2_with fail
            refine hfl2.mono ?_
            rintro e w6 ⟨rfl, hb6⟩
            have hbx6 := (hb6.block _ (lt_heap hbx2)).trans hbx2
            have e2 : w6.cell? ⟨wr.heap.size, 2, none⟩ = some (.int .i64 p) := by rw [Lib.cell_of_heap hbx6]; rfl
            have k2 := Qt.cell_in e2
            have hbb := Qt.more hb2 hb2.size hb6
            clear hfl2 hbx2 hbx6 hb2 hb6
            go_wp2_with fail
            refine Qt.below_all (by kernel_rfl) (by kernel_rfl) ?_
            repeat (go_big_quiet_step (fail))
            refine wpQuiet_nil ?_
            intro w7 hb7
            clear k2
            go_wp2
            go_ret3
            exact setR_none (Qt.more hbb hbb.size hb7)
          | false =>
            rw [hfull] at hfl hstep2
            have hfl2 : Calls Tryd.prog 53 #[.pointer (some ⟨w.heap.size, 0, none⟩)] w2 fun e w' => e = .returned (.int .i64 0) ∧ Below w2.heap.size w2 w' := hfl
            have HD := Lib.hid (fun (w6 : World) (hb6 : Below w2.heap.size w2 w6) => (show DrawnAt w w6 I r (k + 1) s' v2 from by
              have h1 := hp2.below hb6
              rw [(hst.eout hfull).1, hst.ex, hst.ey] at h1
              exact ⟨h1, fit_next hst hfar hfull, (hb6.block _ (lt_heap hmap2)).trans hmap2, Qt.more hb2 hb2.size hb6, hlt, hstep2⟩))
            clear hfl hst hp2 hmap2 HSTEP HST HS hfar hfull hstep2 hbx2
            go_wp2_with fail
            refine hfl2.mono ?_
            rintro e w6 ⟨rfl, hb6⟩
            have HD6 := Lib.hid (HD.out w6 hb6)
            clear HD hfl2 hb6 hb2
            go_wp2
            go_roundw
            case measure => simp [intOf]; omega
            case rel => exact ⟨k + 1, s', v2, by go_num, HD6.out⟩
      · obtain ⟨rfl, rfl, rfl⟩ := he2 rfl
        obtain rfl : T = 111 := hT
        have hcall := put_any n hpen1 (by rw [hsz1]; omega) hx2 hn2 hm2
        have hlook := map_get (k := 111) (j := 1) (v := fnV 51 w.heap.size) hmap1 (fun em => by kernel_rfl) (by kernel_rfl)
        unfold fnV at hlook
        clear he1 he2 he3 hx2 hy2 hm2
        go_wp2_with fail
        refine hcall.mono ?_
        rintro e w2 ⟨rfl, v2, hp2, hr2⟩
        clear hcall hlook
        have hmap2 := hr2.oth _ _ hmap1 (fun e => by injection e with e; omega) (fun _ _ e => by cases e)
        have hbx2 := hr2.oth _ _ hbx1 (fun e => by injection e with e; omega) (fun _ _ e => by injection e with _ e _; exact absurd e (by decide))
        have hb2 : Below w.heap.size w w2 := hb1.trans hr2.bel
        clear hpen1 hmap1 hbx1 hr2 hb1 a0 a1 a2
        have hfl := fault_any hp2 HST.out.xb HST.out.yb HST.out.lb
        rw [fault_of HST.out] at hfl
        have hst := HST.out
        cases hfar : farS s' with
        | true =>
          rw [hfar] at hfl
          have he : r = ([], 2, p) := by rw [← HSTEP.out, hfar]; rfl
          have hfl2 : Calls Tryd.prog 53 #[.pointer (some ⟨w.heap.size, 0, none⟩)] w2 fun e w' => e = .returned (.int .i64 2) ∧ Below w2.heap.size w2 w' := hfl
          clear hfl hst hp2 hmap2 HSTEP HST HS hfar
          subst he
          go_wp2_with fail
          refine hfl2.mono ?_
          rintro e w6 ⟨rfl, hb6⟩
          have hbx6 := (hb6.block _ (lt_heap hbx2)).trans hbx2
          have e2 : w6.cell? ⟨wr.heap.size, 2, none⟩ = some (.int .i64 p) := by rw [Lib.cell_of_heap hbx6]; rfl
          have k2 := Qt.cell_in e2
          have hbb := Qt.more hb2 hb2.size hb6
          clear hfl2 hbx2 hbx6 hb2 hb6
          go_wp2_with fail
          refine Qt.below_all (by kernel_rfl) (by kernel_rfl) ?_
          repeat (go_big_quiet_step (fail))
          refine wpQuiet_nil ?_
          intro w7 hb7
          clear k2
          go_wp2
          go_ret3
          exact setR_none (Qt.more hbb hbb.size hb7)
        | false =>
          rw [hfar, if_neg (by decide)] at hfl
          have hstep2 := HSTEP.out
          rw [hfar, if_neg (by decide)] at hstep2
          cases hfull : fullS s' with
          | true =>
            rw [hfull] at hfl hstep2
            have he : r = ([], 3, p) := hstep2.symm
            have hfl2 : Calls Tryd.prog 53 #[.pointer (some ⟨w.heap.size, 0, none⟩)] w2 fun e w' => e = .returned (.int .i64 3) ∧ Below w2.heap.size w2 w' := hfl
            clear hfl hst hp2 hmap2 HSTEP HST HS hfar hfull hstep2
            subst he
            go_wp2_with fail
            refine hfl2.mono ?_
            rintro e w6 ⟨rfl, hb6⟩
            have hbx6 := (hb6.block _ (lt_heap hbx2)).trans hbx2
            have e2 : w6.cell? ⟨wr.heap.size, 2, none⟩ = some (.int .i64 p) := by rw [Lib.cell_of_heap hbx6]; rfl
            have k2 := Qt.cell_in e2
            have hbb := Qt.more hb2 hb2.size hb6
            clear hfl2 hbx2 hbx6 hb2 hb6
            go_wp2_with fail
            refine Qt.below_all (by kernel_rfl) (by kernel_rfl) ?_
            repeat (go_big_quiet_step (fail))
            refine wpQuiet_nil ?_
            intro w7 hb7
            clear k2
            go_wp2
            go_ret3
            exact setR_none (Qt.more hbb hbb.size hb7)
          | false =>
            rw [hfull] at hfl hstep2
            have hfl2 : Calls Tryd.prog 53 #[.pointer (some ⟨w.heap.size, 0, none⟩)] w2 fun e w' => e = .returned (.int .i64 0) ∧ Below w2.heap.size w2 w' := hfl
            have HD := Lib.hid (fun (w6 : World) (hb6 : Below w2.heap.size w2 w6) => (show DrawnAt w w6 I r (k + 1) s' v2 from by
              have h1 := hp2.below hb6
              rw [(hst.eout hfull).1, hst.ex, hst.ey] at h1
              exact ⟨h1, fit_next hst hfar hfull, (hb6.block _ (lt_heap hmap2)).trans hmap2, Qt.more hb2 hb2.size hb6, hlt, hstep2⟩))
            clear hfl hst hp2 hmap2 HSTEP HST HS hfar hfull hstep2 hbx2
            go_wp2_with fail
            refine hfl2.mono ?_
            rintro e w6 ⟨rfl, hb6⟩
            have HD6 := Lib.hid (HD.out w6 hb6)
            clear HD hfl2 hb6 hb2
            go_wp2
            go_roundw
            case measure => simp [intOf]; omega
            case rel => exact ⟨k + 1, s', v2, by go_num, HD6.out⟩
      · obtain ⟨rfl, rfl, rfl⟩ := he3 rfl
        obtain rfl : T = 36 := hT
        have hcall := down_any n hpen1 hy2 hn2
        have hlook := map_get (k := 36) (j := 2) (v := fnV 52 w.heap.size) hmap1 (fun em => by kernel_rfl) (by kernel_rfl)
        unfold fnV at hlook
        clear he1 he2 he3 hx2 hy2 hm2
        go_wp2_with fail
        refine hcall.mono ?_
        rintro e w2 ⟨rfl, v2, hp2, hr2⟩
        clear hcall hlook
        have hmap2 := hr2.oth _ _ hmap1 (fun e => by injection e with e; omega) (fun _ _ e => by cases e)
        have hbx2 := hr2.oth _ _ hbx1 (fun e => by injection e with e; omega) (fun _ _ e => by injection e with _ e _; exact absurd e (by decide))
        have hb2 : Below w.heap.size w w2 := hb1.trans hr2.bel
        clear hpen1 hmap1 hbx1 hr2 hb1 a0 a1 a2
        have hfl := fault_any hp2 HST.out.xb HST.out.yb HST.out.lb
        rw [fault_of HST.out] at hfl
        have hst := HST.out
        cases hfar : farS s' with
        | true =>
          rw [hfar] at hfl
          have he : r = ([], 2, p) := by rw [← HSTEP.out, hfar]; rfl
          have hfl2 : Calls Tryd.prog 53 #[.pointer (some ⟨w.heap.size, 0, none⟩)] w2 fun e w' => e = .returned (.int .i64 2) ∧ Below w2.heap.size w2 w' := hfl
          clear hfl hst hp2 hmap2 HSTEP HST HS hfar
          subst he
          go_wp2_with fail
          refine hfl2.mono ?_
          rintro e w6 ⟨rfl, hb6⟩
          have hbx6 := (hb6.block _ (lt_heap hbx2)).trans hbx2
          have e2 : w6.cell? ⟨wr.heap.size, 2, none⟩ = some (.int .i64 p) := by rw [Lib.cell_of_heap hbx6]; rfl
          have k2 := Qt.cell_in e2
          have hbb := Qt.more hb2 hb2.size hb6
          clear hfl2 hbx2 hbx6 hb2 hb6
          go_wp2_with fail
          refine Qt.below_all (by kernel_rfl) (by kernel_rfl) ?_
          repeat (go_big_quiet_step (fail))
          refine wpQuiet_nil ?_
          intro w7 hb7
          clear k2
          go_wp2
          go_ret3
          exact setR_none (Qt.more hbb hbb.size hb7)
        | false =>
          rw [hfar, if_neg (by decide)] at hfl
          have hstep2 := HSTEP.out
          rw [hfar, if_neg (by decide)] at hstep2
          cases hfull : fullS s' with
          | true =>
            rw [hfull] at hfl hstep2
            have he : r = ([], 3, p) := hstep2.symm
            have hfl2 : Calls Tryd.prog 53 #[.pointer (some ⟨w.heap.size, 0, none⟩)] w2 fun e w' => e = .returned (.int .i64 3) ∧ Below w2.heap.size w2 w' := hfl
            clear hfl hst hp2 hmap2 HSTEP HST HS hfar hfull hstep2
            subst he
            go_wp2_with fail
            refine hfl2.mono ?_
            rintro e w6 ⟨rfl, hb6⟩
            have hbx6 := (hb6.block _ (lt_heap hbx2)).trans hbx2
            have e2 : w6.cell? ⟨wr.heap.size, 2, none⟩ = some (.int .i64 p) := by rw [Lib.cell_of_heap hbx6]; rfl
            have k2 := Qt.cell_in e2
            have hbb := Qt.more hb2 hb2.size hb6
            clear hfl2 hbx2 hbx6 hb2 hb6
            go_wp2_with fail
            refine Qt.below_all (by kernel_rfl) (by kernel_rfl) ?_
            repeat (go_big_quiet_step (fail))
            refine wpQuiet_nil ?_
            intro w7 hb7
            clear k2
            go_wp2
            go_ret3
            exact setR_none (Qt.more hbb hbb.size hb7)
          | false =>
            rw [hfull] at hfl hstep2
            have hfl2 : Calls Tryd.prog 53 #[.pointer (some ⟨w.heap.size, 0, none⟩)] w2 fun e w' => e = .returned (.int .i64 0) ∧ Below w2.heap.size w2 w' := hfl
            have HD := Lib.hid (fun (w6 : World) (hb6 : Below w2.heap.size w2 w6) => (show DrawnAt w w6 I r (k + 1) s' v2 from by
              have h1 := hp2.below hb6
              rw [(hst.eout hfull).1, hst.ex, hst.ey] at h1
              exact ⟨h1, fit_next hst hfar hfull, (hb6.block _ (lt_heap hmap2)).trans hmap2, Qt.more hb2 hb2.size hb6, hlt, hstep2⟩))
            clear hfl hst hp2 hmap2 HSTEP HST HS hfar hfull hstep2 hbx2
            go_wp2_with fail
            refine hfl2.mono ?_
            rintro e w6 ⟨rfl, hb6⟩
            have HD6 := Lib.hid (HD.out w6 hb6)
            clear HD hfl2 hb6 hb2
            go_wp2
            go_roundw
            case measure => simp [intOf]; omega
            case rel => exact ⟨k + 1, s', v2, by go_num, HD6.out⟩
    · have hltz : ¬ (k : Int) < (I.length : Int) := by omega
      have he : r = (s.out, 0, 0) := by rw [← H.rest, List.drop_of_length_le (by omega)]; rfl
      subst he
      obtain ⟨A2, c2, rfl, hc2, hrd⟩ := H.pen.own.rd
      have q2 := H.pen.v0
      have hbel := H.bel
      clear H HH HI
      go_wp2
      go_ret3
      exact ⟨_, rfl, ⟨A2, c2, rfl, hc2, hrd⟩, hbel⟩
end Go.Proofs.YtacpncmdgkljdaaDoor
namespace Go.Proofs.YtacpncmdgkljdaaDoor
set_option linter.unusedVariables false
set_option linter.unusedSimpArgs false
open Go.RowKit Go.Sort

theorem hashN_at : ∀ (f : Nat) (l : List UInt8) (k : Nat), k ≤ l.length → ∃ k', k' ≤ l.length ∧ hashN f (l.drop k) k = (l.drop k', k') := by
  intro f
  induction f with
  | zero => intro l k hk; exact ⟨k, hk, rfl⟩
  | succ f ih =>
    intro l k hk
    rw [hashN_succ]
    by_cases h : (l.drop k).head? = some 35
    · rw [if_pos h]
      cases hl : lineL (l.drop k) with
      | none => exact ⟨k, hk, rfl⟩
      | some q =>
        obtain ⟨a, r⟩ := q
        have hb := (line_back hl).1
        have hlen := congrArg List.length hb
        simp only [List.length_drop, List.length_append, List.length_cons] at hlen
        have hr : r = l.drop (k + a.length + 1) := by
          have e : l.drop (k + a.length + 1) = (l.drop k).drop (a.length + 1) := by rw [List.drop_drop]; congr 1
          rw [e, hb]
          simp
        simp only
        rw [hr]
        exact ih l (k + a.length + 1) (by omega)
    · rw [if_neg h]
      exact ⟨k, hk, rfl⟩
theorem hash_at (l : List UInt8) : ∃ k, k ≤ l.length ∧ hashL l 0 = (l.drop k, k) := by
  have := hashN_at l.length l 0 (Nat.zero_le _)
  rwa [List.drop_zero] at this
theorem line_drop {l a r : List UInt8} {k : Nat} (h : lineL (l.drop k) = some (a, r)) : r = l.drop (k + a.length + 1) ∧ k + a.length + 1 + r.length = l.length := by
  have hb := (line_back h).1
  have hlen := congrArg List.length hb
  simp only [List.length_drop, List.length_append, List.length_cons] at hlen
  refine ⟨?_, by omega⟩
  have e : l.drop (k + a.length + 1) = (l.drop k).drop (a.length + 1) := by rw [List.drop_drop]; congr 1
  rw [e, hb]
  simp
theorem str_from (l : List UInt8) {k : Nat} : (str l).extract k l.length = str (l.drop k) := by
  apply ByteArray.ext
  apply Array.ext'
  simp [str, List.take_of_length_le]

set_option maxHeartbeats 4000000 in
set_option maxRecDepth 100000 in
theorem remarks_any (l : List UInt8) (w : World) (hl : l.length ≤ 1000000) (hM : Mx w) :
    Calls Tryd.prog 26 #[.string (str l)] w fun e w' => e = .returned (.int .i64 (hashL l 0).2) ∧ Below w.heap.size w w' := by
  obtain ⟨r, hr⟩ : ∃ r, r = hashL l 0 := ⟨_, rfl⟩
  rw [← hr]
  have HR0 : Hid (hashL (l.drop 0) 0 = r) := by rw [List.drop_zero]; exact hr.symm
  have hsz := str_size l
  have HX : Hid (∀ k, (str l).extract k l.length = str (l.drop k)) := fun k => str_from l
  clear hr
  generalize str l = s at hsz HX
  go_enter Tryd.func26, Tryd.ntmps26
  go_wp2
  go_loopw [3] (fun i wr => ∃ k : Nat, k ≤ l.length ∧ i = .int .i64 k ∧ Hid (hashL (l.drop k) k = r) ∧ Below w.heap.size w wr) (fun i _ => l.length - (intOf i).toNat)
  case atStart => exact ⟨0, Nat.zero_le _, rfl, HR0, Below.refl _ _⟩
  case round =>
    obtain ⟨k, hk, rfl, HK, hb⟩ := hrel
    have hkz : (k : Int) ≤ (s.size : Int) := by omega
    have hx := HX.out k
    have hpre := fun W => pre_any (l.drop k) [35] W
    have h35 := head_pre35 (l.drop k)
    have hcut := cutS_any [10] (l.drop k) wr (by decide) (by rw [List.length_drop]; omega) (hM.below hb)
    have hline := line_cut (l.drop k)
    have H35 := Lib.hid h35
    clear h35
    cases hp : Lib.hasPrefix (l.drop k) [35] with
    | false =>
      have he : r.2 = k := by
        rw [← HK.out, hash_no (fun e => by rw [H35.out.2 e] at hp; cases hp)]
      rw [hp] at hpre
      clear hcut hline H35 HK hp
      generalize str (l.drop k) = sk at *
      go_wp2_with fail
      refine (hpre _).mono ?_
      rintro e w1 ⟨rfl, rfl⟩
      go_wp2
      go_ret
      exact ⟨by rw [he]; rfl, hb⟩
    | true =>
      rw [hp] at hpre
      have h1 := H35.out.1 hp
      clear H35 hp
      cases hln : lineL (l.drop k) with
      | none =>
        have he : r.2 = k := by rw [← HK.out, hash_open hln]
        rw [cutT_none (by rw [hline]; exact hln)] at hcut
        clear hline HK hln h1
        generalize str (l.drop k) = sk at *
        generalize str [] = s0 at *
        go_wp2_with fail
        refine (hpre _).mono ?_
        rintro e w1 ⟨rfl, rfl⟩
        go_wp2_with fail
        refine hcut.mono ?_
        rintro e w2 ⟨rfl, hb2⟩
        go_wp2
        go_ret
        exact ⟨by rw [he]; rfl, Qt.more hb hb.size hb2⟩
      | some q =>
        obtain ⟨a, rr⟩ := q
        obtain ⟨hrr, hlen⟩ := line_drop hln
        have hon := hash_on h1 hln k
        rw [HK.out] at hon
        rw [cutT_some (by rw [hline]; exact hln)] at hcut
        have hrs := str_size rr
        have HON := Lib.hid hon
        have HRR := Lib.hid hrr
        clear hline HK hln h1 hon hrr
        generalize str (l.drop k) = sk at *
        generalize str a = sa at *
        generalize str rr = sr at *
        go_wp2_with fail
        refine (hpre _).mono ?_
        rintro e w1 ⟨rfl, rfl⟩
        go_wp2_with fail
        refine hcut.mono ?_
        rintro e w2 ⟨rfl, hb2⟩
        have hbb := Qt.more hb hb.size hb2
        clear hcut hb2
        go_wp2
        go_roundw
        case measure => simp [intOf]; omega
        case rel =>
          refine ⟨k + a.length + 1, by omega, ?_, ?_, hbb⟩
          · show Value.int .i64 _ = Value.int .i64 _
            congr 1
            omega
          · rw [← HRR.out]
            exact HON.out.symm

end Go.Proofs.YtacpncmdgkljdaaDoor
namespace Go.Proofs.YtacpncmdgkljdaaDoor
set_option linter.unusedVariables false
open Go.RowKit Go.Sort

/-- The builder at block b holds these bytes; its row lies at B or behind it. -/
def Bld (w : World) (B b : Nat) (l : List UInt8) : Prop := Lib.IsBuilderF 70 5 B b (Lib.byteCells l) w
/-- Every block that is not b and is no row of bytes stands. -/
abbrev Rest (b : Nat) (w w' : World) : Prop := Lib.OthersKept 5 (some b) w w'

theorem bld_new (w : World) : Bld (w.alloc (.cells #[.pointer none, .slice none 0 0] 70)) w.heap.size w.heap.size [] :=
  Lib.IsBuilderF.of (Lib.fresh_isBuilder _ _ w)
theorem byteCells_append (l m : List UInt8) : Lib.byteCells (l ++ m) = Lib.byteCells l ++ Lib.byteCells m := by simp [Lib.byteCells]

theorem info_byte : (Tryd.prog.info? 5).map (fun i => (i.zero, i.size, i.bytes)) = some (some (.int .u8 0), 1, 1) := by kernel_rfl

theorem builder_size : (Tryd.prog.info? 70).map (·.size) = some 2 := by kernel_rfl
theorem builder_lies : liesAt Tryd.prog Tryd.prog.depth 70 (2 / Tryd.prog.cellsOf 70) 0 70 1 = true := by kernel_rfl

set_option maxRecDepth 100000 in
/-- copyCheck: behind it the builder bears its own address. -/
theorem check_any (B b : Nat) (bs : List Value) (w : World) (h : Lib.IsBuilderF 70 5 B b bs w) :
    Calls Tryd.prog 58 #[.pointer (some ⟨b, 0, none⟩)] w fun e w' => e = .returned (.tuple #[]) ∧ Lib.BuilderAtF 70 5 B b (.pointer (some ⟨b, 0, none⟩)) bs w' ∧ Below B w w' ∧ Rest b w w' := by
  rcases h with h | h
  · obtain ⟨j, hj, hjs⟩ := Option.map_eq_some_iff.1 builder_size
    have c0 := h.cell0
    have c1 := h.shape
    have c2 := h.frozen0
    have d0 : (w.setCell ⟨b, 0, none⟩ (.pointer (some ⟨b, 0, none⟩))).cell? ⟨b, 0, none⟩ = some (.pointer (some ⟨b, 0, none⟩)) := (h.used _).cell0
    have hb : Below B w (w.setCell ⟨b, 0, none⟩ (.pointer (some ⟨b, 0, none⟩))) := (Below.refl B w).setCell (p := ⟨b, 0, none⟩) h.1 _
    have hk : Rest b w (w.setCell ⟨b, 0, none⟩ (.pointer (some ⟨b, 0, none⟩))) := (Lib.OthersKept.refl _ _ w).setCell ⟨b, 0, none⟩ rfl _
    have hu := h.used (.pointer (some ⟨b, 0, none⟩))
    go_enter Tryd.func58, Tryd.ntmps58
    go_wp2
    rw [Lib.run_to_unsafe w ⟨b, 0, none⟩ Tryd.underlying68 Tryd.underlying108 hj (by rw [hjs]; decide) c1 (Nat.zero_lt_succ 1)]
    simp only [Result.andThen]
    rw [Oper.upon_value]
    go_wp2
    rw [run_callFunc_extern Tryd.func70 (by kernel_rfl) (by kernel_rfl) (by kernel_rfl) (e := Extern.AbiNoEscape.same) (by kernel_rfl)]
    rw [Lib.run_noEscape]
    simp only [Result.andThen]
    rw [Oper.upon_value]
    go_wp2
    rw [Lib.run_from_unsafe w ⟨b, 0, none⟩ Tryd.underlying108 Tryd.underlying68 hj c1 builder_lies]
    simp only [Result.andThen]
    rw [Oper.upon_value]
    go_wp2
    go_end0
    exact ⟨rfl, hu, hb, hk⟩
  · obtain ⟨j, hj, hjs⟩ := Option.map_eq_some_iff.1 builder_size
    have c0 := h.cell0
    go_enter Tryd.func58, Tryd.ntmps58
    go_wp2
    rw [Lib.run_neq_ptr_same w _ Tryd.underlying68 hj]
    go_wp2
    go_end0
    exact ⟨rfl, h, Below.refl _ _, Lib.OthersKept.refl _ _ _⟩

set_option maxHeartbeats 1000000 in
theorem wbyte_any (B b : Nat) (l : List UInt8) (c : UInt8) (w : World) (h : Bld w B b l) (hl : l.length + 1 ≤ 140737488355328) (hB : B ≤ w.heap.size) :
    Calls Tryd.prog 39 #[.pointer (some ⟨b, 0, none⟩), .int .u8 c.toNat] w fun e w' => e = .returned .nilIface ∧ Bld w' B b (l ++ [c]) ∧ Below B w w' ∧ Rest b w w' := by
  obtain ⟨i0, hi, hz0, hz1, hz2⟩ := info_parts info_byte
  go_enter Tryd.func39, Tryd.ntmps39
  go_wp2_with fail
  refine (check_any B b _ _ h).mono ?_
  rintro e w1 ⟨rfl, ⟨hBb, v, hbk, hown, hne⟩, hb1, hk1⟩
  have c0 : w1.cell? ⟨b, 0, none⟩ = some (.pointer (some ⟨b, 0, none⟩)) := by rw [Lib.cell_of_heap hbk]; rfl
  have c1 : w1.cell? ⟨b, 1, none⟩ = some v := by rw [Lib.cell_of_heap hbk]; rfl
  have hsz : B ≤ w1.heap.size := Nat.le_trans hB hb1.size
  have hlen : (Lib.byteCells l).length = l.length := Lib.byteCells_length l
  go_wp2_with (at_builtin; refine wpList_append_ownF _ rfl _ _ 64 rfl B 5 i0 (.int .u8 0) 1 1 Tryd.underlying64 hi hz0 hz1 hz2 rfl (by decide) _ _ _ rfl (hown.alloc _) ⟨w1.heap.size, 0, none⟩ 1 1 [.int .u8 c.toNat] rfl rfl ?c1 ?c2 ?c3 ?c4 ?c5 ?_)
  case c1 =>
    intro j u hj
    match j, hj with
    | 0, hj => simp at hj; subst hj; simp [Addr.add]
  case c2 => intro u hu; simp at hu; subst hu; rfl
  case c3 => unfold maxLen; omega
  case c4 => omega
  case c5 => simp; omega
  intro v' w2 hown' hgrow _
  have hlt : b < w1.heap.size := by
    rcases Nat.lt_or_ge b w1.heap.size with h' | h'
    · exact h'
    · simp [Array.getElem?_eq_none h'] at hbk
  have hb2 : w2.heap[b]? = some (.cells #[.pointer (some ⟨b, 0, none⟩), v] 70 (0, 0)) := by
    rw [hgrow.block b (by simp; omega) (fun e => hne e.symm), Lib.alloc_old w1 _ b hlt]
    exact hbk
  have d0 : w2.cell? ⟨b, 0, none⟩ = some (.pointer (some ⟨b, 0, none⟩)) := by rw [Lib.cell_of_heap hb2]; rfl
  have d1 : w2.cell? ⟨b, 1, none⟩ = some v := by rw [Lib.cell_of_heap hb2]; rfl
  have f1 : w2.frozen? ⟨b, 1, none⟩ = false := Lib.frozen_of_heap hb2 1
  have hput := fun u (hu : w2.ownsRowF B 5 1 u (Lib.byteCells (l ++ [c])).length (Lib.byteCells (l ++ [c]))) => Lib.BuilderAtF.put (T := 70) (e := 5) hBb hb2 hu (by decide)
  have hbel := fun u => ((hb1.alloc (Nat.le_trans hB hb1.size) _).grown hgrow (by simp; omega) (fun k hk => (hown.lt k hk).1)).setCell (p := ⟨b, 1, none⟩) hBb u
  have hrest := fun u => ((hk1.alloc _).grown hgrow (Lib.ownsRowF_kind (hown.alloc _))).setCell ⟨b, 1, none⟩ rfl u
  have hown2 : w2.ownsRowF B 5 1 v' (Lib.byteCells (l ++ [c])).length (Lib.byteCells (l ++ [c])) := by
    rw [byteCells_append, List.length_append, hlen]
    exact hown'
  obtain ⟨ao, n', cap, rfl⟩ : ∃ ao n' cap, v' = .slice ao n' cap := by
    rcases hown'.2 with ⟨hv, _⟩ | ⟨g, cap, cur, fz, hv, _⟩
    · exact ⟨_, _, _, hv⟩
    · exact ⟨_, _, _, hv⟩
  have HP := Lib.hid (hput _ hown2)
  have HB := Lib.hid (hbel (.slice ao n' cap))
  have HR := Lib.hid (hrest (.slice ao n' cap))
  clear hput hbel hrest hown2 hown' hgrow
  go_wp2
  go_ret
  exact ⟨rfl, .inr HP.out, HB.out, HR.out⟩

set_option maxHeartbeats 1000000 in
theorem wtext_any (B b : Nat) (l : List UInt8) (s : ByteArray) (w : World) (h : Bld w B b l) (hl : l.length + s.size ≤ 140737488355328) (hB : B ≤ w.heap.size) :
    Calls Tryd.prog 38 #[.pointer (some ⟨b, 0, none⟩), .string s] w fun e w' => e = .returned (.tuple #[.int .i64 s.size, .nilIface]) ∧ Bld w' B b (l ++ s.data.toList) ∧ Below B w w' ∧ Rest b w w' := by
  obtain ⟨i0, hi, hz0, hz1, hz2⟩ := info_parts info_byte
  go_enter Tryd.func38, Tryd.ntmps38
  go_wp2_with fail
  refine (check_any B b _ _ h).mono ?_
  rintro e w1 ⟨rfl, ⟨hBb, v, hbk, hown, hne⟩, hb1, hk1⟩
  have c0 : w1.cell? ⟨b, 0, none⟩ = some (.pointer (some ⟨b, 0, none⟩)) := by rw [Lib.cell_of_heap hbk]; rfl
  have c1 : w1.cell? ⟨b, 1, none⟩ = some v := by rw [Lib.cell_of_heap hbk]; rfl
  have hsz : B ≤ w1.heap.size := Nat.le_trans hB hb1.size
  have hlen : (Lib.byteCells l).length = l.length := Lib.byteCells_length l
  go_wp2_with (at_builtin; refine Lib.wpList_append_own_stringF _ rfl _ _ 64 9 rfl B 5 i0 Tryd.underlying64 Tryd.underlying9 hi hz0 hz1 hz2 _ _ _ rfl hown s rfl ?c3 ?c4 ?c5 ?_)
  case c3 => unfold maxLen; omega
  case c4 => omega
  case c5 => omega
  intro v' w2 hown' hgrow _
  have hlt : b < w1.heap.size := by
    rcases Nat.lt_or_ge b w1.heap.size with h' | h'
    · exact h'
    · simp [Array.getElem?_eq_none h'] at hbk
  have hb2 : w2.heap[b]? = some (.cells #[.pointer (some ⟨b, 0, none⟩), v] 70 (0, 0)) := by
    rw [hgrow.block b hlt (fun e => hne e.symm)]
    exact hbk
  have d0 : w2.cell? ⟨b, 0, none⟩ = some (.pointer (some ⟨b, 0, none⟩)) := by rw [Lib.cell_of_heap hb2]; rfl
  have d1 : w2.cell? ⟨b, 1, none⟩ = some v := by rw [Lib.cell_of_heap hb2]; rfl
  have f1 : w2.frozen? ⟨b, 1, none⟩ = false := Lib.frozen_of_heap hb2 1
  have hput := fun u (hu : w2.ownsRowF B 5 1 u (Lib.byteCells (l ++ s.data.toList)).length (Lib.byteCells (l ++ s.data.toList))) => Lib.BuilderAtF.put (T := 70) (e := 5) hBb hb2 hu (by decide)
  have hbel := fun u => (hb1.grown hgrow hsz (fun k hk => (hown.lt k hk).1)).setCell (p := ⟨b, 1, none⟩) hBb u
  have hrest := fun u => (hk1.grown hgrow (Lib.ownsRowF_kind hown)).setCell ⟨b, 1, none⟩ rfl u
  have hown2 : w2.ownsRowF B 5 1 v' (Lib.byteCells (l ++ s.data.toList)).length (Lib.byteCells (l ++ s.data.toList)) := by
    rw [byteCells_append, List.length_append, ← Lib.strCells_eq, Lib.strCells_length, hlen]
    exact hown'
  obtain ⟨ao, n', cap, rfl⟩ : ∃ ao n' cap, v' = .slice ao n' cap := by
    rcases hown'.2 with ⟨hv, _⟩ | ⟨g, cap, cur, fz, hv, _⟩
    · exact ⟨_, _, _, hv⟩
    · exact ⟨_, _, _, hv⟩
  have HP := Lib.hid (hput _ hown2)
  have HB := Lib.hid (hbel (.slice ao n' cap))
  have HR := Lib.hid (hrest (.slice ao n' cap))
  clear hput hbel hrest hown2 hown' hgrow
  go_wp2
  go_ret2
  exact ⟨rfl, .inr HP.out, HB.out, HR.out⟩

theorem told_any (B b : Nat) (l : List UInt8) (w : World) (h : Bld w B b l) (hB : B ≤ w.heap.size) :
    Calls Tryd.prog 40 #[.pointer (some ⟨b, 0, none⟩)] w fun e w' => e = .returned (.string ⟨l.toArray⟩) ∧ Below B w w' :=
  (Any.Builder_String_any_k Tryd.lays169 Tryd.Builder_Extra_169 B b l w h hB).mono fun _ _ h => ⟨h.1, h.2.2.1⟩

end Go.Proofs.YtacpncmdgkljdaaDoor
namespace Go.Proofs.YtacpncmdgkljdaaDoor
set_option linter.unusedVariables false
set_option linter.unusedSimpArgs false
open Go.RowKit Go.Sort

theorem txt_out {n : Int} (h : n < 0 ∨ 4611686018427387903 < n) : txt n = ⟨#[]⟩ := by unfold txt txtL; rw [if_neg (by omega)]
theorem txt_size (n : Int) : (txt n).size ≤ 19 := by
  have := txtL_len n
  show (txtL n).toArray.size ≤ 19
  simpa using this
theorem txt_small {u : Nat} (h : u < 10) : txt u = ⟨[UInt8.ofNat (48 + u % 10)].toArray⟩ := by
  unfold txt
  rw [txtL_nat (by omega), dec_small h, show u % 10 = u by omega]
theorem txt_big {u : Nat} (h : ¬ u < 10) (hu : u ≤ 4611686018427387903) : txt u = txt ((u / 10 : Nat) : Int) ++ ⟨[UInt8.ofNat (48 + u % 10)].toArray⟩ := by
  unfold txt
  rw [txtL_nat hu, txtL_nat (by omega), dec_big h]
  apply ByteArray.ext
  simp

theorem conv_one (w : World) (u : Nat) : (convert 64 9 (.slice (some ⟨w.heap.size, 0, none⟩) 1 1)).run Tryd.prog (w.alloc (.cells #[.int .u8 (48 + (u : Int) % 10)] 5)) = .ok (.string ⟨[UInt8.ofNat (48 + u % 10)].toArray⟩) (w.alloc (.cells #[.int .u8 (48 + (u : Int) % 10)] 5)) := by
  refine run_convert_bytes_back (P := Tryd.prog) _ 64 9 5 ⟨w.heap.size, 0, none⟩ 1 [UInt8.ofNat (48 + u % 10)] Tryd.underlying64 Tryd.underlying5 Tryd.underlying9 fun j hj => ?_
  have hj0 : j = 0 := by simp at hj; omega
  subst hj0
  have e : ((UInt8.ofNat (48 + u % 10)).toNat : Int) = 48 + (u : Int) % 10 := by
    rw [ofNat_to (u % 10) (by omega)]
    omega
  simp only [List.getElem_cons_zero, e]
  simp [Addr.add]

set_option maxHeartbeats 1000000 in
set_option maxRecDepth 100000 in
theorem refText_nat (u : Nat) (hu : u ≤ 4611686018427387903) (w : World) :
    Calls Tryd.prog 18 #[.int .i64 u] w fun e w' => e = .returned (.string (txt u)) ∧ Below w.heap.size w w' := by
  induction u using Nat.strongRecOn generalizing w with
  | _ u ih =>
    have hcv := conv_one w u
    have hb1 : Below w.heap.size w (w.alloc (.cells #[.int .u8 (48 + (u : Int) % 10)] 5)) := (Below.refl _ _).alloc (Nat.le_refl _) _
    by_cases h10 : u < 10
    · rw [txt_small h10]
      generalize (⟨[UInt8.ofNat (48 + u % 10)].toArray⟩ : ByteArray) = c at hcv ⊢
      clear ih
      have h10z : (u : Int) < 10 := by omega
      go_enter Tryd.func18, Tryd.ntmps18
      go_wp2
      go_ret
      exact ⟨rfl, hb1⟩
    · have hi := ih (u / 10) (by omega) (by omega)
      have HB := Lib.hid (txt_big h10 hu)
      have hs := txt_size ((u / 10 : Nat) : Int)
      have hq : ((u / 10 : Nat) : Int) = (u : Int) / 10 := by omega
      rw [hq] at hi hs
      rw [HB.out, hq]
      generalize txt ((u : Int) / 10) = t at hi hs ⊢
      have h10z : ¬ (u : Int) < 10 := by omega
      clear hq ih HB
      generalize hc : (⟨[UInt8.ofNat (48 + u % 10)].toArray⟩ : ByteArray) = c at hcv ⊢
      have hcs : c.size = 1 := by rw [← hc]; rfl
      have hcs1 : c.size ≤ 1 := by omega
      clear hc hcs
      go_enter Tryd.func18, Tryd.ntmps18
      go_wp2_with (go_at_call 18; refine (hi _).mono ?_; rintro e w' ⟨rfl, hb2⟩)
      go_ret
      exact ⟨rfl, Qt.more hb1 hb1.size hb2⟩

theorem refText_any (n : Int) (w : World) (hi : I64 n) :
    Calls Tryd.prog 18 #[.int .i64 n] w fun e w' => e = .returned (.string (txt n)) ∧ Below w.heap.size w w' := by
  by_cases h : 0 ≤ n ∧ n ≤ 4611686018427387903
  · have := refText_nat n.toNat (by omega) w
    rwa [show ((n.toNat : Nat) : Int) = n by omega] at this
  · rw [txt_out (by omega)]
    have h' : n < 0 ∨ ¬ n < 0 ∧ 4611686018427387903 < n := by omega
    clear h hi
    rcases h' with h | ⟨h0, h⟩
    all_goals
      go_enter Tryd.func18, Tryd.ntmps18
      go_wp2
      all_goals go_ret
      all_goals exact ⟨rfl, Below.refl _ _⟩

end Go.Proofs.YtacpncmdgkljdaaDoor
namespace Go.Proofs.YtacpncmdgkljdaaDoor
set_option linter.unusedVariables false
set_option linter.unusedSimpArgs false
open Go.RowKit Go.Sort

theorem Bld.below {w w' : World} {B b : Nat} {l : List UInt8} (h : Bld w B b l) (hb : Below w.heap.size w w') : Bld w' B b l := by
  have key : ∀ p, Lib.BuilderAtF 70 5 B b p (Lib.byteCells l) w → Lib.BuilderAtF 70 5 B b p (Lib.byteCells l) w' := by
    rintro p h1
    have hlt := h1.lt
    obtain ⟨hB, v, hbk, hown, hne⟩ := h1
    refine ⟨hB, v, (hb.block b hlt).trans hbk, hown.kept (row := none) ⟨hb.os, hb.tape, hb.output, hb.size, fun k hk _ => hb.block k hk⟩ ?_, hne⟩
    cases v.ownBlock with
    | none => exact .inl rfl
    | some g => exact .inr (fun e => by cases e)
  rcases h with h | h
  · exact .inl (key _ h)
  · exact .inr (key _ h)

/-- an item as a value -/
def aggE (x : Ite) : Value := .agg #[.int .u8 x.1.toNat, .int .i64 x.2.1, .int .i64 x.2.2]

set_option maxHeartbeats 1000000 in
set_option maxRecDepth 100000 in
theorem right_any (t : UInt8) (n p : Int) (w : World) :
    Calls Tryd.prog 37 #[.agg #[.int .u8 t.toNat, .int .i64 n, .int .i64 p]] w fun e w' => e = .returned (.bool (okE (t, n, p))) ∧ Below w.heap.size w w' := by
  have hb1 : Below w.heap.size w (w.alloc (.cells #[.int .u8 t.toNat, .int .i64 n, .int .i64 p] 72)) := (Below.refl _ _).alloc (Nat.le_refl _) _
  have hix : decide (0 ≤ Lib.indexByte (str [98, 111, 36]).data.toList ((t.toNat : Int)).toNat.toUInt8) = tagB t := by
    have e : ((t.toNat : Int)).toNat.toUInt8 = t := by simp
    rw [e, str_data, ← Lib.contains_iff_indexByte]
    unfold tagB
    simp only [List.contains_cons, List.contains_nil, Bool.or_false, Bool.or_assoc]
  generalize hr : okE (t, n, p) = r
  have HR := Lib.hid hr
  clear hr
  have hcall := fun W => Any.strings_IndexByte Tryd.lays137 (str [98, 111, 36]) ((t.toNat : Nat) : Int) W
  generalize Lib.indexByte (str [98, 111, 36]).data.toList ((t.toNat : Int)).toNat.toUInt8 = x at hix hcall
  have h3 : tagB t = false ∨ tagB t = true ∧ n < 1 ∨ tagB t = true ∧ 1 ≤ n ∧ n ≤ 1099511627776 ∨ tagB t = true ∧ 1 ≤ n ∧ 1099511627776 < n := by
    cases tagB t
    · exact .inl rfl
    · simp only [reduceCtorEq, true_and, false_or]
      omega
  have hok : r = (tagB t && decide (1 ≤ n) && decide (n ≤ 1099511627776)) := HR.out.symm
  rcases h3 with ht | ⟨ht, h1⟩ | ⟨ht, h1, h2⟩ | ⟨ht, h1, h2⟩
  · rw [ht] at hix hok
    have hx : ¬ 0 ≤ x := by simpa using hix
    obtain rfl : r = false := hok
    clear hix HR ht
    go_enter Tryd.func37, Tryd.ntmps37
    go_wp2_with (go_at_call 57; refine (hcall _).mono ?_; rintro e w' ⟨rfl, rfl⟩)
    all_goals go_ret
    all_goals exact ⟨by first | rfl | (simp [*]; done), hb1⟩
  · rw [ht] at hix hok
    have hx : 0 ≤ x := by simpa using hix
    have h1' : ¬ 1 ≤ n := by omega
    obtain rfl : r = false := by rw [hok, decide_eq_false h1']; rfl
    clear hix hok HR ht
    go_enter Tryd.func37, Tryd.ntmps37
    go_wp2_with (go_at_call 57; refine (hcall _).mono ?_; rintro e w' ⟨rfl, rfl⟩)
    all_goals go_ret
    all_goals exact ⟨by first | rfl | (simp [*]; done), hb1⟩
  · rw [ht] at hix hok
    have hx : 0 ≤ x := by simpa using hix
    obtain rfl : r = true := by rw [hok, decide_eq_true h1, decide_eq_true h2]; rfl
    clear hix hok HR ht
    go_enter Tryd.func37, Tryd.ntmps37
    go_wp2_with (go_at_call 57; refine (hcall _).mono ?_; rintro e w' ⟨rfl, rfl⟩)
    all_goals go_ret
    all_goals exact ⟨by first | rfl | (simp [*]; done), hb1⟩
  · rw [ht] at hix hok
    have hx : 0 ≤ x := by simpa using hix
    have h2' : ¬ n ≤ 1099511627776 := by omega
    obtain rfl : r = false := by rw [hok, decide_eq_true h1, decide_eq_false h2']; rfl
    clear hix hok HR ht
    go_enter Tryd.func37, Tryd.ntmps37
    go_wp2_with (go_at_call 57; refine (hcall _).mono ?_; rintro e w' ⟨rfl, rfl⟩)
    all_goals go_ret
    all_goals exact ⟨by first | rfl | (simp [*]; done), hb1⟩

theorem lt_of_heap {w : World} {k : Nat} {o : Obj} (h : w.heap[k]? = some o) : k < w.heap.size := by
  rcases Nat.lt_or_ge k w.heap.size with h1 | h1
  · exact h1
  · rw [Array.getElem?_eq_none h1] at h; cases h
/-- The box of an item stands behind a builder's call. -/
theorem box_kept {w w' : World} {b k : Nat} {cs : Array Value} (hk : Rest b w w') (h : w.heap[k]? = some (.cells cs 72 (0, 0))) (hne : k ≠ b) : w'.heap[k]? = some (.cells cs 72 (0, 0)) :=
  hk k _ h (fun e => hne (by injection e)) (fun c fz e => by
    simp only [Obj.cells.injEq] at e
    exact absurd e.2.1 (by decide))

def TextR (l : List Ite) (w : World) (e : Ending) (w' : World) : Prop := e = .returned (.string (str (textE l))) ∧ Below w.heap.size w w'

set_option maxHeartbeats 4000000 in
set_option maxRecDepth 100000 in
theorem tokText_any (A : Option Addr) (l : List Ite) (c : Nat) (w : World) (hR : NowE w A l) (hl : l.length * 24 ≤ 140737488351232) (hw : ∀ x ∈ l, I64 x.2.1) (hT : Tab w) :
    Calls Tryd.prog 24 #[.slice A l.length c] w (TextR l w) := by
  have HW := Lib.hid hw
  clear hw
  go_enter Tryd.func24, Tryd.ntmps24
  go_wp2
  go_loopw [8] (fun i wr => ∃ k : Nat, k ≤ l.length ∧ i = .int .i64 k ∧ Hid (Bld wr w.heap.size w.heap.size (textE (l.take k))) ∧ Below w.heap.size w wr) (fun i _ => l.length - (intOf i).toNat)
  case atStart => exact ⟨0, Nat.zero_le _, rfl, bld_new w, (Below.refl _ _).alloc (Nat.le_refl _) _⟩
  case round =>
    obtain ⟨k, hk, rfl, HB, hb⟩ := hrel
    by_cases hlt : k < l.length
    · have hltz : (k : Int) < (l.length : Int) := by omega
      obtain ⟨b0, off, rfl, hbB, hcell⟩ := hR.at_ (by omega)
      have a0 := Qt.keep hb (hcell k hlt).1
      have a1 := Qt.keep hb (hcell k hlt).2.1
      have a2 := Qt.keep hb (hcell k hlt).2.2
      have hsucc := textE_succ hlt
      have hx64 := HW.out (l.getD k noE) (getD_memE hlt)
      have htl := textE_take_len k hk
      obtain ⟨⟨t, n, p⟩, hx⟩ : ∃ x, x = l.getD k noE := ⟨_, rfl⟩
      rw [← hx] at a0 a1 a2 hsucc hx64
      simp only at a0 a1 a2 hx64
      have HS := Lib.hid hsucc
      have hbox : (wr.alloc (.cells #[.int .u8 t.toNat, .int .i64 n, .int .i64 p] 72)).heap[wr.heap.size]? = some (.cells #[.int .u8 t.toNat, .int .i64 n, .int .i64 p] 72 (0, 0)) := heap_alloc_new wr _
      have HB0 := Lib.hid (Bld.below HB.out (show Below wr.heap.size wr (wr.alloc (.cells #[.int .u8 t.toNat, .int .i64 n, .int .i64 p] 72)) from (Below.refl _ _).alloc (Nat.le_refl _) _))
      have hb0 : Below w.heap.size w (wr.alloc (.cells #[.int .u8 t.toNat, .int .i64 n, .int .i64 p] 72)) := hb.alloc hb.size _
      have hbne : wr.heap.size ≠ w.heap.size := by
        have := (show Bld wr w.heap.size w.heap.size (textE (l.take k)) from HB.out)
        rcases this with h | h
        · have := h.lt; omega
        · have := h.lt; omega
      clear hcell hx hsucc HB
      go_wp2_with fail
      refine (right_any t n p _).mono ?_
      rintro e w1 ⟨rfl, hb1⟩
      have hbx1 := (hb1.block wr.heap.size (by simp)).trans hbox
      have HB1 := Lib.hid (HB0.out.below hb1)
      have hbb : Below w.heap.size w w1 := hb0.trans (hb1.mono hb0.size)
      clear hbox HB0 hb0 hb1 a0 a1 a2
      cases hok : okE (t, n, p) with
      | false =>
        have he : textE (l.take (k + 1)) = textE (l.take k) := by rw [HS.out, itemE_no hok, List.append_nil]
        have HE := Lib.hid he
        clear hok he HS
        go_wp2
        go_roundw
        case measure => simp [intOf]; omega
        case rel => exact ⟨k + 1, by omega, by go_num, (by rw [HE.out]; exact HB1.out), hbb⟩
      | true =>
        have e0 : w1.cell? ⟨wr.heap.size, 0, none⟩ = some (.int .u8 t.toNat) := by rw [Lib.cell_of_heap hbx1]; rfl
        have e1 : w1.cell? ⟨wr.heap.size, 1, none⟩ = some (.int .i64 n) := by rw [Lib.cell_of_heap hbx1]; rfl
        by_cases h1 : n = 1
        · subst h1
          have he : textE (l.take (k + 1)) = textE (l.take k) ++ [t] := by rw [HS.out, itemE_one hok rfl]
          have HE := Lib.hid he
          clear hok he HS
          go_wp2_with fail
          refine (wbyte_any _ _ _ t _ HB1.out (by omega) hbb.size).mono ?_
          rintro e w2 ⟨rfl, hB2, hb2, _⟩
          have HB2 := Lib.hid hB2
          clear hB2 HB1 e0 e1 hbx1
          go_wp2
          go_roundw
          case measure => simp [intOf]; omega
          case rel => exact ⟨k + 1, by omega, by go_num, (by rw [HE.out]; exact HB2.out), hbb.trans hb2⟩
        · have he : textE (l.take (k + 1)) = textE (l.take k) ++ (txt n).data.toList ++ [t] := by rw [HS.out, itemE_many hok h1, List.append_assoc]; rfl
          have hts : (txt n).size ≤ 19 := txt_size n
          have h1b : (n == 1) = false := by simpa using h1
          have h1c : (n != 1) = true := by simpa using h1
          have hT1 : Tab w1 := hT.below hbb
          have HE := Lib.hid he
          clear hok he HS h1
          go_wp2_with fail
          refine (text_any n _ hx64 hT1).mono ?_
          rintro e w2 ⟨rfl, hb2⟩
          have hbx2 := (hb2.block wr.heap.size (lt_of_heap hbx1)).trans hbx1
          have HB2 := Lib.hid (HB1.out.below hb2)
          have hbb2 : Below w.heap.size w w2 := hbb.trans (hb2.mono hbb.size)
          generalize txt n = s at hts HE
          have hsl : s.data.toList.length = s.size := (size_list s).symm
          go_wp2_with fail
          refine (wtext_any _ _ _ s _ HB2.out (by omega) hbb2.size).mono ?_
          rintro e w3 ⟨rfl, hB3, hb3, hk3⟩
          have hbx3 := box_kept hk3 hbx2 hbne
          have f0 : w3.cell? ⟨wr.heap.size, 0, none⟩ = some (.int .u8 t.toNat) := by rw [Lib.cell_of_heap hbx3]; rfl
          have hbb3 : Below w.heap.size w w3 := hbb2.trans hb3
          clear e0 e1 hbx1 hbx2 HB1 HB2 hb2 hb3 hk3
          go_wp2_with fail
          refine (wbyte_any _ _ _ t _ hB3 (by rw [List.length_append]; omega) hbb3.size).mono ?_
          rintro e w4 ⟨rfl, hB4, hb4, _⟩
          have HB4 := Lib.hid hB4
          clear hB4 hB3 f0 hbx3
          go_wp2
          go_roundw
          case measure => simp [intOf]; omega
          case rel => exact ⟨k + 1, by omega, by go_num, (by rw [HE.out]; exact HB4.out), hbb3.trans hb4⟩
    · have hltz : ¬ (k : Int) < (l.length : Int) := by omega
      have hfull : l.take k = l := List.take_of_length_le (by omega)
      have hB : Bld wr w.heap.size w.heap.size (textE l) := by have := HB.out; rwa [hfull] at this
      clear HB hfull
      go_wp2_with fail
      refine (told_any _ _ _ _ hB hb.size).mono ?_
      rintro e w2 ⟨rfl, hb2⟩
      go_wp2
      go_ret
      exact ⟨rfl, hb.trans hb2⟩
end Go.Proofs.YtacpncmdgkljdaaDoor
namespace Go.Proofs.YtacpncmdgkljdaaDoor
set_option linter.unusedVariables false
set_option linter.unusedSimpArgs false
open Go.RowKit Go.Sort

/-- The slice at A of l.length pairs of numbers reads as l, below block B. -/
def RdP (w : World) (B : Nat) (A : Option Addr) (l : List (Int × Int)) : Prop :=
  ∀ j, j < l.length → ∃ b off, A = some ⟨b, off, none⟩ ∧ b < B ∧ w.cell? ⟨b, off + j * 2, none⟩ = some (.int .i64 (l.getD j (0, 0)).1) ∧ w.cell? ⟨b, off + j * 2 + 1, none⟩ = some (.int .i64 (l.getD j (0, 0)).2)
theorem RdP.below {w w' : World} {B B' : Nat} {A : Option Addr} {l : List (Int × Int)} (h : RdP w B A l) (hb : Below B' w w') (hB : B ≤ B') : RdP w' B A l := fun j hj => by
  obtain ⟨b, off, e, hlt, h0, h1⟩ := h j hj
  have hx : b < B' := Nat.lt_of_lt_of_le hlt hB
  exact ⟨b, off, e, hlt, (hb.cell (p := ⟨b, off + j * 2, none⟩) hx).trans h0, (hb.cell (p := ⟨b, off + j * 2 + 1, none⟩) hx).trans h1⟩
theorem RdP.more {w : World} {B B' : Nat} {A : Option Addr} {l : List (Int × Int)} (h : RdP w B A l) (hB : B ≤ B') : RdP w B' A l := fun j hj => by
  obtain ⟨b, off, e, hlt, h0⟩ := h j hj
  exact ⟨b, off, e, by omega, h0⟩
theorem RdP.nil (w : World) (B : Nat) (A : Option Addr) : RdP w B A [] := fun j hj => absurd hj (Nat.not_lt_zero j)
theorem RdP.at_ {w : World} {B : Nat} {A : Option Addr} {l : List (Int × Int)} (h : RdP w B A l) (hn : 0 < l.length) :
    ∃ b off, A = some ⟨b, off, none⟩ ∧ b < B ∧ ∀ j, j < l.length → w.cell? ⟨b, off + j * 2, none⟩ = some (.int .i64 (l.getD j (0, 0)).1) ∧ w.cell? ⟨b, off + j * 2 + 1, none⟩ = some (.int .i64 (l.getD j (0, 0)).2) := by
  obtain ⟨b, off, e, hlt, _⟩ := h 0 hn
  refine ⟨b, off, e, hlt, fun j hj => ?_⟩
  obtain ⟨b', off', e', _, h0⟩ := h j hj
  rw [e] at e'
  injection e' with e'
  injection e' with e1 e2
  subst e1 e2
  exact h0
def NowP (w : World) (A : Option Addr) (l : List (Int × Int)) : Prop := RdP w w.heap.size A l
theorem NowP.below {w w' : World} {A : Option Addr} {l : List (Int × Int)} (h : NowP w A l) (hb : Below w.heap.size w w') : NowP w' A l := (RdP.below h hb (Nat.le_refl _)).more hb.size

/-! ### items of raw numbers -/
def tagN (n : Nat) : UInt8 := ([98, 111, 36] : List UInt8).getD n 0
def rawN (b : Int) : Nat := (1 + (if b % 9 = 0 then pickI b 1099511627776 else pickI b 5)).toNat
def rawI (x : Int × Int) : Itm := (tagN (pickI x.1 3).toNat, rawN x.2, 0)
def rawT (raw : List (Int × Int)) (k : Nat) : List Itm := (raw.take k).map rawI
def itemsL (raw : List (Int × Int)) : List Itm := rawT raw 40
theorem rawT_succ {raw : List (Int × Int)} {k : Nat} (h : k < raw.length) : rawT raw (k + 1) = rawT raw k ++ [rawI (raw.getD k (0, 0))] := by
  unfold rawT
  rw [List.take_succ_eq_append_getElem h, List.map_append, List.getD_eq_getElem?_getD, List.getElem?_eq_getElem h, Option.getD_some]
  rfl
theorem rawT_len (raw : List (Int × Int)) (k : Nat) : (rawT raw k).length ≤ k := by unfold rawT; rw [List.length_map, List.length_take]; omega
theorem rawT_stop {raw : List (Int × Int)} {k : Nat} (hk : k ≤ raw.length) (hk40 : k ≤ 40) (h : ¬ (k < raw.length ∧ k < 40)) : rawT raw k = itemsL raw := by
  unfold itemsL rawT
  by_cases h1 : k = 40
  · rw [h1]
  · have : k = raw.length := by omega
    rw [this, List.take_of_length_le (Nat.le_refl _), List.take_of_length_le (by omega)]
theorem tagN_good {n : Nat} (h : n < 3) : tagB (tagN n) = true := by
  match n, h with
  | 0, _ => rfl
  | 1, _ => rfl
  | 2, _ => rfl
theorem rawI_good (x : Int × Int) : goodI (rawI x) = true := by
  have h1 := pickI_bd x.1 3 (by omega)
  have h2 := pickI_bd x.2 1099511627776 (by omega)
  have h3 := pickI_bd x.2 5 (by omega)
  refine (goodI_iff _).2 ⟨tagN_good (by omega), ?_, ?_⟩
  · simp only [rawI, rawN]; split <;> omega
  · simp only [rawI, rawN]; split <;> omega
theorem itemsL_good (raw : List (Int × Int)) : ∀ x ∈ itemsL raw, goodI x = true := by
  intro x hx
  obtain ⟨y, _, rfl⟩ := List.mem_map.1 hx
  exact rawI_good y
theorem itemsL_len (raw : List (Int × Int)) : (itemsL raw).length ≤ 40 := rawT_len raw 40
theorem itemsL_at (raw : List (Int × Int)) : ∀ x ∈ itemsL raw, x.2.2 = 0 := by
  intro x hx
  obtain ⟨y, _, rfl⟩ := List.mem_map.1 hx
  rfl

theorem getD_memP {l : List (Int × Int)} {k : Nat} (h : k < l.length) : l.getD k (0, 0) ∈ l := by
  rw [List.getD_eq_getElem?_getD, List.getElem?_eq_getElem h]
  exact List.getElem_mem h
theorem rem9 (b : Int) : (Int.tmod b 9 == 0) = decide (b % 9 = 0) := by
  rw [Bool.eq_iff_iff, beq_iff_eq, decide_eq_true_eq]
  constructor
  · intro h; exact Int.emod_eq_zero_of_dvd (Int.dvd_of_tmod_eq_zero h)
  · intro h; exact Int.tmod_eq_zero_of_dvd (Int.dvd_of_emod_eq_zero h)

end Go.Proofs.YtacpncmdgkljdaaDoor
namespace Go.Proofs.YtacpncmdgkljdaaDoor
open Go.Lib

def gapN (n : Nat) : List UInt8 := ([[], [32], [10], [9, 13, 32]] : List (List UInt8)).getD n []
def gapL (bl : List Int) (k : Nat) : List UInt8 := if k < bl.length then gapN (pickI (bl.getD k 0) 4).toNat else []
def noI : Itm := (0, 0, 0)
def spaced (I : List Itm) (bl : List Int) : Nat → List UInt8
  | 0 => []
  | k + 1 => spaced I bl k ++ gapL bl k ++ itemL (I.getD k noI)
def placed (I : List Itm) (bl : List Int) (j : Nat) : Itm := ((I.getD j noI).1, (I.getD j noI).2.1, (spaced I bl j ++ gapL bl j).length)
def placedL (I : List Itm) (bl : List Int) (k : Nat) : List Itm := (List.range k).map (placed I bl)
theorem placedL_succ (I : List Itm) (bl : List Int) (k : Nat) : placedL I bl (k + 1) = placedL I bl k ++ [placed I bl k] := by
  unfold placedL
  rw [List.range_succ, List.map_append]
  rfl
theorem placedL_len (I : List Itm) (bl : List Int) (k : Nat) : (placedL I bl k).length = k := by simp [placedL]
theorem gapN_blank {n : Nat} : ∀ c ∈ gapN n, blankB c = true := by
  intro c hc
  match n with
  | 0 => cases hc
  | 1 => simp [gapN] at hc; subst hc; rfl
  | 2 => simp [gapN] at hc; subst hc; rfl
  | 3 => simp [gapN] at hc; rcases hc with rfl | rfl | rfl <;> rfl
  | n + 4 => simp [gapN] at hc
theorem gapN_len (n : Nat) : (gapN n).length ≤ 3 := by
  match n with
  | 0 => simp [gapN]
  | 1 => simp [gapN]
  | 2 => simp [gapN]
  | 3 => simp [gapN]
  | n + 4 => simp [gapN]
theorem gapL_blank (bl : List Int) (k : Nat) : ∀ c ∈ gapL bl k, blankB c = true := by
  unfold gapL
  split
  · exact gapN_blank
  · intro c hc; cases hc
theorem gapL_len (bl : List Int) (k : Nat) : (gapL bl k).length ≤ 3 := by
  unfold gapL
  split
  · exact gapN_len _
  · simp
theorem itemL_len (x : Itm) : (itemL x).length ≤ 14 := by rw [← itemE_up]; exact itemE_len _
theorem spaced_len (I : List Itm) (bl : List Int) (k : Nat) : (spaced I bl k).length ≤ 17 * k := by
  induction k with
  | zero => simp [spaced]
  | succ k ih =>
    have h1 := gapL_len bl k
    have h2 := itemL_len (I.getD k noI)
    simp only [spaced, List.length_append]
    omega
theorem lex_gap (g : List UInt8) (h : ∀ c ∈ g, blankB c = true) (q : List UInt8) (p : Nat) (acc : List Itm) : lexL (g ++ q) p acc = lexL q (p + g.length) acc := by
  induction g generalizing p with
  | nil => rfl
  | cons c g ih =>
    rw [List.cons_append, lex_blank (h c List.mem_cons_self), ih (fun d hd => h d (List.mem_cons_of_mem _ hd)), List.length_cons]
    congr 1
    omega
theorem lex_spaced (I : List Itm) (bl : List Int) (hI : ∀ x ∈ I, goodI x = true) (k : Nat) (hk : k ≤ I.length) (q : List UInt8) : lexL (spaced I bl k ++ q) 0 [] = lexL q (spaced I bl k).length (placedL I bl k) := by
  induction k generalizing q with
  | zero => simp [spaced, placedL]
  | succ k ih =>
    have hx : goodI (I.getD k noI) = true := by
      rw [List.getD_eq_getElem?_getD, List.getElem?_eq_getElem (by omega)]
      exact hI _ (List.getElem_mem _)
    simp only [spaced]
    rw [List.append_assoc, List.append_assoc, ih (by omega), lex_gap _ (gapL_blank bl k), lex_item hx, placedL_succ]
    simp only [List.length_append, placed]
theorem lexA_spaced (I : List Itm) (bl : List Int) (hI : ∀ x ∈ I, goodI x = true) (hn : I.length ≤ 40) (q : List UInt8) (hq : q.length ≤ 10) : lexA (spaced I bl I.length ++ 33 :: q) = (placedL I bl I.length, 0, (spaced I bl I.length).length) := by
  have h1 := spaced_len I bl I.length
  rw [lexA_short (by simp only [List.length_append, List.length_cons]; omega), lex_spaced I bl hI _ (Nat.le_refl _), lex_end]

theorem lexA_spaced2 (I : List Itm) (bl : List Int) (hI : ∀ x ∈ I, goodI x = true) (q : List UInt8) (hq : (spaced I bl I.length).length + q.length ≤ 19999) : lexA (spaced I bl I.length ++ 33 :: q) = (placedL I bl I.length, 0, (spaced I bl I.length).length) := by
  rw [lexA_short (by simp only [List.length_append, List.length_cons]; omega), lex_spaced I bl hI _ (Nat.le_refl _), lex_end]
theorem spaced_nil (I : List Itm) (k : Nat) (hk : k ≤ I.length) : spaced I [] k = textL (I.take k) := by
  induction k with
  | zero => simp [spaced, textL]
  | succ k ih =>
    have e : gapL [] k = [] := by unfold gapL; rw [if_neg (by simp)]
    rw [spaced, e, List.append_nil, ih (by omega), List.take_succ_eq_append_getElem (by omega), textL_append, List.getD_eq_getElem?_getD, List.getElem?_eq_getElem (by omega), Option.getD_some]
    simp [textL]
theorem spaced_text (I : List Itm) : spaced I [] I.length = textL I := by rw [spaced_nil I _ (Nat.le_refl _), List.take_of_length_le (Nat.le_refl _)]

/-- The items in memory, of which the first k have their places. -/
def midL (I : List Itm) (bl : List Int) (k : Nat) : List Itm := placedL I bl k ++ I.drop k
theorem midL_zero (I : List Itm) (bl : List Int) : midL I bl 0 = I := by simp [midL, placedL]
theorem midL_all (I : List Itm) (bl : List Int) : midL I bl I.length = placedL I bl I.length := by simp [midL]
theorem midL_len (I : List Itm) (bl : List Int) {k : Nat} (hk : k ≤ I.length) : (midL I bl k).length = I.length := by simp [midL, placedL_len]; omega
theorem midL_at (I : List Itm) (bl : List Int) {k : Nat} (hk : k < I.length) : ((midL I bl k).map up).getD k noE = up (I.getD k noI) := by
  rw [List.getD_eq_getElem?_getD, List.getElem?_map]
  unfold midL
  rw [List.getElem?_append_right (by rw [placedL_len]; exact Nat.le_refl _), placedL_len, Nat.sub_self, List.getElem?_drop, Nat.add_zero, List.getElem?_eq_getElem hk, List.getD_eq_getElem?_getD, List.getElem?_eq_getElem hk]
  rfl
theorem midL_set (I : List Itm) (bl : List Int) {k : Nat} (hk : k < I.length) : ((midL I bl k).map up).set k ((I.getD k noI).1, ((I.getD k noI).2.1 : Int), ((spaced I bl k ++ gapL bl k).length : Int)) = (midL I bl (k + 1)).map up := by
  have e : I.drop k = I.getD k noI :: I.drop (k + 1) := by
    rw [List.getD_eq_getElem?_getD, List.getElem?_eq_getElem hk]
    exact List.drop_eq_getElem_cons hk
  unfold midL
  rw [e, placedL_succ, List.map_append, List.map_append, List.map_append, List.append_assoc, List.set_append_right _ _ (by rw [List.length_map, placedL_len]; exact Nat.le_refl _), List.length_map, placedL_len, Nat.sub_self]
  rfl

end Go.Proofs.YtacpncmdgkljdaaDoor
namespace Go.Proofs.YtacpncmdgkljdaaDoor
open Go.Lib

theorem gap_nil (k : Nat) : gapL [] k = [] := by unfold gapL; rw [if_neg (by simp)]
theorem placed_nil (I : List Itm) {j : Nat} (hj : j ≤ I.length) : placed I [] j = ((I.getD j noI).1, (I.getD j noI).2.1, (textL (I.take j)).length) := by
  unfold placed
  rw [gap_nil, List.append_nil, spaced_nil I j hj]
theorem placedL_at (I : List Itm) {n j : Nat} (hj : j < n) : ((placedL I [] n).map up).getD j noE = up (placed I [] j) := by
  unfold placedL
  rw [List.getD_eq_getElem?_getD, List.getElem?_map, List.getElem?_map, List.getElem?_range hj]
  rfl
theorem getD_right {a b : List Itm} (j : Nat) : (a ++ b).getD (a.length + j) noI = b.getD j noI := by
  rw [List.getD_eq_getElem?_getD, List.getD_eq_getElem?_getD, List.getElem?_append_right (by omega)]
  congr 2
  omega

/-- what the two texts come to -/
structure Both (a b : List Itm) (S T : List UInt8) (P R : List Itm) : Prop where
  one : textE (a.map up) = S
  two : textE (b.map up) = T
  all : textE (a.map up ++ b.map up) = S ++ T
  slen : S.length ≤ 560
  tlen : T.length ≤ 560
  pcnt : (P.map up).length = a.length + b.length
  rcnt : (R.map up).length = b.length
  lex : lexA (S ++ T ++ [33]) = (P, 0, S.length + T.length)
  lexR : lexA (T ++ [33]) = (R, 0, T.length)
  item : ∀ j, j < b.length → ∃ (t : UInt8) (n q : Nat), (R.map up).getD j noE = (t, (n : Int), (q : Int)) ∧ (P.map up).getD (a.length + j) noE = (t, (n : Int), (q : Int) + (S.length : Int)) ∧ q ≤ 1000
theorem both_of {a b : List Itm} (ha : ∀ x ∈ a, goodI x = true) (hb : ∀ x ∈ b, goodI x = true) (hla : a.length ≤ 40) (hlb : b.length ≤ 40) :
    Both a b (textL a) (textL b) (placedL (a ++ b) [] (a ++ b).length) (placedL b [] b.length) := by
  have e1 : textE (a.map up) = textL a := textE_up a
  have e2 : textE (b.map up) = textL b := textE_up b
  have l1 := textE_len (a.map up)
  have l2 := textE_len (b.map up)
  rw [e1, List.length_map] at l1
  rw [e2, List.length_map] at l2
  have hab : ∀ x ∈ a ++ b, goodI x = true := fun x hx => by
    rcases List.mem_append.1 hx with h | h
    · exact ha x h
    · exact hb x h
  have et : textL (a ++ b) = textL a ++ textL b := textL_append a b
  refine ⟨e1, e2, by rw [textE_append, e1, e2], by omega, by omega, by rw [List.length_map, placedL_len, List.length_append], by rw [List.length_map, placedL_len], ?_, ?_, fun j hj => ?_⟩
  · have := lexA_spaced2 (a ++ b) [] hab [] (by rw [spaced_text, et, List.length_append]; simp; omega)
    have hlen2 : (textL a ++ textL b).length = (textL a).length + (textL b).length := List.length_append
    rw [spaced_text, et, hlen2] at this
    exact this
  · have := lexA_spaced2 b [] hb [] (by rw [spaced_text]; simp; omega)
    rw [spaced_text] at this
    exact this
  · have hq : (textL (b.take j)).length ≤ 1000 := by
      have := textE_take_len (l := b.map up) j (by rw [List.length_map]; omega)
      rw [← List.map_take, textE_up] at this
      omega
    refine ⟨(b.getD j noI).1, (b.getD j noI).2.1, (textL (b.take j)).length, ?_, ?_, hq⟩
    · rw [placedL_at b hj, placed_nil b (by omega)]
      rfl
    · rw [placedL_at (a ++ b) (by rw [List.length_append]; omega), placed_nil (a ++ b) (by rw [List.length_append]; omega), getD_right, List.take_append, List.take_of_length_le (by omega), textL_append, List.length_append, show a.length + j - a.length = j by omega]
      unfold up
      simp only [Prod.mk.injEq, true_and]
      omega

end Go.Proofs.YtacpncmdgkljdaaDoor
namespace Go.Proofs.YtacpncmdgkljdaaDoor
open Go.Lib

/-- What is known of a text that is refused. -/
structure Refused (X : List UInt8) (L : List Itm) (e : Int) (p : Nat) : Prop where
  none : L = []
  place : p ≤ X.length
  open_ : e = 31 → p = X.length
/-- What is known of a text that is read. -/
structure Taken (X : List UInt8) (L : List Itm) (p : Nat) : Prop where
  good : ∀ x ∈ L, goodI x = true
  small : (textL L).length ≤ 19999
  many : L.length ≤ 20000
  before : ∀ j, j < L.length → (L.getD j noI).2.2 < p
  rises : ∀ j, j + 1 < L.length → (L.getD j noI).2.2 < (L.getD (j + 1) noI).2.2
  again : lexA (textL L ++ [33]) = (placedL L [] L.length, 0, (textL L).length)
  opened : lexA (textL L) = ([], 31, (textL L).length)

theorem item_pos {x : Itm} (h : goodI x = true) : 1 ≤ (itemL x).length := by
  unfold itemL
  rw [if_pos h]
  simp
theorem text_pos {L : List Itm} (h : ∀ x ∈ L, goodI x = true) : L.length ≤ (textL L).length := by
  induction L with
  | nil => simp
  | cons x L ih =>
    have h1 := item_pos (h x List.mem_cons_self)
    have h2 := ih fun y hy => h y (List.mem_cons_of_mem _ hy)
    unfold textL at h2 ⊢
    rw [List.flatMap_cons, List.length_append, List.length_cons]
    omega
theorem lexA_bad {X : List UInt8} {L : List Itm} {e : Int} {p : Nat} (h : lexA X = (L, e, p)) (he : e ≠ 0) : Refused X L e p := by
  unfold lexA at h
  split at h
  · simp only [Prod.mk.injEq] at h
    obtain ⟨rfl, rfl, rfl⟩ := h
    exact ⟨rfl, Nat.zero_le _, fun h => absurd h (by decide)⟩
  · have hs := (lexL_shape X 0 []).2
    rw [h] at hs
    obtain ⟨h1, _, h3, h4⟩ := hs he
    simp only at h1 h3 h4
    exact ⟨h1, by omega, fun h => by have := h4 h; omega⟩
theorem lexA_good {X : List UInt8} {L : List Itm} {p : Nat} (h : lexA X = (L, 0, p)) : Taken X L p := by
  unfold lexA at h
  split at h
  · simp at h
  · rename_i hx
    have hs := (lexL_shape X 0 []).1
    rw [h] at hs
    obtain ⟨m, h1, h2, h3, h4, h5, h6⟩ := hs rfl
    simp only [List.nil_append] at h1 h4 h5 h6
    subst h1
    have hsm : (textL L).length ≤ 19999 := by omega
    have hmn := text_pos h2
    have hat : ∀ j, (hj : j < L.length) → L.getD j noI = L[j] := fun j hj => by rw [List.getD_eq_getElem?_getD, List.getElem?_eq_getElem hj]; rfl
    refine ⟨h2, hsm, by omega, fun j hj => ?_, fun j hj => ?_, ?_, lexA_open h2 (by omega)⟩
    · rw [hat j hj]; exact (h4 _ (List.getElem_mem hj)).2
    · rw [hat j (by omega), hat (j + 1) hj]
      exact List.pairwise_iff_getElem.1 h3 j (j + 1) (by omega) hj (by omega)
    · have := lexA_spaced2 L [] h2 [] (by rw [spaced_text]; simp; omega)
      rw [spaced_text] at this
      exact this
theorem placed_same (L : List Itm) {j : Nat} (hj : j < L.length) : ∃ (t : UInt8) (n a b : Nat), (L.map up).getD j noE = (t, (n : Int), (a : Int)) ∧ ((placedL L [] L.length).map up).getD j noE = (t, (n : Int), (b : Int)) ∧ a = (L.getD j noI).2.2 := by
  refine ⟨(L.getD j noI).1, (L.getD j noI).2.1, (L.getD j noI).2.2, (textL (L.take j)).length, ?_, ?_, rfl⟩
  · rw [List.getD_eq_getElem?_getD, List.getElem?_map, List.getElem?_eq_getElem hj, List.getD_eq_getElem?_getD, List.getElem?_eq_getElem hj]
    rfl
  · rw [placedL_at L hj, placed_nil L (by omega)]
    rfl

end Go.Proofs.YtacpncmdgkljdaaDoor
