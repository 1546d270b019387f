/-
  Layer 12's laws: FreeOnce.
-/
import Derived.Test.YtocepdhjkhhpfaaB14
import Derived.Test.YtocepdhjkhhpfaaYl
namespace Go.Proofs.Ytocepdhjkhhpfaa
set_option maxRecDepth 100000
set_option linter.unusedVariables false
set_option linter.unusedSimpArgs false
open Go.RowKit Go.Sort

theorem own_more12 {w : World} {B B' : Nat} {v : Value} {l : List Int} (h : Own w B v l) (hB : B' ≤ B) : Own w B' v l := by
  refine ⟨h.1, ?_⟩
  rcases h.2 with h0 | ⟨g, cap, cur, hv, hb, rest⟩
  · exact .inl h0
  · exact .inr ⟨g, cap, cur, hv, by omega, rest⟩
theorem own_kept {w w' : World} {B : Nat} {v : Value} {l : List Int} (h : Own w B v l) (hk : ∀ g, v.ownBlock = some g → w'.heap[g]? = w.heap[g]?) : Own w' B v l := by
  refine ⟨h.1, ?_⟩
  rcases h.2 with h0 | ⟨g, cap, cur, hv, hb, hh, rest⟩
  · exact .inl h0
  · exact .inr ⟨g, cap, cur, hv, hb, (hk g (by rw [hv]; rfl)).trans hh, rest⟩
/-- how often each one was seen -/
def seenA (f : Nat → Nat) (n : Nat) : Nat → List Int
  | 0 => List.replicate n 0
  | j + 1 => (seenA f n j).set (f j) 1
theorem seenA_len (f : Nat → Nat) (n j : Nat) : (seenA f n j).length = n := by
  induction j with
  | zero => exact List.length_replicate
  | succ j ih => unfold seenA; rw [List.length_set, ih]
theorem seenA_not (f : Nat → Nat) (n j i : Nat) (hi : ∀ q, q < j → f q ≠ i) : (seenA f n j).getD i 0 = 0 := by
  induction j with
  | zero =>
    unfold seenA
    rw [List.getD_eq_getElem?_getD, List.getElem?_replicate]
    split <;> rfl
  | succ j ih =>
    unfold seenA
    rw [List.getD_eq_getElem?_getD, List.getElem?_set_ne (hi j (by omega)), ← List.getD_eq_getElem?_getD]
    exact ih fun q hq => hi q (by omega)
/-- all nodes, each once -/
def allN12 (H : List Int) (F : List Nat) : List Int := H ++ F.map fun (x : Nat) => (x : Int)
def nthN (l : List Int) (i : Nat) : Nat := (l.getD i 0).toNat
theorem all_once {n c : Nat} {m : List Int} {F : List Nat} {H : List Int} (h : OnceI n c m F H) : (allN12 H F).length = n ∧ (∀ q, q < n → (allN12 H F).getD q 0 = (nthN (allN12 H F) q : Int) ∧ nthN (allN12 H F) q < n) ∧ ∀ p q, p < q → q < n → nthN (allN12 H F) p ≠ nthN (allN12 H F) q := by
  have hl := h.len
  have e : (allN12 H F).map Int.toNat = H.map Int.toNat ++ F := by
    unfold allN12
    rw [List.map_append, List.map_map]
    congr 1
    exact (List.map_congr_left (fun x _ => rfl)).trans (List.map_id F)
  have hp : List.Perm ((allN12 H F).map Int.toNat) (List.range n) := by
    rw [e]
    exact List.perm_append_comm.trans h.all
  have hlen : (allN12 H F).length = n := by
    have := hp.length_eq
    rwa [List.length_map, List.length_range] at this
  have hnd : ((allN12 H F).map Int.toNat).Nodup := hp.symm.nodup List.nodup_range
  have hg : ∀ q, (hq : q < n) → (allN12 H F).getD q 0 = (allN12 H F)[q]'(by omega) := fun q hq => by rw [List.getD_eq_getElem?_getD, List.getElem?_eq_getElem (by omega), Option.getD_some]
  refine ⟨hlen, fun q hq => ?_, fun p q hpq hq => ?_⟩
  · have hm : (allN12 H F).getD q 0 ∈ allN12 H F := by rw [hg q hq]; exact List.getElem_mem _
    have h0 : 0 ≤ (allN12 H F).getD q 0 := by
      rcases List.mem_append.1 hm with hx | hx
      · exact h.pos _ hx
      · obtain ⟨x, _, hx⟩ := List.mem_map.1 hx
        rw [← hx]
        omega
    have hr := List.mem_range.1 (hp.subset (List.mem_map.2 ⟨_, hm, rfl⟩))
    unfold nthN
    exact ⟨by omega, hr⟩
  · have := List.pairwise_iff_getElem.1 hnd p q (by rw [List.length_map]; omega) (by rw [List.length_map]; omega) hpq
    rw [List.getElem_map, List.getElem_map, ← hg p (by omega), ← hg q hq] at this
    exact this
theorem seenA_next {l : List Int} {n j : Nat} (h : ∀ p q, p < q → q < n → nthN l p ≠ nthN l q) (hj : j < n) : (seenA (nthN l) n j).getD (nthN l j) 0 = 0 := seenA_not _ _ _ _ fun q hq => h q j hq hj
set_option maxHeartbeats 16000000 in
theorem freeOnce_law (c : Int) (A : Option Addr) (crowds : List (List Int)) (cA : Nat) (P : Option Addr) (picks : List (List Int)) (cP : Nat) (w : World) (hc : I64 c) (hA : InRows w A crowds) (hP : InRows w P picks) (hlA : crowds.length ≤ 9223372036854775807) (hlP : picks.length ≤ 9223372036854775807) :
    Calls Try.prog 4 #[.int .i64 c, .slice A crowds.length cA, .slice P picks.length cP] w fun e w' => e = .returned (.bool true) ∧ Below w.heap.size w w' := by
  have HA := Lib.hid hA
  have HP := Lib.hid hP
  have hpb := pickI_bd c 7 (by omega)
  obtain ⟨n, hn⟩ : ∃ n : Nat, pickI c 7 = n := ⟨(pickI c 7).toNat, by omega⟩
  have hn6 : n ≤ 6 := by omega
  have hpk := fun W => pick12_any c 7 W hc (by omega) (by omega)
  rw [hn] at hpk
  clear hA hP hpb hn hc
  go_enter Try.func4, Try.ntmps4
  go_wp2_with fail
  refine (awake12_any w).mono ?_
  rintro e w1 ⟨rfl, hb1⟩
  go_wp2_with fail
  refine (hpk w1).mono ?_
  rintro e w2 ⟨rfl, rfl⟩
  clear hpk
  go_wp2_with fail
  refine (makeF_any n (by omega) w1).mono ?_
  rintro e w2 ⟨v, rfl, hO2, hb2⟩
  obtain ⟨A9, c9, rfl, -, hN2⟩ := own_slice hO2
  have hB2 := Qt.more hb1 hb1.size hb2
  rw [makeL_len]
  have HN := Lib.hid (And.intro hN2 hB2)
  clear hb1 hO2 hb2 hN2 hB2
  go_wp2_with fail
  go_loopw [9, 10, 11] (fun mv hv i wr => ∃ (k : Nat) (m held : List Int) (cnt : Nat) (F : List Nat) (Am : Option Addr) (cm : Nat), k ≤ crowds.length ∧ k ≤ 6 ∧ i = .int .i64 k ∧ mv = .slice Am (n + 1) cm ∧ Hid (Now wr Am m ∧ Own wr w.heap.size hv held ∧ OnceI n cnt m F held ∧ cnt ≤ 8 * k ∧ Below w.heap.size w wr)) (fun _ _ i _ => 6 - (intOf i).toNat)
  case atStart => exact ⟨0, makeL n, [], 0, List.range n, A9, c9, Nat.zero_le _, Nat.zero_le _, rfl, rfl, (show Hid _ from ⟨HN.out.1, World.ownsRow_nil _ _ _ _, once_new n, Nat.le_refl _, HN.out.2⟩)⟩
  case round =>
    obtain ⟨k, m, held, cnt, F, Am, cm, hkl, hk6, rfl, rfl, HO⟩ := hrel
    have hml : m.length = n + 1 := HO.out.2.2.1.stk.len
    have hhl : held.length ≤ n := by have := HO.out.2.2.1.len; omega
    obtain ⟨AH, dH, rfl, hdc, hdm, hNH, hSH⟩ := own_parts HO.out.2.1
    have HD := Lib.hid (And.intro hdc hdm)
    clear hdc hdm
    by_cases hlt : k < crowds.length
    · have hltz : (k : Int) < (crowds.length : Int) := by omega
      by_cases hlt6 : k < 6
      · have hltz6 : (k : Int) < 6 := by omega
        obtain ⟨b, off, a, cr, hAe, hbl, hc0, hIn⟩ := (HA.out.below HO.out.2.2.2.2) k hlt
        subst hAe
        have HI := Lib.hid (And.intro hIn (And.intro hNH hSH))
        obtain ⟨raw, hraw⟩ : ∃ raw, raw = crowds.getD k [] := ⟨_, rfl⟩
        rw [← hraw] at HI hc0
        clear hIn hraw hNH hSH
        by_cases hp : k < picks.length
        · have hpz : (k : Int) < (picks.length : Int) := by omega
          obtain ⟨b2, off2, a2, cr2, hPe, hbl2, hc2, hIn2⟩ := (HP.out.below HO.out.2.2.2.2) k hp
          subst hPe
          obtain ⟨pr, hpr⟩ : ∃ raw, raw = picks.getD k [] := ⟨_, rfl⟩
          rw [← hpr] at hIn2 hc2
          have HPi := Lib.hid hIn2
          clear hIn2 hpr
          go_wp2_with fail
          refine (crowd_any a AH raw held cr dH wr HI.out.1 HI.out.2.1 (by omega)).mono ?_
          rintro e w3 ⟨v, rfl, hO3, hb3⟩
          obtain ⟨AL, cL, rfl, -, hNL⟩ := hO3.slice
          obtain ⟨m', l', cnt', F', hrun, hI', hcn, hll, hall, hpush, hgiv⟩ := once_step (by omega) (by have := HO.out.2.2.2.1; omega) HO.out.2.2.1 raw pr
          have hfit : ∀ j, j < (crowdL raw held).length → FitW ((crowdL raw held).getD j deadW) := fun j hj => (crowd_wk (n := n) (c := 0) (m := []) (F := []) raw held HO.out.2.2.1.bd (min raw.length 8) _ (by rw [List.getD_eq_getElem?_getD, List.getElem?_eq_getElem hj]; exact List.getElem_mem hj)).1.fit (by omega)
          have hl8 : (crowdL raw held).length ≤ 8 := by unfold crowdL; rw [crowdTo_len]; omega
          have hB3 := Qt.more HO.out.2.2.2.2 HO.out.2.2.2.2.size hb3
          have hr := runF_any Am a2 AL m pr (crowdL raw held) cm cr2 cL 0 w3 (HO.out.1.below hb3) (by omega) (stk_wd HO.out.2.2.1.stk (by omega) (by have := HO.out.2.2.2.1; omega)) (HPi.out.below hb3) hNL hfit (by decide) (by decide)
          rw [hrun, hml] at hr
          obtain ⟨cl, hcl⟩ : ∃ cl, cl = crowdL raw held := ⟨_, rfl⟩
          rw [← hcl] at hr hll hpush hl8 hNL ⊢
          have hml' := hI'.stk.len
          have HJ := Lib.hid (And.intro hI' (And.intro hall (And.intro hpush (And.intro hNL (And.intro hB3 (And.intro hb3 (And.intro hcn hgiv)))))))
          clear hrun hI' hall hpush hcl hfit hO3 hNL hB3 hb3 hcn hgiv
          go_wp2_with fail
          refine hr.mono ?_
          rintro e w4 ⟨A2, c2, L2, d2, rfl, hN4, hW4, hb4⟩
          clear hr
          simp only at hN4 hW4 ⊢
          rw [hml', hll]
          have HN04 := Lib.hid (HI.out.2.1.below (Qt.more HJ.out.2.2.2.2.2.1 HJ.out.2.2.2.2.2.1.size hb4))
          have HS := Lib.hid (And.intro hN4 (And.intro hW4 (And.intro (HJ.out.2.2.2.1.below hb4) (Qt.more HJ.out.2.2.2.2.1 HJ.out.2.2.2.2.1.size hb4))))
          clear hN4 hW4 hb4
          obtain ⟨L, hL⟩ : ∃ L, L = cl.length := ⟨_, rfl⟩
          rw [← hL] at hl8 hll ⊢
          have HL := Lib.hid (And.intro hL hll)
          clear hL hll
          go_wp2_with fail
          go_loopw [17] (fun i wr => ∃ j : Nat, j ≤ L ∧ i = .int .i64 j ∧ Hid (Below w4.heap.size w4 wr)) (fun i _ => L - (intOf i).toNat)
          case atStart => exact ⟨0, Nat.zero_le _, rfl, Below.refl _ _⟩
          case round =>
            obtain ⟨j, hj, rfl, HW⟩ := hrel
            by_cases hltj : j < L
            · have hltjz : (j : Int) < (L : Int) := by omega
              obtain ⟨hL, hll⟩ := HL.out
              obtain ⟨b3, off3, hL3, hb3l, hc3⟩ := nowWk_row (HS.out.2.1.below HW.out) (by omega)
              obtain ⟨b5, off5, hL5, hb5l, hc5⟩ := nowWk_row (HS.out.2.2.1.below HW.out) (by omega)
              have hcW := hc3 j (by omega)
              have hcV := hc5 j (by omega)
              have hdone := HJ.out.2.1 (l'.getD j deadW) (by rw [List.getD_eq_getElem?_getD, List.getElem?_eq_getElem (by omega)]; exact List.getElem_mem _)
              have hpu := HJ.out.2.2.1 j (by omega)
              clear hL hll
              subst hL3 hL5
              obtain ⟨⟨xpc, xjob, x0, x1, x2, xd, xo⟩, hxx⟩ : ∃ x, x = l'.getD j deadW := ⟨_, rfl⟩
              obtain ⟨⟨zpc, zjob, z0, z1, z2, zd, zo⟩, hzz⟩ : ∃ x, x = cl.getD j deadW := ⟨_, rfl⟩
              rw [← hxx] at hcW hdone hpu
              rw [← hzz] at hcV hpu
              have y1 := hcW.c1
              have y10 := hcW.c10
              have y11 := hcW.c11
              have v2 := hcV.c2
              simp only at y1 y10 y11 v2 hdone hpu
              obtain ⟨hd1, hd2, -⟩ := hdone
              subst hd1
              clear hc3 hc5 hcW hcV hxx hzz hb3l hb5l
              rcases hd2 with rfl | rfl
              · clear hpu
                go_wp2_with fail
                have q1 := Qt.cell_in y1
                have q10 := Qt.cell_in y10
                have q11 := Qt.cell_in y11
                have qv := Qt.cell_in v2
                refine Qt.below_all (by kernel_rfl) (by kernel_rfl) ?_
                iterate 28 (go_big_quiet_step (first | fail))
                refine wpQuiet_nil ?_
                intro w5 hb5
                have HBD := Lib.hid (Qt.more HW.out HW.out.size hb5)
                clear hb5 q1 q10 q11 qv y1 y10 y11 v2
                go_wp2_with fail
                go_roundw
                case measure => simp [intOf]; omega
                case rel => exact ⟨j + 1, by omega, by go_num, HBD.out⟩
              · obtain rfl := hpu rfl
                go_wp2_with fail
                have q1 := Qt.cell_in y1
                have q10 := Qt.cell_in y10
                have q11 := Qt.cell_in y11
                have qv := Qt.cell_in v2
                refine Qt.below_all (by kernel_rfl) (by kernel_rfl) ?_
                iterate 28 (go_big_quiet_step (first | fail))
                refine wpQuiet_nil ?_
                intro w5 hb5
                have HBD := Lib.hid (Qt.more HW.out HW.out.size hb5)
                clear hb5 q1 q10 q11 qv y1 y10 y11 v2
                go_wp2_with fail
                go_roundw
                case measure => simp [intOf]; omega
                case rel => exact ⟨j + 1, by omega, by go_num, HBD.out⟩
            · obtain rfl : j = L := by omega
              have hltjz : ¬ (j : Int) < (j : Int) := by omega
              go_wp2_with fail
              obtain ⟨hL, hll⟩ := HL.out
              have hnH := HN04.out.below HW.out
              have hkp := keep_any AH L2 held l' dH d2 wr hnH HI.out.2.2 HD.out.1 HD.out.2 (by omega) (HS.out.2.1.below HW.out) (by omega) HJ.out.2.2.2.2.2.2.2
              rw [hll] at hkp
              have HKP := Lib.hid hkp
              clear hkp hnH hL hll
              go_wp2_with fail
              refine HKP.out.mono ?_
              rintro e w6 ⟨v6, rfl, hO6, hb6⟩
              clear HKP
              have hHl : (keepL held l').length ≤ n := by have := HJ.out.1.len; omega
              obtain ⟨H2, hH2⟩ : ∃ H2, H2 = keepL held l' := ⟨_, rfl⟩
              rw [← hH2] at hO6 hHl
              obtain ⟨A6, c6, rfl, -, hN6⟩ := own_slice hO6
              have hB46 := Qt.more HW.out HW.out.size hb6
              obtain ⟨w7, hmk, hO7, hg7⟩ := makeW n (by omega) w6
              have hb7 : Below w6.heap.size w6 w7 := ⟨hg7.os, hg7.tape, hg7.output, hg7.size, fun k hk => hg7.block k hk (by simp)⟩
              have hSlt : w6.heap.size < w7.heap.size := (World.ownsRow.lt hO7 _ rfl).2
              obtain ⟨v8, w8, hcr, hO8, hb8⟩ := copy_run A6 H2 c6 w7 (hN6.below hb7) (by omega)
              have hb78 := Qt.more hb7 hb7.size hb8
              have hN8 : Now w8 A2 m' := (HS.out.1.below hB46).below hb78
              have hfr := freeF_any A2 m' c2 w8 hN8 (by omega) (stk_wd HJ.out.1.stk (by omega) (by have := HJ.out.2.2.2.2.2.2.1; have := HO.out.2.2.2.1; omega))
              rw [stk_free HJ.out.1.stk (by omega) (by have := HJ.out.1.len; omega), hml'] at hfr
              obtain ⟨lF, hlF⟩ : ∃ lF : List Int, lF = F'.map fun (x : Nat) => (x : Int) := ⟨_, rfl⟩
              rw [← hlF] at hfr
              have hao := all_once HJ.out.1
              unfold allN12 at hao
              rw [← hlF, ← hH2] at hao
              have HLF := Lib.hid hao
              clear hlF hao
              have HG := Lib.hid (And.intro hO6 (And.intro hB46 (And.intro hO7 (And.intro hO8 (And.intro hb78 (And.intro hSlt (And.intro hH2 (And.intro hb8 hb7))))))))
              have HFR := Lib.hid hfr
              have HCR := Lib.hid hcr
              clear hO6 hN6 hB46 hO7 hg7 hb7 hSlt hcr hO8 hb8 hb78 hN8 hfr hH2 hb6
              go_wp2_with (at_builtin; refine Lib.wpList_append_run _ rfl (.const (.slice none 0 0)) (.tmp 114) 23 23 rfl _ _ rfl rfl _ _ HCR.out ?_)
              refine HFR.out.mono ?_
              rintro e w9 ⟨v9, rfl, hO9, hb9⟩
              obtain ⟨A9b, c9b, rfl, -, hN9⟩ := own_slice hO9
              have h79 : w7.heap.size ≤ w9.heap.size := Nat.le_trans HG.out.2.2.2.2.2.2.2.1.size hb9.size
              obtain ⟨v10, w10, hrun10, hO10, hg10⟩ := appW_any (A := A9b) c9b h79 (own_next HG.out.2.2.2.1 hb9) hN9 (by have := HLF.out.1; rw [List.length_append] at this; omega)
              have hb10 : Below w7.heap.size w9 w10 := (Below.refl _ _).grown hg10 h79 (fun q e => (World.ownsRow.lt (own_next HG.out.2.2.2.1 hb9) q e).1)
              have hb710 : Below w7.heap.size w7 w10 := (Qt.more HG.out.2.2.2.2.2.2.2.1 HG.out.2.2.2.2.2.2.2.1.size hb9).trans hb10
              obtain ⟨al, hal⟩ : ∃ al, al = H2 ++ lF := ⟨_, rfl⟩
              rw [← hal] at hO10 HLF
              obtain ⟨A10, c10, rfl, -, -⟩ := own_slice hO10
              rw [HLF.out.1] at hO10 hrun10
              have HR10 := Lib.hid hrun10
              have HQ0 : Hid (Own w10 w7.heap.size (.slice A10 n c10) al ∧ Own w10 w6.heap.size (.slice (some ⟨w6.heap.size, 0, none⟩) n n) (seenA (nthN al) n 0) ∧ Below w6.heap.size w6 w10) :=
                ⟨hO10, own_kept HG.out.2.2.1 fun g hg => by cases hg; exact hb710.block _ HG.out.2.2.2.2.2.1, HG.out.2.2.2.2.2.2.2.2.trans (hb710.mono (by have := HG.out.2.2.2.2.2.1; omega))⟩
              clear hO9 hb9 hN9 h79 hrun10 hO10 hg10 hb10 hb710 hal
              go_wp2_with (at_builtin; refine Lib.wpList_append_run _ rfl (.tmp 115) (.tmp 117) 23 23 rfl _ _ rfl rfl _ _ HR10.out ?_)
              obtain ⟨S, hS⟩ : ∃ S, S = w6.heap.size := ⟨_, rfl⟩
              rw [← hS] at HQ0 ⊢
              have HS6 := Lib.hid hS
              obtain ⟨B7, hB7⟩ : ∃ B7, B7 = w7.heap.size := ⟨_, rfl⟩
              rw [← hB7] at HQ0
              have HS7 : Hid (S < B7) := (by show S < B7; rw [hB7, hS]; exact HG.out.2.2.2.2.2.1)
              have hlA10 := HLF.out.1
              clear hS hB7
              go_wp2_with fail
              go_loopw [20] (fun i wr => ∃ q : Nat, q ≤ n ∧ i = .int .i64 q ∧ Hid (Own wr B7 (.slice A10 n c10) al ∧ Own wr S (.slice (some ⟨S, 0, none⟩) n n) (seenA (nthN al) n q) ∧ Below w6.heap.size w6 wr)) (fun i _ => n - (intOf i).toNat)
              case atStart => exact ⟨0, Nat.zero_le _, rfl, by first | exact HQ0.out | (rw [← HS6.out]; exact HQ0.out)⟩
              case round =>
                obtain ⟨q, hq, rfl, HHQ⟩ := hrel
                by_cases hltq : q < n
                · obtain ⟨hOa, hOs, hBq⟩ := HHQ.out
                  have hOa2 : Own wr B7 (.slice A10 al.length c10) al := by rw [hlA10]; exact hOa
                  obtain ⟨ga, rfl, hga, hgl, -, hca⟩ := own_row hOa2 (by omega)
                  have za := hca q (by omega)
                  obtain ⟨e1, hx⟩ := HLF.out.2.1 q hltq
                  rw [e1] at za
                  have hsl := seenA_len (nthN al) n q
                  have hOs2 : Own wr S (.slice (some ⟨S, 0, none⟩) (seenA (nthN al) n q).length n) (seenA (nthN al) n q) := by rw [hsl]; exact hOs
                  obtain ⟨gs, e2, -, -, hfz, hcs⟩ := own_row hOs2 (by omega)
                  cases e2
                  have zs := hcs (nthN al q) (by omega)
                  rw [seenA_next HLF.out.2.2 hltq] at zs
                  have zf := hfz (nthN al q)
                  have HNX : Hid (Own (wr.setCell ⟨S, nthN al q, none⟩ (.int .i64 1)) B7 (.slice (some ⟨ga, 0, none⟩) n c10) al ∧ Own (wr.setCell ⟨S, nthN al q, none⟩ (.int .i64 1)) S (.slice (some ⟨S, 0, none⟩) n n) (seenA (nthN al) n (q + 1)) ∧ Below w6.heap.size w6 (wr.setCell ⟨S, nthN al q, none⟩ (.int .i64 1))) := by
                    refine ⟨own_kept hOa fun g hg => ?_, ?_, hBq.setCell (p := ⟨S, nthN al q, none⟩) (by rw [← HS6.out]; exact Nat.le_refl _) _⟩
                    · cases hg
                      have := HS7.out
                      exact Below.heap_setCell _ _ _ _ (show ga ≠ S by omega)
                    · have := (own_set hOs2 (nthN al q) 1).1
                      rw [hsl] at this
                      exact this
                  clear hOa hOs hBq hOa2 hga hgl hca e1 hsl hOs2 hfz hcs
                  generalize nthN al q = x at *
                  have n1 : ¬ ((x : Int) < 0) := by omega
                  have n2 : ¬ ((n : Int) ≤ (x : Int)) := by omega
                  have n3 : (x : Int) < (n : Int) := by omega
                  have n4 : (q : Int) < (n : Int) := by omega
                  go_wp2_with fail
                  go_roundw
                  case measure => simp [intOf]; omega
                  case rel => exact ⟨q + 1, by omega, by go_num, HNX.out⟩
                · obtain rfl : q = n := by omega
                  have hnq : ¬ (q : Int) < (q : Int) := by omega
                  go_wp2_with fail
                  go_roundw
                  case measure => simp [intOf]; omega
                  case rel =>
                    obtain ⟨-, -, hBq⟩ := HHQ.out
                    have hB4 := HS.out.2.2.2
                    refine ⟨k + 1, m', H2, cnt', F', A2, c2, by omega, by omega, by go_num, rfl, (show Hid _ from ⟨(HS.out.1.below HG.out.2.1).below hBq, own_more12 (own_next HG.out.1 hBq) (Nat.le_trans hB4.size HW.out.size), ?_, ?_, ?_⟩)⟩
                    · rw [HG.out.2.2.2.2.2.2.1]
                      exact HJ.out.1
                    · have h1 := HJ.out.2.2.2.2.2.2.1
                      have h2 := HO.out.2.2.2.1
                      omega
                    · exact Qt.more (Qt.more hB4 hB4.size HG.out.2.1) (by have := HG.out.2.1.size; have := hB4.size; omega) hBq
        · have hpz : ¬ (k : Int) < (picks.length : Int) := by omega
          have HPi := Lib.hid (inl_none wr 0)
          go_wp2_with fail
          refine (crowd_any a AH raw held cr dH wr HI.out.1 HI.out.2.1 (by omega)).mono ?_
          rintro e w3 ⟨v, rfl, hO3, hb3⟩
          obtain ⟨AL, cL, rfl, -, hNL⟩ := hO3.slice
          obtain ⟨m', l', cnt', F', hrun, hI', hcn, hll, hall, hpush, hgiv⟩ := once_step (by omega) (by have := HO.out.2.2.2.1; omega) HO.out.2.2.1 raw ([] : List Int)
          have hfit : ∀ j, j < (crowdL raw held).length → FitW ((crowdL raw held).getD j deadW) := fun j hj => (crowd_wk (n := n) (c := 0) (m := []) (F := []) raw held HO.out.2.2.1.bd (min raw.length 8) _ (by rw [List.getD_eq_getElem?_getD, List.getElem?_eq_getElem hj]; exact List.getElem_mem hj)).1.fit (by omega)
          have hl8 : (crowdL raw held).length ≤ 8 := by unfold crowdL; rw [crowdTo_len]; omega
          have hB3 := Qt.more HO.out.2.2.2.2 HO.out.2.2.2.2.size hb3
          have hr := runF_any Am none AL m ([] : List Int) (crowdL raw held) cm 0 cL 0 w3 (HO.out.1.below hb3) (by omega) (stk_wd HO.out.2.2.1.stk (by omega) (by have := HO.out.2.2.2.1; omega)) (HPi.out.below hb3) hNL hfit (by decide) (by decide)
          rw [hrun, hml] at hr
          obtain ⟨cl, hcl⟩ : ∃ cl, cl = crowdL raw held := ⟨_, rfl⟩
          rw [← hcl] at hr hll hpush hl8 hNL ⊢
          have hml' := hI'.stk.len
          have HJ := Lib.hid (And.intro hI' (And.intro hall (And.intro hpush (And.intro hNL (And.intro hB3 (And.intro hb3 (And.intro hcn hgiv)))))))
          clear hrun hI' hall hpush hcl hfit hO3 hNL hB3 hb3 hcn hgiv
          go_wp2_with fail
          refine hr.mono ?_
          rintro e w4 ⟨A2, c2, L2, d2, rfl, hN4, hW4, hb4⟩
          clear hr
          simp only at hN4 hW4 ⊢
          rw [hml', hll]
          have HN04 := Lib.hid (HI.out.2.1.below (Qt.more HJ.out.2.2.2.2.2.1 HJ.out.2.2.2.2.2.1.size hb4))
          have HS := Lib.hid (And.intro hN4 (And.intro hW4 (And.intro (HJ.out.2.2.2.1.below hb4) (Qt.more HJ.out.2.2.2.2.1 HJ.out.2.2.2.2.1.size hb4))))
          clear hN4 hW4 hb4
          obtain ⟨L, hL⟩ : ∃ L, L = cl.length := ⟨_, rfl⟩
          rw [← hL] at hl8 hll ⊢
          have HL := Lib.hid (And.intro hL hll)
          clear hL hll
          go_wp2_with fail
          go_loopw [17] (fun i wr => ∃ j : Nat, j ≤ L ∧ i = .int .i64 j ∧ Hid (Below w4.heap.size w4 wr)) (fun i _ => L - (intOf i).toNat)
          case atStart => exact ⟨0, Nat.zero_le _, rfl, Below.refl _ _⟩
          case round =>
            obtain ⟨j, hj, rfl, HW⟩ := hrel
            by_cases hltj : j < L
            · have hltjz : (j : Int) < (L : Int) := by omega
              obtain ⟨hL, hll⟩ := HL.out
              obtain ⟨b3, off3, hL3, hb3l, hc3⟩ := nowWk_row (HS.out.2.1.below HW.out) (by omega)
              obtain ⟨b5, off5, hL5, hb5l, hc5⟩ := nowWk_row (HS.out.2.2.1.below HW.out) (by omega)
              have hcW := hc3 j (by omega)
              have hcV := hc5 j (by omega)
              have hdone := HJ.out.2.1 (l'.getD j deadW) (by rw [List.getD_eq_getElem?_getD, List.getElem?_eq_getElem (by omega)]; exact List.getElem_mem _)
              have hpu := HJ.out.2.2.1 j (by omega)
              clear hL hll
              subst hL3 hL5
              obtain ⟨⟨xpc, xjob, x0, x1, x2, xd, xo⟩, hxx⟩ : ∃ x, x = l'.getD j deadW := ⟨_, rfl⟩
              obtain ⟨⟨zpc, zjob, z0, z1, z2, zd, zo⟩, hzz⟩ : ∃ x, x = cl.getD j deadW := ⟨_, rfl⟩
              rw [← hxx] at hcW hdone hpu
              rw [← hzz] at hcV hpu
              have y1 := hcW.c1
              have y10 := hcW.c10
              have y11 := hcW.c11
              have v2 := hcV.c2
              simp only at y1 y10 y11 v2 hdone hpu
              obtain ⟨hd1, hd2, -⟩ := hdone
              subst hd1
              clear hc3 hc5 hcW hcV hxx hzz hb3l hb5l
              rcases hd2 with rfl | rfl
              · clear hpu
                go_wp2_with fail
                have q1 := Qt.cell_in y1
                have q10 := Qt.cell_in y10
                have q11 := Qt.cell_in y11
                have qv := Qt.cell_in v2
                refine Qt.below_all (by kernel_rfl) (by kernel_rfl) ?_
                iterate 28 (go_big_quiet_step (first | fail))
                refine wpQuiet_nil ?_
                intro w5 hb5
                have HBD := Lib.hid (Qt.more HW.out HW.out.size hb5)
                clear hb5 q1 q10 q11 qv y1 y10 y11 v2
                go_wp2_with fail
                go_roundw
                case measure => simp [intOf]; omega
                case rel => exact ⟨j + 1, by omega, by go_num, HBD.out⟩
              · obtain rfl := hpu rfl
                go_wp2_with fail
                have q1 := Qt.cell_in y1
                have q10 := Qt.cell_in y10
                have q11 := Qt.cell_in y11
                have qv := Qt.cell_in v2
                refine Qt.below_all (by kernel_rfl) (by kernel_rfl) ?_
                iterate 28 (go_big_quiet_step (first | fail))
                refine wpQuiet_nil ?_
                intro w5 hb5
                have HBD := Lib.hid (Qt.more HW.out HW.out.size hb5)
                clear hb5 q1 q10 q11 qv y1 y10 y11 v2
                go_wp2_with fail
                go_roundw
                case measure => simp [intOf]; omega
                case rel => exact ⟨j + 1, by omega, by go_num, HBD.out⟩
            · obtain rfl : j = L := by omega
              have hltjz : ¬ (j : Int) < (j : Int) := by omega
              go_wp2_with fail
              obtain ⟨hL, hll⟩ := HL.out
              have hnH := HN04.out.below HW.out
              have hkp := keep_any AH L2 held l' dH d2 wr hnH HI.out.2.2 HD.out.1 HD.out.2 (by omega) (HS.out.2.1.below HW.out) (by omega) HJ.out.2.2.2.2.2.2.2
              rw [hll] at hkp
              have HKP := Lib.hid hkp
              clear hkp hnH hL hll
              go_wp2_with fail
              refine HKP.out.mono ?_
              rintro e w6 ⟨v6, rfl, hO6, hb6⟩
              clear HKP
              have hHl : (keepL held l').length ≤ n := by have := HJ.out.1.len; omega
              obtain ⟨H2, hH2⟩ : ∃ H2, H2 = keepL held l' := ⟨_, rfl⟩
              rw [← hH2] at hO6 hHl
              obtain ⟨A6, c6, rfl, -, hN6⟩ := own_slice hO6
              have hB46 := Qt.more HW.out HW.out.size hb6
              obtain ⟨w7, hmk, hO7, hg7⟩ := makeW n (by omega) w6
              have hb7 : Below w6.heap.size w6 w7 := ⟨hg7.os, hg7.tape, hg7.output, hg7.size, fun k hk => hg7.block k hk (by simp)⟩
              have hSlt : w6.heap.size < w7.heap.size := (World.ownsRow.lt hO7 _ rfl).2
              obtain ⟨v8, w8, hcr, hO8, hb8⟩ := copy_run A6 H2 c6 w7 (hN6.below hb7) (by omega)
              have hb78 := Qt.more hb7 hb7.size hb8
              have hN8 : Now w8 A2 m' := (HS.out.1.below hB46).below hb78
              have hfr := freeF_any A2 m' c2 w8 hN8 (by omega) (stk_wd HJ.out.1.stk (by omega) (by have := HJ.out.2.2.2.2.2.2.1; have := HO.out.2.2.2.1; omega))
              rw [stk_free HJ.out.1.stk (by omega) (by have := HJ.out.1.len; omega), hml'] at hfr
              obtain ⟨lF, hlF⟩ : ∃ lF : List Int, lF = F'.map fun (x : Nat) => (x : Int) := ⟨_, rfl⟩
              rw [← hlF] at hfr
              have hao := all_once HJ.out.1
              unfold allN12 at hao
              rw [← hlF, ← hH2] at hao
              have HLF := Lib.hid hao
              clear hlF hao
              have HG := Lib.hid (And.intro hO6 (And.intro hB46 (And.intro hO7 (And.intro hO8 (And.intro hb78 (And.intro hSlt (And.intro hH2 (And.intro hb8 hb7))))))))
              have HFR := Lib.hid hfr
              have HCR := Lib.hid hcr
              clear hO6 hN6 hB46 hO7 hg7 hb7 hSlt hcr hO8 hb8 hb78 hN8 hfr hH2 hb6
              go_wp2_with (at_builtin; refine Lib.wpList_append_run _ rfl (.const (.slice none 0 0)) (.tmp 114) 23 23 rfl _ _ rfl rfl _ _ HCR.out ?_)
              refine HFR.out.mono ?_
              rintro e w9 ⟨v9, rfl, hO9, hb9⟩
              obtain ⟨A9b, c9b, rfl, -, hN9⟩ := own_slice hO9
              have h79 : w7.heap.size ≤ w9.heap.size := Nat.le_trans HG.out.2.2.2.2.2.2.2.1.size hb9.size
              obtain ⟨v10, w10, hrun10, hO10, hg10⟩ := appW_any (A := A9b) c9b h79 (own_next HG.out.2.2.2.1 hb9) hN9 (by have := HLF.out.1; rw [List.length_append] at this; omega)
              have hb10 : Below w7.heap.size w9 w10 := (Below.refl _ _).grown hg10 h79 (fun q e => (World.ownsRow.lt (own_next HG.out.2.2.2.1 hb9) q e).1)
              have hb710 : Below w7.heap.size w7 w10 := (Qt.more HG.out.2.2.2.2.2.2.2.1 HG.out.2.2.2.2.2.2.2.1.size hb9).trans hb10
              obtain ⟨al, hal⟩ : ∃ al, al = H2 ++ lF := ⟨_, rfl⟩
              rw [← hal] at hO10 HLF
              obtain ⟨A10, c10, rfl, -, -⟩ := own_slice hO10
              rw [HLF.out.1] at hO10 hrun10
              have HR10 := Lib.hid hrun10
              have HQ0 : Hid (Own w10 w7.heap.size (.slice A10 n c10) al ∧ Own w10 w6.heap.size (.slice (some ⟨w6.heap.size, 0, none⟩) n n) (seenA (nthN al) n 0) ∧ Below w6.heap.size w6 w10) :=
                ⟨hO10, own_kept HG.out.2.2.1 fun g hg => by cases hg; exact hb710.block _ HG.out.2.2.2.2.2.1, HG.out.2.2.2.2.2.2.2.2.trans (hb710.mono (by have := HG.out.2.2.2.2.2.1; omega))⟩
              clear hO9 hb9 hN9 h79 hrun10 hO10 hg10 hb10 hb710 hal
              go_wp2_with (at_builtin; refine Lib.wpList_append_run _ rfl (.tmp 115) (.tmp 117) 23 23 rfl _ _ rfl rfl _ _ HR10.out ?_)
              obtain ⟨S, hS⟩ : ∃ S, S = w6.heap.size := ⟨_, rfl⟩
              rw [← hS] at HQ0 ⊢
              have HS6 := Lib.hid hS
              obtain ⟨B7, hB7⟩ : ∃ B7, B7 = w7.heap.size := ⟨_, rfl⟩
              rw [← hB7] at HQ0
              have HS7 : Hid (S < B7) := (by show S < B7; rw [hB7, hS]; exact HG.out.2.2.2.2.2.1)
              have hlA10 := HLF.out.1
              clear hS hB7
              go_wp2_with fail
              go_loopw [20] (fun i wr => ∃ q : Nat, q ≤ n ∧ i = .int .i64 q ∧ Hid (Own wr B7 (.slice A10 n c10) al ∧ Own wr S (.slice (some ⟨S, 0, none⟩) n n) (seenA (nthN al) n q) ∧ Below w6.heap.size w6 wr)) (fun i _ => n - (intOf i).toNat)
              case atStart => exact ⟨0, Nat.zero_le _, rfl, by first | exact HQ0.out | (rw [← HS6.out]; exact HQ0.out)⟩
              case round =>
                obtain ⟨q, hq, rfl, HHQ⟩ := hrel
                by_cases hltq : q < n
                · obtain ⟨hOa, hOs, hBq⟩ := HHQ.out
                  have hOa2 : Own wr B7 (.slice A10 al.length c10) al := by rw [hlA10]; exact hOa
                  obtain ⟨ga, rfl, hga, hgl, -, hca⟩ := own_row hOa2 (by omega)
                  have za := hca q (by omega)
                  obtain ⟨e1, hx⟩ := HLF.out.2.1 q hltq
                  rw [e1] at za
                  have hsl := seenA_len (nthN al) n q
                  have hOs2 : Own wr S (.slice (some ⟨S, 0, none⟩) (seenA (nthN al) n q).length n) (seenA (nthN al) n q) := by rw [hsl]; exact hOs
                  obtain ⟨gs, e2, -, -, hfz, hcs⟩ := own_row hOs2 (by omega)
                  cases e2
                  have zs := hcs (nthN al q) (by omega)
                  rw [seenA_next HLF.out.2.2 hltq] at zs
                  have zf := hfz (nthN al q)
                  have HNX : Hid (Own (wr.setCell ⟨S, nthN al q, none⟩ (.int .i64 1)) B7 (.slice (some ⟨ga, 0, none⟩) n c10) al ∧ Own (wr.setCell ⟨S, nthN al q, none⟩ (.int .i64 1)) S (.slice (some ⟨S, 0, none⟩) n n) (seenA (nthN al) n (q + 1)) ∧ Below w6.heap.size w6 (wr.setCell ⟨S, nthN al q, none⟩ (.int .i64 1))) := by
                    refine ⟨own_kept hOa fun g hg => ?_, ?_, hBq.setCell (p := ⟨S, nthN al q, none⟩) (by rw [← HS6.out]; exact Nat.le_refl _) _⟩
                    · cases hg
                      have := HS7.out
                      exact Below.heap_setCell _ _ _ _ (show ga ≠ S by omega)
                    · have := (own_set hOs2 (nthN al q) 1).1
                      rw [hsl] at this
                      exact this
                  clear hOa hOs hBq hOa2 hga hgl hca e1 hsl hOs2 hfz hcs
                  generalize nthN al q = x at *
                  have n1 : ¬ ((x : Int) < 0) := by omega
                  have n2 : ¬ ((n : Int) ≤ (x : Int)) := by omega
                  have n3 : (x : Int) < (n : Int) := by omega
                  have n4 : (q : Int) < (n : Int) := by omega
                  go_wp2_with fail
                  go_roundw
                  case measure => simp [intOf]; omega
                  case rel => exact ⟨q + 1, by omega, by go_num, HNX.out⟩
                · obtain rfl : q = n := by omega
                  have hnq : ¬ (q : Int) < (q : Int) := by omega
                  go_wp2_with fail
                  go_roundw
                  case measure => simp [intOf]; omega
                  case rel =>
                    obtain ⟨-, -, hBq⟩ := HHQ.out
                    have hB4 := HS.out.2.2.2
                    refine ⟨k + 1, m', H2, cnt', F', A2, c2, by omega, by omega, by go_num, rfl, (show Hid _ from ⟨(HS.out.1.below HG.out.2.1).below hBq, own_more12 (own_next HG.out.1 hBq) (Nat.le_trans hB4.size HW.out.size), ?_, ?_, ?_⟩)⟩
                    · rw [HG.out.2.2.2.2.2.2.1]
                      exact HJ.out.1
                    · have h1 := HJ.out.2.2.2.2.2.2.1
                      have h2 := HO.out.2.2.2.1
                      omega
                    · exact Qt.more (Qt.more hB4 hB4.size HG.out.2.1) (by have := HG.out.2.1.size; have := hB4.size; omega) hBq
      · have hltz6 : ¬ (k : Int) < 6 := by omega
        go_wp2
        go_ret
        exact ⟨rfl, HO.out.2.2.2.2⟩
    · have hltz : ¬ (k : Int) < (crowds.length : Int) := by omega
      have hk66 : (k : Int) < 6 ∨ ¬ (k : Int) < 6 := by omega
      rcases hk66 with h6 | h6
      · go_wp2
        go_ret
        exact ⟨rfl, HO.out.2.2.2.2⟩
      · go_wp2
        go_ret
        exact ⟨rfl, HO.out.2.2.2.2⟩
end Go.Proofs.Ytocepdhjkhhpfaa
