/-
  CellsTells, the walk.
-/
import Derived.Test.YtafoleafhkadiaaMj
import Derived.Test.YtafoleafhkadiaaQp
namespace Go.Proofs.Ytafoleafhkadiaa
open Go.RowKit Go.Sort

set_option maxHeartbeats 16000000 in
set_option maxRecDepth 100000 in
theorem cellsTells_walk (A : Option Addr) (raw : List (Int × Int)) (c : Nat) (A' : Option Addr) (any : List (Int × Int)) (c' : Nat) (cx cy dx dy : Int) (w : World) (hR : Rd w w.heap.size A raw) (hl : raw.length ≤ 9223372036854775807) (hc : raw.length ≤ c) (hw : ∀ p ∈ raw, I64 p.1 ∧ I64 p.2)
    (hR' : Rd w w.heap.size A' any) (hl' : any.length ≤ 9223372036854775807) (hc' : any.length ≤ c') (hcx : I64 cx) (hcy : I64 cy) (hdx : I64 dx) (hdy : I64 dy) :
    Calls Try.prog 3 #[.slice A raw.length c, .slice A' any.length c', .agg #[.int .i64 cx, .int .i64 cy], .int .i64 dx, .int .i64 dy] w fun e w' => e = .returned (.bool true) ∧ Below w.heap.size w w' := by
  have HW := Lib.hid hw
  have HCX := Lib.hid hcx
  have HCY := Lib.hid hcy
  have HDX := Lib.hid hdx
  have HDY := Lib.hid hdy
  have hb0 : Below w.heap.size w (w.alloc (.cells #[.int .i64 cx, .int .i64 cy] 25)) := (Below.refl _ w).alloc (Nat.le_refl _) _
  have hw0 : (w.alloc (.cells #[.int .i64 cx, .int .i64 cy] 25)).cell? ⟨w.heap.size, 0, none⟩ = some (.int .i64 cx) := by simp
  have hw1 : (w.alloc (.cells #[.int .i64 cx, .int .i64 cy] 25)).cell? ⟨w.heap.size, 1, none⟩ = some (.int .i64 cy) := by simp
  have HB0 := Lib.hid hb0
  have HQ0 := Lib.hid hw0
  have HQ1 := Lib.hid hw1
  have HRA := Lib.hid (Now.below hR hb0)
  have HRB := Lib.hid (Now.below hR' hb0)
  clear hw hcx hcy hdx hdy hb0 hw0 hw1 hR hR'
  go_enter Try.func3, Try.ntmps3
  obtain ⟨x, hxc, HXN, hx300, HXL⟩ : ∃ (x : List (Int × Int)), x.length ≤ c' ∧ Hid (Now (w.alloc (.cells #[.int .i64 cx, .int .i64 cy] 25)) A' x) ∧ x.length ≤ 300 ∧ Hid ((300 < any.length → 300 = x.length) ∧ (¬ 300 < any.length → any.length = x.length)) :=
    ⟨any.take 300, by rw [List.length_take]; omega, HRB.out.take 300, by rw [List.length_take]; omega, by rw [List.length_take]; omega, by rw [List.length_take]; omega⟩
  by_cases h300 : 300 < any.length
  all_goals
    first
      | have HXQ := Lib.hid (HXL.out.1 h300)
      | have HXQ := Lib.hid (HXL.out.2 h300)
    have hx301 := HXQ.out
    have hxq1 : 300 < any.length → 300 ≤ c' := by omega
    go_wp2_with fail
    refine (awake_any _).mono ?_
    rintro e w1 ⟨rfl, hb1⟩
    have HRA1 := Lib.hid (HRA.out.below hb1)
    have HX1 := Lib.hid (HXN.out.below hb1)
    have HB1 := Lib.hid (Qt.more HB0.out HB0.out.size hb1)
    have HQ10 := Lib.hid (Qt.keep hb1 HQ0.out)
    have HQ11 := Lib.hid (Qt.keep hb1 HQ1.out)
    clear hb1 hx301 HB0 HQ0 HQ1
    go_wp2_with fail
    refine (set_any A raw c w1 HRA1.out hl hc HW.out).mono ?_
    rintro e w2 ⟨v, rfl, ⟨A2, c2, rfl, hc2, hr2⟩, hb2⟩
    have HB2 := Lib.hid (Qt.more HB1.out HB1.out.size hb2)
    have HS2 : Hid (Now w2 A2 (rawSet raw)) := hr2
    have HX2 := Lib.hid (HX1.out.below hb2)
    have HQ20 := Lib.hid (Qt.keep hb2 HQ10.out)
    have HQ21 := Lib.hid (Qt.keep hb2 HQ11.out)
    have h60 := rawSet_len raw
    obtain ⟨s, hs⟩ : ∃ s, s = rawSet raw := ⟨_, rfl⟩
    rw [← hs] at hc2 HS2 h60 ⊢
    clear hs hb2 hr2 HRA1 HW HB1 HX1 HQ10 HQ11
    have HIT : Hid (∀ k, k < 2 → Item3 w2.heap.size k (w2.alloc (.cells #[.slice A2 s.length c2, .slice A' _ c'] 23))) := item3_two ⟨rfl, hc2, by omega, HS2.out⟩ ⟨HXQ.out, by have := HXQ.out; omega, by have := HXQ.out; omega, HX2.out⟩
    have HBB : Hid (∀ o : Obj, Below w2.heap.size w2 (w2.alloc o)) := fun o => (Below.refl _ w2).alloc (Nat.le_refl _) o
    have HQA : Hid (∀ o : Obj, (w2.alloc o).cell? ⟨w.heap.size, 0, none⟩ = some (.int .i64 cx) ∧ (w2.alloc o).cell? ⟨w.heap.size, 1, none⟩ = some (.int .i64 cy)) := fun o => ⟨Qt.keep (HBB.out o) HQ20.out, Qt.keep (HBB.out o) HQ21.out⟩
    clear HS2 HX2 HQ20 HQ21
    go_wp2
    go_loopw [41] (fun i wr => ∃ k : Nat, k ≤ 2 ∧ i = .int .i64 k ∧ Aside (∀ j, j < 2 → Item3 w2.heap.size j wr) ∧ Aside (wr.cell? ⟨w.heap.size, 0, none⟩ = some (.int .i64 cx) ∧ wr.cell? ⟨w.heap.size, 1, none⟩ = some (.int .i64 cy)) ∧ Below w.heap.size w wr) (fun i _ => 2 - (intOf i).toNat)
    case atStart => exact ⟨0, Nat.zero_le _, rfl, HIT.out, HQA.out _, Qt.more HB2.out HB2.out.size (HBB.out _)⟩
    case round =>
      obtain ⟨k, hk, rfl, HK, HQK, hb⟩ := hrel
      clear HIT HBB HQA HB2
      by_cases hlt : k < 2
      · have hltz : (k : Int) < 2 := by omega
        obtain ⟨A4, l, n4, c4, hcell, hn4, hc4, hl4, hN4⟩ := HK.out k hlt
        have HN4 := Lib.hid hN4
        have HL4 := Lib.hid hn4
        have HB4 := Lib.hid hb
        clear hN4 hn4 hb
        obtain ⟨⟨e1, m1⟩, hm1⟩ : ∃ r, r = ofR l := ⟨_, rfl⟩
        have hl1 := ofR_len l
        rw [← hm1] at hl1
        simp only at hl1
        have HM1 := Lib.hid hm1.symm
        clear hm1
        go_wp2_with fail
        refine (of_give HM1.out HN4.out HL4.out hc4 hl4).mono ?_
        rintro e w5 ⟨A5, c5, rfl, hc5, HA5, hb5⟩
        have HB5 := Lib.hid (Qt.more HB4.out HB4.out.size hb5)
        have HN5 := Lib.hid (HN4.out.below hb5)
        have HBW5 := Lib.hid hb5
        clear hb5 HN4 HB4 hcell
        go_wp2_with fail
        refine (refOf_give HM1.out HN5.out HL4.out hc4 hl4).mono ?_
        rintro e w6 ⟨A6, c6, rfl, hc6, HA6, hb6⟩
        have HB6 := Lib.hid (Qt.more HB5.out HB5.out.size hb6)
        have HN6 := Lib.hid (HN5.out.below hb6)
        have HAA6 := Lib.hid (HA5.out.below hb6)
        have HBW6 := Lib.hid (Qt.more HBW5.out HBW5.out.size hb6)
        clear hb6 HN5 HB5 HA5 HBW5
        obtain ⟨rb, hrb⟩ : ∃ rb, rightB l = rb := ⟨_, rfl⟩
        have HRB := Lib.hid hrb
        clear hrb
        go_wp2_with (first
          | (go_at_call 16; refine (same_yes HAA6.out HA6.out rfl (by omega) rfl).mono ?_; rintro e w7 ⟨rfl, hb7⟩; have HB7 := Lib.hid (Qt.more HB6.out HB6.out.size hb7); have HN7 := Lib.hid (HN6.out.below hb7); have HBW7 := Lib.hid (Qt.more HBW6.out HBW6.out.size hb7); clear hb7)
          | (go_at_call 17; refine (right_give HRB.out HN7.out HL4.out hc4 hl4).mono ?_; rintro e w8 ⟨rfl, hb8⟩; have HB8 := Lib.hid (Qt.more HB7.out HB7.out.size hb8); have HN8 := Lib.hid (HN7.out.below hb8); have HBW8 := Lib.hid (Qt.more HBW7.out HBW7.out.size hb8); clear hb8)
          | (go_at_call 18; refine (refRight_give HRB.out HN8.out HL4.out hc4 hl4).mono ?_; rintro e w9 ⟨rfl, hb9⟩; have HB9 := Lib.hid (Qt.more HB8.out HB8.out.size hb9); have HN9 := Lib.hid (HN8.out.below hb9); have HBW9 := Lib.hid (Qt.more HBW8.out HBW8.out.size hb9); clear hb9)
          | fail)
        clear HB6 HB7 HB8 HN6 HN7 HN8 HBW6 HBW7 HBW8 HAA6 HA6 HRB HM1
        obtain ⟨bx, by', ba, bb, bo, hbx⟩ := boxA_form l
        have HBX := Lib.hid hbx
        clear hbx
        refine (box_give HBX.out HN9.out HL4.out hc4 hl4).mono ?_
        rintro e w10 ⟨rfl, hb10⟩
        have HB10 := Lib.hid (Qt.more HB9.out HB9.out.size hb10)
        have HN10 := Lib.hid (HN9.out.below hb10)
        have HBW10 := Lib.hid (Qt.more HBW9.out HBW9.out.size hb10)
        clear hb10 HB9 HN9 HBW9
        go_wp2_with fail
        have ha10 : Below w10.heap.size w10 (w10.alloc (.cells #[.int .i64 bx, .int .i64 by', .int .i64 ba, .int .i64 bb] 35)) := (Below.refl _ w10).alloc (Nat.le_refl _) _
        have W10 := Whole.new w10 35 #[.int .i64 bx, .int .i64 by', .int .i64 ba, .int .i64 bb]
        refine (refBox_give HBX.out (HN10.out.below ha10) HL4.out hc4 hl4).mono ?_
        rintro e w11 ⟨rfl, hb11⟩
        have hb11' := Qt.more ha10 ha10.size hb11
        have HB11 := Lib.hid (Qt.more HB10.out HB10.out.size hb11')
        have HN11 := Lib.hid (HN10.out.below hb11')
        have HBW11 := Lib.hid (Qt.more HBW10.out HBW10.out.size hb11')
        have W11 := Lib.hid (W10.below hb11)
        clear hb11 hb11' ha10 W10 HB10 HN10 HBW10 HBX
        obtain ⟨B7, hB7⟩ : ∃ B7, B7 = w10.heap.size := ⟨_, rfl⟩
        rw [← hB7] at W11 ⊢
        clear hB7
        have HA11 : Hid (∀ o, Below w11.heap.size w11 (w11.alloc o)) := fun o => (Below.refl _ w11).alloc (Nat.le_refl _) _
        obtain ⟨p0, p1, p2, p3, -, -, -, -⟩ := (W11.out.below (HA11.out (.cells #[.int .i64 bx, .int .i64 by', .int .i64 ba, .int .i64 bb] 35))).four
        obtain ⟨q0, q1, q2, q3, -, -, -, -⟩ := (Whole.new w11 35 #[.int .i64 bx, .int .i64 by', .int .i64 ba, .int .i64 bb]).four
        have HQ11 : Hid (w11.cell? ⟨w.heap.size, 0, none⟩ = some (.int .i64 cx) ∧ w11.cell? ⟨w.heap.size, 1, none⟩ = some (.int .i64 cy)) := ⟨Qt.keep HBW11.out HQK.out.1, Qt.keep HBW11.out HQK.out.2⟩
        clear W11
        have k0 := Qt.cell_in (Qt.keep (HA11.out (.cells #[.int .i64 bx, .int .i64 by', .int .i64 ba, .int .i64 bb] 35)) HQ11.out.1)
        have k1 := Qt.cell_in (Qt.keep (HA11.out (.cells #[.int .i64 bx, .int .i64 by', .int .i64 ba, .int .i64 bb] 35)) HQ11.out.2)
        have hpx := pickI_bd cx 16 (by omega)
        have hpy := pickI_bd cy 16 (by omega)
        have s1 : IntKind.i64.wrap (pickI cx 16 - 8) = pickI cx 16 - 8 := IntWalk.i64_in _ (by omega)
        have s2 : IntKind.i64.wrap (pickI cy 16 - 8) = pickI cy 16 - 8 := IntWalk.i64_in _ (by omega)
        go_wp2
        refine Qt.region_end (v := .int .i64 0) 10 12 (by kernel_rfl) (by kernel_rfl) rfl ⟨rfl, fun _ => rfl⟩ ?_
        simp only [List.take_succ_cons, List.take_zero, List.drop_succ_cons, List.drop_zero, Act.put, List.setIfInBounds_toArray, List.set_cons_succ, List.set_cons_zero]
        iterate 10 (go_big_quiet_step (first
          | (go_at_call_of 21 (Value.int IntKind.i64 cx); exact Qt.at_same (fun W _ => pick_any cx 16 W HCX.out.1 HCX.out.2 (by omega) (by omega)))
          | (go_at_call_of 21 (Value.int IntKind.i64 cy); exact Qt.at_same (fun W _ => pick_any cy 16 W HCY.out.1 HCY.out.2 (by omega) (by omega)))))
        refine wpQuiet_nil ?_
        intro w13 hb13
        have ha11 := HA11.out (.cells #[.int .i64 bx, .int .i64 by', .int .i64 ba, .int .i64 bb] 35)
        have hb13' := Qt.more ha11 ha11.size hb13
        have HB13 := Lib.hid (Qt.more HB11.out HB11.out.size hb13')
        have HN13 := Lib.hid (HN11.out.below hb13')
        have HBW13 := Lib.hid (Qt.more HBW11.out HBW11.out.size hb13')
        clear ha11 hb13 hb13' HB11 HN11 HBW11 HQ11 HA11 k0 k1 p0 p1 p2 p3 q0 q1 q2 q3 s1 s2
        obtain ⟨px, hpx2⟩ : ∃ px, px = pickI cx 16 - 8 := ⟨_, rfl⟩
        obtain ⟨py, hpy2⟩ : ∃ py, py = pickI cy 16 - 8 := ⟨_, rfl⟩
        rw [← hpx2, ← hpy2]
        clear hpx2 hpy2 hpx hpy
        have HYL : Hid (Now (w13.alloc (.cells #[.int .i64 cx, .int .i64 cy, .int .i64 px, .int .i64 py] 25)) (some ⟨w13.heap.size, 0, none⟩) [(cx, cy), (px, py)]) := now_lit [(cx, cy), (px, py)] rfl rfl
        have HA13 : Hid (∀ o, Below w13.heap.size w13 (w13.alloc o)) := fun o => (Below.refl _ w13).alloc (Nat.le_refl _) _
        go_wp2_with fail
        refine ⟨rfl, ?_⟩
        go_wp2_with fail
        go_loopw [101] (fun i wr => ∃ j : Nat, j ≤ 2 ∧ i = .int .i64 j ∧ Aside (Now wr (some ⟨w13.heap.size, 0, none⟩) [(cx, cy), (px, py)]) ∧ Below w13.heap.size w13 wr) (fun i _ => 2 - (intOf i).toNat)
        case atStart => exact ⟨0, Nat.zero_le _, rfl, HYL.out, HA13.out _⟩
        case round =>
          obtain ⟨j, hj, rfl, HY, hb⟩ := hrel
          clear HYL HA13
          by_cases hjt : j < 2
          · have hjz : (j : Int) < 2 := by omega
            obtain ⟨a0, a1⟩ := HY.out.cell_at (j := j) hjt
            obtain ⟨⟨x, y⟩, hxy⟩ : ∃ p, p = [(cx, cy), (px, py)].getD j (0, 0) := ⟨_, rfl⟩
            rw [← hxy] at a0 a1
            simp only at a0 a1
            have HBY := Lib.hid hb
            have HNY := Lib.hid (HN13.out.below hb)
            clear hxy hb
            obtain ⟨wy, hwy⟩ : ∃ wy : World, wy = wr := ⟨_, rfl⟩
            rw [← hwy] at a0 a1 HBY HNY HY ⊢
            clear hwy
            have HA : Hid (∀ o o', Below wy.heap.size wy ((wy.alloc o).alloc o')) := fun o o' => ((Below.refl _ wy).alloc (Nat.le_refl _) o).alloc (by simp) o'
            have HC0 : Hid (∀ o', ((wy.alloc (.cells #[.int .i64 x, .int .i64 y] 25)).alloc o').cell? ⟨wy.heap.size, 0, none⟩ = some (.int .i64 x) ∧ ((wy.alloc (.cells #[.int .i64 x, .int .i64 y] 25)).alloc o').cell? ⟨wy.heap.size, 1, none⟩ = some (.int .i64 y)) := fun o' =>
              ⟨Qt.keep ((Below.refl _ _).alloc (Nat.le_refl _) _) (by simp), Qt.keep ((Below.refl _ _).alloc (Nat.le_refl _) _) (by simp)⟩
            have HC1 : Hid (∀ T, ((wy.alloc (.cells #[.int .i64 x, .int .i64 y] 25)).alloc (.cells #[.bool true, .bool false] T)).cell? ⟨wy.heap.size + 1, 0, none⟩ = some (.bool true) ∧ ((wy.alloc (.cells #[.int .i64 x, .int .i64 y] 25)).alloc (.cells #[.bool true, .bool false] T)).cell? ⟨wy.heap.size + 1, 1, none⟩ = some (.bool false)) := fun T => by
              have hw := Whole.new (wy.alloc (.cells #[.int .i64 x, .int .i64 y] 25)) T #[.bool true, .bool false]
              simp only [World.size_alloc] at hw
              exact ⟨hw.cell 0, hw.cell 1⟩
            go_wp2_with fail
            go_loopw [107] (fun i wr => ∃ t : Nat, t ≤ 2 ∧ i = .int .i64 t ∧ Aside (wr.cell? ⟨wy.heap.size, 0, none⟩ = some (.int .i64 x) ∧ wr.cell? ⟨wy.heap.size, 1, none⟩ = some (.int .i64 y)) ∧ Aside (wr.cell? ⟨wy.heap.size + 1, 0, none⟩ = some (.bool true) ∧ wr.cell? ⟨wy.heap.size + 1, 1, none⟩ = some (.bool false)) ∧ Below wy.heap.size wy wr) (fun i _ => 2 - (intOf i).toNat)
            case atStart => exact ⟨0, Nat.zero_le _, rfl, HC0.out _, HC1.out _, HA.out _ _⟩
            case round =>
              obtain ⟨t, ht, rfl, HY0, HY1, hb⟩ := hrel
              clear HA HC0 HC1 a0 a1
              obtain ⟨y0, y1⟩ := HY0.out
              have HN := Lib.hid (HNY.out.below hb)
              have HBQ := Lib.hid hb
              clear hb
              by_cases htt : t < 2
              · have htz : (t : Int) < 2 := by omega
                obtain ⟨al, hal⟩ : ∃ al, wr.cell? ⟨wy.heap.size + 1, t, none⟩ = some (.bool al) := by
                  have : t = 0 ∨ t = 1 := by omega
                  rcases this with rfl | rfl
                  · exact ⟨true, HY1.out.1⟩
                  · exact ⟨false, HY1.out.2⟩
                obtain ⟨⟨e2, m2⟩, hm2⟩ : ∃ r, r = withR l (x, y) al := ⟨_, rfl⟩
                have hl2 := withR_len l (x, y) al (by rw [← HL4.out]; exact hl4)
                rw [← hm2] at hl2
                simp only at hl2
                have HM2 := Lib.hid hm2.symm
                clear hm2
                go_wp2_with fail
                refine (with_give HM2.out HN.out HL4.out hc4 hl4).mono ?_
                rintro e w15 ⟨A15, c15, rfl, hc15, HA15, hb15⟩
                have HB15 := Lib.hid (Qt.more HBQ.out HBQ.out.size hb15)
                have HN15 := Lib.hid (HN.out.below hb15)
                have HK15 : Hid (Below wr.heap.size wr w15) := hb15
                have z0 := Qt.keep hb15 y0
                have z1 := Qt.keep hb15 y1
                clear hb15 HN y0 y1
                go_wp2_with fail
                refine (refWith_give HM2.out HN15.out HL4.out hc4 hl4).mono ?_
                rintro e w16 ⟨A16, c16, rfl, hc16, HA16, hb16⟩
                have HK16 := Lib.hid (Qt.more HK15.out HK15.out.size hb16)
                have HAA16 := Lib.hid (HA15.out.below hb16)
                clear hb16 HN15 HA15 HK15 z0 z1 HB15
                go_wp2_with (go_at_call 16; refine (same_yes HAA16.out HA16.out rfl (by omega) rfl).mono ?_; rintro e w17 ⟨rfl, hb17⟩; have HK17 := Lib.hid (Qt.more HK16.out HK16.out.size hb17); clear hb17)
                go_roundw
                case measure => simp [intOf]; omega
                case rel => exact ⟨t + 1, by omega, by go_num, ⟨Qt.keep HK17.out HY0.out.1, Qt.keep HK17.out HY0.out.2⟩, ⟨Qt.keep HK17.out HY1.out.1, Qt.keep HK17.out HY1.out.2⟩, Qt.more HBQ.out HBQ.out.size HK17.out⟩
              · have htz : ¬ (t : Int) < 2 := by omega
                obtain rfl : t = 2 := by omega
                have k0 := Qt.cell_in y0
                have k1 := Qt.cell_in y1
                obtain ⟨hbo, hhb⟩ : ∃ r, hasB l (x, y) = r := ⟨_, rfl⟩
                have HHB := Lib.hid hhb
                clear hhb y0 y1
                go_wp2
                refine Qt.below_all (by kernel_rfl) (by kernel_rfl) ?_
                iterate 7 (go_big_quiet_step (first
                  | (go_at_call 24; exact Qt.at_call' (fun W hW => has_give HHB.out (HN.out.below hW) HL4.out hc4 hl4))
                  | (go_at_call 25; exact Qt.at_call' (fun W hW => refHas_give HHB.out (HN.out.below hW) HL4.out hc4 hl4))))
                refine wpQuiet_nil ?_
                intro w18 hb18
                have HB18 := Lib.hid (Qt.more HBY.out HBY.out.size (Qt.more HBQ.out HBQ.out.size hb18))
                have HK18 := Lib.hid (Qt.more HBQ.out HBQ.out.size hb18)
                clear hb18 k0 k1
                go_wp2
                go_roundw
                case measure => simp [intOf]; omega
                case rel => exact ⟨j + 1, by omega, by go_num, HY.out.below HK18.out, HB18.out⟩
          · have hjz : ¬ (j : Int) < 2 := by omega
            obtain rfl : j = 2 := by omega
            have HB20 := Lib.hid (Qt.more HB13.out HB13.out.size hb)
            have HN20 := Lib.hid (HN13.out.below hb)
            have HBW20 := Lib.hid (Qt.more HBW13.out HBW13.out.size hb)
            obtain ⟨wz, hwz⟩ : ∃ wz : World, wz = wr := ⟨_, rfl⟩
            rw [← hwz] at HB20 HN20 HBW20 ⊢
            clear hwz HY hb HB13 HN13 HBW13
            have hqx := pickI_bd dx 40 (by omega)
            have hqy := pickI_bd dy 40 (by omega)
            have hpk1 := fun w => pick_any dx 40 w HDX.out.1 HDX.out.2 (by omega) (by omega)
            have hpk2 := fun w => pick_any dy 40 w HDY.out.1 HDY.out.2 (by omega) (by omega)
            obtain ⟨qx, hqx2⟩ : ∃ qx, qx = pickI dx 40 := ⟨_, rfl⟩
            obtain ⟨qy, hqy2⟩ : ∃ qy, qy = pickI dy 40 := ⟨_, rfl⟩
            rw [← hqx2] at hqx hpk1
            rw [← hqy2] at hqy hpk2
            have HPK1 := Lib.hid hpk1
            have HPK2 := Lib.hid hpk2
            have HI64 : Hid (∀ p ∈ [(dx, dy), (qx, -qy)], I64 p.1 ∧ I64 p.2) := (show ∀ p ∈ [(dx, dy), (qx, -qy)], I64 p.1 ∧ I64 p.2 from fun p hp => by
              simp only [List.mem_cons, List.not_mem_nil, or_false] at hp
              rcases hp with rfl | rfl
              · exact ⟨HDX.out, HDY.out⟩
              · exact ⟨⟨by simp only; omega, by simp only; omega⟩, ⟨by simp only; omega, by simp only; omega⟩⟩)
            clear hqx2 hqy2 hpk1 hpk2
            have HDL : Hid (Now (wz.alloc (.cells #[.int .i64 dx, .int .i64 dy, .int .i64 qx, .int .i64 (-qy)] 42)) (some ⟨wz.heap.size, 0, none⟩) [(dx, dy), (qx, -qy)]) := now_lit [(dx, dy), (qx, -qy)] rfl rfl
            have HAZ : Hid (∀ o, Below wz.heap.size wz (wz.alloc o)) := fun o => (Below.refl _ wz).alloc (Nat.le_refl _) _
            go_wp2_with (first
              | (go_at_call_of 21 (Value.int IntKind.i64 dx); refine (HPK1.out _).mono ?_; rintro e w21 ⟨rfl, rfl⟩)
              | (go_at_call_of 21 (Value.int IntKind.i64 dy); refine (HPK2.out _).mono ?_; rintro e w22 ⟨rfl, rfl⟩))
            go_loopw [154] (fun i wr => ∃ j : Nat, j ≤ 2 ∧ i = .int .i64 j ∧ Aside (Now wr (some ⟨wz.heap.size, 0, none⟩) [(dx, dy), (qx, -qy)]) ∧ Below wz.heap.size wz wr) (fun i _ => 2 - (intOf i).toNat)
            case atStart => exact ⟨0, Nat.zero_le _, rfl, HDL.out, HAZ.out _⟩
            case round =>
              obtain ⟨j, hj, rfl, HY, hb⟩ := hrel
              clear HDL HAZ hqx hqy
              by_cases hjt : j < 2
              · have hjz : (j : Int) < 2 := by omega
                obtain ⟨a0, a1⟩ := HY.out.cell_at (j := j) hjt
                have hpi := HI64.out _ (getD_mem (l := [(dx, dy), (qx, -qy)]) hjt)
                obtain ⟨⟨x, y⟩, hxy⟩ : ∃ p, p = [(dx, dy), (qx, -qy)].getD j (0, 0) := ⟨_, rfl⟩
                rw [← hxy] at a0 a1 hpi
                simp only at a0 a1 hpi
                have HX := Lib.hid hpi.1
                have HYY := Lib.hid hpi.2
                have HBY := Lib.hid hb
                have HNY := Lib.hid ((HN20.out.below hb).below ((Below.refl _ wr).alloc (Nat.le_refl _) (.cells #[.int .i64 x, .int .i64 y] 42)))
                have HA : Hid (Below wr.heap.size wr (wr.alloc (.cells #[.int .i64 x, .int .i64 y] 42))) := (Below.refl _ wr).alloc (Nat.le_refl _) _
                have y0 : (wr.alloc (.cells #[.int .i64 x, .int .i64 y] 42)).cell? ⟨wr.heap.size, 0, none⟩ = some (.int .i64 x) := by simp
                have y1 : (wr.alloc (.cells #[.int .i64 x, .int .i64 y] 42)).cell? ⟨wr.heap.size, 1, none⟩ = some (.int .i64 y) := by simp
                have HC0 := Lib.hid y0
                have HC1 := Lib.hid y1
                obtain ⟨⟨e2, m2⟩, hm2⟩ : ∃ r, r = shiftR l x y := ⟨_, rfl⟩
                have hl2 := shiftR_len1 l x y (by rw [← HL4.out]; omega)
                rw [← hm2] at hl2
                simp only at hl2
                have HM2 := Lib.hid hm2.symm
                clear hm2 hxy hb hpi y0 y1
                go_wp2_with fail
                refine (shift_give HM2.out HNY.out HL4.out hc4 hl4 HX.out HYY.out).mono ?_
                rintro e w25 ⟨A25, c25, rfl, hc25, HA25, hb25⟩
                have HN25 := Lib.hid (HNY.out.below hb25)
                have HK25 := Lib.hid (Qt.more HA.out HA.out.size hb25)
                have z0 := Qt.keep hb25 HC0.out
                have z1 := Qt.keep hb25 HC1.out
                clear hb25 HNY
                go_wp2_with fail
                refine (refShift_give HM2.out HN25.out HL4.out hc4 hl4 HX.out HYY.out).mono ?_
                rintro e w26 ⟨A26, c26, rfl, hc26, HA26, hb26⟩
                have HK26 := Lib.hid (Qt.more HK25.out HK25.out.size hb26)
                have HAA26 := Lib.hid (HA25.out.below hb26)
                clear hb26 HN25 HA25 HK25 z0 z1 HA HC0 HC1
                go_wp2_with (go_at_call 16; refine (same_yes HAA26.out HA26.out rfl (by omega) rfl).mono ?_; rintro e w27 ⟨rfl, hb27⟩; have HK27 := Lib.hid (Qt.more HK26.out HK26.out.size hb27); clear hb27)
                go_roundw
                case measure => simp [intOf]; omega
                case rel => exact ⟨j + 1, by omega, by go_num, HY.out.below HK27.out, Qt.more HBY.out HBY.out.size HK27.out⟩
              · have hjz : ¬ (j : Int) < 2 := by omega
                obtain rfl : j = 2 := by omega
                have HB30 := Lib.hid (Qt.more HB20.out HB20.out.size hb)
                have HBW30 := Lib.hid (Qt.more HBW20.out HBW20.out.size hb)
                clear hb HY HB20 HN20 HBW20
                go_wp2
                go_roundw
                case measure => simp [intOf]; omega
                case rel => exact ⟨k + 1, by omega, by go_num, fun i hi => (HK.out i hi).below HBW30.out, ⟨Qt.keep HBW30.out HQK.out.1, Qt.keep HBW30.out HQK.out.2⟩, HB30.out⟩
      · have hltz : ¬ (k : Int) < 2 := by omega
        obtain rfl : k = 2 := by omega
        have HB := Lib.hid hb
        clear hb HK HQK
        go_wp2
        go_ret
        exact ⟨rfl, HB.out⟩

end Go.Proofs.Ytafoleafhkadiaa
