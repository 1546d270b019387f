/-
  The law NodeLive.
-/
import Derived.Test.YtcmdhochofoohaaRw
namespace Go.Proofs.Ytcmdhochofoohaa
set_option linter.unusedVariables false
set_option linter.unusedSimpArgs false
open Go.RowKit Go.Sort

def liveIn (roots : List Int) (n : Nat) : Nat → List Int
  | 0 => []
  | k + 1 => liveIn roots n k ++ [pickI (roots.getD k 0) n]
theorem length_liveIn (roots : List Int) (n k : Nat) : (liveIn roots n k).length = k := by
  induction k with
  | zero => rfl
  | succ k ih => unfold liveIn; rw [List.length_append, ih]; rfl
theorem liveIn_bd (roots : List Int) {n : Nat} (hn : 1 ≤ n) (k : Nat) : ∀ r ∈ liveIn roots n k, 0 ≤ r ∧ r < (n : Int) := by
  induction k with
  | zero => intro r hr; cases hr
  | succ k ih =>
    intro r hr
    rcases List.mem_append.1 hr with h | h
    · exact ih r h
    · have : r = pickI (roots.getD k 0) n := by simpa using h
      rw [this]
      exact pickI_bd _ _ (by omega)

set_option maxHeartbeats 16000000 in
set_option maxRecDepth 100000 in
theorem nodeLive_law (room : Int) (A : Option Addr) (raw : List Raw5) (c : Nat) (Ar : Option Addr) (roots : List Int) (cr : Nat) (w : World) (hI : I64 room) (hR : RdR w w.heap.size A raw) (hl : raw.length ≤ 9223372036854775807) (hF : ∀ j, j < raw.length → Fine5 (raw.getD j dead5)) (hRo : Now w Ar roots) (hlr : roots.length ≤ 9223372036854775807) (hFr : ∀ j, j < roots.length → I64 (roots.getD j 0)) :
    Calls Try.prog 4 #[.int .i64 room, .slice A raw.length c, .slice Ar roots.length cr] w fun e w' => e = .returned (.bool true) ∧ Below w.heap.size w w' := by
  obtain ⟨hS, hSl⟩ := store_right room raw
  have hpb := pick6_bd room 60 (by decide)
  have hst := fun W hR' => store6_any A raw c room W hR' hl hI hF
  obtain ⟨R, hRR⟩ : ∃ R, R = 2 + pick6 room 60 := ⟨_, rfl⟩
  rw [← hRR] at hS hst
  obtain ⟨l, hll⟩ : ∃ l, l = store6 room raw := ⟨_, rfl⟩
  rw [← hll] at hS hst hSl
  have h2l := hS.two
  have hRb : R ≤ 1000 ∧ 0 ≤ R := by omega
  have HS := Lib.hid hS
  have HSl := Lib.hid hSl
  have HRR := Lib.hid hR
  have HRO := Lib.hid hRo
  have HFR := Lib.hid hFr
  clear hS hSl hR hpb hRR hll hI hF hRo hFr
  go_enter Try.func4, Try.ntmps4
  go_wp2_with fail
  refine (awake6_any w).mono ?_
  rintro e w1 ⟨rfl, hb1⟩
  have hst1 := hst w1 ((HRR.out.below hb1 (Nat.le_refl _)).more hb1.size)
  have HRO1 := Lib.hid (HRO.out.below hb1)
  have HB1 := Lib.hid hb1
  clear hst HRR HRO hb1
  go_wp2_with fail
  refine hst1.mono ?_
  intro e w2 h
  obtain ⟨A2, c2, rfl, hcap2, N2, hb2⟩ := storeR_box h
  have hal := (Below.refl w2.heap.size w2).alloc (Nat.le_refl _) (.cells #[.slice A2 l.length c2, .int .i64 R] 25)
  have HS2 := Lib.hid (stB_new N2 hcap2 R)
  have HRO2 := Lib.hid ((HRO1.out.below hb2).below hal)
  have hB2 := Qt.more HB1.out HB1.out.size hb2
  have HB2 := Lib.hid (Qt.more hB2 hB2.size hal)
  have h42 : l.length ≤ 42 := HSl.out
  clear h hst1 hb2 HB1 HRO1 N2 hal hB2
  go_wp2_with fail
  generalize (w2.alloc (.cells #[.slice A2 l.length c2, .int .i64 R] 25)) = v2 at *
  generalize w2.heap.size = b2 at *
  go_loopw [9, 10] (fun v i wr => ∃ k : Nat, k ≤ roots.length ∧ k ≤ 5 ∧ i = .int .i64 k ∧ Hid (Own wr v2.heap.size v (liveIn roots l.length k)) ∧ Hid (Below v2.heap.size v2 wr)) (fun _ i _ => 5 - (intOf i).toNat)
  case atStart => exact ⟨0, Nat.zero_le _, Nat.zero_le _, rfl, World.ownsRow_nil _ _ _ _, Below.refl _ _⟩
  case round =>
    obtain ⟨k, hk, hk5, rfl, HO, HB⟩ := hrel
    by_cases hlt : k < roots.length ∧ k < 5
    · obtain ⟨hlt1, hlt2⟩ := hlt
      have hltz : (k : Int) < (roots.length : Int) := by omega
      have hltz2 : (k : Int) < 5 := by omega
      obtain ⟨b, off, rfl, _, hcell⟩ := (HRO2.out).at_ (by omega)
      have hx64 := HFR.out k hlt1
      have hup : liveIn roots l.length (k + 1) = liveIn roots l.length k ++ [pickI (roots.getD k 0) l.length] := rfl
      obtain ⟨x, hx⟩ : ∃ x, x = roots.getD k 0 := ⟨_, rfl⟩
      rw [← hx] at hx64 hup
      have c0 := hcell k hlt1
      rw [← hx] at c0
      have hpk := fun W => pick_any x l.length W hx64.1 hx64.2 (by omega) (by omega)
      have HOd : Own wr.drew v2.heap.size u9 (liveIn roots l.length k) := HO.out
      have hBd : Below v2.heap.size v2 wr.drew := Qt.more HB.out HB.out.size (below_drew wr)
      obtain ⟨v', w', hrun, hown, hb2⟩ := push_any (pickI x l.length) hBd.size HOd (by rw [length_liveIn]; omega)
      rw [← hup] at hown
      have HO2 := Lib.hid hown
      have HUP := Lib.hid hup
      clear hup
      have HPK := Lib.hid hpk
      have HX9 := Lib.hid hx
      clear hx hpk
      have hB9 := hBd.trans hb2
      have hB8 := hBd.alloc hBd.size (.cells #[.int .i64 (pickI x l.length)] 3)
      have s0 := (HS2.out.below HB.out).s0
      go_wp2_with fail
      refine region_calm_to (fun W => Below v2.heap.size v2 W) (fun (a0 a9 : Act) (w9 : World) => ∃ v9 : Value, a9 = ((((((((((((a0.put (some 32) u9).put (some 33) (.slice (some ⟨b, off, none⟩) roots.length cr)).put (some 34) (.int .i64 (k : Int))).put (some 35) (.pointer (some ⟨b, off + k, none⟩))).put (some 36) (.int .i64 x)).put (some 37) (.pointer (some ⟨b2, 0, none⟩))).put (some 38) (.slice A2 l.length c2)).put (some 39) (.int .i64 (l.length : Int))).put (some 40) (.int .i64 (pickI x l.length))).put (some 41) (.slice (some ⟨wr.heap.size, 0, none⟩) 1 1)).put (some 42) v9).put (some 9) v9) ∧ Own w9 v2.heap.size v9 (liveIn roots l.length (k + 1)) ∧ Below v2.heap.size v2 w9) (.calm 0 (.calm 1 (.calm 2 (.calm 3 (.calm 4 (.calm 5 (.calm 6 (.calm 7 (.calm 8 (.only 9 (.only 10 (.only 11 .done)))))))))))) (by kernel_rfl) (by kernel_rfl) (by kernel_rfl) (by rfl) hBd ?_ ?_
      · skip
        refine ⟨_, _, u9, rfl, rfl, ⟨rfl, fun W hW => by exact ⟨rfl, rfl⟩⟩, ?_⟩
        simp only [Act.put, List.setIfInBounds_toArray, List.set_cons_succ, List.set_cons_zero]
        refine ⟨_, _, (.slice (some ⟨b, off, none⟩) roots.length cr), rfl, rfl, ⟨rfl, fun W hW => by exact ⟨rfl, rfl⟩⟩, ?_⟩
        simp only [Act.put, List.setIfInBounds_toArray, List.set_cons_succ, List.set_cons_zero]
        refine ⟨_, _, (.int .i64 (k : Int)), rfl, rfl, ⟨rfl, fun W hW => by exact ⟨rfl, rfl⟩⟩, ?_⟩
        simp only [Act.put, List.setIfInBounds_toArray, List.set_cons_succ, List.set_cons_zero]
        refine ⟨_, _, (.pointer (some ⟨b, off + k, none⟩)), rfl, rfl, ⟨rfl, fun W hW => by simp only [execOp]; go_simp; try exact ⟨rfl, rfl⟩⟩, ?_⟩
        simp only [Act.put, List.setIfInBounds_toArray, List.set_cons_succ, List.set_cons_zero]
        refine ⟨_, _, (.int .i64 x), rfl, rfl, ⟨rfl, fun W hW => by have c1 := Qt.keep hW c0; simp only [execOp]; go_simp; done⟩, ?_⟩
        simp only [Act.put, List.setIfInBounds_toArray, List.set_cons_succ, List.set_cons_zero]
        refine ⟨_, _, (.pointer (some ⟨b2, 0, none⟩)), rfl, rfl, ⟨rfl, fun W hW => by simp only [execOp]; go_simp; try exact ⟨rfl, rfl⟩⟩, ?_⟩
        simp only [Act.put, List.setIfInBounds_toArray, List.set_cons_succ, List.set_cons_zero]
        refine ⟨_, _, (.slice A2 l.length c2), rfl, rfl, ⟨rfl, fun W hW => by have s1 := (HS2.out.below hW).s0; simp only [execOp]; go_simp; done⟩, ?_⟩
        simp only [Act.put, List.setIfInBounds_toArray, List.set_cons_succ, List.set_cons_zero]
        refine ⟨_, _, (.int .i64 (l.length : Int)), rfl, rfl, ⟨rfl, fun W hW => by simp only [execOp]; go_simp; done⟩, ?_⟩
        simp only [Act.put, List.setIfInBounds_toArray, List.set_cons_succ, List.set_cons_zero]
        refine ⟨_, _, (.int .i64 (pickI x l.length)), rfl, rfl, ⟨rfl, fun W hW => by clear hrun hown hb2; simp only [execOp]; go_simp; exact (HPK.out W).mono fun e w1 h => ⟨h.1, h.2.symm⟩⟩, ?_⟩
        simp only [Act.put, List.setIfInBounds_toArray, List.set_cons_succ, List.set_cons_zero]
        refine ⟨_, rfl, ?_⟩
        go_wp2_with fail
        refine ⟨rfl, hB8, ?_⟩
        refine ⟨_, rfl, ?_⟩
        refine Lib.wpList_append_run _ rfl (.tmp 32) (.tmp 41) 28 28 rfl _ _ rfl rfl _ _ hrun ?_
        refine ⟨rfl, hB9, ?_⟩
        refine ⟨_, rfl, ?_⟩
        go_wp2_with fail
        refine ⟨rfl, hB9, ?_⟩
        show ∃ v9 : Value, _
        refine ⟨v', ?_, HO2.out, hB9⟩
        first | rfl | simp only [Act.put, List.setIfInBounds_toArray, List.set_cons_succ, List.set_cons_zero]
      rintro a9 w9 ⟨v9, rfl, hO9, hBw9⟩
      simp only [Act.put, List.setIfInBounds_toArray, List.set_cons_succ, List.set_cons_zero]
      have HO9 := Lib.hid hO9
      have HB9 := Lib.hid hBw9
      clear hB8 hB9 hrun hown hb2 hBd s0 c0 HO HOd hO9 hBw9
      go_wp2_with fail
      go_roundw
      case measure => simp [intOf]; omega
      case rel => exact ⟨k + 1, by omega, by omega, by go_num, HO9.out, HB9.out⟩
    · have hbd := liveIn_bd roots (n := l.length) (by omega) k
      have hlen := length_liveIn roots l.length k
      have hown := HO.out
      obtain ⟨IN, hIN⟩ : ∃ IN, IN = liveIn roots l.length k := ⟨_, rfl⟩
      rw [← hIN] at hbd hlen hown
      clear HO hIN
      obtain ⟨A3, c3, rfl, hc3, hN⟩ := Own.reads hown
      obtain ⟨L, AT, hLV⟩ := lives HS.out IN hbd
      have hR6 := hLV.right
      have hlv := nodeLive_any A2 l c2 R A3 IN c3 wr ((HS2.out.below HB.out).rd) (by omega) hcap2 hN (by omega)
      rw [hLV.one] at hlv
      unfold storeV at hlv
      have HN := Lib.hid hN
      have HLV := Lib.hid hLV
      have s0 := (HS2.out.below HB.out).s0
      have s1 := (HS2.out.below HB.out).s1
      obtain ⟨m, hm⟩ : ∃ m, m = IN.length := ⟨_, rfl⟩
      rw [← hm] at hlv hc3 hlen
      rw [← hm]
      have HM := Lib.hid hm
      have hm5 : m ≤ 5 := by omega
      have hdec : (¬ (k : Int) < (roots.length : Int)) ∨ ((k : Int) < (roots.length : Int) ∧ ¬ (k : Int) < 5) := by omega
      have HBD := Lib.hid hbd
      have HR6 := Lib.hid hR6
      have HS2r := Lib.hid (HS2.out.below HB.out)
      have HBr := Lib.hid (Qt.more HB2.out HB2.out.size HB.out)
      clear hbd hlen hown hN hLV hm hR6 hlt
      rcases hdec with hd1 | ⟨hd1, hd2⟩
      all_goals
        go_wp2_with fail
        refine hlv.mono ?_
        intro e w3 h
        obtain ⟨A4, c4, B4, d4, rfl, hcap4, hd4, N4, M4, hb3⟩ := liveR_box h
        dsimp only at hcap4 hd4 N4 M4
        have hal := (Below.refl w3.heap.size w3).alloc (Nat.le_refl _) (.cells #[.slice A4 L.length c4, .int .i64 R] 25)
        have HS4 := Lib.hid (stB_new N4 hcap4 R)
        have HAT := Lib.hid ((show Now w3 B4 AT from M4).below hal)
        have HN4 := Lib.hid ((HN.out.below hb3).below hal)
        have HSo := Lib.hid ((HS2r.out.below hb3).below hal)
        have hB4 := Qt.more HBr.out HBr.out.size hb3
        have HB4 := Lib.hid (Qt.more hB4 hB4.size hal)
        clear h hlv hb3 N4 M4 hal hB4 s0 s1 HN HBr HS2r
        have hma := HLV.out.len
        rw [← HM.out] at hma
        have hlle : ¬ (l.length : Int) < (L.length : Int) := by have := HLV.out.less; omega
        have hlle2 : (L.length : Int) ≤ (l.length : Int) := by omega
        rw [hma]
        go_wp2_with fail
        generalize (w3.alloc (.cells #[.slice A4 L.length c4, .int .i64 R] 25)) = v4 at *
        generalize w3.heap.size = b4 at *
        have hright := nodeRight_any A4 L c4 R v4 HS4.out.rd (by have := HR6.out.small; omega) hcap4
        rw [right_iff.2 HR6.out] at hright
        unfold storeV at hright
        refine hright.mono ?_
        rintro e w5 ⟨rfl, hb5⟩
        have HS5 := Lib.hid (HS4.out.below hb5)
        have HSo5 := Lib.hid (HSo.out.below hb5)
        have HAT5 := Lib.hid (HAT.out.below hb5)
        have HN5 := Lib.hid (HN4.out.below hb5)
        have HB5 := Lib.hid (Qt.more HB4.out HB4.out.size hb5)
        have s0 := HS5.out.s0
        have s1 := HS5.out.s1
        have t0 := HSo5.out.s0
        have t1 := HSo5.out.s1
        clear hright hb5 HS4 HSo HAT HN4 HB4
        go_wp2_with fail
        clear s0 s1 t0 t1
        have HB05 := Lib.hid (Below.refl w5.heap.size w5)
        go_loopw [14] (fun i wr => ∃ n : Nat, n ≤ m ∧ i = .int .i64 n ∧ Hid (Below w5.heap.size w5 wr)) (fun i _ => m - (intOf i).toNat)
        case atStart => exact ⟨0, Nat.zero_le _, rfl, HB05.out⟩
        case round =>
          obtain ⟨n, hn, rfl, HBn⟩ := hrel
          by_cases hnm : n < m
          · have hnmz : (n : Int) < (m : Int) := by omega
            obtain ⟨r, p, er, ep, hr, hp, elv, epp, etx⟩ := HLV.out.at_ n (by rw [← HM.out]; exact hnm)
            have HE := Lib.hid etx
            have c0 := (HN5.out.below HBn.out) n (by rw [← HM.out]; exact hnm)
            have c1 := (HAT5.out.below HBn.out) n (by rw [hma]; exact hnm)
            rw [er] at c0
            rw [ep] at c1
            obtain ⟨q3, o3, rfl, _, c0⟩ := c0
            obtain ⟨q4, o4, rfl, _, c1⟩ := c1
            have hSn := HS5.out.below HBn.out
            have hTn := HSo5.out.below HBn.out
            have bt1 := fun W (hW : Below wr.heap.size wr W) => bits_all A4 L c4 R HR6.out hcap4 p hp W ((hSn.below hW).rd)
            have bt2 := fun W (hW : Below wr.heap.size wr W) => bits_all A2 l c2 R HS.out hcap2 r hr W ((hTn.below hW).rd)
            rw [etx] at bt1
            unfold storeV at bt1 bt2
            generalize txN l r = tx at *
            obtain ⟨g5, o5, rfl, hg5, hnd⟩ := hSn.nd (by omega)
            obtain ⟨g6, o6, rfl, hg6, hnd2⟩ := hTn.nd (by omega)
            have x0 := (hnd p hp).1
            have x5 := (hnd p hp).2.2.2.2.2
            have y0 := (hnd2 r hr).1
            have y5 := (hnd2 r hr).2.2.2.2.2
            rw [elv] at x0
            rw [epp] at x5
            generalize (l.getD r deadN).1 = lev at *
            generalize (l.getD r deadN).2.2 = pop at *
            have d1 : decide ((p : Int) < 0) = false := decide_eq_false (by omega)
            have d2 : decide (L.length ≤ p) = false := decide_eq_false (by omega)
            have d3 : decide ((L.length : Int) ≤ (p : Int)) = false := decide_eq_false (by omega)
            have hpz : (p : Int) < (L.length : Int) := by omega
            have hrz : (r : Int) < (l.length : Int) := by omega
            have z0 := hSn.s0
            have z1 := hSn.s1
            have u0 := hTn.s0
            have u1 := hTn.s1
            have k0 := Qt.cell_in c0
            have k1 := Qt.cell_in c1
            have k2 := Qt.cell_in x0
            have k3 := Qt.cell_in x5
            have k4 := Qt.cell_in y0
            have k5 := Qt.cell_in y5
            have k6 := Qt.cell_in z0
            have k7 := Qt.cell_in z1
            have k8 := Qt.cell_in u0
            have k9 := Qt.cell_in u1
            clear hnd hnd2 hSn hTn er ep elv epp etx x0 x5 y0 y5 c0 c1 z0 z1 u0 u1
            go_wp2_with fail
            refine Qt.below_all (by kernel_rfl) (by kernel_rfl) ?_
            simp only [List.append_eq, List.cons_append, List.nil_append]
            iterate 72 (go_big_quiet_step (first
              | (go_at_call_of 27 (some ⟨g5, o5, none⟩ : Option Addr); exact Qt.at_call' bt1)
              | (go_at_call_of 27 (some ⟨g6, o6, none⟩ : Option Addr); exact Qt.at_call' bt2)))
            refine wpQuiet_nil ?_
            intro w6 hb6
            have hB6 := Lib.hid (Qt.more HBn.out HBn.out.size hb6)
            clear hb6 bt1 bt2 k0 k1 k2 k3 k4 k5 k6 k7 k8 k9
            go_wp2_with fail
            go_roundw
            case measure => simp [intOf]; omega
            case rel => exact ⟨n + 1, by omega, by go_num, hB6.out⟩
          · obtain rfl : n = m := by omega
            have hkz : ¬ (n : Int) < (n : Int) := by omega
            have hS7 := Lib.hid (HS5.out.below HBn.out)
            have hlv2 := nodeLive_any A4 L c4 R B4 AT d4 wr (hS7.out.rd) (by have := HR6.out.small; omega) hcap4 (HAT5.out.below HBn.out) (by omega)
            rw [HLV.out.two, hma] at hlv2
            unfold storeV at hlv2
            have HA7 := Lib.hid (HAT5.out.below HBn.out)
            have HB7 := Lib.hid (Qt.more HB5.out HB5.out.size HBn.out)
            have s0 := hS7.out.s0
            have s1 := hS7.out.s1
            clear hnm HB05
            go_wp2_with fail
            refine hlv2.mono ?_
            intro e w8 h
            obtain ⟨A8, c8, B8, d8, rfl, hcap8, hd8, N8, M8, hb8⟩ := liveR_box h
            dsimp only at hcap8 hd8 N8 M8
            have hal := (Below.refl w8.heap.size w8).alloc (Nat.le_refl _) (.cells #[.slice A8 L.length c8, .int .i64 R] 25)
            have HS8 := Lib.hid (stB_new N8 hcap8 R)
            have HS9 := Lib.hid ((hS7.out.below hb8).below hal)
            have HM8 := Lib.hid ((show Now w8 B8 AT from M8).below hal)
            have HA8 := Lib.hid ((HA7.out.below hb8).below hal)
            have hB8 := Qt.more HB7.out HB7.out.size hb8
            have HB8 := Lib.hid (Qt.more hB8 hB8.size hal)
            have s0o := fun o => ((hS7.out.below hb8).below ((Below.refl w8.heap.size w8).alloc (Nat.le_refl _) o)).s0
            have s1o := fun o => ((hS7.out.below hb8).below ((Below.refl w8.heap.size w8).alloc (Nat.le_refl _) o)).s1
            clear h hlv2 hb8 N8 M8 hal hB8 s0 s1
            rw [hma]
            go_wp2_with fail
            clear s0o s1o
            generalize (w8.alloc (.cells #[.slice A8 L.length c8, .int .i64 R] 25)) = v8 at *
            generalize w8.heap.size = b8 at *
            have hsm := refSame6_any A4 L c4 R A8 L c8 R v8 HS9.out.rd HS8.out.rd (by have := HR6.out.small; omega) (by have := HR6.out.small; omega)
            rw [decide_eq_true (⟨rfl, rfl⟩ : R = R ∧ L = L)] at hsm
            unfold storeV at hsm
            refine hsm.mono ?_
            rintro e w9 ⟨rfl, hb9⟩
            have hin := ints_any (n := n) (n' := n) (c := d4) (c' := d8) (HA8.out.below hb9) (HM8.out.below hb9) hma.symm hma.symm (by omega)
            rw [decide_eq_true (rfl : AT = AT)] at hin
            have HB9 := Lib.hid (Qt.more HB8.out HB8.out.size hb9)
            clear hsm hb9
            go_wp2_with fail
            refine hin.mono ?_
            rintro e w10 ⟨rfl, hb10⟩
            have hBf := Qt.more HB9.out HB9.out.size hb10
            clear hin hb10
            go_wp2_with fail
            go_ret
            exact ⟨rfl, hBf⟩
end Go.Proofs.Ytcmdhochofoohaa
