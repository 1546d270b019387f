/-
  PickTurns: each worker has as many turns as it has steps left; each turn is of one that is left.
-/
import Derived.Test.YtffknldagconmaaB03
namespace Go.Proofs.Ytffknldagconmaa
set_option maxRecDepth 100000
set_option linter.unusedVariables false
set_option linter.unusedSimpArgs false
open Go.RowKit Go.Sort

theorem totP_le (m : Nat) : ∀ (l : List Int), (∀ k, l.getD k 0 ≤ (m : Int)) → totP l ≤ m * l.length := by
  intro l
  induction l with
  | nil => intro _; exact Nat.le_refl _
  | cons x l ih =>
    intro h
    have h0 := h 0
    have h1 := ih fun k => by have := h (k + 1); simpa using this
    simp only [List.getD_cons_zero] at h0
    unfold totP
    rw [List.length_cons, Nat.mul_succ]
    omega
theorem left_tot (raw : List Int) : totP (leftP raw) ≤ 70 := by
  have h1 := totP_le 7 (leftP raw) fun k => (leftP_bd raw k).2
  have h2 := leftP_len raw
  omega
theorem left_bd (raw : List Int) : ∀ k, 0 ≤ (leftP raw).getD k 0 ∧ (leftP raw).getD k 0 ≤ 1000000 := fun k => by have := leftP_bd raw k; omega
theorem zero_end {picks l : List Int} (h : ∀ k, 0 ≤ l.getD k 0 ∧ l.getD k 0 ≤ 1000000) (k : Nat) : (stP picks l (totP l)).1.getD k 0 = 0 := by
  have h1 := stP_end picks l
  have h2 := stP_bd picks l 1000000 h (totP l) (Nat.le_refl _) k
  by_cases h3 : 0 < (stP picks l (totP l)).1.getD k 0
  · have := live_many h3; omega
  · omega
theorem own_now {w : World} {B n c : Nat} {A : Option Addr} {l : List Int} (h : Own w B (.slice A n c) l) (hn : n = l.length) : Now w A l := by
  subst hn
  obtain ⟨A', c', e, _, hN⟩ := h.reads
  injection e with e1
  subst e1
  exact hN
set_option maxHeartbeats 16000000 in
theorem pickTurns_law (A : Option Addr) (picks : List Int) (c : Nat) (B : Option Addr) (raw : List Int) (d : Nat) (w : World) (hP : InL w A picks c) (hR : InL w B raw d) :
    Calls Try.prog 4 #[.slice A picks.length c, .slice B raw.length d] w fun e w' => e = .returned (.bool true) ∧ Below w.heap.size w w' := by
  have HP := Lib.hid hP
  have HR := Lib.hid hR
  clear hP hR
  go_enter Try.func4, Try.ntmps4
  go_wp2_with fail
  refine (awake11_any w).mono ?_
  rintro r w1 ⟨rfl, hb1⟩
  have HB1 := Lib.hid hb1
  clear hb1
  go_wp2_with fail
  refine (left11_any B raw d w1 (HR.out.now.below HB1.out) HR.out.len HR.out.fit).mono ?_
  rintro r w2 ⟨v2, rfl, ho2, hb2⟩
  obtain ⟨A2, c2, rfl, hc2, hN2⟩ := own_slice ho2
  have HB2 := Lib.hid (Qt.more HB1.out HB1.out.size hb2)
  have HN2 := Lib.hid hN2
  clear hb2 ho2 hN2 HB1 HR
  have hll := leftP_len raw
  have htt := left_tot raw
  have HM := Lib.hid (left_bd raw)
  generalize leftP raw = l at *
  have h3 := turns11_any A A2 picks l c c2 w2 (HP.out.below HB2.out) HN2.out (by omega) HM.out (by omega)
  go_wp2_with fail
  refine h3.mono ?_
  rintro r w3 ⟨v3, rfl, ho3, hb3⟩
  obtain ⟨A3, c3, rfl, hc3, hN3⟩ := own_slice ho3
  rw [turns_len] at hc3
  rw [turns_len]
  obtain ⟨vN, w4, hrun, hown, hgr⟩ := appW_any (out := []) (A := A2) c2 (Nat.le_refl _) (World.ownsRow_nil w3 w3.heap.size 3 1) (HN2.out.below hb3) (by simp; omega)
  rw [List.nil_append] at hown
  obtain ⟨AN, cN, rfl, hcN, _⟩ := own_slice hown
  have hb4 : Below w3.heap.size w3 w4 := (Below.refl _ _).grown hgr (Nat.le_refl _) (fun k e => by simp [Value.ownBlock] at e)
  have HB3 := Lib.hid (Qt.more HB2.out HB2.out.size hb3)
  have HN3 := Lib.hid hN3
  have HRun := Lib.hid hrun
  have HO := Lib.hid (And.intro hown hb4)
  clear h3 hb3 ho3 hN3 hrun hown hgr hb4 HB2 HN2
  go_wp2_with (at_builtin; refine Lib.wpList_append_run _ rfl (.const (.slice none 0 0)) (.tmp 19) 22 22 rfl _ _ rfl rfl _ _ HRun.out ?_)
  clear HRun
  go_loopw [9, 10] (fun la i wr => ∃ j : Nat, j ≤ totP l ∧ i = .int .i64 j ∧ la = .int .i64 (stP picks l j).2 ∧ Hid (Own wr w3.heap.size (.slice AN l.length cN) (stP picks l j).1 ∧ Below w3.heap.size w3 wr)) (fun _ i _ => totP l - (intOf i).toNat)
  case atStart => exact ⟨0, Nat.zero_le _, rfl, rfl, HO.out⟩
  case round =>
    obtain ⟨j, hj, rfl, rfl, HH⟩ := hrel
    obtain ⟨h1, h2⟩ := HH.out
    have hsl := (stP_ok picks l j hj).2
    have hla := stP_last picks hj
    have hfit := stP_i64 (picks := picks) HM.out hj
    have hInN : InL wr AN (stP picks l j).1 cN := ⟨own_now h1 hsl.symm, by omega, hfit⟩
    have hInP := (HP.out.below HB3.out).below h2
    have hnx := next11_any A AN picks (stP picks l j).1 c cN (j : Int) (stP picks l j).2 wr hInP hInN (by omega) ⟨by omega, by omega⟩ ⟨by omega, by omega⟩
    rw [hsl] at hnx
    by_cases hlt : j < totP l
    · obtain ⟨t1, t2, t3, t4⟩ := tnP_ok picks l hlt
      have hss := stP_succ picks l j
      have hgt := turns_get picks l hlt
      rw [t4] at hnx
      obtain ⟨T, hT⟩ : ∃ T, T = tnP picks l j := ⟨_, rfl⟩
      rw [← hT] at t2 t3 hss hgt hnx
      obtain ⟨⟨l2, last⟩, hs⟩ : ∃ s, s = stP picks l j := ⟨_, rfl⟩
      rw [← hs] at h1 hsl hla hfit hnx t3 hss ⊢
      simp only at h1 hsl hla hfit hnx t3 hss ⊢
      obtain ⟨b, off, rfl, hbB, hcell⟩ := Rd.at_ HN3.out (by rw [turns_len]; omega)
      have y1 := (h2.cell (p := ⟨b, off + j, none⟩) hbB).trans (hcell j (by rw [turns_len]; exact hlt))
      rw [hgt] at y1
      have hTl : T < l2.length := by omega
      have h1' := h1
      rw [← hsl] at h1'
      obtain ⟨g, rfl, hgq, hgl, hgf, hgc⟩ := own_row h1' (by omega)
      have y0 := hgc T hTl
      have yf := hgf T
      have hx := hfit T hTl
      obtain ⟨x, hxx⟩ : ∃ x, x = l2.getD T 0 := ⟨_, rfl⟩
      rw [← hxx] at y0 hss hx t3
      obtain ⟨x1, x2⟩ := hx
      have hput := own_put h1' rfl T (x - 1)
      rw [hsl] at hput
      have HFN : Hid (Own (wr.setCell ⟨g, T, none⟩ (.int .i64 (x - 1))) w3.heap.size (.slice (some ⟨g, 0, none⟩) l.length cN) (stP picks l (j + 1)).1 ∧ Below w3.heap.size w3 (wr.setCell ⟨g, T, none⟩ (.int .i64 (x - 1)))) :=
        ⟨by rw [hss]; exact hput, h2.setCell (p := ⟨g, T, none⟩) hgq _⟩
      have HS2 := Lib.hid hss
      have hTz : ¬ ((T : Int) < 0) := by omega
      have hTn : ¬ ((l.length : Int) ≤ (T : Int)) := by omega
      have hTlz : (T : Int) < (l.length : Int) := by omega
      have hjz : (j : Int) < (totP l : Int) := by omega
      have hx1 : ¬ x < 1 := by omega
      have hTT : ((T : Int) != (T : Int)) = false := by simp
      clear h1 h2 hla hfit t1 t2 t4 hss hT hs h1' hput hgf hgc hxx hsl HH hgq hgl hInN hInP hgt hcell
      go_wp2_with fail
      refine hnx.mono ?_
      rintro e w5 ⟨rfl, hw5⟩
      subst hw5
      clear hnx
      go_wp2_with fail
      go_roundw
      case measure => simp [intOf]; omega
      case rel => exact ⟨j + 1, by omega, by go_num, by rw [HS2.out], HFN.out⟩
    · obtain rfl : j = totP l := by omega
      rw [nextP_end] at hnx
      have hz := zero_end (picks := picks) HM.out
      generalize (stP picks l (totP l)).2 = last at *
      have hnz : ∀ k, (stP picks l (totP l)).1.getD k 0 = 0 := hz
      generalize (stP picks l (totP l)).1 = l2 at *
      have HNX := Lib.hid hnx
      have HZ := Lib.hid hnz
      have HSL := Lib.hid hsl
      have HBE := Lib.hid (HB3.out.trans (h2.mono HB3.out.size))
      have HON := Lib.hid (own_now h1 hsl.symm)
      have hjz : ¬ (totP l : Int) < (totP l : Int) := by omega
      clear h1 h2 hla hfit hsl hInN hInP hnx hz hnz HH
      go_wp2_with fail
      obtain ⟨wo, rfl⟩ : ∃ wo : World, wo = wr := ⟨_, rfl⟩
      go_loopw [12] (fun i wr => ∃ k : Nat, k ≤ l.length ∧ i = .int .i64 k ∧ wr = wo) (fun i _ => l.length - (intOf i).toNat)
      case atStart => exact ⟨0, Nat.zero_le _, rfl, rfl⟩
      case round =>
        obtain ⟨k, hk, rfl, hwr2⟩ := hrel
        subst hwr2
        by_cases hkl : k < l.length
        · have hkz : (k : Int) < (l.length : Int) := by omega
          obtain ⟨b, off, rfl, hbB, hcell⟩ := Rd.at_ HON.out (by have := HSL.out; omega)
          have y0 := hcell k (by have := HSL.out; omega)
          rw [HZ.out k] at y0
          clear hcell
          go_wp2_with fail
          go_roundw
          case measure => simp [intOf]; omega
          case rel => exact ⟨k + 1, by omega, by go_num, by first | trivial | rfl⟩
        · obtain rfl : k = l.length := by omega
          have hkz : ¬ (l.length : Int) < (l.length : Int) := by omega
          have hnx := HNX.out
          go_wp2_with fail
          refine hnx.mono ?_
          rintro e w5 ⟨rfl, hw5⟩
          subst hw5
          clear hnx
          go_wp2_with fail
          go_ret
          exact ⟨rfl, HBE.out⟩
end Go.Proofs.Ytffknldagconmaa
