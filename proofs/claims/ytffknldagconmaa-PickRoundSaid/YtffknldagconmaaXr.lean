/-
  PickRound: without picks workers go round: of those that are left none goes twice, ahead of another one that is left.
-/
import Derived.Test.YtffknldagconmaaB04
namespace Go.Proofs.Ytffknldagconmaa
set_option maxRecDepth 100000
set_option linter.unusedVariables false
set_option linter.unusedSimpArgs false
open Go.RowKit Go.Sort

def hadL (l : List Int) (j : Nat) : List Int := rowF l.length fun v => (hadP [] l v j : Int)
theorem hadL_len (l : List Int) (j : Nat) : (hadL l j).length = l.length := rowF_len _ _
theorem hadL_get (l : List Int) (j : Nat) {v : Nat} (h : v < l.length) : (hadL l j).getD v 0 = (hadP [] l v j : Int) := rowF_get _ h
theorem hadL_zero (l : List Int) : hadL l 0 = List.replicate l.length 0 := by
  unfold hadL rowF
  refine List.ext_getElem? fun i => ?_
  by_cases hi : i < l.length
  · rw [List.getElem?_map, List.getElem?_range hi, List.getElem?_replicate, if_pos hi]; rfl
  · rw [List.getElem?_eq_none (by simp; omega), List.getElem?_eq_none (by simp; omega)]
theorem hadL_succ (l : List Int) (j : Nat) : (hadL l j).set (tnP [] l j) ((hadP [] l (tnP [] l j) j : Int) + 1) = hadL l (j + 1) := by
  unfold hadL
  rw [rowF_set]
  refine rowF_congr fun v hv => ?_
  have hs : hadP [] l v (j + 1) = hadP [] l v j + if tnP [] l j = v then 1 else 0 := rfl
  rw [hs]
  by_cases e : v = tnP [] l j
  · subst e
    rw [if_pos rfl, if_pos rfl]
    omega
  · rw [if_neg e, if_neg (fun h => e h.symm), Nat.add_zero]
set_option maxHeartbeats 16000000 in
theorem pickRound_law (B : Option Addr) (raw : List Int) (d : Nat) (w : World) (hR : InL w B raw d) :
    Calls Try.prog 7 #[.slice B raw.length d] w fun e w' => e = .returned (.bool true) ∧ Below w.heap.size w w' := by
  have HR := Lib.hid hR
  clear hR
  go_enter Try.func7, Try.ntmps7
  go_wp2_with fail
  refine (awake11_any w).mono ?_
  rintro r w1 ⟨rfl, hb1⟩
  have HB1 := Lib.hid hb1
  clear hb1
  go_wp2_with fail
  refine (left11_any B raw d w1 (HR.out.now.below HB1.out) HR.out.len HR.out.fit).mono ?_
  rintro r w2 ⟨v2, rfl, ho2, hb2⟩
  obtain ⟨A2, c2, rfl, hc2, hN2⟩ := own_slice ho2
  have HB2 := Lib.hid (Qt.more HB1.out HB1.out.size hb2)
  have HN2 := Lib.hid hN2
  clear hb2 ho2 hN2 HB1 HR
  have hll := leftP_len raw
  have htt := left_tot raw
  have HM := Lib.hid (left_bd raw)
  generalize leftP raw = l at *
  have h3 := turns11_any none A2 [] l 0 c2 w2 (inl_nil _ _) HN2.out (by omega) HM.out (by omega)
  go_wp2_with fail
  refine h3.mono ?_
  rintro r w3 ⟨v3, rfl, ho3, hb3⟩
  obtain ⟨A3, c3, rfl, hc3, hN3⟩ := own_slice ho3
  rw [turns_len] at hc3
  rw [turns_len]
  have HB3 := Lib.hid (Qt.more HB2.out HB2.out.size hb3)
  have HN3 := Lib.hid hN3
  have HN23 := Lib.hid (HN2.out.below hb3)
  clear h3 hb3 ho3 hN3 HB2 HN2
  go_wp2_with fail
  go_loopw [6] (fun i wr => ∃ j : Nat, j ≤ totP l ∧ i = .int .i64 j ∧ Hid (Below w3.heap.size w3 wr)) (fun i _ => totP l - (intOf i).toNat)
  case atStart => exact ⟨0, Nat.zero_le _, rfl, Below.refl _ _⟩
  case round =>
    obtain ⟨j, hj, rfl, HBW⟩ := hrel
    by_cases hlt : j + 1 < totP l
    · have hjz : (j : Int) + 1 < (totP l : Int) := by omega
      obtain ⟨wm, hmk, hof, hg⟩ := makeW l.length (by omega) wr
      rw [← hadL_zero] at hof
      have hbm := HBW.out.trans ⟨hg.os, hg.tape, hg.output, hg.size, fun k hk => hg.block k (by have := HBW.out.size; omega) (by simp)⟩
      obtain ⟨D, hD⟩ : ∃ D, D = wr.heap.size := ⟨_, rfl⟩
      have hDq : w3.heap.size ≤ D := by rw [hD]; exact HBW.out.size
      rw [← hD] at hmk hof
      have HM0 := Lib.hid (And.intro hof hbm)
      have hn0 : 0 < l.length := by have := (tnP_ok [] l (show j < totP l by omega)).2.1; omega
      clear hof hg hbm hD HBW
      go_wp2_with fail
      clear hmk
      go_loopw [8] (fun k wr => ∃ i : Nat, i ≤ j + 1 ∧ k = .int .i64 i ∧ Hid (Own wr D (.slice (some ⟨D, 0, none⟩) l.length l.length) (hadL l i) ∧ Below w3.heap.size w3 wr)) (fun k _ => j + 1 - (intOf k).toNat)
      case atStart => exact ⟨0, Nat.zero_le _, rfl, HM0.out⟩
      case round =>
        obtain ⟨i, hi, rfl, HH⟩ := hrel
        by_cases hij : i ≤ j
        · have hijz : (i : Int) ≤ (j : Int) := by omega
          have hgt := turns_get [] l (show i < totP l by omega)
          obtain ⟨b, off, rfl, hbB, hcell⟩ := Rd.at_ HN3.out (by rw [turns_len]; omega)
          have y1 := (HH.out.2.cell (p := ⟨b, off + i, none⟩) hbB).trans (hcell i (by rw [turns_len]; omega))
          rw [hgt] at y1
          have hTl := (tnP_ok [] l (show i < totP l by omega)).2.1
          have hsu := hadL_succ l i
          obtain ⟨f1, f2⟩ := own_at HH.out.1 (hadL_len l i).symm (by rw [hadL_len]; omega)
          have y2 := f2 (tnP [] l i) (by rw [hadL_len]; exact hTl)
          rw [hadL_get l i hTl] at y2
          have yf := f1 (tnP [] l i)
          have hhb := hadP_le [] l (tnP [] l i) i
          have hput := own_put HH.out.1 (hadL_len l i).symm (tnP [] l i) ((hadP [] l (tnP [] l i) i : Int) + 1)
          rw [hsu] at hput
          have HFN : Hid (Own (wr.setCell ⟨D, tnP [] l i, none⟩ (.int .i64 ((hadP [] l (tnP [] l i) i : Int) + 1))) D (.slice (some ⟨D, 0, none⟩) l.length l.length) (hadL l (i + 1)) ∧ Below w3.heap.size w3 (wr.setCell ⟨D, tnP [] l i, none⟩ (.int .i64 ((hadP [] l (tnP [] l i) i : Int) + 1)))) := ⟨hput, HH.out.2.setCell (p := ⟨D, tnP [] l i, none⟩) hDq _⟩
          generalize hadP [] l (tnP [] l i) i = H1 at *
          generalize tnP [] l i = T at *
          have hTz : (T : Int) < (l.length : Int) := by omega
          have hH1 : H1 ≤ 100 := by omega
          have hiz : (i : Int) < (totP l : Int) := by omega
          clear hcell hgt hsu f1 f2 hput HH
          go_wp2_with fail
          go_roundw
          case measure => simp [intOf]; omega
          case rel => exact ⟨i + 1, by omega, by go_num, HFN.out⟩
        · obtain rfl : i = j + 1 := by omega
          have hijz : ¬ (((j + 1 : Nat)) : Int) ≤ (j : Int) := by omega
          have HH2 := HH
          clear HH
          go_wp2_with fail
          go_loopw [9] (fun x wr => ∃ v : Nat, v ≤ l.length ∧ x = .int .i64 v ∧ Hid (Own wr D (.slice (some ⟨D, 0, none⟩) l.length l.length) (hadL l (j + 1)) ∧ Below w3.heap.size w3 wr)) (fun x _ => l.length - (intOf x).toNat)
          case atStart => exact ⟨0, Nat.zero_le _, rfl, HH2.out⟩
          case round =>
            obtain ⟨v, hv, rfl, HH⟩ := hrel
            by_cases hvl : v < l.length
            · have hvz : (v : Int) < (l.length : Int) := by omega
              obtain ⟨f1, f2⟩ := own_at HH.out.1 (hadL_len l (j + 1)).symm (by rw [hadL_len]; omega)
              have y1 := f2 v (by rw [hadL_len]; exact hvl)
              rw [hadL_get l _ hvl] at y1
              obtain ⟨b2, off2, rfl, hbB2, hcell2⟩ := Rd.at_ HN23.out (by omega)
              have y2 := (HH.out.2.cell (p := ⟨b2, off2 + v, none⟩) hbB2).trans (hcell2 v hvl)
              obtain ⟨b, off, rfl, hbB, hcell⟩ := Rd.at_ HN3.out (by rw [turns_len]; omega)
              have hgt := turns_get [] l (show j < totP l by omega)
              have y3 := (HH.out.2.cell (p := ⟨b, off + j, none⟩) hbB).trans (hcell j (by rw [turns_len]; omega))
              rw [hgt] at y3
              have hTl := (tnP_ok [] l (show j < totP l by omega)).2.1
              have y4 := f2 (tnP [] l j) (by rw [hadL_len]; exact hTl)
              rw [hadL_get l _ hTl] at y4
              have hnear := round_near (l := l) (fun k => (HM.out k).1) (show j < totP l by omega) hvl
              have hhb := hadP_le [] l v (j + 1)
              obtain ⟨x, hx⟩ : ∃ x, x = l.getD v 0 := ⟨_, rfl⟩
              rw [← hx] at y2 hnear
              generalize hadP [] l v (j + 1) = H1 at *
              generalize hadP [] l (tnP [] l j) (j + 1) = H2 at *
              generalize tnP [] l j = T at *
              have hTz : (T : Int) < (l.length : Int) := by omega
              have hH1 : H1 ≤ 100 := by omega
              have hjt : (j : Int) < (totP l : Int) := by omega
              have q1 := Qt.cell_in y1
              have q2 := Qt.cell_in y2
              have q3 := Qt.cell_in y3
              have q4 := Qt.cell_in y4
              have s1 : IntKind.i64.wrap ((H1 : Int) + 1) = (H1 : Int) + 1 := by rw [IntKind.wrap_i64]; omega
              clear hcell hcell2 hgt f1 f2 y1 y2 y3 y4 hx
              by_cases hlv : (H1 : Int) < x
              · have hdc : decide ((H1 : Int) < x) = true := decide_eq_true hlv
                have hne : ¬ ((H1 : Int) + 1 < (H2 : Int)) := by have := hnear hlv; omega
                have hnd : decide ((H1 : Int) + 1 < (H2 : Int)) = false := decide_eq_false hne
                clear hnear
                go_wp2_with fail
                refine Qt.below_all (by kernel_rfl) (by kernel_rfl) ?_
                repeat (go_big_quiet_step (fail))
                refine wpQuiet_nil ?_
                intro w5 hb5
                have HN : Hid (Own w5 D (.slice (some ⟨D, 0, none⟩) l.length l.length) (hadL l (j + 1)) ∧ Below w3.heap.size w3 w5) := ⟨own_next HH.out.1 hb5, Qt.more HH.out.2 HH.out.2.size hb5⟩
                clear q1 q2 q3 q4 s1 hb5 HH
                go_wp2_with fail
                go_roundw
                case measure => simp [intOf]; omega
                case rel => exact ⟨v + 1, by omega, by go_num, HN.out⟩
              · have hdc : decide ((H1 : Int) < x) = false := decide_eq_false hlv
                clear hnear
                go_wp2_with fail
                refine Qt.below_all (by kernel_rfl) (by kernel_rfl) ?_
                repeat (go_big_quiet_step (fail))
                refine wpQuiet_nil ?_
                intro w5 hb5
                have HN : Hid (Own w5 D (.slice (some ⟨D, 0, none⟩) l.length l.length) (hadL l (j + 1)) ∧ Below w3.heap.size w3 w5) := ⟨own_next HH.out.1 hb5, Qt.more HH.out.2 HH.out.2.size hb5⟩
                clear q1 q2 q3 q4 s1 hb5 HH
                go_wp2_with fail
                go_roundw
                case measure => simp [intOf]; omega
                case rel => exact ⟨v + 1, by omega, by go_num, HN.out⟩
            · obtain rfl : v = l.length := by omega
              have hvz : ¬ (l.length : Int) < (l.length : Int) := by omega
              have HN := Lib.hid HH.out.2
              clear HH
              go_wp2_with fail
              go_roundw
              case measure => simp [intOf]; omega
              case rel => exact ⟨j + 1, by omega, by go_num, HN.out⟩
    · have hjz : ¬ ((j : Int) + 1 < (totP l : Int)) := by omega
      go_wp2_with fail
      go_ret
      exact ⟨rfl, HB3.out.trans (HBW.out.mono HB3.out.size)⟩
end Go.Proofs.Ytffknldagconmaa
