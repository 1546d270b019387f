/-
  A slice of cells read as a list; whether a list is a set, in the program and in the document's answer.
-/
import Derived.Test.YtafoleafhkadiaaCa
import Derived.Deep.LoopGhost
namespace Go.Proofs.Ytafoleafhkadiaa
open Go.RowKit Go.Sort

/-- The slice at A of l.length cells (two numbers each) reads as l, below block B. -/
def Rd (w : World) (B : Nat) (A : Option Addr) (l : List (Int × Int)) : Prop :=
  ∀ j, j < l.length → ∃ b off, A = some ⟨b, off, none⟩ ∧ b < B ∧ w.cell? ⟨b, off + j * 2, none⟩ = some (.int .i64 (l.getD j (0, 0)).1) ∧ w.cell? ⟨b, off + j * 2 + 1, none⟩ = some (.int .i64 (l.getD j (0, 0)).2)

theorem Rd.below {w w' : World} {B B' : Nat} {A : Option Addr} {l : List (Int × Int)} (h : Rd w B A l) (hb : Below B' w w') (hB : B ≤ B') : Rd w' B A l := fun j hj => by
  obtain ⟨b, off, e, hlt, h0, h1⟩ := h j hj
  exact ⟨b, off, e, hlt, (hb.cell (p := ⟨b, off + j * 2, none⟩) (Nat.lt_of_lt_of_le hlt hB)).trans h0, (hb.cell (p := ⟨b, off + j * 2 + 1, none⟩) (Nat.lt_of_lt_of_le hlt hB)).trans h1⟩

theorem Rd.more {w : World} {B B' : Nat} {A : Option Addr} {l : List (Int × Int)} (h : Rd w B A l) (hB : B ≤ B') : Rd w B' A l := fun j hj => by
  obtain ⟨b, off, e, hlt, h0, h1⟩ := h j hj
  exact ⟨b, off, e, by omega, h0, h1⟩

theorem Rd.nil (w : World) (B : Nat) (A : Option Addr) : Rd w B A [] := fun j hj => absurd hj (Nat.not_lt_zero j)

/-- where the elements lie: one place for all. -/
theorem Rd.at_ {w : World} {B : Nat} {A : Option Addr} {l : List (Int × Int)} (h : Rd w B A l) (hn : 0 < l.length) :
    ∃ b off, A = some ⟨b, off, none⟩ ∧ b < B ∧ ∀ j, j < l.length → w.cell? ⟨b, off + j * 2, none⟩ = some (.int .i64 (l.getD j (0, 0)).1) ∧ w.cell? ⟨b, off + j * 2 + 1, none⟩ = some (.int .i64 (l.getD j (0, 0)).2) := by
  obtain ⟨b, off, e, hlt, _, _⟩ := h 0 hn
  refine ⟨b, off, e, hlt, fun j hj => ?_⟩
  obtain ⟨b', off', e', _, h0, h1⟩ := h j hj
  rw [e] at e'
  injection e' with e'
  injection e' with e1 e2
  subst e1 e2
  exact ⟨h0, h1⟩

theorem beyond_no (p : Int × Int) (h : inB p = true) (w : World) : Calls Try.prog 39 #[.agg #[.int .i64 p.1, .int .i64 p.2]] w fun e w' => e = .returned (.bool false) ∧ Below w.heap.size w w' := by
  have := beyond_any p w; rw [h] at this; exact this
theorem beyond_yes (p : Int × Int) (h : inB p = false) (w : World) : Calls Try.prog 39 #[.agg #[.int .i64 p.1, .int .i64 p.2]] w fun e w' => e = .returned (.bool true) ∧ Below w.heap.size w w' := by
  have := beyond_any p w; rw [h] at this; exact this

set_option maxHeartbeats 1000000 in
theorem right_any (A : Option Addr) (l : List (Int × Int)) (c : Nat) (w : World) (hR : Rd w w.heap.size A l) (hl : l.length ≤ 1000000) (hc : l.length ≤ c) :
    Calls Try.prog 17 #[.slice A l.length c] w fun e w' => e = .returned (.bool (rightB l)) ∧ Below w.heap.size w w' := by
  by_cases hlong : 2000 < l.length
  · rw [rightB_long hlong]
    have hz : (2000 : Int) < (l.length : Int) := by omega
    go_enter Try.func17, Try.ntmps17
    go_wp2
    go_ret
    exact ⟨rfl, Below.refl _ _⟩
  · have hz : ¬ (2000 : Int) < (l.length : Int) := by omega
    generalize hr : rightB l = r
    have HR := Lib.hid hr
    clear hr
    go_enter Try.func17, Try.ntmps17
    go_wp2
    go_loopw [10] (fun i wr => ∃ k : Nat, k ≤ l.length ∧ i = .int .i64 k ∧ Hid (∀ j, j < k → okAt l j = true) ∧ Below w.heap.size w wr) (fun i _ => l.length - (intOf i).toNat)
    case atStart => exact ⟨0, Nat.zero_le _, rfl, fun j hj => absurd hj (Nat.not_lt_zero j), Below.refl _ _⟩
    case round =>
      obtain ⟨k, hk, rfl, HK, hb⟩ := hrel
      by_cases hlt : k < l.length
      · have hltz : (k : Int) < (l.length : Int) := by omega
        obtain ⟨b, off, rfl, hbB, hcell⟩ := (hR.below hb (Nat.le_refl _)).at_ (by omega)
        have hsz := hb.size
        obtain ⟨⟨x, y⟩, hxy⟩ : ∃ p, p = l.getD k (0, 0) := ⟨_, rfl⟩
        have c0 := (hcell k hlt).1
        have c1 := (hcell k hlt).2
        rw [← hxy] at c0 c1
        simp only at c0 c1
        have HXY := Lib.hid hxy
        clear hxy
        by_cases hin : inB (x, y) = true
        · rcases Nat.eq_zero_or_pos k with hk0 | hk0
          · clear hcell
            have hkd : decide (0 < k) = false := by simp; omega
            have hok : okAt l k = true := by unfold okAt; rw [← HXY.out, hin, hk0]; rfl
            have HOK := Lib.hid hok
            clear hk0 hok
            go_wp2
            have k0 := Qt.cell_in (w := wr.alloc (.cells #[.int .i64 x, .int .i64 y] 25)) (a := ⟨wr.heap.size, 0, none⟩) (v := .int .i64 x) (by simp)
            have k1 := Qt.cell_in (w := wr.alloc (.cells #[.int .i64 x, .int .i64 y] 25)) (a := ⟨wr.heap.size, 1, none⟩) (v := .int .i64 y) (by simp)
            refine Qt.below_all (by kernel_rfl) (by kernel_rfl) ?_
            repeat (go_big_quiet_step (first | (go_at_call 39; exact Qt.at_call (beyond_no (x, y) hin))))
            refine wpQuiet_nil ?_
            intro w1 hb1
            go_wp2
            go_roundw
            case measure => simp [intOf]; omega
            case rel =>
              refine ⟨k + 1, by omega, by go_num, (show Hid _ from fun j hj => ?_), (hb.alloc hsz _).trans (hb1.mono (by simp; omega))⟩
              by_cases hjk : j = k
              · subst hjk; exact HOK.out
              · exact HK.out j (by omega)
          · obtain ⟨kp, rfl⟩ : ∃ kp, k = kp + 1 := ⟨k - 1, by omega⟩
            obtain ⟨⟨px, py⟩, hp⟩ : ∃ p, p = l.getD kp (0, 0) := ⟨_, rfl⟩
            have p0 := (hcell kp (by omega)).1
            have p1 := (hcell kp (by omega)).2
            rw [← hp] at p0 p1
            simp only at p0 p1
            have HP := Lib.hid hp
            clear hp hcell
            by_cases hcm : cmpP (px, py) (x, y) < 0
            · have hok : okAt l (kp + 1) = true := by unfold okAt; rw [← HXY.out, hin, Nat.add_sub_cancel, ← HP.out]; simpa using hcm
              have HOK := Lib.hid hok
              clear hok
              go_wp2
              have k0 := Qt.cell_in (w := wr.alloc (.cells #[.int .i64 x, .int .i64 y] 25)) (a := ⟨wr.heap.size, 0, none⟩) (v := .int .i64 x) (by simp)
              have k1 := Qt.cell_in (w := wr.alloc (.cells #[.int .i64 x, .int .i64 y] 25)) (a := ⟨wr.heap.size, 1, none⟩) (v := .int .i64 y) (by simp)
              have k2 := Qt.cell_in (w := wr.alloc (.cells #[.int .i64 x, .int .i64 y] 25)) (a := ⟨b, off + kp * 2, none⟩) (v := .int .i64 px) (by rw [World.cell?_alloc_lt _ _ _ (by exact Nat.lt_of_lt_of_le hbB hsz)]; exact p0)
              have k3 := Qt.cell_in (w := wr.alloc (.cells #[.int .i64 x, .int .i64 y] 25)) (a := ⟨b, off + kp * 2 + 1, none⟩) (v := .int .i64 py) (by rw [World.cell?_alloc_lt _ _ _ (by exact Nat.lt_of_lt_of_le hbB hsz)]; exact p1)
              refine Qt.below_all (by kernel_rfl) (by kernel_rfl) ?_
              repeat (go_big_quiet_step (first | (go_at_call 39; exact Qt.at_call (beyond_no (x, y) hin)) | (go_at_call 42; exact Qt.at_call (compare_any (px, py) (x, y)))))
              refine wpQuiet_nil ?_
              intro w1 hb1
              go_wp2
              go_roundw
              case measure => simp [intOf]; omega
              case rel =>
                refine ⟨kp + 1 + 1, by omega, by go_num, (show Hid _ from fun j hj => ?_), (hb.alloc hsz _).trans (hb1.mono (by simp; omega))⟩
                by_cases hjk : j = kp + 1
                · subst hjk; exact HOK.out
                · exact HK.out j (by omega)
            · have hok : okAt l (kp + 1) = false := by unfold okAt; rw [← HXY.out, hin, Nat.add_sub_cancel, ← HP.out]; simpa using hcm
              have HNO := Lib.hid (rightB_no hlt hok)
              clear hok
              go_wp2
              have k0 := Qt.cell_in (w := wr.alloc (.cells #[.int .i64 x, .int .i64 y] 25)) (a := ⟨wr.heap.size, 0, none⟩) (v := .int .i64 x) (by simp)
              have k1 := Qt.cell_in (w := wr.alloc (.cells #[.int .i64 x, .int .i64 y] 25)) (a := ⟨wr.heap.size, 1, none⟩) (v := .int .i64 y) (by simp)
              have k2 := Qt.cell_in (w := wr.alloc (.cells #[.int .i64 x, .int .i64 y] 25)) (a := ⟨b, off + kp * 2, none⟩) (v := .int .i64 px) (by rw [World.cell?_alloc_lt _ _ _ (by exact Nat.lt_of_lt_of_le hbB hsz)]; exact p0)
              have k3 := Qt.cell_in (w := wr.alloc (.cells #[.int .i64 x, .int .i64 y] 25)) (a := ⟨b, off + kp * 2 + 1, none⟩) (v := .int .i64 py) (by rw [World.cell?_alloc_lt _ _ _ (by exact Nat.lt_of_lt_of_le hbB hsz)]; exact p1)
              refine Qt.below_all (by kernel_rfl) (by kernel_rfl) ?_
              repeat (go_big_quiet_step (first | (go_at_call 39; exact Qt.at_call (beyond_no (x, y) hin)) | (go_at_call 42; exact Qt.at_call (compare_any (px, py) (x, y)))))
              refine wpQuiet_nil ?_
              intro w1 hb1
              go_wp2
              go_ret
              exact ⟨by rw [← HR.out, HNO.out]; rfl, (hb.alloc hsz _).trans (hb1.mono (by simp; omega))⟩
        · have hin' : inB (x, y) = false := by simpa using hin
          have hok : okAt l k = false := by unfold okAt; rw [← HXY.out, hin']; rfl
          have HNO := Lib.hid (rightB_no hlt hok)
          clear hok hcell hin
          go_wp2
          have k0 := Qt.cell_in (w := wr.alloc (.cells #[.int .i64 x, .int .i64 y] 25)) (a := ⟨wr.heap.size, 0, none⟩) (v := .int .i64 x) (by simp)
          have k1 := Qt.cell_in (w := wr.alloc (.cells #[.int .i64 x, .int .i64 y] 25)) (a := ⟨wr.heap.size, 1, none⟩) (v := .int .i64 y) (by simp)
          refine Qt.below_all (by kernel_rfl) (by kernel_rfl) ?_
          repeat (go_big_quiet_step (first | (go_at_call 39; exact Qt.at_call (beyond_yes (x, y) hin'))))
          refine wpQuiet_nil ?_
          intro w1 hb1
          go_wp2
          go_ret
          exact ⟨by rw [← HR.out, HNO.out]; rfl, (hb.alloc hsz _).trans (hb1.mono (by simp; omega))⟩
      · have hltz : ¬ (k : Int) < (l.length : Int) := by omega
        have hkl : k = l.length := by omega
        have e : rightB l = true := rightB_yes (by omega) fun j hj => HK.out j (by omega)
        have E := Lib.hid e
        clear e HK hkl
        go_wp2
        go_ret
        exact ⟨by rw [← HR.out, E.out]; rfl, hb⟩

end Go.Proofs.Ytafoleafhkadiaa
