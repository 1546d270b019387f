/-
  Texts that the claims of this seat share, part 19.
-/
import Derived.Test.YtocepdhjkhhpfaaB15
import Derived.Test.YtocepdhjkhhpfaaB18
import Derived.Test.YtocepdhjkhhpfaaB03
import Derived.Test.YtocepdhjkhhpfaaRows
import Derived.Test.YtocepdhjkhhpfaaB06
import Derived.Lib.SmallJoins
set_option linter.unusedVariables false
set_option linter.unusedSimpArgs false
namespace Go.Proofs.Ytocepdhjkhhpfaa
set_option maxRecDepth 100000
set_option linter.unusedVariables false
set_option linter.unusedSimpArgs false
open Go.RowKit Go.Sort

/-- how a list goes on -/
theorem ChainO.drop {o : Nat} {m : List Int} : ∀ {F : List Nat} (k : Nat), ChainO o m F → ChainO o m (F.drop k)
  | F, 0, h => by rw [List.drop_zero]; exact h
  | [], k + 1, h => trivial
  | x :: r, k + 1, h => ChainO.drop k h.2
def topN : List Nat → Nat | [] => 0 | x :: _ => x + 1
theorem topN_int (F : List Nat) : topF F = (topN F : Int) := by cases F <;> rfl
theorem hdH_small {n : Nat} (h : n ≤ 1000) : hdH (n : Int) = n := by unfold hdH; rw [if_neg (by omega)]; omega
def frI (F : List Nat) (k : Nat) : List Int := (F.take k).map fun (x : Nat) => (x : Int)
set_option maxHeartbeats 8000000 in
theorem refFree14_any {o N c B : Nat} {m : List Int} {F : List Nat} {A : Option Addr} {cap : Nat} (w : World) (hh : m.getD o 0 = (c : Int) * 1048576 + topF F) (hch : ChainO o m F) (hlt : ∀ x ∈ F, x < N) (hlen : F.length ≤ 1000) (hN : N ≤ 1000) (ho : o + N + 1 = m.length) (hol : o ≤ 100000) (hB : B ≤ w.heap.size) (hO : Own w B (.slice A m.length cap) m) :
    Calls Try.prog 34 #[.slice A m.length cap, .int .i64 o] w (NumsR (F.map fun (x : Nat) => (x : Int)) w) := by
  obtain ⟨g, rfl, -, hc, hm, hg1, hg2, hcell⟩ := own_cap hO (by omega)
  have ht := topF_bd hlt
  obtain ⟨z, hz⟩ : ∃ z, z = m.getD o 0 := ⟨_, rfl⟩
  have hH := fun W => refH_any z W
  have hzz : hdH z = (topN F : Int) := by rw [hz, hh, head_H ht.1 (by omega), topN_int]
  rw [hzz] at hH
  have y0 := hcell o (by omega)
  rw [← hz] at y0
  have HC := Lib.hid hcell
  have HI := Lib.hid (And.intro hch (And.intro hlt (And.intro hlen (And.intro hN (And.intro ho hg2)))))
  have hoz : (o : Int) < (m.length : Int) := by omega
  have hgw : g < w.heap.size := hg2
  clear hc hm hg1 hg2 hcell hO hB hch hlt hlen hN ho ht hzz hz hh
  go_enter Try.func34, Try.ntmps34
  go_wp2_with fail
  refine (hH _).mono ?_
  rintro e w1 ⟨rfl, rfl⟩
  clear hH y0
  go_wp2_with fail
  go_loopw [5, 6] (fun v i wr => ∃ k : Nat, k ≤ F.length ∧ i = .int .i64 (topN (F.drop k) : Nat) ∧ Hid (Own wr w.heap.size v (frI F k) ∧ Below w.heap.size w wr)) (fun v _ _ => 1000 - lenV v)
  case atStart => exact ⟨0, Nat.zero_le _, rfl, (show Hid _ from ⟨World.ownsRow_nil _ _ _ _, Below.refl _ _⟩)⟩
  case round =>
    obtain ⟨k, hk, rfl, HH⟩ := hrel
    obtain ⟨hO, hB⟩ := HH.out
    obtain ⟨hch, hlt, hlen, hN, ho, hg2⟩ := HI.out
    obtain ⟨A2, c2, rfl, hc2, _⟩ := own_slice hO
    have hfl : (frI F k).length = k := by unfold frI; rw [List.length_map, List.length_take]; omega
    have hcd := hch.drop k
    cases hD : F.drop k with
    | nil =>
      have hkF : k = F.length := by
        have := congrArg List.length hD
        rw [List.length_drop, List.length_nil] at this
        omega
      have hall : frI F k = F.map fun (x : Nat) => (x : Int) := by unfold frI; rw [hkF, List.take_length]
      rw [hall] at hO
      rw [show (frI F k).length = (F.map fun (x : Nat) => (x : Int)).length by rw [hall]]
      have HN := Lib.hid (And.intro hO hB)
      have ht0 : topN ([] : List Nat) = 0 := rfl
      rw [ht0]
      clear hall hkF hO hB hch hlt hlen hN ho hg2 hfl hcd hc2 HH hD ht0
      go_wp2
      go_ret
      exact ⟨_, rfl, HN.out.1, HN.out.2⟩
    | cons x r =>
      have hxm : x ∈ F := List.mem_of_mem_drop (by rw [hD]; simp)
      have hx := hlt x hxm
      have hr : F.drop (k + 1) = r := by rw [← List.drop_drop, hD]; rfl
      have hkl : k < F.length := by
        have := congrArg List.length hD
        rw [List.length_drop, List.length_cons] at this
        omega
      rw [hD] at hcd
      obtain ⟨q1, q2⟩ := hcd
      have ht : topN (x :: r) = x + 1 := rfl
      rw [ht]
      have hsucc : frI F (k + 1) = frI F k ++ [(x : Int)] := by
        unfold frI
        have h1 : F.take (k + 1) = F.take k ++ [x] := by
          rw [List.take_add, hD]; rfl
        rw [h1, List.map_append]
        rfl
      have y1 := (hB.cell (p := ⟨g, o + (x + 1), none⟩) hg2).trans (HC.out (o + (x + 1)) (by omega))
      rw [show m.getD (o + (x + 1)) 0 = ((topN r : Nat) : Int) by rw [← Nat.add_assoc, q1, topN_int]] at y1
      have htn : topN r ≤ 1000 := by
        rw [← hr]
        cases hD2 : F.drop (k + 1) with
        | nil => exact Nat.zero_le _
        | cons a b =>
          have := hlt a (List.mem_of_mem_drop (by rw [hD2]; simp))
          show a + 1 ≤ 1000
          omega
      have hH := fun W => refH_any ((topN r : Nat) : Int) W
      rw [hdH_small htn] at hH
      obtain ⟨v', w2, hrun, hO2, hg3⟩ := pushW_any (x : Int) hB.size hO (by omega)
      have hB2 := hB.grown hg3 hB.size (fun k e => (World.ownsRow.lt hO k e).1)
      rw [← hsucc] at hO2
      have y2 := (hB2.cell (p := ⟨g, o + (x + 1), none⟩) hg2).trans ((hB.cell (p := ⟨g, o + (x + 1), none⟩) hg2).symm.trans y1)
      have HRun := Lib.hid hrun
      have HN := Lib.hid (And.intro hO2 (And.intro hB2 (And.intro hr (And.intro hfl hkl))))
      have p1 : (o : Int) + ((x : Int) + 1) < (m.length : Int) := by omega
      have p2 : ((frI F k).length : Int) < 1000 := by rw [hfl]; omega
      have hxb : (x : Int) ≤ 1000 := by omega
      have hob : (o : Int) ≤ 100000 := by omega
      clear hrun hO2 hB2 hr hkl hO hB hch hlt hlen hN ho hg2 hfl hc2 HH hD q1 q2 ht hsucc y1 hg3 htn hxm hx hk
      go_wp2_with (at_builtin; refine Lib.wpList_append_run _ rfl _ _ _ _ rfl _ _ rfl rfl _ _ HRun.out ?_)
      refine (hH _).mono ?_
      rintro e w3 ⟨rfl, rfl⟩
      go_wp2_with fail
      go_roundw
      case measure =>
        obtain ⟨n1, n2, n3, n4, n5⟩ := HN.out
        obtain ⟨A3, c3, he, _, _⟩ := own_slice n1
        have hl3 : (frI F (k + 1)).length = k + 1 := by unfold frI; rw [List.length_map, List.length_take]; omega
        rw [he]
        show 1000 - (frI F (k + 1)).length < 1000 - (frI F k).length
        have := HI.out.2.2.1
        omega
      case rel =>
        obtain ⟨n1, n2, n3, n4, n5⟩ := HN.out
        exact ⟨k + 1, by omega, by rw [n3], (show Hid _ from ⟨n1, n2⟩)⟩
end Go.Proofs.Ytocepdhjkhhpfaa
namespace Go.Proofs.Ytocepdhjkhhpfaa
set_option maxRecDepth 100000
set_option linter.unusedVariables false
open Go.ChangeShapes Go.WideShapes Go.ChangeAt Go.RowKit Go.Deep
theorem own : ownKnob Try.prog.godebug = none := by kernel_rfl
theorem laidOut : laidOutB Try.prog = true := by kernel_rfl
section
variable {H : Type} {enc : TypeId × Value → H} {W : World} {base : Nat} {spare : Nat → Bool} {held : Bool} {P : Program}
end
end Go.Proofs.Ytocepdhjkhhpfaa
namespace Go.Proofs.Ytocepdhjkhhpfaa
set_option maxRecDepth 100000
set_option linter.unusedVariables false
open Go.ChangeShapes Go.WideShapes Go.ChangeAt Go.RowKit Go.Deep
section
variable {H : Type} {enc : TypeId × Value → H} {w : World} {base : Nat} {spare : Nat → Bool} {held : Bool} {P : Program}
theorem quads_in {fuel : Nat} {a0 : Option Addr} {len0 cap0 : Nat} {x : DataW H × List MemPlace}
    (h : DataW.trod enc Try.prog w base spare held fuel 48 [.slice a0 len0 cap0] = some x) : ∃ l : List Ac, l.length = len0 ∧ len0 ≤ cap0 ∧ cap0 ≤ maxLen ∧ NowA w a0 l ∧ ∀ j, j < l.length → Fine4A (l.getD j deadA) := by
  obtain ⟨l, h1, h2, h3, h4, h5⟩ := els_in dec4 deadA Fine4 4 (by decide) (fun _ => rfl) Try.underlying48 (by kernel_rfl) (fun _ _ _ hy => four_in Try.underlying53 Try.underlying3 (by kernel_rfl) (by kernel_rfl) hy) h
  refine ⟨l, h1, h2, h3, fun j hj => ?_, h5⟩
  obtain ⟨b, off, e, hb, hc⟩ := h4 j hj
  exact ⟨b, off, e, hb, hc 0 (by decide), hc 1 (by decide), hc 2 (by decide), hc 3 (by decide)⟩
end
end Go.Proofs.Ytocepdhjkhhpfaa
