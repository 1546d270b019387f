/-
  Texts that the claims of this seat share, part 13.
-/
import Derived.Test.YtacpncmdgkljdaaGreatDoorB10
import Derived.Test.YtacpncmdgkljdaaGreatDoorB12
import Derived.Test.YtacpncmdgkljdaaGreatDoorB02
import Derived.Test.YtacpncmdgkljdaaGreatDoorB06
import Derived.Test.YtacpncmdgkljdaaGreatDoorRows
import Derived.ProofKit
import Derived.OpenShut
import Derived.ChangeOld
import Derived.Lay
import Derived.LaidMore
import Derived.MakeChecks
import Derived.SizedLaws
import Derived.Stop.Joined
import Derived.Stop.LaidErr
import Derived.Deep.Slices
import Derived.Deep.Fields
import Derived.HandedShaped
set_option linter.unusedVariables false
set_option linter.unusedSimpArgs false
namespace Go.Proofs.YtacpncmdgkljdaaGreatDoor
set_option linter.unusedVariables false
set_option linter.unusedSimpArgs false
open Go.RowKit Go.Sort
open Cel (boxV noBox loX hiX shL rightB rawSet)

theorem rd_take {w : World} {B : Nat} {A : Option Addr} {l : List (Int × Int)} (h : Cel.Rd w B A l) (t : Nat) : Cel.Rd w B A (l.take t) := by
  intro j hj
  rw [List.length_take] at hj
  have hg : (l.take t).getD j (0, 0) = l.getD j (0, 0) := by rw [List.getD_eq_getElem?_getD, List.getD_eq_getElem?_getD, List.getElem?_take, if_pos (by omega)]
  rw [hg]
  exact h j (by omega)
/-- what Print answers -/
def prS (l : List (Int × Int)) : ByteArray := if rightB l = true then str (printL l) else str []
def prE (l : List (Int × Int)) : Int := if rightB l = true then 0 else 1
theorem print_any5 (A : Option Addr) (l : List (Int × Int)) (c : Nat) (w : World) (hR : Cel.Rd w w.heap.size A l) (hl : l.length ≤ 1000000) (hc : l.length ≤ c) (hT : Tab w) :
    Calls Tryz.prog 6 #[.slice A l.length c] w fun e w' => e = .returned (.tuple #[.string (prS l), .int .i64 (prE l)]) ∧ Below w.heap.size w w' := by
  unfold prS prE
  cases hr : rightB l with
  | true => rw [if_pos rfl, if_pos rfl]; exact print_good A l c w hR hc hr hT
  | false => rw [if_neg (by decide), if_neg (by decide)]; exact print_bad A l c w hR hl hc hr
theorem refPrint_any5 (A : Option Addr) (l : List (Int × Int)) (c : Nat) (w : World) (hR : Cel.Rd w w.heap.size A l) (hl : l.length ≤ 1000000) (hc : l.length ≤ c) :
    Calls Tryz.prog 7 #[.slice A l.length c] w fun e w' => e = .returned (.tuple #[.string (prS l), .int .i64 (prE l)]) ∧ Below w.heap.size w w' := by
  unfold prS prE
  cases hr : rightB l with
  | true => rw [if_pos rfl, if_pos rfl]; exact refPrint_good A l c w hR hc hr
  | false => rw [if_neg (by decide), if_neg (by decide)]; exact refPrint_bad A l c w hR hl hc hr
/-- the two sets, and the slice that holds them -/
structure TwoSets (w : World) (g : Nat) : Prop where
  cell : ∀ j, j < 2 → ∃ A m c, w.cell? ⟨g, j, none⟩ = some (.slice A m.length c) ∧ Cel.Rd w w.heap.size A m ∧ m.length ≤ 1000 ∧ m.length ≤ c
/-- the six texts, and the slice that holds them -/
structure Six (w : World) (g : Nat) (xs : Nat → ByteArray) : Prop where
  cell : ∀ j, j < 6 → w.cell? ⟨g, j, none⟩ = some (.string (xs j))
  size : ∀ j, (xs j).size ≤ 9223372036854775807
theorem parse_of5 (X : ByteArray) (hX : X.size ≤ 9223372036854775807) {L : List (Int × Int)} {e : Int} {p : Nat} (h : parseP X.data.toList = (L, e, p)) (w : World) (hM : Mx w) :
    Calls Tryz.prog 9 #[.string X] w fun e' w' => ∃ A c, e' = .returned (.tuple #[.slice A L.length c, .int .i64 e, .int .i64 p]) ∧ L.length ≤ c ∧ Cel.Rd w' w'.heap.size A L ∧ Below w.heap.size w w' := by
  have h1 := rleParse_any X.data.toList w (by rw [← size_list]; exact hX) hM
  rw [str_list, h] at h1
  refine h1.mono ?_
  rintro e' w' ⟨v, rfl, ⟨A, c, rfl, hc, hR⟩, hb⟩
  exact ⟨A, c, rfl, hc, hR, hb⟩
theorem refParse_of5 (X : ByteArray) (hX : X.size ≤ 9223372036854775807) {L : List (Int × Int)} {e : Int} {p : Nat} (h : parseP X.data.toList = (L, e, p)) (w : World) :
    Calls Tryz.prog 10 #[.string X] w fun e' w' => ∃ A c, e' = .returned (.tuple #[.slice A L.length c, .int .i64 e, .int .i64 p]) ∧ L.length ≤ c ∧ Cel.Rd w' w'.heap.size A L ∧ Below w.heap.size w w' := by
  have h1 := refParse5_any X.data.toList w (by rw [← size_list]; exact hX)
  rw [str_list, h] at h1
  refine h1.mono ?_
  rintro e' w' ⟨v, rfl, ⟨A, c, rfl, hc, hR⟩, hb⟩
  exact ⟨A, c, rfl, hc, hR, hb⟩
theorem parsed_short {l : List UInt8} {out : List (Int × Int)} {e : Int} {p : Nat} (h : parseP l = (out, e, p)) : out.length ≤ 2000 := by
  by_cases he : e = 0
  · subst he
    have := (parsed_fine h).2.right
    exact ((Cel.rightB_iff out).1 this).1
  · rw [(parsed_bad h he).1]
    exact Nat.zero_le _

set_option maxHeartbeats 16000000 in
set_option maxRecDepth 100000 in
theorem rleTells_walk (s : ByteArray) (A1 : Option Addr) (any : List (Int × Int)) (c1 : Nat) (A : Option Addr) (raw : List (Int × Int)) (c : Nat) (far at_ : Int) (more : ByteArray) (w : World) (hss : s.size ≤ 140737488355328) (hR1 : Cel.Rd w w.heap.size A1 any) (hl1 : any.length ≤ 9223372036854775807) (hc1 : any.length ≤ c1) (hw1 : ∀ p ∈ any, Cel.I64 p.1 ∧ Cel.I64 p.2)
    (hR : NowP w A raw) (hl : raw.length ≤ 9223372036854775807) (hc : raw.length ≤ c) (hw : ∀ p ∈ raw, I64 p.1 ∧ I64 p.2) (hf : I64 far) (hat : I64 at_) (hms : more.size ≤ 140737488355328) (hT : Tab w) (hM : Mx w) :
    Calls Tryz.prog 3 #[.string s, .slice A1 any.length c1, .slice A raw.length c, .int .i64 far, .int .i64 at_, .string more] w fun e w' => e = .returned (.bool true) ∧ Below w.heap.size w w' := by
  have h1 := awake5_any w hT hM
  have hfar := fun W (hb : Below w.heap.size w W) => far_any A raw c far W ((Cel.Rd.below hR hb (Nat.le_refl _)).more hb.size) hl hc hw hf
  have hown := own5_far (decide (pickI far 5 = 4)) raw
  generalize farL (decide (pickI far 5 = 4)) (rawSet raw) = l at *
  have hshort := hown.short
  have hz := str_size (printL l)
  have htt : (str (printL l)).size ≤ 2600 := by omega
  have hpr := fun (A : Option Addr) (c : Nat) (W : World) (hR : Cel.Rd W W.heap.size A l) (hc : l.length ≤ c) => refPrint_good A l c W hR hc hown.right
  have hll := hown.len
  clear hz hshort hown
  generalize str (printL l) = tt at *
  have hpk := fun W => pick_nat at_ ((tt.size : Int) + 1) W hat (by omega) (by omega)
  have hpb := pickI_bd at_ ((tt.size : Int) + 1) (by omega)
  obtain ⟨k, hk⟩ : ∃ k, k = (pickI at_ ((tt.size : Int) + 1)).toNat := ⟨_, rfl⟩
  rw [← hk] at hpk
  have hkt : k ≤ tt.size := by omega
  have HX1 := Lib.hid hR1
  clear hk hpb hat hw1 hR1
  go_enter Tryz.func3, Tryz.ntmps3
  go_wp2_with fail
  refine h1.mono ?_
  rintro e w1 ⟨rfl, B1⟩
  clear h1
  go_wp2_with fail
  refine (hfar w1 B1).mono ?_
  rintro e w2 ⟨v2, rfl, ⟨A2, c2, rfl, hc2, hR2⟩, hb2⟩
  have B2 := Lib.hid (Qt.more B1 B1.size hb2)
  have HR2 := Lib.hid hR2
  clear hfar hb2 B1 hR2
  by_cases h100 : 100 < any.length
  · have h100z : (100 : Int) < (any.length : Int) := by omega
    have h100c : 100 ≤ c1 := by omega
    go_wp2
    have hba : Below w2.heap.size w2 (w2.alloc (.cells #[.slice A2 l.length c2, .slice A1 100 c1] 22)) := (Below.refl _ w2).alloc (Nat.le_refl _) _
    have hrl := ((HR2.out.below hba (Nat.le_refl _)).more hba.size)
    have h2 : TwoSets (w2.alloc (.cells #[.slice A2 l.length c2, .slice A1 100 c1] 22)) w2.heap.size := by
      refine ⟨fun j hj => ?_⟩
      match j, hj with
      | 0, _ => exact ⟨A2, l, c2, by simp, hrl, by omega, hc2⟩
      | 1, _ => exact ⟨A1, any.take 100, c1, by rw [List.length_take, Nat.min_eq_left (by omega)]; simp, rd_take ((HX1.out.below (Qt.more B2.out B2.out.size hba) (Nat.le_refl _)).more (Qt.more B2.out B2.out.size hba).size) 100, by rw [List.length_take]; omega, by rw [List.length_take]; omega⟩
    have HTS := Lib.hid h2
    have HRL := Lib.hid hrl
    have B3 := Lib.hid (Qt.more B2.out B2.out.size hba)
    clear hba hrl h2 HX1 HR2 B2 h100z h100c
    generalize w2.alloc (.cells #[.slice A2 l.length c2, .slice A1 100 c1] 22) = w3 at *
    generalize w2.heap.size = g at *
    go_loopw [47] (fun i wr => ∃ j : Nat, j ≤ 2 ∧ i = .int .i64 j ∧ Hid (Below w3.heap.size w3 wr)) (fun i _ => 2 - (intOf i).toNat)
    case atStart => exact ⟨0, by omega, rfl, Below.refl _ _⟩
    case round =>
      obtain ⟨j, hj, rfl, HB⟩ := hrel
      by_cases hlt : j < 2
      · have hltz : (j : Int) < 2 := by omega
        obtain ⟨Am, m, cm, hcl, hrd, hm1, hm2⟩ := HTS.out.cell j hlt
        have x0 := Qt.keep HB.out hcl
        have HRM := Lib.hid ((hrd.below HB.out (Nat.le_refl _)).more HB.out.size)
        have hp1 := fun W hR hT => print_any5 Am m cm W hR (by omega) hm2 hT
        have hp2 := fun W hR => refPrint_any5 Am m cm W hR (by omega) hm2
        generalize prS m = S at *
        generalize prE m = E at *
        have hSS : (S.toList == S.toList) = true := by simp
        have hEE : (E == E) = true := by simp
        have BB := Lib.hid (Qt.more B3.out B3.out.size HB.out)
        clear hcl hrd hpr hpk
        go_wp2_with fail
        refine (hp1 _ HRM.out (hT.below BB.out)).mono ?_
        rintro e w4 ⟨rfl, hb4⟩
        have HB4 := Lib.hid (Qt.more HB.out HB.out.size hb4)
        have HRM4 := Lib.hid ((HRM.out.below hb4 (Nat.le_refl _)).more hb4.size)
        clear hp1 hb4 HRM x0 BB
        go_wp2_with fail
        refine (hp2 _ HRM4.out).mono ?_
        rintro e w5 ⟨rfl, hb5⟩
        have HB5 := Lib.hid (Qt.more HB4.out HB4.out.size hb5)
        clear hp2 hb5 HRM4
        go_wp2
        go_roundw
        case measure => simp [intOf]; omega
        case rel => exact ⟨j + 1, by omega, by go_num, HB5⟩
      · have hltz : ¬ (j : Int) < 2 := by omega
        have HRL4 := Lib.hid ((HRL.out.below HB.out (Nat.le_refl _)).more HB.out.size)
        have B4 := Lib.hid (Qt.more B3.out B3.out.size HB.out)
        clear HTS HRL
        go_wp2_with fail
        refine (hpr A2 c2 _ HRL4.out hc2).mono ?_
        rintro e w6 ⟨rfl, hb6⟩
        have B6 := Lib.hid (Qt.more B4.out B4.out.size hb6)
        clear hpr hb6 B4 HRL4 B3 HB
        go_wp2_with fail
        refine (hpk _).mono ?_
        rintro e w7 ⟨rfl, rfl⟩
        clear hpk
        have hmn : min (k + more.size) tt.size ≤ tt.size := Nat.min_le_right _ _
        have hp5 : ({ data := #[35, 97, 10, 35, 10] } : ByteArray).size = 5 := rfl
        have z0 : ({ data := #[35, 97, 10, 35, 10] } ++ tt).size ≤ 2700 := by rw [ByteArray.size_append]; omega
        have z1 : (tt.extract 0 k).size ≤ 2600 := by rw [ByteArray.size_extract]; omega
        have z2 : (tt.extract k tt.size).size ≤ 2600 := by rw [ByteArray.size_extract]; omega
        have z3 : (tt.extract (min (k + more.size) tt.size) tt.size).size ≤ 2600 := by rw [ByteArray.size_extract]; omega
        have z4 : (tt.extract 0 k ++ more).size ≤ 140737488358000 := by rw [ByteArray.size_append]; omega
        have z5 : (tt.extract 0 k ++ more ++ tt.extract k tt.size).size ≤ 140737488361000 := by rw [ByteArray.size_append]; omega
        have z6 : (tt.extract 0 k ++ more ++ tt.extract (min (k + more.size) tt.size) tt.size).size ≤ 140737488361000 := by rw [ByteArray.size_append]; omega
        go_wp2_with fail
        refine Qt.region_tree (.pure 0 <| .pure 1 <| .pure 2 <| .pure 3 <| .pure 4 <| .pure 5 <| .pure 6 <| .pure 7 <| .pure 8 <| .pure 9 <| .pure 10 <| .pure 11 <| .pure 12 <| .pure 13 <| .pure 14 <| .pure 15 <| .pure 16 <| .pure 17 <| .pure 18 <| .pure 19 <| .pure 20 <| .pure 21 <| .pure 22 <| .pure 23 <| .pure 24 <| .pure 25 <| .pure 26 <| .pure 27 <| .pure 28 <| .pure 29 <| .pure 30 <| .pure 33 <| .only 31 <| .pure 32 .done) (by kernel_rfl) (by kernel_rfl) (by kernel_rfl) (by rfl) ?_
        refine ⟨_, some 80, .string s, rfl, rfl, ⟨rfl, fun _ => rfl⟩, ?_⟩
        simp only [Act.put, List.setIfInBounds_toArray, List.set_cons_succ, List.set_cons_zero]
        refine ⟨_, some 81, .string tt, rfl, rfl, ⟨rfl, fun _ => rfl⟩, ?_⟩
        simp only [Act.put, List.setIfInBounds_toArray, List.set_cons_succ, List.set_cons_zero]
        refine ⟨_, some 82, .string tt, rfl, rfl, ⟨rfl, fun _ => rfl⟩, ?_⟩
        simp only [Act.put, List.setIfInBounds_toArray, List.set_cons_succ, List.set_cons_zero]
        refine ⟨_, some 83, .int .i64 k, rfl, rfl, ⟨rfl, fun _ => rfl⟩, ?_⟩
        simp only [Act.put, List.setIfInBounds_toArray, List.set_cons_succ, List.set_cons_zero]
        refine ⟨_, some 84, .string (tt.extract 0 k), rfl, rfl, ⟨rfl, exec_str_to (x := .tmp 82) (y := .tmp 83) rfl rfl rfl (by omega) (by omega)⟩, ?_⟩
        simp only [Act.put, List.setIfInBounds_toArray, List.set_cons_succ, List.set_cons_zero]
        refine ⟨_, some 85, .string tt, rfl, rfl, ⟨rfl, fun _ => rfl⟩, ?_⟩
        simp only [Act.put, List.setIfInBounds_toArray, List.set_cons_succ, List.set_cons_zero]
        refine ⟨_, some 86, .string ({ data := #[35, 97, 10, 35, 10] } ++ tt), rfl, rfl, ⟨rfl, exec_add (x := .const (.string { data := #[35, 97, 10, 35, 10] })) (y := .tmp 85) rfl rfl rfl (by omega)⟩, ?_⟩
        simp only [Act.put, List.setIfInBounds_toArray, List.set_cons_succ, List.set_cons_zero]
        refine ⟨_, some 87, .string tt, rfl, rfl, ⟨rfl, fun _ => rfl⟩, ?_⟩
        simp only [Act.put, List.setIfInBounds_toArray, List.set_cons_succ, List.set_cons_zero]
        refine ⟨_, some 88, .int .i64 k, rfl, rfl, ⟨rfl, fun _ => rfl⟩, ?_⟩
        simp only [Act.put, List.setIfInBounds_toArray, List.set_cons_succ, List.set_cons_zero]
        refine ⟨_, some 89, .string (tt.extract 0 k), rfl, rfl, ⟨rfl, exec_str_to (x := .tmp 87) (y := .tmp 88) rfl rfl rfl (by omega) (by omega)⟩, ?_⟩
        simp only [Act.put, List.setIfInBounds_toArray, List.set_cons_succ, List.set_cons_zero]
        refine ⟨_, some 90, .string more, rfl, rfl, ⟨rfl, fun _ => rfl⟩, ?_⟩
        simp only [Act.put, List.setIfInBounds_toArray, List.set_cons_succ, List.set_cons_zero]
        refine ⟨_, some 91, .string (tt.extract 0 k ++ more), rfl, rfl, ⟨rfl, exec_add (x := .tmp 89) (y := .tmp 90) rfl rfl rfl (by omega)⟩, ?_⟩
        simp only [Act.put, List.setIfInBounds_toArray, List.set_cons_succ, List.set_cons_zero]
        refine ⟨_, some 92, .string tt, rfl, rfl, ⟨rfl, fun _ => rfl⟩, ?_⟩
        simp only [Act.put, List.setIfInBounds_toArray, List.set_cons_succ, List.set_cons_zero]
        refine ⟨_, some 93, .int .i64 k, rfl, rfl, ⟨rfl, fun _ => rfl⟩, ?_⟩
        simp only [Act.put, List.setIfInBounds_toArray, List.set_cons_succ, List.set_cons_zero]
        refine ⟨_, some 94, .string (tt.extract k tt.size), rfl, rfl, ⟨rfl, exec_str_from (x := .tmp 92) (y := .tmp 93) rfl rfl rfl (by omega) (by omega)⟩, ?_⟩
        simp only [Act.put, List.setIfInBounds_toArray, List.set_cons_succ, List.set_cons_zero]
        refine ⟨_, some 95, .string (tt.extract 0 k ++ more ++ tt.extract k tt.size), rfl, rfl, ⟨rfl, exec_add (x := .tmp 91) (y := .tmp 94) rfl rfl rfl (by omega)⟩, ?_⟩
        simp only [Act.put, List.setIfInBounds_toArray, List.set_cons_succ, List.set_cons_zero]
        refine ⟨_, some 96, .string tt, rfl, rfl, ⟨rfl, fun _ => rfl⟩, ?_⟩
        simp only [Act.put, List.setIfInBounds_toArray, List.set_cons_succ, List.set_cons_zero]
        refine ⟨_, some 97, .int .i64 k, rfl, rfl, ⟨rfl, fun _ => rfl⟩, ?_⟩
        simp only [Act.put, List.setIfInBounds_toArray, List.set_cons_succ, List.set_cons_zero]
        refine ⟨_, some 98, .string (tt.extract 0 k), rfl, rfl, ⟨rfl, exec_str_to (x := .tmp 96) (y := .tmp 97) rfl rfl rfl (by omega) (by omega)⟩, ?_⟩
        simp only [Act.put, List.setIfInBounds_toArray, List.set_cons_succ, List.set_cons_zero]
        refine ⟨_, some 99, .string more, rfl, rfl, ⟨rfl, fun _ => rfl⟩, ?_⟩
        simp only [Act.put, List.setIfInBounds_toArray, List.set_cons_succ, List.set_cons_zero]
        refine ⟨_, some 100, .string (tt.extract 0 k ++ more), rfl, rfl, ⟨rfl, exec_add (x := .tmp 98) (y := .tmp 99) rfl rfl rfl (by omega)⟩, ?_⟩
        simp only [Act.put, List.setIfInBounds_toArray, List.set_cons_succ, List.set_cons_zero]
        refine ⟨_, some 101, .string tt, rfl, rfl, ⟨rfl, fun _ => rfl⟩, ?_⟩
        simp only [Act.put, List.setIfInBounds_toArray, List.set_cons_succ, List.set_cons_zero]
        refine ⟨_, some 102, .int .i64 k, rfl, rfl, ⟨rfl, fun _ => rfl⟩, ?_⟩
        simp only [Act.put, List.setIfInBounds_toArray, List.set_cons_succ, List.set_cons_zero]
        refine ⟨_, some 103, .string more, rfl, rfl, ⟨rfl, fun _ => rfl⟩, ?_⟩
        simp only [Act.put, List.setIfInBounds_toArray, List.set_cons_succ, List.set_cons_zero]
        refine ⟨_, some 104, .int .i64 (more.size : Int), rfl, rfl, ⟨rfl, exec_len (x := .tmp 103) rfl rfl rfl⟩, ?_⟩
        simp only [Act.put, List.setIfInBounds_toArray, List.set_cons_succ, List.set_cons_zero]
        refine ⟨_, some 105, .int .i64 ((k + more.size : Nat) : Int), rfl, rfl, ⟨rfl, exec_addi (x := .tmp 102) (y := .tmp 104) rfl rfl rfl (by omega)⟩, ?_⟩
        simp only [Act.put, List.setIfInBounds_toArray, List.set_cons_succ, List.set_cons_zero]
        refine ⟨_, some 106, .string tt, rfl, rfl, ⟨rfl, fun _ => rfl⟩, ?_⟩
        simp only [Act.put, List.setIfInBounds_toArray, List.set_cons_succ, List.set_cons_zero]
        refine ⟨_, some 107, .int .i64 (tt.size : Int), rfl, rfl, ⟨rfl, exec_len (x := .tmp 106) rfl rfl rfl⟩, ?_⟩
        simp only [Act.put, List.setIfInBounds_toArray, List.set_cons_succ, List.set_cons_zero]
        refine ⟨_, some 108, .int .i64 ((min (k + more.size) tt.size : Nat) : Int), rfl, rfl, ⟨rfl, exec_min (x := .tmp 105) (y := .tmp 107) rfl rfl rfl rfl⟩, ?_⟩
        simp only [Act.put, List.setIfInBounds_toArray, List.set_cons_succ, List.set_cons_zero]
        refine ⟨_, some 109, .string (tt.extract (min (k + more.size) tt.size) tt.size), rfl, rfl, ⟨rfl, exec_str_from (x := .tmp 101) (y := .tmp 108) rfl rfl rfl (by omega) (by omega)⟩, ?_⟩
        simp only [Act.put, List.setIfInBounds_toArray, List.set_cons_succ, List.set_cons_zero]
        refine ⟨_, some 110, .string (tt.extract 0 k ++ more ++ tt.extract (min (k + more.size) tt.size) tt.size), rfl, rfl, ⟨rfl, exec_add (x := .tmp 100) (y := .tmp 109) rfl rfl rfl (by omega)⟩, ?_⟩
        simp only [Act.put, List.setIfInBounds_toArray, List.set_cons_succ, List.set_cons_zero]
        refine ⟨_, some 113, .int .i64 0, rfl, rfl, ⟨rfl, fun _ => rfl⟩, ?_⟩
        simp only [Act.put, List.setIfInBounds_toArray, List.set_cons_succ, List.set_cons_zero]
        refine ⟨_, rfl, ?_⟩
        go_wp2_with fail
        refine ⟨rfl, ?_⟩
        refine ⟨_, some 112, .int .i64 6, rfl, rfl, ⟨rfl, exec_len_sl (x := .tmp 111) (k := 6) rfl rfl rfl⟩, ?_⟩
        simp only [Act.put, List.setIfInBounds_toArray, List.set_cons_succ, List.set_cons_zero]
        simp only [Qt.treeW]
        have hba : Below w6.heap.size w6 (w6.alloc (.cells #[.string s, .string tt, .string (tt.extract 0 k), .string ({ data := #[35, 97, 10, 35, 10] } ++ tt), .string (tt.extract 0 k ++ more ++ tt.extract k tt.size), .string (tt.extract 0 k ++ more ++ tt.extract (min (k + more.size) tt.size) tt.size)] 9)) := (Below.refl _ w6).alloc (Nat.le_refl _) _
        have hbd : Below w6.heap.size w6 (w6.alloc (.cells #[.string s, .string tt, .string (tt.extract 0 k), .string ({ data := #[35, 97, 10, 35, 10] } ++ tt), .string (tt.extract 0 k ++ more ++ tt.extract k tt.size), .string (tt.extract 0 k ++ more ++ tt.extract (min (k + more.size) tt.size) tt.size)] 9)).drew := ⟨hba.os, hba.tape, hba.output, hba.size, hba.block⟩
        have h6 : ∃ xs, Six (w6.alloc (.cells #[.string s, .string tt, .string (tt.extract 0 k), .string ({ data := #[35, 97, 10, 35, 10] } ++ tt), .string (tt.extract 0 k ++ more ++ tt.extract k tt.size), .string (tt.extract 0 k ++ more ++ tt.extract (min (k + more.size) tt.size) tt.size)] 9)).drew w6.heap.size xs := by
          refine ⟨fun j => match j with | 0 => s | 1 => tt | 2 => tt.extract 0 k | 3 => { data := #[35, 97, 10, 35, 10] } ++ tt | 4 => tt.extract 0 k ++ more ++ tt.extract k tt.size | _ => tt.extract 0 k ++ more ++ tt.extract (min (k + more.size) tt.size) tt.size, fun j hj => ?_, fun j => ?_⟩
          · match j, hj with
            | 0, _ => simp
            | 1, _ => simp
            | 2, _ => simp
            | 3, _ => simp
            | 4, _ => simp
            | 5, _ => simp
          · match j with
            | 0 => simp only; omega
            | 1 => simp only; omega
            | 2 => simp only; omega
            | 3 => simp only; omega
            | 4 => simp only; omega
            | n + 5 => simp only; omega
        obtain ⟨xs, hX⟩ := h6
        have HX := Lib.hid hX
        have B8 := Lib.hid (Qt.more B6.out B6.out.size hbd)
        have HM8 := Lib.hid (hM.below B8.out)
        generalize (w6.alloc (.cells #[.string s, .string tt, .string (tt.extract 0 k), .string ({ data := #[35, 97, 10, 35, 10] } ++ tt), .string (tt.extract 0 k ++ more ++ tt.extract k tt.size), .string (tt.extract 0 k ++ more ++ tt.extract (min (k + more.size) tt.size) tt.size)] 9)).drew = w8 at *
        generalize w6.heap.size = g6 at *
        clear hba hbd hX z0 z1 z2 z3 z4 z5 z6 hmn B6 hT hM hp5
        go_wp2
        go_loopw [113] (fun i wr => ∃ j : Nat, j ≤ 6 ∧ i = .int .i64 j ∧ Hid (Below w8.heap.size w8 wr)) (fun i _ => 6 - (intOf i).toNat)
        case atStart => exact ⟨0, by omega, rfl, Below.refl _ _⟩
        case round =>
          obtain ⟨j, hj, rfl, HB⟩ := hrel
          by_cases hlt : j < 6
          · have hltz : (j : Int) < 6 := by omega
            have x0 := Qt.keep HB.out (HX.out.cell j hlt)
            have hxs := HX.out.size j
            generalize xs j = X at x0 hxs
            obtain ⟨⟨L, e, p⟩, hr⟩ : ∃ r, parseP X.data.toList = r := ⟨_, rfl⟩
            have hpa := fun W hM => parse_of5 X hxs hr W hM
            have hpb := fun W => refParse_of5 X hxs hr W
            have hLs := parsed_short hr
            have hee : (e == e) = true := by simp
            clear hr
            go_wp2_with fail
            refine (hpa _ (HM8.out.below HB.out)).mono ?_
            rintro e' w9 ⟨A9, c9, rfl, hc9, hR9, hb9⟩
            have HB9 := Lib.hid (Qt.more HB.out HB.out.size hb9)
            clear hb9 hpa x0 HB
            go_wp2_with fail
            refine (hpb _).mono ?_
            rintro e' w10 ⟨A10, c10, rfl, hc10, hR10, hb10⟩
            have HB10 := Lib.hid (Qt.more HB9.out HB9.out.size hb10)
            have hR9 := (hR9.below hb10 (Nat.le_refl _)).more hb10.size
            have hsm := Cel.same_holds (c := c9) (c' := c10) hR9 hR10 (by omega)
            rw [decide_eq_true rfl] at hsm
            clear hb10 hpb HB9 hR9 hR10
            go_wp2_with fail
            refine hsm.mono ?_
            rintro e' w11 ⟨rfl, hb11⟩
            have HB11 := Lib.hid (Qt.more HB10.out HB10.out.size hb11)
            clear hsm hb11 HB10
            go_wp2
            go_roundw
            case measure => simp [intOf]; omega
            case rel => exact ⟨j + 1, by omega, by go_num, HB11⟩
          · have hltz : ¬ (j : Int) < 6 := by omega
            have B9 := Qt.more B8.out B8.out.size HB.out
            go_wp2
            go_ret
            exact ⟨by first | rfl | (simp [*]; done), B9⟩
  · have h100z : ¬ (100 : Int) < (any.length : Int) := by omega
    go_wp2
    have hba : Below w2.heap.size w2 (w2.alloc (.cells #[.slice A2 l.length c2, .slice A1 any.length c1] 22)) := (Below.refl _ w2).alloc (Nat.le_refl _) _
    have hrl := ((HR2.out.below hba (Nat.le_refl _)).more hba.size)
    have h2 : TwoSets (w2.alloc (.cells #[.slice A2 l.length c2, .slice A1 any.length c1] 22)) w2.heap.size := by
      refine ⟨fun j hj => ?_⟩
      match j, hj with
      | 0, _ => exact ⟨A2, l, c2, by simp, hrl, by omega, hc2⟩
      | 1, _ => exact ⟨A1, any, c1, by simp, ((HX1.out.below (Qt.more B2.out B2.out.size hba) (Nat.le_refl _)).more (Qt.more B2.out B2.out.size hba).size), by omega, by omega⟩
    have HTS := Lib.hid h2
    have HRL := Lib.hid hrl
    have B3 := Lib.hid (Qt.more B2.out B2.out.size hba)
    clear hba hrl h2 HX1 HR2 B2 h100z
    generalize w2.alloc (.cells #[.slice A2 l.length c2, .slice A1 any.length c1] 22) = w3 at *
    generalize w2.heap.size = g at *
    go_loopw [47] (fun i wr => ∃ j : Nat, j ≤ 2 ∧ i = .int .i64 j ∧ Hid (Below w3.heap.size w3 wr)) (fun i _ => 2 - (intOf i).toNat)
    case atStart => exact ⟨0, by omega, rfl, Below.refl _ _⟩
    case round =>
      obtain ⟨j, hj, rfl, HB⟩ := hrel
      by_cases hlt : j < 2
      · have hltz : (j : Int) < 2 := by omega
        obtain ⟨Am, m, cm, hcl, hrd, hm1, hm2⟩ := HTS.out.cell j hlt
        have x0 := Qt.keep HB.out hcl
        have HRM := Lib.hid ((hrd.below HB.out (Nat.le_refl _)).more HB.out.size)
        have hp1 := fun W hR hT => print_any5 Am m cm W hR (by omega) hm2 hT
        have hp2 := fun W hR => refPrint_any5 Am m cm W hR (by omega) hm2
        generalize prS m = S at *
        generalize prE m = E at *
        have hSS : (S.toList == S.toList) = true := by simp
        have hEE : (E == E) = true := by simp
        have BB := Lib.hid (Qt.more B3.out B3.out.size HB.out)
        clear hcl hrd hpr hpk
        go_wp2_with fail
        refine (hp1 _ HRM.out (hT.below BB.out)).mono ?_
        rintro e w4 ⟨rfl, hb4⟩
        have HB4 := Lib.hid (Qt.more HB.out HB.out.size hb4)
        have HRM4 := Lib.hid ((HRM.out.below hb4 (Nat.le_refl _)).more hb4.size)
        clear hp1 hb4 HRM x0 BB
        go_wp2_with fail
        refine (hp2 _ HRM4.out).mono ?_
        rintro e w5 ⟨rfl, hb5⟩
        have HB5 := Lib.hid (Qt.more HB4.out HB4.out.size hb5)
        clear hp2 hb5 HRM4
        go_wp2
        go_roundw
        case measure => simp [intOf]; omega
        case rel => exact ⟨j + 1, by omega, by go_num, HB5⟩
      · have hltz : ¬ (j : Int) < 2 := by omega
        have HRL4 := Lib.hid ((HRL.out.below HB.out (Nat.le_refl _)).more HB.out.size)
        have B4 := Lib.hid (Qt.more B3.out B3.out.size HB.out)
        clear HTS HRL
        go_wp2_with fail
        refine (hpr A2 c2 _ HRL4.out hc2).mono ?_
        rintro e w6 ⟨rfl, hb6⟩
        have B6 := Lib.hid (Qt.more B4.out B4.out.size hb6)
        clear hpr hb6 B4 HRL4 B3 HB
        go_wp2_with fail
        refine (hpk _).mono ?_
        rintro e w7 ⟨rfl, rfl⟩
        clear hpk
        have hmn : min (k + more.size) tt.size ≤ tt.size := Nat.min_le_right _ _
        have hp5 : ({ data := #[35, 97, 10, 35, 10] } : ByteArray).size = 5 := rfl
        have z0 : ({ data := #[35, 97, 10, 35, 10] } ++ tt).size ≤ 2700 := by rw [ByteArray.size_append]; omega
        have z1 : (tt.extract 0 k).size ≤ 2600 := by rw [ByteArray.size_extract]; omega
        have z2 : (tt.extract k tt.size).size ≤ 2600 := by rw [ByteArray.size_extract]; omega
        have z3 : (tt.extract (min (k + more.size) tt.size) tt.size).size ≤ 2600 := by rw [ByteArray.size_extract]; omega
        have z4 : (tt.extract 0 k ++ more).size ≤ 140737488358000 := by rw [ByteArray.size_append]; omega
        have z5 : (tt.extract 0 k ++ more ++ tt.extract k tt.size).size ≤ 140737488361000 := by rw [ByteArray.size_append]; omega
        have z6 : (tt.extract 0 k ++ more ++ tt.extract (min (k + more.size) tt.size) tt.size).size ≤ 140737488361000 := by rw [ByteArray.size_append]; omega
        go_wp2_with fail
        refine Qt.region_tree (.pure 0 <| .pure 1 <| .pure 2 <| .pure 3 <| .pure 4 <| .pure 5 <| .pure 6 <| .pure 7 <| .pure 8 <| .pure 9 <| .pure 10 <| .pure 11 <| .pure 12 <| .pure 13 <| .pure 14 <| .pure 15 <| .pure 16 <| .pure 17 <| .pure 18 <| .pure 19 <| .pure 20 <| .pure 21 <| .pure 22 <| .pure 23 <| .pure 24 <| .pure 25 <| .pure 26 <| .pure 27 <| .pure 28 <| .pure 29 <| .pure 30 <| .pure 33 <| .only 31 <| .pure 32 .done) (by kernel_rfl) (by kernel_rfl) (by kernel_rfl) (by rfl) ?_
        refine ⟨_, some 80, .string s, rfl, rfl, ⟨rfl, fun _ => rfl⟩, ?_⟩
        simp only [Act.put, List.setIfInBounds_toArray, List.set_cons_succ, List.set_cons_zero]
        refine ⟨_, some 81, .string tt, rfl, rfl, ⟨rfl, fun _ => rfl⟩, ?_⟩
        simp only [Act.put, List.setIfInBounds_toArray, List.set_cons_succ, List.set_cons_zero]
        refine ⟨_, some 82, .string tt, rfl, rfl, ⟨rfl, fun _ => rfl⟩, ?_⟩
        simp only [Act.put, List.setIfInBounds_toArray, List.set_cons_succ, List.set_cons_zero]
        refine ⟨_, some 83, .int .i64 k, rfl, rfl, ⟨rfl, fun _ => rfl⟩, ?_⟩
        simp only [Act.put, List.setIfInBounds_toArray, List.set_cons_succ, List.set_cons_zero]
        refine ⟨_, some 84, .string (tt.extract 0 k), rfl, rfl, ⟨rfl, exec_str_to (x := .tmp 82) (y := .tmp 83) rfl rfl rfl (by omega) (by omega)⟩, ?_⟩
        simp only [Act.put, List.setIfInBounds_toArray, List.set_cons_succ, List.set_cons_zero]
        refine ⟨_, some 85, .string tt, rfl, rfl, ⟨rfl, fun _ => rfl⟩, ?_⟩
        simp only [Act.put, List.setIfInBounds_toArray, List.set_cons_succ, List.set_cons_zero]
        refine ⟨_, some 86, .string ({ data := #[35, 97, 10, 35, 10] } ++ tt), rfl, rfl, ⟨rfl, exec_add (x := .const (.string { data := #[35, 97, 10, 35, 10] })) (y := .tmp 85) rfl rfl rfl (by omega)⟩, ?_⟩
        simp only [Act.put, List.setIfInBounds_toArray, List.set_cons_succ, List.set_cons_zero]
        refine ⟨_, some 87, .string tt, rfl, rfl, ⟨rfl, fun _ => rfl⟩, ?_⟩
        simp only [Act.put, List.setIfInBounds_toArray, List.set_cons_succ, List.set_cons_zero]
        refine ⟨_, some 88, .int .i64 k, rfl, rfl, ⟨rfl, fun _ => rfl⟩, ?_⟩
        simp only [Act.put, List.setIfInBounds_toArray, List.set_cons_succ, List.set_cons_zero]
        refine ⟨_, some 89, .string (tt.extract 0 k), rfl, rfl, ⟨rfl, exec_str_to (x := .tmp 87) (y := .tmp 88) rfl rfl rfl (by omega) (by omega)⟩, ?_⟩
        simp only [Act.put, List.setIfInBounds_toArray, List.set_cons_succ, List.set_cons_zero]
        refine ⟨_, some 90, .string more, rfl, rfl, ⟨rfl, fun _ => rfl⟩, ?_⟩
        simp only [Act.put, List.setIfInBounds_toArray, List.set_cons_succ, List.set_cons_zero]
        refine ⟨_, some 91, .string (tt.extract 0 k ++ more), rfl, rfl, ⟨rfl, exec_add (x := .tmp 89) (y := .tmp 90) rfl rfl rfl (by omega)⟩, ?_⟩
        simp only [Act.put, List.setIfInBounds_toArray, List.set_cons_succ, List.set_cons_zero]
        refine ⟨_, some 92, .string tt, rfl, rfl, ⟨rfl, fun _ => rfl⟩, ?_⟩
        simp only [Act.put, List.setIfInBounds_toArray, List.set_cons_succ, List.set_cons_zero]
        refine ⟨_, some 93, .int .i64 k, rfl, rfl, ⟨rfl, fun _ => rfl⟩, ?_⟩
        simp only [Act.put, List.setIfInBounds_toArray, List.set_cons_succ, List.set_cons_zero]
        refine ⟨_, some 94, .string (tt.extract k tt.size), rfl, rfl, ⟨rfl, exec_str_from (x := .tmp 92) (y := .tmp 93) rfl rfl rfl (by omega) (by omega)⟩, ?_⟩
        simp only [Act.put, List.setIfInBounds_toArray, List.set_cons_succ, List.set_cons_zero]
        refine ⟨_, some 95, .string (tt.extract 0 k ++ more ++ tt.extract k tt.size), rfl, rfl, ⟨rfl, exec_add (x := .tmp 91) (y := .tmp 94) rfl rfl rfl (by omega)⟩, ?_⟩
        simp only [Act.put, List.setIfInBounds_toArray, List.set_cons_succ, List.set_cons_zero]
        refine ⟨_, some 96, .string tt, rfl, rfl, ⟨rfl, fun _ => rfl⟩, ?_⟩
        simp only [Act.put, List.setIfInBounds_toArray, List.set_cons_succ, List.set_cons_zero]
        refine ⟨_, some 97, .int .i64 k, rfl, rfl, ⟨rfl, fun _ => rfl⟩, ?_⟩
        simp only [Act.put, List.setIfInBounds_toArray, List.set_cons_succ, List.set_cons_zero]
        refine ⟨_, some 98, .string (tt.extract 0 k), rfl, rfl, ⟨rfl, exec_str_to (x := .tmp 96) (y := .tmp 97) rfl rfl rfl (by omega) (by omega)⟩, ?_⟩
        simp only [Act.put, List.setIfInBounds_toArray, List.set_cons_succ, List.set_cons_zero]
        refine ⟨_, some 99, .string more, rfl, rfl, ⟨rfl, fun _ => rfl⟩, ?_⟩
        simp only [Act.put, List.setIfInBounds_toArray, List.set_cons_succ, List.set_cons_zero]
        refine ⟨_, some 100, .string (tt.extract 0 k ++ more), rfl, rfl, ⟨rfl, exec_add (x := .tmp 98) (y := .tmp 99) rfl rfl rfl (by omega)⟩, ?_⟩
        simp only [Act.put, List.setIfInBounds_toArray, List.set_cons_succ, List.set_cons_zero]
        refine ⟨_, some 101, .string tt, rfl, rfl, ⟨rfl, fun _ => rfl⟩, ?_⟩
        simp only [Act.put, List.setIfInBounds_toArray, List.set_cons_succ, List.set_cons_zero]
        refine ⟨_, some 102, .int .i64 k, rfl, rfl, ⟨rfl, fun _ => rfl⟩, ?_⟩
        simp only [Act.put, List.setIfInBounds_toArray, List.set_cons_succ, List.set_cons_zero]
        refine ⟨_, some 103, .string more, rfl, rfl, ⟨rfl, fun _ => rfl⟩, ?_⟩
        simp only [Act.put, List.setIfInBounds_toArray, List.set_cons_succ, List.set_cons_zero]
        refine ⟨_, some 104, .int .i64 (more.size : Int), rfl, rfl, ⟨rfl, exec_len (x := .tmp 103) rfl rfl rfl⟩, ?_⟩
        simp only [Act.put, List.setIfInBounds_toArray, List.set_cons_succ, List.set_cons_zero]
        refine ⟨_, some 105, .int .i64 ((k + more.size : Nat) : Int), rfl, rfl, ⟨rfl, exec_addi (x := .tmp 102) (y := .tmp 104) rfl rfl rfl (by omega)⟩, ?_⟩
        simp only [Act.put, List.setIfInBounds_toArray, List.set_cons_succ, List.set_cons_zero]
        refine ⟨_, some 106, .string tt, rfl, rfl, ⟨rfl, fun _ => rfl⟩, ?_⟩
        simp only [Act.put, List.setIfInBounds_toArray, List.set_cons_succ, List.set_cons_zero]
        refine ⟨_, some 107, .int .i64 (tt.size : Int), rfl, rfl, ⟨rfl, exec_len (x := .tmp 106) rfl rfl rfl⟩, ?_⟩
        simp only [Act.put, List.setIfInBounds_toArray, List.set_cons_succ, List.set_cons_zero]
        refine ⟨_, some 108, .int .i64 ((min (k + more.size) tt.size : Nat) : Int), rfl, rfl, ⟨rfl, exec_min (x := .tmp 105) (y := .tmp 107) rfl rfl rfl rfl⟩, ?_⟩
        simp only [Act.put, List.setIfInBounds_toArray, List.set_cons_succ, List.set_cons_zero]
        refine ⟨_, some 109, .string (tt.extract (min (k + more.size) tt.size) tt.size), rfl, rfl, ⟨rfl, exec_str_from (x := .tmp 101) (y := .tmp 108) rfl rfl rfl (by omega) (by omega)⟩, ?_⟩
        simp only [Act.put, List.setIfInBounds_toArray, List.set_cons_succ, List.set_cons_zero]
        refine ⟨_, some 110, .string (tt.extract 0 k ++ more ++ tt.extract (min (k + more.size) tt.size) tt.size), rfl, rfl, ⟨rfl, exec_add (x := .tmp 100) (y := .tmp 109) rfl rfl rfl (by omega)⟩, ?_⟩
        simp only [Act.put, List.setIfInBounds_toArray, List.set_cons_succ, List.set_cons_zero]
        refine ⟨_, some 113, .int .i64 0, rfl, rfl, ⟨rfl, fun _ => rfl⟩, ?_⟩
        simp only [Act.put, List.setIfInBounds_toArray, List.set_cons_succ, List.set_cons_zero]
        refine ⟨_, rfl, ?_⟩
        go_wp2_with fail
        refine ⟨rfl, ?_⟩
        refine ⟨_, some 112, .int .i64 6, rfl, rfl, ⟨rfl, exec_len_sl (x := .tmp 111) (k := 6) rfl rfl rfl⟩, ?_⟩
        simp only [Act.put, List.setIfInBounds_toArray, List.set_cons_succ, List.set_cons_zero]
        simp only [Qt.treeW]
        have hba : Below w6.heap.size w6 (w6.alloc (.cells #[.string s, .string tt, .string (tt.extract 0 k), .string ({ data := #[35, 97, 10, 35, 10] } ++ tt), .string (tt.extract 0 k ++ more ++ tt.extract k tt.size), .string (tt.extract 0 k ++ more ++ tt.extract (min (k + more.size) tt.size) tt.size)] 9)) := (Below.refl _ w6).alloc (Nat.le_refl _) _
        have hbd : Below w6.heap.size w6 (w6.alloc (.cells #[.string s, .string tt, .string (tt.extract 0 k), .string ({ data := #[35, 97, 10, 35, 10] } ++ tt), .string (tt.extract 0 k ++ more ++ tt.extract k tt.size), .string (tt.extract 0 k ++ more ++ tt.extract (min (k + more.size) tt.size) tt.size)] 9)).drew := ⟨hba.os, hba.tape, hba.output, hba.size, hba.block⟩
        have h6 : ∃ xs, Six (w6.alloc (.cells #[.string s, .string tt, .string (tt.extract 0 k), .string ({ data := #[35, 97, 10, 35, 10] } ++ tt), .string (tt.extract 0 k ++ more ++ tt.extract k tt.size), .string (tt.extract 0 k ++ more ++ tt.extract (min (k + more.size) tt.size) tt.size)] 9)).drew w6.heap.size xs := by
          refine ⟨fun j => match j with | 0 => s | 1 => tt | 2 => tt.extract 0 k | 3 => { data := #[35, 97, 10, 35, 10] } ++ tt | 4 => tt.extract 0 k ++ more ++ tt.extract k tt.size | _ => tt.extract 0 k ++ more ++ tt.extract (min (k + more.size) tt.size) tt.size, fun j hj => ?_, fun j => ?_⟩
          · match j, hj with
            | 0, _ => simp
            | 1, _ => simp
            | 2, _ => simp
            | 3, _ => simp
            | 4, _ => simp
            | 5, _ => simp
          · match j with
            | 0 => simp only; omega
            | 1 => simp only; omega
            | 2 => simp only; omega
            | 3 => simp only; omega
            | 4 => simp only; omega
            | n + 5 => simp only; omega
        obtain ⟨xs, hX⟩ := h6
        have HX := Lib.hid hX
        have B8 := Lib.hid (Qt.more B6.out B6.out.size hbd)
        have HM8 := Lib.hid (hM.below B8.out)
        generalize (w6.alloc (.cells #[.string s, .string tt, .string (tt.extract 0 k), .string ({ data := #[35, 97, 10, 35, 10] } ++ tt), .string (tt.extract 0 k ++ more ++ tt.extract k tt.size), .string (tt.extract 0 k ++ more ++ tt.extract (min (k + more.size) tt.size) tt.size)] 9)).drew = w8 at *
        generalize w6.heap.size = g6 at *
        clear hba hbd hX z0 z1 z2 z3 z4 z5 z6 hmn B6 hT hM hp5
        go_wp2
        go_loopw [113] (fun i wr => ∃ j : Nat, j ≤ 6 ∧ i = .int .i64 j ∧ Hid (Below w8.heap.size w8 wr)) (fun i _ => 6 - (intOf i).toNat)
        case atStart => exact ⟨0, by omega, rfl, Below.refl _ _⟩
        case round =>
          obtain ⟨j, hj, rfl, HB⟩ := hrel
          by_cases hlt : j < 6
          · have hltz : (j : Int) < 6 := by omega
            have x0 := Qt.keep HB.out (HX.out.cell j hlt)
            have hxs := HX.out.size j
            generalize xs j = X at x0 hxs
            obtain ⟨⟨L, e, p⟩, hr⟩ : ∃ r, parseP X.data.toList = r := ⟨_, rfl⟩
            have hpa := fun W hM => parse_of5 X hxs hr W hM
            have hpb := fun W => refParse_of5 X hxs hr W
            have hLs := parsed_short hr
            have hee : (e == e) = true := by simp
            clear hr
            go_wp2_with fail
            refine (hpa _ (HM8.out.below HB.out)).mono ?_
            rintro e' w9 ⟨A9, c9, rfl, hc9, hR9, hb9⟩
            have HB9 := Lib.hid (Qt.more HB.out HB.out.size hb9)
            clear hb9 hpa x0 HB
            go_wp2_with fail
            refine (hpb _).mono ?_
            rintro e' w10 ⟨A10, c10, rfl, hc10, hR10, hb10⟩
            have HB10 := Lib.hid (Qt.more HB9.out HB9.out.size hb10)
            have hR9 := (hR9.below hb10 (Nat.le_refl _)).more hb10.size
            have hsm := Cel.same_holds (c := c9) (c' := c10) hR9 hR10 (by omega)
            rw [decide_eq_true rfl] at hsm
            clear hb10 hpb HB9 hR9 hR10
            go_wp2_with fail
            refine hsm.mono ?_
            rintro e' w11 ⟨rfl, hb11⟩
            have HB11 := Lib.hid (Qt.more HB10.out HB10.out.size hb11)
            clear hsm hb11 HB10
            go_wp2
            go_roundw
            case measure => simp [intOf]; omega
            case rel => exact ⟨j + 1, by omega, by go_num, HB11⟩
          · have hltz : ¬ (j : Int) < 6 := by omega
            have B9 := Qt.more B8.out B8.out.size HB.out
            go_wp2
            go_ret
            exact ⟨by first | rfl | (simp [*]; done), B9⟩
end Go.Proofs.YtacpncmdgkljdaaGreatDoor
namespace Go.Proofs.YtacpncmdgkljdaaGreatDoor
open Go.ChangeShapes Go.WideShapes Go.ChangeAt Go.RowKit Go.Deep

theorem own : ownKnob Tryz.prog.godebug = none := by kernel_rfl
theorem laidOut : laidOutB Tryz.prog = true := by kernel_rfl

theorem i64_of_wf {a : Int} (h : (Lit.int .i64 a).wf = true) : I64 a := by
  have : IntKind.i64.min ≤ a ∧ a ≤ IntKind.i64.max := by simpa [Lit.wf] using h
  simpa [I64, IntKind.min, IntKind.max, IntKind.signed, IntKind.bits] using this
theorem u8_of_wf {a : Int} (h : (Lit.int .u8 a).wf = true) : ∃ t : UInt8, a = (t.toNat : Int) := by
  have : IntKind.u8.min ≤ a ∧ a ≤ IntKind.u8.max := by simpa [Lit.wf] using h
  have h2 : 0 ≤ a ∧ a ≤ 255 := by simpa [IntKind.min, IntKind.max, IntKind.signed, IntKind.bits] using this
  refine ⟨UInt8.ofNat a.toNat, ?_⟩
  have : (UInt8.ofNat a.toNat).toNat = a.toNat := by simp; omega
  omega

/-- The rows' own list. -/
def laidList : List (String × DataW Unit) := Rows.rleTellsRow.laid

theorem laid_shaped (os : Os) : (World.laidAll Tryz.prog os laidList).Shaped Tryz.prog := World.shaped_of_ZipB (by kernel_rfl) (by kernel_rfl)
theorem laid_met (os : Os) (args : Array Value) : laidMetH Tryz.prog laidList ((World.laidAll Tryz.prog os laidList).forCall (fun _ _ => 0) ⟨#[], args, []⟩).memory := by
  rw [MakeChecks.laidMetH_plain _ _ _ (by kernel_rfl)]
  exact laidMet_laidAll _ (by kernel_rfl) (by kernel_rfl)

theorem tab_of_laid {W : World} (h : laidMetH Tryz.prog laidList W) : Tab W := by
  rw [MakeChecks.laidMetH_plain _ _ _ (by kernel_rfl)] at h
  have h2 := h.tail.tail
  have e : (Rows.laid_internal_strconv_uint64pow10 : DataW Unit) = Lib.tabData .u64 Lib.pow10Tab := by kernel_rfl
  have h3 : laidMet Tryz.prog ((tabName, Lib.tabData .u64 Lib.pow10Tab) :: laidList.drop 3) W := by rw [← e]; exact h2
  exact Lib.tabIs_of_head (P := Tryz.prog) (g := 1) (t := 130) (e := 118) (n := 20) (by kernel_rfl) (by kernel_rfl) (by kernel_rfl) (by kernel_rfl) (by kernel_rfl) (by kernel_rfl) h3

section
variable {H : Type} {enc : TypeId × Value → H} {w : World} {base : Nat} {spare : Nat → Bool} {held : Bool}
theorem exists_listA {α : Type} (d : α) {n : Nat} {Q : Nat → α → Prop} (h : ∀ i, i < n → ∃ p, Q i p) : ∃ l : List α, l.length = n ∧ ∀ i, i < n → Q i (l.getD i d) := by
  induction n with
  | zero => exact ⟨[], rfl, fun i hi => absurd hi (Nat.not_lt_zero i)⟩
  | succ n ih =>
    obtain ⟨l, hl, hq⟩ := ih fun i hi => h i (by omega)
    obtain ⟨p, hp⟩ := h n (by omega)
    refine ⟨l ++ [p], by simp [hl], fun i hi => ?_⟩
    by_cases hin : i < n
    · rw [List.getD_eq_getElem?_getD, List.getElem?_append_left (by omega), ← List.getD_eq_getElem?_getD]
      exact hq i hin
    · have : i = n := by omega
      subst this
      rw [List.getD_eq_getElem?_getD, List.getElem?_append_right (by omega), hl]
      simpa using hp
theorem open_nums {P : Program} {t e : TypeId} {fuel : Nat} {a0 : Option Addr} {len0 cap0 : Nat} {x : DataW H × List MemPlace} (ht : P.underlying t = some (.slice e)) (he : P.underlying e = some (.int .i64)) (h1 : P.cellsOf e = 1) (h : DataW.trod enc P w base spare held fuel t [.slice a0 len0 cap0] = some x) :
    ∃ l : List Int, l.length = len0 ∧ len0 ≤ cap0 ∧ cap0 ≤ maxLen ∧ Rd w w.heap.size a0 l ∧ ∀ p ∈ l, I64 p := by
  rcases open_slice ht h with ⟨hcs, _⟩ | ⟨a, len, cap, m, n, D, Pl, hcs, hb, hl, hm, hmm, _, hi⟩
  · simp at hcs
    obtain ⟨rfl, rfl, rfl⟩ := hcs
    exact ⟨[], rfl, Nat.le_refl _, by simp [maxLen], Rd.nil _ _ _, fun p hp => by cases hp⟩
  · simp at hcs
    obtain ⟨rfl, rfl, rfl⟩ := hcs
    have hlm : len0 ≤ m := by rw [hmm]; split <;> omega
    have hq : ∀ i, i < len0 → ∃ p : Int, w.cell? (a.add i) = some (.int .i64 p) ∧ I64 p := by
      intro i hi'
      obtain ⟨cs', hc, ht'⟩ := hi i (by omega)
      rw [h1] at hc
      obtain ⟨u, hu, _, wu⟩ := DataW.trod_int he ht'
      subst hu
      obtain ⟨_, _, hat⟩ := World.cells?_some hc
      have h0 := hat 0 (by omega)
      refine ⟨u, ?_, i64_of_wf wu⟩
      simpa [Addr.add] using h0
    obtain ⟨l, hll, hlq⟩ := exists_listA 0 hq
    refine ⟨l, hll, hl, hm, fun j hj => ?_, fun p hp => ?_⟩
    · obtain ⟨c0, _⟩ := hlq j (by omega)
      obtain ⟨b, off, spot⟩ := a
      have hspot : spot = none := by
        have := (hlq 0 (by omega)).1
        simpa [Addr.add] using World.cell?_spot this
      subst hspot
      rw [Addr.add_lit] at c0
      exact ⟨b, off, rfl, block_lt_of_cell c0, c0⟩
    · obtain ⟨j, hj, rfl⟩ := List.getElem_of_mem hp
      have := (hlq j (by omega)).2
      rwa [List.getD_eq_getElem?_getD, List.getElem?_eq_getElem hj] at this

/-- An element of two cells, each a number. -/
def TwoInts (P : Program) (e : TypeId) : Prop := P.cellsOf e = 2 ∧ ∀ {H : Type} {enc : TypeId × Value → H} {w : World} {base : Nat} {spare : Nat → Bool} {held : Bool} (n : Nat) (cs : List Value) (y : DataW H × List MemPlace), DataW.trod enc P w base spare held n e cs = some y → ∃ a b, cs = [.int .i64 a, .int .i64 b] ∧ I64 a ∧ I64 b
theorem two_array {P : Program} {e t : TypeId} (he : P.underlying e = some (.array 2 t)) (ht : P.underlying t = some (.int .i64)) (h2 : P.cellsOf e = 2) (h1 : P.cellsOf t = 1) : TwoInts P e := by
  refine ⟨h2, fun n cs y h => ?_⟩
  obtain ⟨xs, m, _, _, hlen, hxl, hx⟩ := DataW.trod_array he h
  rw [h2] at hlen
  obtain ⟨a, b, rfl⟩ : ∃ a b, cs = [a, b] := by
    match cs, hlen with
    | [a, b], _ => exact ⟨a, b, rfl⟩
  have x0 := hx 0 (by omega)
  have x1 := hx 1 (by omega)
  rw [h1] at x0 x1
  rw [List.getElem?_eq_getElem (by omega)] at x0 x1
  obtain ⟨u, hu, _, wu⟩ := DataW.trod_int ht x0
  obtain ⟨v, hv, _, wv⟩ := DataW.trod_int ht x1
  simp at hu hv
  exact ⟨u, v, by rw [hu, hv], i64_of_wf wu, i64_of_wf wv⟩
theorem open_pairs {P : Program} {t e : TypeId} {fuel : Nat} {a0 : Option Addr} {len0 cap0 : Nat} {x : DataW H × List MemPlace} (ht : P.underlying t = some (.slice e)) (he : TwoInts P e) (h : DataW.trod enc P w base spare held fuel t [.slice a0 len0 cap0] = some x) :
    ∃ l : List (Int × Int), l.length = len0 ∧ len0 ≤ cap0 ∧ cap0 ≤ maxLen ∧ RdP w w.heap.size a0 l ∧ ∀ p ∈ l, I64 p.1 ∧ I64 p.2 := by
  rcases open_slice ht h with ⟨hcs, _⟩ | ⟨a, len, cap, m, n, D, Pl, hcs, hb, hl, hm, hmm, _, hi⟩
  · simp at hcs
    obtain ⟨rfl, rfl, rfl⟩ := hcs
    exact ⟨[], rfl, Nat.le_refl _, by simp [maxLen], RdP.nil _ _ _, fun p hp => by cases hp⟩
  · simp at hcs
    obtain ⟨rfl, rfl, rfl⟩ := hcs
    have hlm : len0 ≤ m := by rw [hmm]; split <;> omega
    have hq : ∀ i, i < len0 → ∃ p : Int × Int, (w.cell? (a.add (i * 2)) = some (.int .i64 p.1) ∧ w.cell? ((a.add (i * 2)).add 1) = some (.int .i64 p.2)) ∧ I64 p.1 ∧ I64 p.2 := by
      intro i hi'
      obtain ⟨cs', hc, ht'⟩ := hi i (by omega)
      rw [he.1] at hc
      obtain ⟨u, v, rfl, wu, wv⟩ := he.2 _ _ _ ht'
      obtain ⟨_, _, hat⟩ := World.cells?_some hc
      have h0 := hat 0 (by omega)
      have h1 := hat 1 (by omega)
      refine ⟨(u, v), ⟨?_, ?_⟩, wu, wv⟩
      · simpa [Addr.add] using h0
      · simpa using h1
    obtain ⟨l, hll, hlq⟩ := exists_listA (0, 0) hq
    refine ⟨l, hll, hl, hm, fun j hj => ?_, fun p hp => ?_⟩
    · obtain ⟨⟨c0, c1⟩, _⟩ := hlq j (by omega)
      obtain ⟨b, off, spot⟩ := a
      have hspot : spot = none := by
        have := (hlq 0 (by omega)).1.1
        simpa [Addr.add] using World.cell?_spot this
      subst hspot
      rw [Addr.add_lit] at c0 c1
      rw [Addr.add_lit] at c1
      exact ⟨b, off, rfl, block_lt_of_cell c0, c0, c1⟩
    · obtain ⟨j, hj, rfl⟩ := List.getElem_of_mem hp
      have := (hlq j (by omega)).2
      rwa [List.getD_eq_getElem?_getD, List.getElem?_eq_getElem hj] at this

/-- An element of three cells: a byte, two numbers. -/
def ByteInts (P : Program) (e : TypeId) : Prop := P.cellsOf e = 3 ∧ ∀ {H : Type} {enc : TypeId × Value → H} {w : World} {base : Nat} {spare : Nat → Bool} {held : Bool} (n : Nat) (cs : List Value) (y : DataW H × List MemPlace), DataW.trod enc P w base spare held n e cs = some y → ∃ (t : UInt8) (a b : Int), cs = [.int .u8 t.toNat, .int .i64 a, .int .i64 b] ∧ I64 a ∧ I64 b
theorem byte_struct {P : Program} {e s t : TypeId} {f0 f1 f2 : Field} (he : P.underlying e = some (.struct #[f0, f1, f2])) (h0 : f0.type = s) (h1 : f1.type = t) (h2 : f2.type = t) (hs : P.underlying s = some (.int .u8)) (ht : P.underlying t = some (.int .i64)) (hone : oneCellFields P #[f0, f1, f2] = true) (h3 : P.cellsOf e = 3) : ByteInts P e := by
  refine ⟨h3, fun n cs y h => ?_⟩
  obtain ⟨ys, m, hn, hy, hlen, hyl, hf⟩ := DataW.trod_struct he h
  rw [h3] at hlen
  obtain ⟨a, b, c, rfl⟩ : ∃ a b c, cs = [a, b, c] := by
    match cs, hlen with
    | [a, b, c], _ => exact ⟨a, b, c, rfl⟩
  obtain ⟨o0, k0⟩ := hone_of hone 0 f0 rfl
  obtain ⟨o1, k1⟩ := hone_of hone 1 f1 rfl
  obtain ⟨o2, k2⟩ := hone_of hone 2 f2 rfl
  have x0 := hf 0 f0 rfl
  have x1 := hf 1 f1 rfl
  have x2 := hf 2 f2 rfl
  have hyl' : ys.length = 3 := by simpa using hyl
  rw [o0, k0, h0, List.getElem?_eq_getElem (by omega)] at x0
  rw [o1, k1, h1, List.getElem?_eq_getElem (by omega)] at x1
  rw [o2, k2, h2, List.getElem?_eq_getElem (by omega)] at x2
  obtain ⟨u, hu, _, wu⟩ := DataW.trod_int hs x0
  obtain ⟨v, hv, _, wv⟩ := DataW.trod_int ht x1
  obtain ⟨z, hz, _, wz⟩ := DataW.trod_int ht x2
  simp at hu hv hz
  obtain ⟨q, rfl⟩ := u8_of_wf wu
  exact ⟨q, v, z, by rw [hu, hv, hz], i64_of_wf wv, i64_of_wf wz⟩
theorem open_items {P : Program} {t e : TypeId} {fuel : Nat} {a0 : Option Addr} {len0 cap0 : Nat} {x : DataW H × List MemPlace} (ht : P.underlying t = some (.slice e)) (he : ByteInts P e) (h : DataW.trod enc P w base spare held fuel t [.slice a0 len0 cap0] = some x) :
    ∃ l : List Ite, l.length = len0 ∧ len0 ≤ cap0 ∧ cap0 ≤ maxLen ∧ RdE w w.heap.size a0 l ∧ (∀ p ∈ l, I64 p.2.1 ∧ I64 p.2.2) ∧ (x.1 = .nil ∧ len0 = 0 ∨ ∃ es sp, x.1 = .slice es sp ∧ es.length = len0) := by
  rcases open_slice ht h with ⟨hcs, hx⟩ | ⟨a, len, cap, m, n, D, Pl, hcs, hb, hl, hm, hmm, hx, hi⟩
  · simp at hcs
    obtain ⟨rfl, rfl, rfl⟩ := hcs
    exact ⟨[], rfl, Nat.le_refl _, by simp [maxLen], RdE.nil _ _ _, (fun p hp => by cases hp), .inl ⟨by rw [hx], rfl⟩⟩
  · simp at hcs
    obtain ⟨rfl, rfl, rfl⟩ := hcs
    have hlm : len0 ≤ m := by rw [hmm]; split <;> omega
    have hq : ∀ i, i < len0 → ∃ p : Ite, (w.cell? (a.add (i * 3)) = some (.int .u8 p.1.toNat) ∧ w.cell? ((a.add (i * 3)).add 1) = some (.int .i64 p.2.1) ∧ w.cell? ((a.add (i * 3)).add 2) = some (.int .i64 p.2.2)) ∧ I64 p.2.1 ∧ I64 p.2.2 := by
      intro i hi'
      obtain ⟨cs', hc, ht'⟩ := hi i (by omega)
      rw [he.1] at hc
      obtain ⟨q, u, v, rfl, wu, wv⟩ := he.2 _ _ _ ht'
      obtain ⟨_, _, hat⟩ := World.cells?_some hc
      have h0 := hat 0 (by omega)
      have h1 := hat 1 (by omega)
      have h2 := hat 2 (by omega)
      refine ⟨(q, u, v), ⟨?_, ?_, ?_⟩, wu, wv⟩
      · simpa [Addr.add] using h0
      · simpa using h1
      · simpa using h2
    obtain ⟨l, hll, hlq⟩ := exists_listA noE hq
    refine ⟨l, hll, hl, hm, fun j hj => ?_, fun p hp => ?_, .inr ⟨_, _, by rw [hx], by simp⟩⟩
    · obtain ⟨⟨c0, c1, c2⟩, _⟩ := hlq j (by omega)
      obtain ⟨b, off, spot⟩ := a
      have hspot : spot = none := by
        have := (hlq 0 (by omega)).1.1
        simpa [Addr.add] using World.cell?_spot this
      subst hspot
      rw [Addr.add_lit] at c0 c1 c2
      rw [Addr.add_lit] at c1 c2
      exact ⟨b, off, rfl, block_lt_of_cell c0, c0, c1, c2⟩
    · obtain ⟨j, hj, rfl⟩ := List.getElem_of_mem hp
      have := (hlq j (by omega)).2
      rwa [List.getD_eq_getElem?_getD, List.getElem?_eq_getElem hj] at this
end

theorem twoArr : TwoInts Tryz.prog 62 := two_array Tryz.underlying62 Tryz.underlying3 (by kernel_rfl) (by kernel_rfl)
theorem byteItem : ByteInts Tryz.prog 61 := byte_struct Tryz.underlying61 rfl rfl rfl Tryz.underlying5 Tryz.underlying3 (by kernel_rfl) (by kernel_rfl)

end Go.Proofs.YtacpncmdgkljdaaGreatDoor
namespace Go.Proofs.YtacpncmdgkljdaaGreatDoor
set_option linter.unusedVariables false

theorem wrap_both {H : Type} {enc : TypeId × Value → H} {C : Checked} {os : Os} {f : FuncId} {fn : Func} {s : ChangeSpec} {X : World → Array Value → Prop}
    (hX : ∀ (w w' : World) (args : Array Value), w.heap = w'.heap → X w args → X w' args) (own : ownKnob C.prog.godebug = none) (started : os.Started) (noInit : C.prog.inits.idxOf? f = none) (hfn : C.prog.funcs[f]? = some fn)
    (witness : ∃ (w : World) (tape : Tape) (i : Input), w.os = os ∧ (w.forCall tape i).Shaped C.prog ∧ i.vars = [] ∧ Input.okWide C.prog (w.forCall tape i) .any w.heap.size f i ∧
      ((s.pre enc C.prog fn [] false (w.forCall tape i).memory i.args ∧ X (w.forCall tape i).memory i.args) ∧ sizedMet enc C.prog fn (OpenSpec.ofChange s) false (w.forCall tape i).memory i.args) ∧ ({} : Assume).holds C.prog (lone (Frame.enter C.prog f i.args .normal) [] (w.forCall tape i)))
    (contract : ∀ (W : World) (base : Nat) (args : Array Value) (ds gs : List (DataW H)) (before : List MemPlace), W.ShapedOpen C.prog → X W args →
      (∀ (j : Nat) t v, fn.params[j]? = some t → args[j]? = some v → Value.okWide C.prog W .any base t v) →
      DataW.Whole enc C.prog fn.params.toList s.vars false W args.toList ds gs before →
      (DataW.weightsEach C.prog (fn.params.toList ++ s.plain.varTypes C.prog) (ds ++ gs)).all (· ≤ reachBytes) = true →
      Calls C.prog f args W fun e W' => ∃ v, e = .returned v ∧ s.post enc C.prog fn false true false false W args v W') :
    ReturnsInHanded {} C os f .any (fun w args => (s.pre enc C.prog fn [] false w args ∧ X w args) ∧ sizedMet enc C.prog fn (OpenSpec.ofChange s) false w args) (s.post enc C.prog fn false true false false) := by
  refine returnsInHanded_of_calls own started noInit witness fun w tape i _ hsh _ hok hpre _ => ?_
  obtain ⟨_, _, _, fn2, hfn2, _, _, _, _, hval⟩ := hok
  obtain rfl : fn2 = fn := Option.some.inj (hfn2.symm.trans hfn)
  obtain ⟨⟨⟨ds, gs, before, hw, _⟩, hx⟩, hz⟩ := hpre
  have hc := contract (w.forCall tape i) w.heap.size i.args ds gs before hsh (hX _ _ _ (by rfl) hx) hval (DataW.Whole.of_heap (w' := w.forCall tape i) (by rfl) hw) (hz.weights hw)
  exact hc.mono fun e W' h => by
    obtain ⟨v, rfl, hp⟩ := h
    exact ChangeSpec.post_blind hp
end Go.Proofs.YtacpncmdgkljdaaGreatDoor
