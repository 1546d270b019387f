/-
  Layer 5: the law RleForth, walked.
-/
import Derived.Test.YtacpncmdgkljdaaDoorZp
import Derived.Test.YtacpncmdgkljdaaDoorZr
import Derived.Test.YtacpncmdgkljdaaDoorB07
import Derived.Test.YtacpncmdgkljdaaDoorB02
namespace Go.Proofs.YtacpncmdgkljdaaDoor
set_option linter.unusedVariables false
set_option linter.unusedSimpArgs false
open Go.RowKit Go.Sort
open Cel (boxV noBox loX hiX shL rightB rawSet)

/-- the four texts, and the slice that holds them -/
structure Four (w : World) (g : Nat) (xs : Nat → ByteArray) : Prop where
  cell : ∀ j, j < 4 → w.cell? ⟨g, j, none⟩ = some (.string (xs j))
  size : ∀ j, (xs j).size ≤ 9223372036854775807
theorem parse_of (X : ByteArray) (hX : X.size ≤ 9223372036854775807) {L : List (Int × Int)} {e : Int} {p : Nat} (h : parseP X.data.toList = (L, e, p)) (w : World) (hM : Mx w) :
    Calls Tryd.prog 14 #[.string X] w fun e' w' => ∃ A c, e' = .returned (.tuple #[.slice A L.length c, .int .i64 e, .int .i64 p]) ∧ L.length ≤ c ∧ Cel.Rd w' w'.heap.size A L ∧ Below w.heap.size w w' := by
  have h1 := rleParse_any X.data.toList w (by rw [← size_list]; exact hX) hM
  rw [str_list, h] at h1
  refine h1.mono ?_
  rintro e' w' ⟨v, rfl, ⟨A, c, rfl, hc, hR⟩, hb⟩
  exact ⟨A, c, rfl, hc, hR, hb⟩

set_option maxHeartbeats 8000000 in
set_option maxRecDepth 100000 in
theorem rleForth_walk (s : ByteArray) (A : Option Addr) (raw : List (Int × Int)) (c : Nat) (far at_ : Int) (more : ByteArray) (w : World) (hss : s.size ≤ 140737488355328) (hR : NowP w A raw) (hl : raw.length ≤ 9223372036854775807) (hc : raw.length ≤ c) (hw : ∀ p ∈ raw, I64 p.1 ∧ I64 p.2) (hf : I64 far) (hat : I64 at_) (hms : more.size ≤ 140737488355328) (hT : Tab w) (hM : Mx w) :
    Calls Tryd.prog 4 #[.string s, .slice A raw.length c, .int .i64 far, .int .i64 at_, .string more] w fun e w' => e = .returned (.bool true) ∧ Below w.heap.size w w' := by
  have h1 := awake5_any w hT hM
  have hfar := fun W (hb : Below w.heap.size w W) => far_any A raw c far W ((Cel.Rd.below hR hb (Nat.le_refl _)).more hb.size) hl hc hw hf
  have hown := own5_far (decide (pickI far 5 = 4)) raw
  generalize farL (decide (pickI far 5 = 4)) (rawSet raw) = l at *
  have hshort := hown.short
  have hz := str_size (printL l)
  have hS : str (printL l) = str (printL l) := rfl
  have hpr := fun (A : Option Addr) (c : Nat) (W : World) (hR : Cel.Rd W W.heap.size A l) (hc : l.length ≤ c) (hT : Tab W) => print_reads hR hc hown.right hT hS
  have htt : (str (printL l)).size ≤ 2600 := by omega
  clear hz hS hshort hown
  generalize str (printL l) = tt at *
  have hpk := fun W => pick_nat at_ ((tt.size : Int) + 1) W hat (by omega) (by omega)
  have hpb := pickI_bd at_ ((tt.size : Int) + 1) (by omega)
  obtain ⟨k, hk⟩ : ∃ k, k = (pickI at_ ((tt.size : Int) + 1)).toNat := ⟨_, rfl⟩
  rw [← hk] at hpk
  have hkt : k ≤ tt.size := by omega
  clear hk hpb hat
  go_enter Tryd.func4, Tryd.ntmps4
  go_wp2_with fail
  refine h1.mono ?_
  rintro e w1 ⟨rfl, B1⟩
  clear h1
  go_wp2_with fail
  refine (hfar w1 B1).mono ?_
  rintro e w2 ⟨v2, rfl, ⟨A2, c2, rfl, hc2, hR2⟩, hb2⟩
  have B2 := Qt.more B1 B1.size hb2
  clear hfar hb2 B1
  go_wp2_with fail
  refine (hpr A2 c2 w2 hR2 hc2 (hT.below B2)).mono ?_
  rintro e w3 ⟨rfl, hb3⟩
  have B3 := Lib.hid (Qt.more B2 B2.size hb3)
  clear hpr hb3 B2 hR2 hc2
  go_wp2_with fail
  refine (hpk _).mono ?_
  rintro e w4 ⟨rfl, rfl⟩
  clear hpk
  have hmn : min (k + more.size) tt.size ≤ tt.size := Nat.min_le_right _ _
  have hp13 : ({ data := #[120, 32, 61, 32, 49, 44, 32, 121, 32, 61, 32, 49, 10] } : ByteArray).size = 13 := rfl
  have z0 : ({ data := #[120, 32, 61, 32, 49, 44, 32, 121, 32, 61, 32, 49, 10] } ++ s).size ≤ 140737488356000 := by rw [ByteArray.size_append]; omega
  have z1 : (tt.extract 0 k).size ≤ 2600 := by rw [ByteArray.size_extract]; omega
  have z2 : (tt.extract k tt.size).size ≤ 2600 := by rw [ByteArray.size_extract]; omega
  have z3 : (tt.extract (min (k + more.size) tt.size) tt.size).size ≤ 2600 := by rw [ByteArray.size_extract]; omega
  have z4 : (tt.extract 0 k ++ more).size ≤ 140737488358000 := by rw [ByteArray.size_append]; omega
  have z5 : (tt.extract 0 k ++ more ++ tt.extract k tt.size).size ≤ 140737488361000 := by rw [ByteArray.size_append]; omega
  have z6 : (tt.extract 0 k ++ more ++ tt.extract (min (k + more.size) tt.size) tt.size).size ≤ 140737488361000 := by rw [ByteArray.size_append]; omega
  go_wp2_with fail
  refine Qt.region_tree (.pure 0 <| .pure 1 <| .pure 2 <| .pure 3 <| .pure 4 <| .pure 5 <| .pure 6 <| .pure 7 <| .pure 8 <| .pure 9 <| .pure 10 <| .pure 11 <| .pure 12 <| .pure 13 <| .pure 14 <| .pure 15 <| .pure 16 <| .pure 17 <| .pure 18 <| .pure 19 <| .pure 20 <| .pure 21 <| .pure 22 <| .pure 23 <| .pure 24 <| .pure 25 <| .pure 26 <| .pure 29 <| .only 27 <| .pure 28 .done) (by kernel_rfl) (by kernel_rfl) (by kernel_rfl) (by rfl) ?_
  refine ⟨_, some 42, .string s, rfl, rfl, ⟨rfl, fun _ => rfl⟩, ?_⟩
  simp only [Act.put, List.setIfInBounds_toArray, List.set_cons_succ, List.set_cons_zero]
  refine ⟨_, some 43, .string s, rfl, rfl, ⟨rfl, fun _ => rfl⟩, ?_⟩
  simp only [Act.put, List.setIfInBounds_toArray, List.set_cons_succ, List.set_cons_zero]
  refine ⟨_, some 44, .string ({ data := #[120, 32, 61, 32, 49, 44, 32, 121, 32, 61, 32, 49, 10] } ++ s), rfl, rfl, ⟨rfl, exec_add (x := .const (.string { data := #[120, 32, 61, 32, 49, 44, 32, 121, 32, 61, 32, 49, 10] })) (y := .tmp 43) rfl rfl rfl (by omega)⟩, ?_⟩
  simp only [Act.put, List.setIfInBounds_toArray, List.set_cons_succ, List.set_cons_zero]
  refine ⟨_, some 45, .string tt, rfl, rfl, ⟨rfl, fun _ => rfl⟩, ?_⟩
  simp only [Act.put, List.setIfInBounds_toArray, List.set_cons_succ, List.set_cons_zero]
  refine ⟨_, some 46, .int .i64 k, rfl, rfl, ⟨rfl, fun _ => rfl⟩, ?_⟩
  simp only [Act.put, List.setIfInBounds_toArray, List.set_cons_succ, List.set_cons_zero]
  refine ⟨_, some 47, .string (tt.extract 0 k), rfl, rfl, ⟨rfl, exec_str_to (x := .tmp 45) (y := .tmp 46) rfl rfl rfl (by omega) (by omega)⟩, ?_⟩
  simp only [Act.put, List.setIfInBounds_toArray, List.set_cons_succ, List.set_cons_zero]
  refine ⟨_, some 48, .string more, rfl, rfl, ⟨rfl, fun _ => rfl⟩, ?_⟩
  simp only [Act.put, List.setIfInBounds_toArray, List.set_cons_succ, List.set_cons_zero]
  refine ⟨_, some 49, .string (tt.extract 0 k ++ more), rfl, rfl, ⟨rfl, exec_add (x := .tmp 47) (y := .tmp 48) rfl rfl rfl (by omega)⟩, ?_⟩
  simp only [Act.put, List.setIfInBounds_toArray, List.set_cons_succ, List.set_cons_zero]
  refine ⟨_, some 50, .string tt, rfl, rfl, ⟨rfl, fun _ => rfl⟩, ?_⟩
  simp only [Act.put, List.setIfInBounds_toArray, List.set_cons_succ, List.set_cons_zero]
  refine ⟨_, some 51, .int .i64 k, rfl, rfl, ⟨rfl, fun _ => rfl⟩, ?_⟩
  simp only [Act.put, List.setIfInBounds_toArray, List.set_cons_succ, List.set_cons_zero]
  refine ⟨_, some 52, .string (tt.extract k tt.size), rfl, rfl, ⟨rfl, exec_str_from (x := .tmp 50) (y := .tmp 51) rfl rfl rfl (by omega) (by omega)⟩, ?_⟩
  simp only [Act.put, List.setIfInBounds_toArray, List.set_cons_succ, List.set_cons_zero]
  refine ⟨_, some 53, .string (tt.extract 0 k ++ more ++ tt.extract k tt.size), rfl, rfl, ⟨rfl, exec_add (x := .tmp 49) (y := .tmp 52) rfl rfl rfl (by omega)⟩, ?_⟩
  simp only [Act.put, List.setIfInBounds_toArray, List.set_cons_succ, List.set_cons_zero]
  refine ⟨_, some 54, .string tt, rfl, rfl, ⟨rfl, fun _ => rfl⟩, ?_⟩
  simp only [Act.put, List.setIfInBounds_toArray, List.set_cons_succ, List.set_cons_zero]
  refine ⟨_, some 55, .int .i64 k, rfl, rfl, ⟨rfl, fun _ => rfl⟩, ?_⟩
  simp only [Act.put, List.setIfInBounds_toArray, List.set_cons_succ, List.set_cons_zero]
  refine ⟨_, some 56, .string (tt.extract 0 k), rfl, rfl, ⟨rfl, exec_str_to (x := .tmp 54) (y := .tmp 55) rfl rfl rfl (by omega) (by omega)⟩, ?_⟩
  simp only [Act.put, List.setIfInBounds_toArray, List.set_cons_succ, List.set_cons_zero]
  refine ⟨_, some 57, .string more, rfl, rfl, ⟨rfl, fun _ => rfl⟩, ?_⟩
  simp only [Act.put, List.setIfInBounds_toArray, List.set_cons_succ, List.set_cons_zero]
  refine ⟨_, some 58, .string (tt.extract 0 k ++ more), rfl, rfl, ⟨rfl, exec_add (x := .tmp 56) (y := .tmp 57) rfl rfl rfl (by omega)⟩, ?_⟩
  simp only [Act.put, List.setIfInBounds_toArray, List.set_cons_succ, List.set_cons_zero]
  refine ⟨_, some 59, .string tt, rfl, rfl, ⟨rfl, fun _ => rfl⟩, ?_⟩
  simp only [Act.put, List.setIfInBounds_toArray, List.set_cons_succ, List.set_cons_zero]
  refine ⟨_, some 60, .int .i64 k, rfl, rfl, ⟨rfl, fun _ => rfl⟩, ?_⟩
  simp only [Act.put, List.setIfInBounds_toArray, List.set_cons_succ, List.set_cons_zero]
  refine ⟨_, some 61, .string more, rfl, rfl, ⟨rfl, fun _ => rfl⟩, ?_⟩
  simp only [Act.put, List.setIfInBounds_toArray, List.set_cons_succ, List.set_cons_zero]
  refine ⟨_, some 62, .int .i64 (more.size : Int), rfl, rfl, ⟨rfl, exec_len (x := .tmp 61) rfl rfl rfl⟩, ?_⟩
  simp only [Act.put, List.setIfInBounds_toArray, List.set_cons_succ, List.set_cons_zero]
  refine ⟨_, some 63, .int .i64 ((k + more.size : Nat) : Int), rfl, rfl, ⟨rfl, exec_addi (x := .tmp 60) (y := .tmp 62) rfl rfl rfl (by omega)⟩, ?_⟩
  simp only [Act.put, List.setIfInBounds_toArray, List.set_cons_succ, List.set_cons_zero]
  refine ⟨_, some 64, .string tt, rfl, rfl, ⟨rfl, fun _ => rfl⟩, ?_⟩
  simp only [Act.put, List.setIfInBounds_toArray, List.set_cons_succ, List.set_cons_zero]
  refine ⟨_, some 65, .int .i64 (tt.size : Int), rfl, rfl, ⟨rfl, exec_len (x := .tmp 64) rfl rfl rfl⟩, ?_⟩
  simp only [Act.put, List.setIfInBounds_toArray, List.set_cons_succ, List.set_cons_zero]
  refine ⟨_, some 66, .int .i64 ((min (k + more.size) tt.size : Nat) : Int), rfl, rfl, ⟨rfl, exec_min (x := .tmp 63) (y := .tmp 65) rfl rfl rfl rfl⟩, ?_⟩
  simp only [Act.put, List.setIfInBounds_toArray, List.set_cons_succ, List.set_cons_zero]
  refine ⟨_, some 67, .string (tt.extract (min (k + more.size) tt.size) tt.size), rfl, rfl, ⟨rfl, exec_str_from (x := .tmp 59) (y := .tmp 66) rfl rfl rfl (by omega) (by omega)⟩, ?_⟩
  simp only [Act.put, List.setIfInBounds_toArray, List.set_cons_succ, List.set_cons_zero]
  refine ⟨_, some 68, .string (tt.extract 0 k ++ more ++ tt.extract (min (k + more.size) tt.size) tt.size), rfl, rfl, ⟨rfl, exec_add (x := .tmp 58) (y := .tmp 67) rfl rfl rfl (by omega)⟩, ?_⟩
  simp only [Act.put, List.setIfInBounds_toArray, List.set_cons_succ, List.set_cons_zero]
  refine ⟨_, some 71, .int .i64 0, rfl, rfl, ⟨rfl, fun _ => rfl⟩, ?_⟩
  simp only [Act.put, List.setIfInBounds_toArray, List.set_cons_succ, List.set_cons_zero]
  refine ⟨_, rfl, ?_⟩
  go_wp2_with fail
  refine ⟨rfl, ?_⟩
  refine ⟨_, some 70, .int .i64 4, rfl, rfl, ⟨rfl, exec_len_sl (x := .tmp 69) (k := 4) rfl rfl rfl⟩, ?_⟩
  simp only [Act.put, List.setIfInBounds_toArray, List.set_cons_succ, List.set_cons_zero]
  simp only [Qt.treeW]
  have hba : Below w3.heap.size w3 (w3.alloc (.cells #[.string s, .string ({ data := #[120, 32, 61, 32, 49, 44, 32, 121, 32, 61, 32, 49, 10] } ++ s), .string (tt.extract 0 k ++ more ++ tt.extract k tt.size), .string (tt.extract 0 k ++ more ++ tt.extract (min (k + more.size) tt.size) tt.size)] 9)) := (Below.refl _ w3).alloc (Nat.le_refl _) _
  have hbd : Below w3.heap.size w3 (w3.alloc (.cells #[.string s, .string ({ data := #[120, 32, 61, 32, 49, 44, 32, 121, 32, 61, 32, 49, 10] } ++ s), .string (tt.extract 0 k ++ more ++ tt.extract k tt.size), .string (tt.extract 0 k ++ more ++ tt.extract (min (k + more.size) tt.size) tt.size)] 9)).drew := ⟨hba.os, hba.tape, hba.output, hba.size, hba.block⟩
  have h4 : ∃ xs, Four (w3.alloc (.cells #[.string s, .string ({ data := #[120, 32, 61, 32, 49, 44, 32, 121, 32, 61, 32, 49, 10] } ++ s), .string (tt.extract 0 k ++ more ++ tt.extract k tt.size), .string (tt.extract 0 k ++ more ++ tt.extract (min (k + more.size) tt.size) tt.size)] 9)).drew w3.heap.size xs := by
    refine ⟨fun j => match j with | 0 => s | 1 => { data := #[120, 32, 61, 32, 49, 44, 32, 121, 32, 61, 32, 49, 10] } ++ s | 2 => tt.extract 0 k ++ more ++ tt.extract k tt.size | _ => tt.extract 0 k ++ more ++ tt.extract (min (k + more.size) tt.size) tt.size, fun j hj => ?_, fun j => ?_⟩
    · match j, hj with
      | 0, _ => simp
      | 1, _ => simp
      | 2, _ => simp
      | 3, _ => simp
    · match j with
      | 0 => simp only; omega
      | 1 => simp only; omega
      | 2 => simp only; omega
      | n + 3 => simp only; omega
  obtain ⟨xs, hX⟩ := h4
  have HX := Lib.hid hX
  have B5 := Lib.hid (Qt.more B3.out B3.out.size hbd)
  have HT5 := Lib.hid (hT.below B5.out)
  have HM5 := Lib.hid (hM.below B5.out)
  generalize (w3.alloc (.cells #[.string s, .string ({ data := #[120, 32, 61, 32, 49, 44, 32, 121, 32, 61, 32, 49, 10] } ++ s), .string (tt.extract 0 k ++ more ++ tt.extract k tt.size), .string (tt.extract 0 k ++ more ++ tt.extract (min (k + more.size) tt.size) tt.size)] 9)).drew = w5 at *
  generalize w3.heap.size = g at *
  clear hba hbd hX z0 z1 z2 z3 z4 z5 z6 hmn B3 hT hM hp13
  go_wp2
  go_loopw [71] (fun i wr => ∃ j : Nat, j ≤ 4 ∧ i = .int .i64 j ∧ Hid (Below w5.heap.size w5 wr)) (fun i _ => 4 - (intOf i).toNat)
  case atStart => exact ⟨0, by omega, rfl, Below.refl _ _⟩
  case round =>
    obtain ⟨j, hj, rfl, HB⟩ := hrel
    by_cases hlt : j < 4
    · have hltz : (j : Int) < 4 := by omega
      have x0 := Qt.keep HB.out (HX.out.cell j hlt)
      have hxs := HX.out.size j
      generalize xs j = X at x0 hxs
      obtain ⟨⟨L, e, p⟩, hr⟩ : ∃ r, parseP X.data.toList = r := ⟨_, rfl⟩
      have hpa := fun W hM => parse_of X hxs hr W hM
      by_cases he : e = 0
      · subst he
        obtain ⟨rfl, hfine⟩ := parsed_fine hr
        obtain ⟨m, e2, p2, hag, hag2⟩ := again hfine
        have hll : L.length ≤ 2000 := ((Cel.rightB_iff L).1 hfine.right).1
        have hplen := printL_len hfine.right
        have hcor := hfine.corner
        have hcin := corner_in hfine.right hfine.small
        have hS : str (printL L) = str (printL L) := rfl
        have hsz := str_size (printL L)
        have hbx := fun (A : Option Addr) (c : Nat) (W : World) (hR : Cel.Rd W W.heap.size A L) (hc : L.length ≤ c) => refBoxed A L c W hR hc hfine.right
        have hsh := fun (A : Option Addr) (c : Nat) (W : World) (hR : Cel.Rd W W.heap.size A L) (hc : L.length ≤ c) => Cel.refShift_any A L c (-(loX L L.length)) (-((L.getD 0 (0, 0)).2)) W hR (by omega) hc (by unfold Cel.I64; omega) (by unfold Cel.I64; omega)
        rw [hcin] at hsh
        have hpr := fun (A : Option Addr) (c : Nat) (W : World) (hR : Cel.Rd W W.heap.size A L) (hc : L.length ≤ c) (hT : Tab W) => print_reads hR hc hfine.right hT hS
        have hpq := fun W hM => parse_of (str (printL L)) (by omega) (L := m) (e := e2) (p := p2) hag W hM
        have hrt := fun (A : Option Addr) (c : Nat) (W : World) (hR : Cel.Rd W W.heap.size A L) (hc : L.length ≤ c) => Cel.refRight_any A L c W hR (by omega) hc
        rw [hfine.right] at hrt
        have hcl : (cornerL L).length ≤ 2000 := by unfold cornerL; rw [Cel.length_shL]; exact hll
        unfold boxT at hbx
        unfold Cel.Ans at hsh
        simp only at hsh
        rw [← hsz] at hag2
        have HAG := Lib.hid hag2
        clear hr hfine hag hag2 hcin hS hsz hplen
        generalize str (printL L) = U at *
        generalize cornerL L = K at *
        generalize loX L L.length = bx at *
        generalize (L.getD 0 (0, 0)).2 = b_y at *
        generalize wideL L = wd at *
        generalize highL L = ht at *
        go_wp2_with fail
        refine (hpa _ (HM5.out.below HB.out)).mono ?_
        rintro e' w6 ⟨A6, c6, rfl, hc6, hR6, hb6⟩
        have HB6 := Lib.hid (Qt.more HB.out HB.out.size hb6)
        clear hb6 hpa x0 HB
        go_wp2_with fail
        refine (hbx A6 c6 _ hR6 hc6).mono ?_
        rintro e' w7 ⟨rfl, hb7⟩
        have HB7 := Lib.hid (Qt.more HB6.out HB6.out.size hb7)
        have hR7 := (hR6.below hb7 (Nat.le_refl _)).more hb7.size
        have hal : Below w7.heap.size w7 (w7.alloc (.cells #[.int .i64 bx, .int .i64 b_y, .int .i64 wd, .int .i64 ht] 27)) := (Below.refl _ _).alloc (Nat.le_refl _) _
        have hrow := heap_alloc_new w7 (.cells #[.int .i64 bx, .int .i64 b_y, .int .i64 wd, .int .i64 ht] 27)
        have k0 := Lib.cell_of_heap hrow 0
        have k1 := Lib.cell_of_heap hrow 1
        have HB8 := Lib.hid (Qt.more HB7.out HB7.out.size hal)
        have hR8 := (hR7.below hal (Nat.le_refl _)).more hal.size
        clear hbx hb7 HB6 HB7 hR6 hR7 hrow hal
        go_wp2_with fail
        refine (hsh A6 c6 _ hR8 hc6).mono ?_
        generalize w7.alloc (.cells #[.int .i64 bx, .int .i64 b_y, .int .i64 wd, .int .i64 ht] 27) = w8 at *
        rintro e' w9 ⟨v9, rfl, ⟨A9, c9, rfl, hc9, hR9⟩, hb9⟩
        have HB9 := Lib.hid (Qt.more HB8.out HB8.out.size hb9)
        have hR8 := (hR8.below hb9 (Nat.le_refl _)).more hb9.size
        clear hsh hb9 HB8 k0 k1
        go_wp2_with fail
        refine (hpr A6 c6 _ hR8 hc6 (HT5.out.below HB9.out)).mono ?_
        rintro e' w10 ⟨rfl, hb10⟩
        have HB10 := Lib.hid (Qt.more HB9.out HB9.out.size hb10)
        have hR8 := (hR8.below hb10 (Nat.le_refl _)).more hb10.size
        have hR9 := (hR9.below hb10 (Nat.le_refl _)).more hb10.size
        clear hpr hb10 HB9
        go_wp2_with fail
        refine (hpq _ (HM5.out.below HB10.out)).mono ?_
        rintro e' w11 ⟨A11, c11, rfl, hc11, hR11, hb11⟩
        have HB11 := Lib.hid (Qt.more HB10.out HB10.out.size hb11)
        have hR8 := (hR8.below hb11 (Nat.le_refl _)).more hb11.size
        have hR9 := (hR9.below hb11 (Nat.le_refl _)).more hb11.size
        clear hpq hb11 HB10
        go_wp2_with fail
        refine (hrt A6 c6 _ hR8 hc6).mono ?_
        rintro e' w12 ⟨rfl, hb12⟩
        have HB12 := Lib.hid (Qt.more HB11.out HB11.out.size hb12)
        have hR9 := (hR9.below hb12 (Nat.le_refl _)).more hb12.size
        have hR11 := (hR11.below hb12 (Nat.le_refl _)).more hb12.size
        clear hrt hb12 HB11 hR8
        by_cases hU : U.size ≤ 20000
        · obtain ⟨hm, he2⟩ := HAG.out hU
          subst hm he2
          have hUz : (U.size : Int) ≤ 20000 := by omega
          have hsm := Cel.same_holds (c := c11) (c' := c9) hR11 hR9 (by omega)
          rw [decide_eq_true rfl] at hsm
          clear HAG hR11 hR9
          go_wp2_with fail
          refine hsm.mono ?_
          rintro e' w13 ⟨rfl, hb13⟩
          have HB13 := Lib.hid (Qt.more HB12.out HB12.out.size hb13)
          clear hsm hb13 HB12
          go_wp2
          go_roundw
          case measure => simp [intOf]; omega
          case rel => exact ⟨j + 1, by omega, by go_num, HB13⟩
        · have hUz : ¬ (U.size : Int) ≤ 20000 := by omega
          clear HAG hR11 hR9
          go_wp2
          go_roundw
          case measure => simp [intOf]; omega
          case rel => exact ⟨j + 1, by omega, by go_num, HB12⟩
      · obtain ⟨hL, hpl⟩ := parsed_bad hr he
        subst hL
        have hpx : ¬ (X.size : Int) < (p : Int) := by rw [← size_list] at hpl; omega
        have hp0 : ¬ (p : Int) < 0 := by omega
        have he1 : (e == 0) = false := by simpa using he
        clear hr hpl he
        go_wp2_with fail
        refine (hpa _ (HM5.out.below HB.out)).mono ?_
        rintro e' w6 ⟨A6, c6, rfl, hc6, hR6, hb6⟩
        have HB6 := Lib.hid (Qt.more HB.out HB.out.size hb6)
        clear hb6 hpa x0 HB hR6
        go_wp2
        go_roundw
        case measure => simp [intOf]; omega
        case rel => exact ⟨j + 1, by omega, by go_num, HB6⟩
    · have hltz : ¬ (j : Int) < 4 := by omega
      have B6 := Qt.more B5.out B5.out.size HB.out
      go_wp2
      go_ret
      exact ⟨by first | rfl | (simp [*]; done), B6⟩
end Go.Proofs.YtacpncmdgkljdaaDoor
