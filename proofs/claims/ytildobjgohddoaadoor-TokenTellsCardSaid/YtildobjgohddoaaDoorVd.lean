/-
  TokenForth: what was read, told again, is read again, but for its places: the walk.
-/
import Derived.Test.YtildobjgohddoaaDoorUl
import Derived.Test.YtildobjgohddoaaDoorUp
import Derived.Test.YtildobjgohddoaaDoorQu
import Derived.Test.YtildobjgohddoaaDoorQs
namespace Go.Proofs.YtildobjgohddoaaDoor
set_option linter.unusedVariables false
set_option linter.unusedSimpArgs false
open Go.RowKit Go.Sort

theorem up_i64f {I : List Itm} (h : ∀ x ∈ I, goodI x = true) : ∀ x ∈ I.map up, I64 x.2.1 := fun x hx => by
  obtain ⟨y, hy, rfl⟩ := List.mem_map.1 hx
  have := (goodI_iff _).1 (h y hy)
  unfold I64 up
  simp only
  omega
theorem lex_of (X : ByteArray) (hX : X.size ≤ 9223372036854775807) {L : List Itm} {e : Int} {p : Nat} (h : lexA X.data.toList = (L, e, p)) (w : World) :
    Calls Tryd.prog 12 #[.string X] w fun e' w' => ∃ A c, e' = .returned (.tuple #[.slice A L.length c, .int .i64 e, .int .i64 p]) ∧ L.length ≤ c ∧ NowE w' A (L.map up) ∧ Below w.heap.size w w' := by
  have h1 := lex_any X.data.toList w (by rw [← size_list]; exact hX)
  rw [str_list, h] at h1
  refine h1.mono ?_
  rintro e' w' ⟨v, rfl, ⟨A, c, rfl, hc, hN⟩, hb⟩
  simp only [List.length_map] at hc
  exact ⟨A, c, by simp only [List.length_map], hc, hN, hb⟩
theorem text_of {A : Option Addr} {L : List Itm} {c : Nat} {w : World} (hN : NowE w A (L.map up)) (hn : L.length ≤ 1000000) (hg : ∀ x ∈ L, goodI x = true) (hT : Tab w) :
    Calls Tryd.prog 15 #[.slice A L.length c] w fun e w' => e = .returned (.string (str (textL L))) ∧ Below w.heap.size w w' := by
  have h := tokText_any A (L.map up) c w hN (by rw [List.length_map]; omega) (up_i64f hg) hT
  rw [List.length_map] at h
  unfold TextR at h
  rw [textE_up] at h
  exact h

/-- the three texts, and the slice that holds them -/
structure Three (w : World) (g : Nat) (xs : Nat → ByteArray) : Prop where
  cell : ∀ j, j < 3 → w.cell? ⟨g, j, none⟩ = some (.string (xs j))
  size : ∀ j, (xs j).size ≤ 9223372036854775807

set_option maxHeartbeats 8000000 in
set_option maxRecDepth 100000 in
theorem tokenForth_walk (s : ByteArray) (A : Option Addr) (raw : List (Int × Int)) (c : Nat) (at_ : Int) (more : ByteArray) (w : World) (hss : s.size ≤ 140737488355328) (hR : RdP w w.heap.size A raw) (hl : raw.length ≤ 9223372036854775807) (hc : raw.length ≤ c) (hw : ∀ p ∈ raw, I64 p.1 ∧ I64 p.2)
    (hat : I64 at_) (hms : more.size ≤ 140737488355328) (hT : Tab w) :
    Calls Tryd.prog 5 #[.string s, .slice A raw.length c, .int .i64 at_, .string more] w fun e w' => e = .returned (.bool true) ∧ Below w.heap.size w w' := by
  have HW := Lib.hid hw
  have HAT := Lib.hid hat
  clear hw hat
  go_enter Tryd.func5, Tryd.ntmps5
  go_wp2_with fail
  refine (awake_any w hT).mono ?_
  rintro e w1 ⟨rfl, hb1⟩
  have HR1 : NowP w1 A raw := NowP.below hR hb1
  have HT1 := Lib.hid (hT.below hb1)
  have B1 := Lib.hid hb1
  clear hb1 hR hT
  go_wp2_with fail
  refine (items_any A raw c w1 HR1 hl hc HW.out).mono ?_
  rintro e w2 ⟨v, rfl, hO2, hb2⟩
  have hI := itemsL_good raw
  have hIl := itemsL_len raw
  generalize itemsL raw = I at *
  obtain ⟨A2, c2, rfl, hc2, hN2⟩ := hO2.reads
  rw [List.length_map] at hc2 ⊢
  have B2 := Lib.hid (Qt.more B1.out B1.out.size hb2)
  have HT2 := Lib.hid (HT1.out.below hb2)
  have htx := text_of (c := c2) hN2 (by omega) hI HT2.out
  have htl := textE_len (I.map up)
  rw [textE_up, List.length_map] at htl
  have htz := str_size (textL I)
  generalize str (textL I) = t0 at *
  have ht5 : t0.size ≤ 560 := by omega
  clear hO2 hN2 hb2 HR1 HT1 B1 htl htz hI
  go_wp2_with fail
  refine htx.mono ?_
  rintro e w3 ⟨rfl, hb3⟩
  have B3 := Lib.hid (Qt.more B2.out B2.out.size hb3)
  have HT3 := Lib.hid (HT2.out.below hb3)
  have hpk := fun W => pick_nat at_ ((t0.size : Int) + 1 + 1) W HAT.out (by omega) (by omega)
  have hpb := pickI_bd at_ ((t0.size : Int) + 1 + 1) (by omega)
  obtain ⟨k, hk⟩ : ∃ k, k = (pickI at_ ((t0.size : Int) + 1 + 1)).toNat := ⟨_, rfl⟩
  rw [← hk] at hpk
  have hkt0 : k ≤ t0.size + 1 := by omega
  clear hk hpb htx hb3 B2 HT2
  go_wp2_with fail
  refine (hpk _).mono ?_
  rintro e w4 ⟨rfl, rfl⟩
  clear hpk
  generalize htt0 : t0 ++ { data := #[33] } = tt
  have htz : tt.size = t0.size + 1 := by
    have h33 : ({ data := #[33] } : ByteArray).size = 1 := rfl
    rw [← htt0, ByteArray.size_append]
    omega
  have htt : tt.size ≤ 561 := by omega
  have hkt : k ≤ tt.size := by omega
  clear htt0 htz hkt0
  have hmn : min (k + more.size) tt.size ≤ tt.size := Nat.min_le_right _ _
  have z1 : (tt.extract 0 k).size ≤ 600 := by rw [ByteArray.size_extract]; omega
  have z2 : (tt.extract k tt.size).size ≤ 600 := by rw [ByteArray.size_extract]; omega
  have z3 : (tt.extract (min (k + more.size) tt.size) tt.size).size ≤ 600 := by rw [ByteArray.size_extract]; omega
  have z4 : (tt.extract 0 k ++ more).size ≤ 140737488356000 := by rw [ByteArray.size_append]; omega
  have z5 : (tt.extract 0 k ++ more ++ tt.extract k tt.size).size ≤ 140737488357000 := by rw [ByteArray.size_append]; omega
  have z6 : (tt.extract 0 k ++ more ++ tt.extract (min (k + more.size) tt.size) tt.size).size ≤ 140737488357000 := by rw [ByteArray.size_append]; omega
  go_wp2_with fail
  refine Qt.region_tree (.pure 0 <| .pure 1 <| .pure 2 <| .pure 3 <| .pure 4 <| .pure 5 <| .pure 6 <| .pure 7 <| .pure 8 <| .pure 9 <| .pure 10 <| .pure 11 <| .pure 12 <| .pure 13 <| .pure 14 <| .pure 15 <| .pure 16 <| .pure 17 <| .pure 18 <| .pure 19 <| .pure 20 <| .pure 21 <| .pure 22 <| .pure 23 <| .pure 24 <| .pure 27 <| .only 25 <| .pure 26 .done) (by kernel_rfl) (by kernel_rfl) (by kernel_rfl) (by rfl) ?_
  refine ⟨_, some 34, .string s, rfl, rfl, ⟨rfl, fun _ => rfl⟩, ?_⟩
  simp only [Act.put, List.setIfInBounds_toArray, List.set_cons_succ, List.set_cons_zero]
  refine ⟨_, some 35, .string tt, rfl, rfl, ⟨rfl, fun _ => rfl⟩, ?_⟩
  simp only [Act.put, List.setIfInBounds_toArray, List.set_cons_succ, List.set_cons_zero]
  refine ⟨_, some 36, .int .i64 k, rfl, rfl, ⟨rfl, fun _ => rfl⟩, ?_⟩
  simp only [Act.put, List.setIfInBounds_toArray, List.set_cons_succ, List.set_cons_zero]
  refine ⟨_, some 37, .string (tt.extract 0 k), rfl, rfl, ⟨rfl, exec_str_to (x := .tmp 35) (y := .tmp 36) rfl rfl rfl (by omega) (by omega)⟩, ?_⟩
  simp only [Act.put, List.setIfInBounds_toArray, List.set_cons_succ, List.set_cons_zero]
  refine ⟨_, some 38, .string more, rfl, rfl, ⟨rfl, fun _ => rfl⟩, ?_⟩
  simp only [Act.put, List.setIfInBounds_toArray, List.set_cons_succ, List.set_cons_zero]
  refine ⟨_, some 39, .string (tt.extract 0 k ++ more), rfl, rfl, ⟨rfl, exec_add (x := .tmp 37) (y := .tmp 38) rfl rfl rfl (by omega)⟩, ?_⟩
  simp only [Act.put, List.setIfInBounds_toArray, List.set_cons_succ, List.set_cons_zero]
  refine ⟨_, some 40, .string tt, rfl, rfl, ⟨rfl, fun _ => rfl⟩, ?_⟩
  simp only [Act.put, List.setIfInBounds_toArray, List.set_cons_succ, List.set_cons_zero]
  refine ⟨_, some 41, .int .i64 k, rfl, rfl, ⟨rfl, fun _ => rfl⟩, ?_⟩
  simp only [Act.put, List.setIfInBounds_toArray, List.set_cons_succ, List.set_cons_zero]
  refine ⟨_, some 42, .string (tt.extract k tt.size), rfl, rfl, ⟨rfl, exec_str_from (x := .tmp 40) (y := .tmp 41) rfl rfl rfl (by omega) (by omega)⟩, ?_⟩
  simp only [Act.put, List.setIfInBounds_toArray, List.set_cons_succ, List.set_cons_zero]
  refine ⟨_, some 43, .string (tt.extract 0 k ++ more ++ tt.extract k tt.size), rfl, rfl, ⟨rfl, exec_add (x := .tmp 39) (y := .tmp 42) rfl rfl rfl (by omega)⟩, ?_⟩
  simp only [Act.put, List.setIfInBounds_toArray, List.set_cons_succ, List.set_cons_zero]
  refine ⟨_, some 44, .string tt, rfl, rfl, ⟨rfl, fun _ => rfl⟩, ?_⟩
  simp only [Act.put, List.setIfInBounds_toArray, List.set_cons_succ, List.set_cons_zero]
  refine ⟨_, some 45, .int .i64 k, rfl, rfl, ⟨rfl, fun _ => rfl⟩, ?_⟩
  simp only [Act.put, List.setIfInBounds_toArray, List.set_cons_succ, List.set_cons_zero]
  refine ⟨_, some 46, .string (tt.extract 0 k), rfl, rfl, ⟨rfl, exec_str_to (x := .tmp 44) (y := .tmp 45) rfl rfl rfl (by omega) (by omega)⟩, ?_⟩
  simp only [Act.put, List.setIfInBounds_toArray, List.set_cons_succ, List.set_cons_zero]
  refine ⟨_, some 47, .string more, rfl, rfl, ⟨rfl, fun _ => rfl⟩, ?_⟩
  simp only [Act.put, List.setIfInBounds_toArray, List.set_cons_succ, List.set_cons_zero]
  refine ⟨_, some 48, .string (tt.extract 0 k ++ more), rfl, rfl, ⟨rfl, exec_add (x := .tmp 46) (y := .tmp 47) rfl rfl rfl (by omega)⟩, ?_⟩
  simp only [Act.put, List.setIfInBounds_toArray, List.set_cons_succ, List.set_cons_zero]
  refine ⟨_, some 49, .string tt, rfl, rfl, ⟨rfl, fun _ => rfl⟩, ?_⟩
  simp only [Act.put, List.setIfInBounds_toArray, List.set_cons_succ, List.set_cons_zero]
  refine ⟨_, some 50, .int .i64 k, rfl, rfl, ⟨rfl, fun _ => rfl⟩, ?_⟩
  simp only [Act.put, List.setIfInBounds_toArray, List.set_cons_succ, List.set_cons_zero]
  refine ⟨_, some 51, .string more, rfl, rfl, ⟨rfl, fun _ => rfl⟩, ?_⟩
  simp only [Act.put, List.setIfInBounds_toArray, List.set_cons_succ, List.set_cons_zero]
  refine ⟨_, some 52, .int .i64 (more.size : Int), rfl, rfl, ⟨rfl, exec_len (x := .tmp 51) rfl rfl rfl⟩, ?_⟩
  simp only [Act.put, List.setIfInBounds_toArray, List.set_cons_succ, List.set_cons_zero]
  refine ⟨_, some 53, .int .i64 ((k + more.size : Nat) : Int), rfl, rfl, ⟨rfl, exec_addi (x := .tmp 50) (y := .tmp 52) rfl rfl rfl (by omega)⟩, ?_⟩
  simp only [Act.put, List.setIfInBounds_toArray, List.set_cons_succ, List.set_cons_zero]
  refine ⟨_, some 54, .string tt, rfl, rfl, ⟨rfl, fun _ => rfl⟩, ?_⟩
  simp only [Act.put, List.setIfInBounds_toArray, List.set_cons_succ, List.set_cons_zero]
  refine ⟨_, some 55, .int .i64 (tt.size : Int), rfl, rfl, ⟨rfl, exec_len (x := .tmp 54) rfl rfl rfl⟩, ?_⟩
  simp only [Act.put, List.setIfInBounds_toArray, List.set_cons_succ, List.set_cons_zero]
  refine ⟨_, some 56, .int .i64 ((min (k + more.size) tt.size : Nat) : Int), rfl, rfl, ⟨rfl, exec_min (x := .tmp 53) (y := .tmp 55) rfl rfl rfl rfl⟩, ?_⟩
  simp only [Act.put, List.setIfInBounds_toArray, List.set_cons_succ, List.set_cons_zero]
  refine ⟨_, some 57, .string (tt.extract (min (k + more.size) tt.size) tt.size), rfl, rfl, ⟨rfl, exec_str_from (x := .tmp 49) (y := .tmp 56) rfl rfl rfl (by omega) (by omega)⟩, ?_⟩
  simp only [Act.put, List.setIfInBounds_toArray, List.set_cons_succ, List.set_cons_zero]
  refine ⟨_, some 58, .string (tt.extract 0 k ++ more ++ tt.extract (min (k + more.size) tt.size) tt.size), rfl, rfl, ⟨rfl, exec_add (x := .tmp 48) (y := .tmp 57) rfl rfl rfl (by omega)⟩, ?_⟩
  simp only [Act.put, List.setIfInBounds_toArray, List.set_cons_succ, List.set_cons_zero]
  refine ⟨_, some 61, .int .i64 0, rfl, rfl, ⟨rfl, fun _ => rfl⟩, ?_⟩
  simp only [Act.put, List.setIfInBounds_toArray, List.set_cons_succ, List.set_cons_zero]
  refine ⟨_, rfl, ?_⟩
  go_wp2_with fail
  refine ⟨rfl, ?_⟩
  refine ⟨_, some 60, .int .i64 3, rfl, rfl, ⟨rfl, exec_len_sl (x := .tmp 59) (k := 3) rfl rfl rfl⟩, ?_⟩
  simp only [Act.put, List.setIfInBounds_toArray, List.set_cons_succ, List.set_cons_zero]
  simp only [Qt.treeW]
  have hba : Below w3.heap.size w3 (w3.alloc (.cells #[.string s, .string (tt.extract 0 k ++ more ++ tt.extract k tt.size), .string (tt.extract 0 k ++ more ++ tt.extract (min (k + more.size) tt.size) tt.size)] 9)) := (Below.refl _ w3).alloc (Nat.le_refl _) _
  have hbd : Below w3.heap.size w3 (w3.alloc (.cells #[.string s, .string (tt.extract 0 k ++ more ++ tt.extract k tt.size), .string (tt.extract 0 k ++ more ++ tt.extract (min (k + more.size) tt.size) tt.size)] 9)).drew := ⟨hba.os, hba.tape, hba.output, hba.size, hba.block⟩
  have h3 : ∃ xs, Three (w3.alloc (.cells #[.string s, .string (tt.extract 0 k ++ more ++ tt.extract k tt.size), .string (tt.extract 0 k ++ more ++ tt.extract (min (k + more.size) tt.size) tt.size)] 9)).drew w3.heap.size xs := by
    refine ⟨fun j => match j with | 0 => s | 1 => tt.extract 0 k ++ more ++ tt.extract k tt.size | _ => tt.extract 0 k ++ more ++ tt.extract (min (k + more.size) tt.size) tt.size, fun j hj => ?_, fun j => ?_⟩
    · match j, hj with
      | 0, _ => simp
      | 1, _ => simp
      | 2, _ => simp
    · match j with
      | 0 => simp only; omega
      | 1 => simp only; omega
      | n + 2 => simp only; omega
  obtain ⟨xs, hX⟩ := h3
  have HX := Lib.hid hX
  have HT5 := Lib.hid (HT3.out.below hbd)
  have B5 := Lib.hid (Qt.more B3.out B3.out.size hbd)
  generalize (w3.alloc (.cells #[.string s, .string (tt.extract 0 k ++ more ++ tt.extract k tt.size), .string (tt.extract 0 k ++ more ++ tt.extract (min (k + more.size) tt.size) tt.size)] 9)).drew = w5 at *
  generalize w3.heap.size = g at *
  clear hba hbd hX z1 z2 z3 z4 z5 z6 hmn HT3 B3
  go_wp2
  go_loopw [61] (fun i wr => ∃ j : Nat, j ≤ 3 ∧ i = .int .i64 j ∧ Hid (Below w5.heap.size w5 wr)) (fun i _ => 3 - (intOf i).toNat)
  case atStart => exact ⟨0, by omega, rfl, Below.refl _ _⟩
  case round =>
    obtain ⟨j, hj, rfl, HB⟩ := hrel
    by_cases hlt : j < 3
    · have hltz : (j : Int) < 3 := by omega
      have x0 := Qt.keep HB.out (HX.out.cell j hlt)
      have hxs := HX.out.size j
      generalize xs j = X at x0 hxs
      obtain ⟨⟨L, e, p⟩, hr⟩ : ∃ r, lexA X.data.toList = r := ⟨_, rfl⟩
      have hlx := fun W => lex_of X hxs hr W
      by_cases he : e = 0
      · subst he
        have htk := lexA_good hr
        have hmany := htk.many
        have hsmall := htk.small
        have HTK := Lib.hid htk
        have hPn : (placedL L [] L.length).length = L.length := placedL_len L [] _
        have hT := str_size (textL L)
        have ha1 : lexA (str (textL L) ++ { data := #[33] }).data.toList = (placedL L [] L.length, 0, (str (textL L)).size) := by
          have h33 : (str (textL L) ++ { data := #[33] } : ByteArray) = str (textL L ++ [33]) := str_append (textL L) [33]
          rw [h33, str_data, htk.again, hT]
        have ha2 : lexA (str (textL L)).data.toList = ([], 31, (str (textL L)).size) := by rw [str_data, htk.opened, hT]
        have hst : (str (textL L)).size ≤ 19999 := by omega
        have hl1 := fun W => lex_of (str (textL L) ++ { data := #[33] }) (by have h33 : ({ data := #[33] } : ByteArray).size = 1 := rfl; rw [ByteArray.size_append]; omega) ha1 W
        have hl2 := fun W => lex_of (str (textL L)) (by omega) ha2 W
        have htx := fun A6 c6 W (hN : NowE W A6 (L.map up)) (hTT : Tab W) => text_of (A := A6) (c := c6) hN (by omega) htk.good hTT
        have hpl := fun i (hi : i < L.length) => placed_same L hi
        rw [hPn] at hl1
        have HTX := Lib.hid htx
        have HPL := Lib.hid hpl
        have hPM : ((placedL L [] L.length).map up).length = L.length := by rw [List.length_map, hPn]
        have HPM := Lib.hid hPM
        clear hr htk ha1 ha2 hT hPn htx hpl hPM
        generalize placedL L [] L.length = M at *
        generalize str (textL L) = sT at *
        go_wp2_with fail
        refine (hlx _).mono ?_
        rintro e' w6 ⟨A6, c6, rfl, hc6, hN6, hb6⟩
        have HB6 := Lib.hid (Qt.more HB.out HB.out.size hb6)
        have HN6 := Lib.hid hN6
        have hT6 := HT5.out.below HB6.out
        clear hb6 hN6 hlx x0 HB
        go_wp2_with fail
        refine (HTX.out A6 c6 _ HN6.out hT6).mono ?_
        rintro e' w7 ⟨rfl, hb7⟩
        have HB7 := Lib.hid (Qt.more HB6.out HB6.out.size hb7)
        have HN7 := Lib.hid (HN6.out.below hb7)
        clear hb7 HB6 HN6 hT6
        go_wp2_with fail
        refine (hl1 _).mono ?_
        rintro e' w8 ⟨A8, c8, rfl, hc8, hM8, hb8⟩
        have HB8 := Lib.hid (Qt.more HB7.out HB7.out.size hb8)
        have HN8 := Lib.hid (HN7.out.below hb8)
        have HM8 := Lib.hid hM8
        have hT8 := HT5.out.below HB8.out
        clear hb8 HB7 HN7 hl1 hM8
        go_wp2_with fail
        refine (HTX.out A6 c6 _ HN8.out hT8).mono ?_
        rintro e' w9 ⟨rfl, hb9⟩
        have HB9 := Lib.hid (Qt.more HB8.out HB8.out.size hb9)
        have HN9 := Lib.hid (HN8.out.below hb9)
        have HM9 := Lib.hid (HM8.out.below hb9)
        clear hb9 HB8 HN8 HM8 hT8
        go_wp2
        go_loopw [20] (fun i wq => ∃ y : Nat, y ≤ L.length ∧ i = .int .i64 y ∧ Hid (Below w9.heap.size w9 wq)) (fun i _ => L.length - (intOf i).toNat)
        case atStart => exact ⟨0, Nat.zero_le _, rfl, Below.refl _ _⟩
        case round =>
          obtain ⟨y, hy, rfl, HQ⟩ := hrel
          by_cases hly : y < L.length
          · have hlyz : (y : Int) < (L.length : Int) := by omega
            obtain ⟨tg, n, a, b, hx, hm, ha⟩ := HPL.out y hly
            have hbef := HTK.out.before y hly
            rw [← ha] at hbef
            obtain ⟨b6, o6, hA6, _, hc6c⟩ := HN9.out.at_ (by rw [List.length_map]; omega)
            obtain ⟨b8, o8, hA8, _, hc8c⟩ := HM9.out.at_ (by rw [HPM.out]; omega)
            subst hA6 hA8
            obtain ⟨x0, x1, x2⟩ := hc6c y (by rw [List.length_map]; exact hly)
            obtain ⟨m0, m1, m2⟩ := hc8c y (by rw [HPM.out]; exact hly)
            rw [hx] at x0 x1 x2
            rw [hm] at m0 m1 m2
            simp only at x0 x1 x2 m0 m1 m2
            have x0 := Qt.cell_in (Qt.keep HQ.out x0)
            have x1 := Qt.cell_in (Qt.keep HQ.out x1)
            have x2 := Qt.cell_in (Qt.keep HQ.out x2)
            have m0 := Qt.cell_in (Qt.keep HQ.out m0)
            have m1 := Qt.cell_in (Qt.keep HQ.out m1)
            have hge : decide (p ≤ a) = false := decide_eq_false (by omega)
            rcases Nat.eq_zero_or_pos y with h0 | h0
            · have hy0 : decide (0 < y) = false := decide_eq_false (by omega)
              clear hc6c hc8c hx hm ha hbef m2 h0
              go_wp2
              refine Qt.below_all (by kernel_rfl) (by kernel_rfl) ?_
              repeat (go_big_quiet_step (fail))
              refine wpQuiet_nil ?_
              intro w10 hb10
              have HQ2 := Lib.hid (Qt.more HQ.out HQ.out.size hb10)
              clear x0 x1 x2 m0 m1 hge hb10
              go_wp2
              go_roundw
              case measure => simp [intOf]; omega
              case rel => exact ⟨y + 1, by omega, by go_num, HQ2⟩
            · obtain ⟨z, rfl⟩ : ∃ z, y = z + 1 := ⟨y - 1, by omega⟩
              obtain ⟨tg', n', a', b', hx', _, ha'⟩ := HPL.out z (by omega)
              have hris := HTK.out.rises z hly
              rw [← ha, ← ha'] at hris
              have z2 := (hc6c z (by rw [List.length_map]; omega)).2.2
              rw [hx'] at z2
              simp only at z2
              have z2 := Qt.cell_in (Qt.keep HQ.out z2)
              have hy0 : decide (0 < z + 1) = true := decide_eq_true (by omega)
              have hle : decide (a ≤ a') = false := decide_eq_false (by omega)
              clear hc6c hc8c hx hm ha hbef m2 h0 hx' ha' hris
              go_wp2
              refine Qt.below_all (by kernel_rfl) (by kernel_rfl) ?_
              repeat (go_big_quiet_step (fail))
              refine wpQuiet_nil ?_
              intro w10 hb10
              have HQ2 := Lib.hid (Qt.more HQ.out HQ.out.size hb10)
              clear x0 x1 x2 m0 m1 hge hb10 z2 hy0 hle
              go_wp2
              go_roundw
              case measure => simp [intOf]; omega
              case rel => exact ⟨z + 1 + 1, by omega, by go_num, HQ2⟩
          · have hlyz : ¬ (y : Int) < (L.length : Int) := by omega
            have hT9 := HT5.out.below (HB9.out.trans (HQ.out.mono HB9.out.size))
            have B9 := Lib.hid (Qt.more HB9.out HB9.out.size HQ.out)
            have hN10 := HN9.out.below HQ.out
            go_wp2_with fail
            refine (HTX.out _ _ _ hN10 hT9).mono ?_
            rintro e' w10 ⟨rfl, hb10⟩
            have B10 := Lib.hid (Qt.more B9.out B9.out.size hb10)
            clear hb10 B9 hN10 hT9
            go_wp2_with fail
            refine (hl2 _).mono ?_
            rintro e' w11 ⟨A11, c11, rfl, _, _, hb11⟩
            have B11 := Lib.hid (Qt.more B10.out B10.out.size hb11)
            clear hb11 B10 hl2
            go_wp2
            go_roundw
            case measure => simp [intOf]; omega
            case rel => exact ⟨j + 1, by omega, by go_num, B11⟩
      · have hrf := lexA_bad hr he
        have hL := hrf.none
        subst hL
        have hpx : ¬ (X.size : Int) < (p : Int) := by have := hrf.place; rw [← size_list] at this; omega
        have hp0 : ¬ (p : Int) < 0 := by omega
        have he1 : (e == 0) = false := by simpa using he
        have he2 : (e != 0) = true := by simpa using he
        have hcase : e = 31 ∧ p = X.size ∨ (e == 31) = false := by
          by_cases h31 : e = 31
          · exact .inl ⟨h31, by rw [hrf.open_ h31, ← size_list]⟩
          · exact .inr (by simpa using h31)
        clear hrf hr he
        go_wp2_with fail
        refine (hlx _).mono ?_
        rintro e' w6 ⟨A6, c6, rfl, _, _, hb6⟩
        have HB6 := Lib.hid (Qt.more HB.out HB.out.size hb6)
        clear hb6 hlx x0
        rcases hcase with ⟨rfl, rfl⟩ | h31
        · have hd0 : decide ((X.size : Int) < 0) = false := decide_eq_false (by omega)
          go_wp2
          go_roundw
          case measure => simp [intOf]; omega
          case rel => exact ⟨j + 1, by omega, by go_num, HB6⟩
        · have hd0 : decide ((p : Int) < 0) = false := decide_eq_false (by omega)
          have hd1 : decide ((X.size : Int) < (p : Int)) = false := decide_eq_false (by omega)
          go_wp2
          go_roundw
          case measure => simp [intOf]; omega
          case rel => exact ⟨j + 1, by omega, by go_num, HB6⟩
    · obtain rfl : j = 3 := by omega
      go_wp2
      go_ret
      exact ⟨rfl, Qt.more B5.out B5.out.size HB.out⟩
end Go.Proofs.YtildobjgohddoaaDoor
