/-
  TokenTells: texts are read, and items told, as the document says: the walk.
-/
import Derived.Test.YtildobjgohddoaaDoorUr
import Derived.Test.YtildobjgohddoaaDoorVd
namespace Go.Proofs.YtildobjgohddoaaDoor
set_option linter.unusedVariables false
set_option linter.unusedSimpArgs false
open Go.RowKit Go.Sort

theorem refLex_of (X : ByteArray) (hX : X.size ≤ 9223372036854775807) {L : List Itm} {e : Int} {p : Nat} (h : lexA X.data.toList = (L, e, p)) (w : World) :
    Calls Tryd.prog 13 #[.string X] w fun e' w' => ∃ A c, e' = .returned (.tuple #[.slice A L.length c, .int .i64 e, .int .i64 p]) ∧ L.length ≤ c ∧ NowE w' A (L.map up) ∧ Below w.heap.size w w' := by
  have h1 := refLex_any X.data.toList w (by rw [← size_list]; exact hX)
  rw [str_list, h] at h1
  refine h1.mono ?_
  rintro e' w' ⟨v, rfl, ⟨A, c, rfl, hc, hN⟩, hb⟩
  simp only [List.length_map] at hc
  exact ⟨A, c, by simp only [List.length_map], hc, hN, hb⟩
theorem refText_of {A : Option Addr} {L : List Itm} {c : Nat} {w : World} (hN : NowE w A (L.map up)) (hn : L.length ≤ 1000000) (hg : ∀ x ∈ L, goodI x = true) :
    Calls Tryd.prog 10 #[.slice A L.length c] w fun e w' => e = .returned (.string (str (textL L))) ∧ Below w.heap.size w w' := by
  have h := refTextE_any A (L.map up) c w hN (by rw [List.length_map]; omega) (up_i64f hg)
  rw [List.length_map] at h
  unfold TextR at h
  rw [textE_up] at h
  exact h
theorem lexA_many {l L : List Itm} {X : List UInt8} {e : Int} {p : Nat} (h : lexA X = (L, e, p)) : L.length ≤ 1000000 := by
  by_cases he : e = 0
  · subst he
    have := (lexA_good h).many
    omega
  · rw [(lexA_bad h he).none]
    exact Nat.zero_le _
/-- the five texts, in the slice that holds them -/
structure Five (w : World) (g : Nat) (xs : Nat → ByteArray) : Prop where
  cell : ∀ j, j < 5 → w.cell? ⟨g, j, none⟩ = some (.string (xs j))
  size : ∀ j, (xs j).size ≤ 9223372036854775807

set_option maxHeartbeats 8000000 in
set_option maxRecDepth 100000 in
theorem tokenTells_walk (s : ByteArray) (Aa : Option Addr) (any : List Ite) (ca : Nat) (A : Option Addr) (raw : List (Int × Int)) (c : Nat) (at_ : Int) (more : ByteArray) (w : World) (hss : s.size ≤ 140737488355328) (hRa : RdE w w.heap.size Aa any) (hya : any.length * 24 ≤ 140737488351232) (hca : any.length ≤ ca) (hwa : ∀ p ∈ any, I64 p.2.1 ∧ I64 p.2.2)
    (hR : RdP w w.heap.size A raw) (hl : raw.length ≤ 9223372036854775807) (hc : raw.length ≤ c) (hw : ∀ p ∈ raw, I64 p.1 ∧ I64 p.2) (hat : I64 at_) (hms : more.size ≤ 140737488355328) (hT : Tab w) :
    Calls Tryd.prog 3 #[.string s, .slice Aa any.length ca, .slice A raw.length c, .int .i64 at_, .string more] w fun e w' => e = .returned (.bool true) ∧ Below w.heap.size w w' := by
  have HW := Lib.hid hw
  have HAT := Lib.hid hat
  have HYA := Lib.hid hya
  have HWA := Lib.hid (fun x hx => (hwa x hx).1 : ∀ x ∈ any, I64 x.2.1)
  have HRA : Hid (NowE w Aa any) := Lib.hid hRa
  have HHT := Lib.hid hT
  clear hw hat hya hwa hRa
  go_enter Tryd.func3, Tryd.ntmps3
  go_wp2_with fail
  refine (awake_any w hT).mono ?_
  rintro e w1 ⟨rfl, hb1⟩
  have HR1 : NowP w1 A raw := NowP.below hR hb1
  have B1 := Lib.hid hb1
  clear hb1 hR hT
  go_wp2_with fail
  refine (items_any A raw c w1 HR1 hl hc HW.out).mono ?_
  rintro e w2 ⟨v, rfl, hO2, hb2⟩
  have hI := itemsL_good raw
  have hIl := itemsL_len raw
  generalize itemsL raw = I at *
  obtain ⟨A2, c2, rfl, hc2, hN2⟩ := hO2.reads
  rw [List.length_map] at hc2 ⊢
  have B2 := Lib.hid (Qt.more B1.out B1.out.size hb2)
  have htx := refText_of (c := c2) hN2 (by omega) hI
  have HTX : Hid (∀ W, NowE W A2 (I.map up) → Tab W → Calls Tryd.prog 15 #[.slice A2 I.length c2] W fun e w' => e = .returned (.string (str (textL I))) ∧ Below W.heap.size W w') := Lib.hid (fun W hN hTT => text_of (c := c2) hN (by omega) hI hTT)
  have htl := textE_len (I.map up)
  rw [textE_up, List.length_map] at htl
  have htz := str_size (textL I)
  generalize str (textL I) = t0 at *
  have ht5 : t0.size ≤ 560 := by omega
  have HN2 := Lib.hid hN2
  clear hO2 hN2 hb2 HR1 B1 htl htz hI
  go_wp2_with fail
  refine htx.mono ?_
  rintro e w3 ⟨rfl, hb3⟩
  have B3 := Lib.hid (Qt.more B2.out B2.out.size hb3)
  have HN3 := Lib.hid (HN2.out.below hb3)
  have hpk := fun W => pick_nat at_ ((t0.size : Int) + 1) W HAT.out (by omega) (by omega)
  have hpb := pickI_bd at_ ((t0.size : Int) + 1) (by omega)
  obtain ⟨k, hk⟩ : ∃ k, k = (pickI at_ ((t0.size : Int) + 1)).toNat := ⟨_, rfl⟩
  rw [← hk] at hpk
  have hkt : k ≤ t0.size := by omega
  clear hk hpb htx hb3 B2 HN2
  go_wp2_with fail
  refine (hpk _).mono ?_
  rintro e w4 ⟨rfl, rfl⟩
  clear hpk
  have h33 : ({ data := #[33] } : ByteArray).size = 1 := rfl
  have hmn : min (k + more.size) t0.size ≤ t0.size := Nat.min_le_right _ _
  have z0 : (t0 ++ { data := #[33] }).size ≤ 600 := by rw [ByteArray.size_append]; omega
  have z1 : (t0.extract 0 k).size ≤ 600 := by rw [ByteArray.size_extract]; omega
  have z2 : (t0.extract k t0.size).size ≤ 600 := by rw [ByteArray.size_extract]; omega
  have z3 : (t0.extract (min (k + more.size) t0.size) t0.size).size ≤ 600 := by rw [ByteArray.size_extract]; omega
  have z4 : (t0.extract 0 k ++ more).size ≤ 140737488356000 := by rw [ByteArray.size_append]; omega
  have z5 : (t0.extract 0 k ++ more ++ t0.extract k t0.size).size ≤ 140737488357000 := by rw [ByteArray.size_append]; omega
  have z6 : (t0.extract 0 k ++ more ++ t0.extract (min (k + more.size) t0.size) t0.size).size ≤ 140737488357000 := by rw [ByteArray.size_append]; omega
  have z7 : (t0.extract 0 k ++ more ++ t0.extract k t0.size ++ { data := #[33] }).size ≤ 140737488358000 := by rw [ByteArray.size_append]; omega
  have z8 : (t0.extract 0 k ++ more ++ t0.extract (min (k + more.size) t0.size) t0.size ++ { data := #[33] }).size ≤ 140737488358000 := by rw [ByteArray.size_append]; omega
  go_wp2_with fail
  refine Qt.region_tree (.pure 0 <| .pure 1 <| .pure 2 <| .pure 3 <| .pure 4 <| .pure 5 <| .pure 6 <| .pure 7 <| .pure 8 <| .pure 9 <| .pure 10 <| .pure 11 <| .pure 12 <| .pure 13 <| .pure 14 <| .pure 15 <| .pure 16 <| .pure 17 <| .pure 18 <| .pure 19 <| .pure 20 <| .pure 21 <| .pure 22 <| .pure 23 <| .pure 24 <| .pure 25 <| .pure 26 <| .pure 27 <| .pure 28 <| .pure 29 <| .pure 32 <| .only 30 <| .pure 31 .done) (by kernel_rfl) (by kernel_rfl) (by kernel_rfl) (by rfl) ?_
  refine ⟨_, some 33, .string s, rfl, rfl, ⟨rfl, fun _ => rfl⟩, ?_⟩
  simp only [Act.put, List.setIfInBounds_toArray, List.set_cons_succ, List.set_cons_zero]
  refine ⟨_, some 34, .string t0, rfl, rfl, ⟨rfl, fun _ => rfl⟩, ?_⟩
  simp only [Act.put, List.setIfInBounds_toArray, List.set_cons_succ, List.set_cons_zero]
  refine ⟨_, some 35, .string (t0 ++ { data := #[33] }), rfl, rfl, ⟨rfl, exec_add (x := .tmp 34) (y := .const (.string { data := #[33] })) rfl rfl rfl (by omega)⟩, ?_⟩
  simp only [Act.put, List.setIfInBounds_toArray, List.set_cons_succ, List.set_cons_zero]
  refine ⟨_, some 36, .string t0, rfl, rfl, ⟨rfl, fun _ => rfl⟩, ?_⟩
  simp only [Act.put, List.setIfInBounds_toArray, List.set_cons_succ, List.set_cons_zero]
  refine ⟨_, some 37, .string t0, rfl, rfl, ⟨rfl, fun _ => rfl⟩, ?_⟩
  simp only [Act.put, List.setIfInBounds_toArray, List.set_cons_succ, List.set_cons_zero]
  refine ⟨_, some 38, .int .i64 k, rfl, rfl, ⟨rfl, fun _ => rfl⟩, ?_⟩
  simp only [Act.put, List.setIfInBounds_toArray, List.set_cons_succ, List.set_cons_zero]
  refine ⟨_, some 39, .string (t0.extract 0 k), rfl, rfl, ⟨rfl, exec_str_to (x := .tmp 37) (y := .tmp 38) rfl rfl rfl (by omega) (by omega)⟩, ?_⟩
  simp only [Act.put, List.setIfInBounds_toArray, List.set_cons_succ, List.set_cons_zero]
  refine ⟨_, some 40, .string more, rfl, rfl, ⟨rfl, fun _ => rfl⟩, ?_⟩
  simp only [Act.put, List.setIfInBounds_toArray, List.set_cons_succ, List.set_cons_zero]
  refine ⟨_, some 41, .string (t0.extract 0 k ++ more), rfl, rfl, ⟨rfl, exec_add (x := .tmp 39) (y := .tmp 40) rfl rfl rfl (by omega)⟩, ?_⟩
  simp only [Act.put, List.setIfInBounds_toArray, List.set_cons_succ, List.set_cons_zero]
  refine ⟨_, some 42, .string t0, rfl, rfl, ⟨rfl, fun _ => rfl⟩, ?_⟩
  simp only [Act.put, List.setIfInBounds_toArray, List.set_cons_succ, List.set_cons_zero]
  refine ⟨_, some 43, .int .i64 k, rfl, rfl, ⟨rfl, fun _ => rfl⟩, ?_⟩
  simp only [Act.put, List.setIfInBounds_toArray, List.set_cons_succ, List.set_cons_zero]
  refine ⟨_, some 44, .string (t0.extract k t0.size), rfl, rfl, ⟨rfl, exec_str_from (x := .tmp 42) (y := .tmp 43) rfl rfl rfl (by omega) (by omega)⟩, ?_⟩
  simp only [Act.put, List.setIfInBounds_toArray, List.set_cons_succ, List.set_cons_zero]
  refine ⟨_, some 45, .string (t0.extract 0 k ++ more ++ t0.extract k t0.size), rfl, rfl, ⟨rfl, exec_add (x := .tmp 41) (y := .tmp 44) rfl rfl rfl (by omega)⟩, ?_⟩
  simp only [Act.put, List.setIfInBounds_toArray, List.set_cons_succ, List.set_cons_zero]
  refine ⟨_, some 46, .string (t0.extract 0 k ++ more ++ t0.extract k t0.size ++ { data := #[33] }), rfl, rfl, ⟨rfl, exec_add (x := .tmp 45) (y := .const (.string { data := #[33] })) rfl rfl rfl (by omega)⟩, ?_⟩
  simp only [Act.put, List.setIfInBounds_toArray, List.set_cons_succ, List.set_cons_zero]
  refine ⟨_, some 47, .string t0, rfl, rfl, ⟨rfl, fun _ => rfl⟩, ?_⟩
  simp only [Act.put, List.setIfInBounds_toArray, List.set_cons_succ, List.set_cons_zero]
  refine ⟨_, some 48, .int .i64 k, rfl, rfl, ⟨rfl, fun _ => rfl⟩, ?_⟩
  simp only [Act.put, List.setIfInBounds_toArray, List.set_cons_succ, List.set_cons_zero]
  refine ⟨_, some 49, .string (t0.extract 0 k), rfl, rfl, ⟨rfl, exec_str_to (x := .tmp 47) (y := .tmp 48) rfl rfl rfl (by omega) (by omega)⟩, ?_⟩
  simp only [Act.put, List.setIfInBounds_toArray, List.set_cons_succ, List.set_cons_zero]
  refine ⟨_, some 50, .string more, rfl, rfl, ⟨rfl, fun _ => rfl⟩, ?_⟩
  simp only [Act.put, List.setIfInBounds_toArray, List.set_cons_succ, List.set_cons_zero]
  refine ⟨_, some 51, .string (t0.extract 0 k ++ more), rfl, rfl, ⟨rfl, exec_add (x := .tmp 49) (y := .tmp 50) rfl rfl rfl (by omega)⟩, ?_⟩
  simp only [Act.put, List.setIfInBounds_toArray, List.set_cons_succ, List.set_cons_zero]
  refine ⟨_, some 52, .string t0, rfl, rfl, ⟨rfl, fun _ => rfl⟩, ?_⟩
  simp only [Act.put, List.setIfInBounds_toArray, List.set_cons_succ, List.set_cons_zero]
  refine ⟨_, some 53, .int .i64 k, rfl, rfl, ⟨rfl, fun _ => rfl⟩, ?_⟩
  simp only [Act.put, List.setIfInBounds_toArray, List.set_cons_succ, List.set_cons_zero]
  refine ⟨_, some 54, .string more, rfl, rfl, ⟨rfl, fun _ => rfl⟩, ?_⟩
  simp only [Act.put, List.setIfInBounds_toArray, List.set_cons_succ, List.set_cons_zero]
  refine ⟨_, some 55, .int .i64 (more.size : Int), rfl, rfl, ⟨rfl, exec_len (x := .tmp 54) rfl rfl rfl⟩, ?_⟩
  simp only [Act.put, List.setIfInBounds_toArray, List.set_cons_succ, List.set_cons_zero]
  refine ⟨_, some 56, .int .i64 ((k + more.size : Nat) : Int), rfl, rfl, ⟨rfl, exec_addi (x := .tmp 53) (y := .tmp 55) rfl rfl rfl (by omega)⟩, ?_⟩
  simp only [Act.put, List.setIfInBounds_toArray, List.set_cons_succ, List.set_cons_zero]
  refine ⟨_, some 57, .string t0, rfl, rfl, ⟨rfl, fun _ => rfl⟩, ?_⟩
  simp only [Act.put, List.setIfInBounds_toArray, List.set_cons_succ, List.set_cons_zero]
  refine ⟨_, some 58, .int .i64 (t0.size : Int), rfl, rfl, ⟨rfl, exec_len (x := .tmp 57) rfl rfl rfl⟩, ?_⟩
  simp only [Act.put, List.setIfInBounds_toArray, List.set_cons_succ, List.set_cons_zero]
  refine ⟨_, some 59, .int .i64 ((min (k + more.size) t0.size : Nat) : Int), rfl, rfl, ⟨rfl, exec_min (x := .tmp 56) (y := .tmp 58) rfl rfl rfl rfl⟩, ?_⟩
  simp only [Act.put, List.setIfInBounds_toArray, List.set_cons_succ, List.set_cons_zero]
  refine ⟨_, some 60, .string (t0.extract (min (k + more.size) t0.size) t0.size), rfl, rfl, ⟨rfl, exec_str_from (x := .tmp 52) (y := .tmp 59) rfl rfl rfl (by omega) (by omega)⟩, ?_⟩
  simp only [Act.put, List.setIfInBounds_toArray, List.set_cons_succ, List.set_cons_zero]
  refine ⟨_, some 61, .string (t0.extract 0 k ++ more ++ t0.extract (min (k + more.size) t0.size) t0.size), rfl, rfl, ⟨rfl, exec_add (x := .tmp 51) (y := .tmp 60) rfl rfl rfl (by omega)⟩, ?_⟩
  simp only [Act.put, List.setIfInBounds_toArray, List.set_cons_succ, List.set_cons_zero]
  refine ⟨_, some 62, .string (t0.extract 0 k ++ more ++ t0.extract (min (k + more.size) t0.size) t0.size ++ { data := #[33] }), rfl, rfl, ⟨rfl, exec_add (x := .tmp 61) (y := .const (.string { data := #[33] })) rfl rfl rfl (by omega)⟩, ?_⟩
  simp only [Act.put, List.setIfInBounds_toArray, List.set_cons_succ, List.set_cons_zero]
  refine ⟨_, some 65, .int .i64 0, rfl, rfl, ⟨rfl, fun _ => rfl⟩, ?_⟩
  simp only [Act.put, List.setIfInBounds_toArray, List.set_cons_succ, List.set_cons_zero]
  refine ⟨_, rfl, ?_⟩
  go_wp2_with fail
  refine ⟨rfl, ?_⟩
  refine ⟨_, some 64, .int .i64 5, rfl, rfl, ⟨rfl, exec_len_sl (x := .tmp 63) (k := 5) rfl rfl rfl⟩, ?_⟩
  simp only [Act.put, List.setIfInBounds_toArray, List.set_cons_succ, List.set_cons_zero]
  simp only [Qt.treeW]
  have hba : Below w3.heap.size w3 (w3.alloc (.cells #[.string s, .string (t0 ++ { data := #[33] }), .string t0, .string (t0.extract 0 k ++ more ++ t0.extract k t0.size ++ { data := #[33] }), .string (t0.extract 0 k ++ more ++ t0.extract (min (k + more.size) t0.size) t0.size ++ { data := #[33] })] 9)) := (Below.refl _ w3).alloc (Nat.le_refl _) _
  have hbd : Below w3.heap.size w3 (w3.alloc (.cells #[.string s, .string (t0 ++ { data := #[33] }), .string t0, .string (t0.extract 0 k ++ more ++ t0.extract k t0.size ++ { data := #[33] }), .string (t0.extract 0 k ++ more ++ t0.extract (min (k + more.size) t0.size) t0.size ++ { data := #[33] })] 9)).drew := ⟨hba.os, hba.tape, hba.output, hba.size, hba.block⟩
  have h3 : ∃ xs, Five (w3.alloc (.cells #[.string s, .string (t0 ++ { data := #[33] }), .string t0, .string (t0.extract 0 k ++ more ++ t0.extract k t0.size ++ { data := #[33] }), .string (t0.extract 0 k ++ more ++ t0.extract (min (k + more.size) t0.size) t0.size ++ { data := #[33] })] 9)).drew w3.heap.size xs := by
    refine ⟨fun j => match j with | 0 => s | 1 => t0 ++ { data := #[33] } | 2 => t0 | 3 => t0.extract 0 k ++ more ++ t0.extract k t0.size ++ { data := #[33] } | _ => t0.extract 0 k ++ more ++ t0.extract (min (k + more.size) t0.size) t0.size ++ { data := #[33] }, fun j hj => ?_, fun j => ?_⟩
    · match j, hj with
      | 0, _ => simp
      | 1, _ => simp
      | 2, _ => simp
      | 3, _ => simp
      | 4, _ => simp
    · match j with
      | 0 => simp only; omega
      | 1 => simp only; omega
      | 2 => simp only; omega
      | 3 => simp only; omega
      | n + 4 => simp only; omega
  obtain ⟨xs, hX⟩ := h3
  have HX := Lib.hid hX
  have HN5 := Lib.hid (HN3.out.below hbd)
  have B5 := Lib.hid (Qt.more B3.out B3.out.size hbd)
  generalize (w3.alloc (.cells #[.string s, .string (t0 ++ { data := #[33] }), .string t0, .string (t0.extract 0 k ++ more ++ t0.extract k t0.size ++ { data := #[33] }), .string (t0.extract 0 k ++ more ++ t0.extract (min (k + more.size) t0.size) t0.size ++ { data := #[33] })] 9)).drew = w5 at *
  generalize w3.heap.size = g at *
  clear hba hbd hX z0 z1 z2 z3 z4 z5 z6 z7 z8 hmn HN3 B3 h33
  go_wp2
  go_loopw [65] (fun i wr => ∃ j : Nat, j ≤ 5 ∧ i = .int .i64 j ∧ Hid (Below w5.heap.size w5 wr)) (fun i _ => 5 - (intOf i).toNat)
  case atStart => exact ⟨0, by omega, rfl, Below.refl _ _⟩
  case round =>
    obtain ⟨j, hj, rfl, HB⟩ := hrel
    by_cases hlt : j < 5
    · have hltz : (j : Int) < 5 := by omega
      have x0 := Qt.keep HB.out (HX.out.cell j hlt)
      have hxs := HX.out.size j
      generalize xs j = X at x0 hxs
      obtain ⟨⟨L, e, p⟩, hr⟩ : ∃ r, lexA X.data.toList = r := ⟨_, rfl⟩
      have hlx := fun W => lex_of X hxs hr W
      have hrx := fun W => refLex_of X hxs hr W
      have hLn : L.length ≤ 1000000 := lexA_many (l := L) hr
      have hsm : ∀ (A6 A7 : Option Addr) (c6 c7 : Nat) (W : World), NowE W A6 (L.map up) → NowE W A7 (L.map up) → Calls Tryd.prog 14 #[.slice A6 L.length c6, .slice A7 L.length c7] W fun e w' => e = .returned (.bool true) ∧ Below W.heap.size W w' := fun A6 A7 c6 c7 W h6 h7 => by
        have := sameE_any (c := c6) (c' := c7) h6 h7 (n := L.length) (n' := L.length) (by rw [List.length_map]) (by rw [List.length_map]) hLn
        rwa [decide_eq_true rfl] at this
      have HSM := Lib.hid hsm
      clear hr hsm
      go_wp2_with fail
      refine (hlx _).mono ?_
      rintro e' w6 ⟨A6, c6, rfl, hc6, hN6, hb6⟩
      have HB6 := Lib.hid (Qt.more HB.out HB.out.size hb6)
      have HN6 := Lib.hid hN6
      clear hb6 hN6 hlx x0 HB
      go_wp2_with fail
      refine (hrx _).mono ?_
      rintro e' w7 ⟨A7, c7, rfl, hc7, hN7, hb7⟩
      have HB7 := Lib.hid (Qt.more HB6.out HB6.out.size hb7)
      have HN7 := Lib.hid hN7
      have HN67 := Lib.hid (HN6.out.below hb7)
      clear hb7 HB6 HN6 hrx hN7
      go_wp2_with fail
      refine (HSM.out A6 A7 c6 c7 _ HN67.out HN7.out).mono ?_
      rintro e' w8 ⟨rfl, hb8⟩
      have HB8 := Lib.hid (Qt.more HB7.out HB7.out.size hb8)
      clear hb8 HB7 HN67 HN7
      go_wp2
      go_roundw
      case measure => simp [intOf]; omega
      case rel => exact ⟨j + 1, by omega, by go_num, HB8⟩
    · obtain rfl : j = 5 := by omega
      have B6 := Lib.hid (Qt.more B5.out B5.out.size HB.out)
      have hN6 := HN5.out.below HB.out
      have hT6 := HHT.out.below B6.out
      go_wp2_with fail
      refine (HTX.out _ hN6 hT6).mono ?_
      rintro e' w7 ⟨rfl, hb7⟩
      have B7 := Lib.hid (Qt.more B6.out B6.out.size hb7)
      clear hb7 B6 hN6 hT6
      have hT7 := HHT.out.below B7.out
      have hN7 := HRA.out.below B7.out
      go_wp2_with fail
      refine (tokText_any Aa any ca _ hN7 HYA.out HWA.out hT7).mono ?_
      rintro e' w8 ⟨rfl, hb8⟩
      have B8 := Lib.hid (Qt.more B7.out B7.out.size hb8)
      clear hb8 B7 hN7 hT7
      have hN8 := HRA.out.below B8.out
      go_wp2_with fail
      refine (refTextE_any Aa any ca _ hN8 HYA.out HWA.out).mono ?_
      rintro e' w9 ⟨rfl, hb9⟩
      have B9 := Lib.hid (Qt.more B8.out B8.out.size hb9)
      clear hb9 B8 hN8
      generalize str (textE any) = ta at *
      go_wp2
      go_ret
      exact ⟨rfl, B9.out⟩
end Go.Proofs.YtildobjgohddoaaDoor
