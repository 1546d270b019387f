/-
  Texts that the claims of this seat share, part 3.
-/
import Derived.Test.YtacpncmdgkljdaaGreatDoorB01
import Derived.Test.YtacpncmdgkljdaaGreatDoorB02
import Derived.Test.YtacpncmdgkljdaaGreatDoorSh
import Derived.Test.YtacpncmdgkljdaaGreatDoorProg
import Derived.WalkKit
import Derived.WalkSpells
import Derived.WalkLawsBesides
import Derived.Lib.QuietBelow
import Derived.Lib.Hide
import Derived.BigQuiet
import Derived.StillTailTactics
import Derived.LoopN
import Derived.Handy
import Derived.Test.YtacpncmdgkljdaaGreatDoorB00
import Derived.Deep.LoopGhost
import Derived.Laws.CopyRow
set_option linter.unusedVariables false
set_option linter.unusedSimpArgs false
namespace Go.Proofs.YtacpncmdgkljdaaGreatDoor
set_option linter.unusedVariables false
set_option linter.unusedSimpArgs false
open Go.RowKit Go.Sort

/-- The library's variable on how long a part may be: some number. -/
def Mx (w : World) : Prop := ∃ m, w.cell? ⟨0, 0, none⟩ = some (.int .i64 m)
theorem Mx.below {w w' : World} (h : Mx w) (hb : Below w.heap.size w w') : Mx w' := by
  obtain ⟨m, hm⟩ := h
  exact ⟨m, Qt.keep hb hm⟩
theorem mx_shaped {w : World} (h : w.ShapedOpen Tryz.prog) : Mx w := Tryz.laysM145.s1_3 w h
theorem below_drewN (w : World) (n : Nat) : Below w.heap.size w (w.drewN n) := by
  have h := Lib.below_grow w.heap.size w (Nat.le_refl _) n #[]
  rwa [grow_empty] at h

theorem cutS_any (part l : List UInt8) (w : World) (hp : part ≠ []) (hl : l.length ≤ 1000000) (hM : Mx w) :
    Calls Tryz.prog 25 #[.string (str l), .string (str part)] w fun e w' => e = .returned (cutT part l) ∧ Below w.heap.size w w' := by
  obtain ⟨m, hm⟩ := hM
  have h := Any.strings_Cut (P := Tryz.prog) (ρ := Tryz.laysM145_ren) { Tryz.laysM145 with } (str l) (str part) m w (by rw [str_size]; omega) hm
  refine Calls.mono (P := Tryz.prog) h ?_
  rintro e w' ⟨rfl, n, rfl⟩
  rw [cutT_lib hp]
  exact ⟨rfl, below_drewN w n⟩
theorem pre_any (l p : List UInt8) (w : World) :
    Calls Tryz.prog 45 #[.string (str l), .string (str p)] w fun e w' => e = .returned (.bool (Lib.hasPrefix l p)) ∧ w' = w :=
  Any.strings_HasPrefix Tryz.lays99 (str l) (str p) w
theorem cutPre_any (l p : List UInt8) (w : World) :
    Calls Tryz.prog 47 #[.string (str l), .string (str p)] w fun e w' => e = .returned (.tuple #[.string (str (Lib.trimPrefix l p)), .bool (Lib.hasPrefix l p)]) ∧ w' = w :=
  Any.strings_CutPrefix Tryz.lays103 (str l) (str p) w
theorem trimSuf_any (l p : List UInt8) (w : World) (hl : l.length ≤ 1000000) :
    Calls Tryz.prog 49 #[.string (str l), .string (str p)] w fun e w' => e = .returned (.string (str (Lib.trimSuffix l p))) ∧ w' = w :=
  Any.strings_TrimSuffix Tryz.lays102 (str l) (str p) w (by rw [str_size]; omega)

theorem isNumber_any (l : List UInt8) (w : World) (hl : l.length ≤ 1000000) :
    Calls Tryz.prog 48 #[.string (str l)] w fun e w' => e = .returned (.bool (numB l)) ∧ Below w.heap.size w w' := by
  have hc := fun W => parse_any (str l) W (by rw [str_size]; unfold maxLen; omega)
  rw [str_data] at hc
  unfold numB
  generalize parseL l = q at *
  obtain ⟨v, x⟩ := q
  unfold ParseR at hc
  simp only at hc ⊢
  generalize str l = s at *
  by_cases h0 : x = 0
  · subst h0
    go_enter Tryz.func48, Tryz.ntmps48
    go_wp2_with fail
    refine (hc _).mono ?_
    rintro e w1 ⟨rfl, hb1⟩
    go_wp2
    go_ret
    exact ⟨rfl, hb1⟩
  · have hx : (x == 0) = false := by simpa using h0
    have hd : decide (x = 0) = false := by simpa using h0
    rw [hd]
    go_enter Tryz.func48, Tryz.ntmps48
    go_wp2_with fail
    refine (hc _).mono ?_
    rintro e w1 ⟨rfl, hb1⟩
    go_wp2
    go_ret
    exact ⟨rfl, hb1⟩

theorem trimSuffix_len (l p : List UInt8) : (Lib.trimSuffix l p).length ≤ l.length := by
  unfold Lib.trimSuffix
  split
  · rw [List.length_take]; omega
  · exact Nat.le_refl _
theorem trimPrefix_len (l p : List UInt8) : (Lib.trimPrefix l p).length ≤ l.length := by
  unfold Lib.trimPrefix
  split
  · rw [List.length_drop]; omega
  · exact Nat.le_refl _

set_option maxHeartbeats 2000000 in
theorem isHead_any (l : List UInt8) (w : World) (hl : l.length ≤ 1000000) (hM : Mx w) :
    Calls Tryz.prog 26 #[.string (str l)] w fun e w' => e = .returned (.bool (headB l)) ∧ Below w.heap.size w w' := by
  have h1 := fun W => cutPre_any l pX W
  have hlen := trimPrefix_len l pX
  have h2 := fun W (hM : Mx W) => cutS_any pY (Lib.trimPrefix l pX) W (by decide) (by omega) hM
  rw [head_by]
  unfold pX at h1
  unfold pY at h2
  cases hp : Lib.hasPrefix l pX with
  | false =>
    have hp' : Lib.hasPrefix l [120, 32, 61, 32] = false := hp
    rw [hp'] at h1
    obtain ⟨a, b, q, hq⟩ := cutT_three pY (Lib.trimPrefix l pX)
    unfold pY at hq
    rw [hq] at h2
    rw [Bool.false_and]
    clear hp hp' hq hlen hl
    unfold pX at *
    generalize str (Lib.trimPrefix l [120, 32, 61, 32]) = s1 at *
    generalize str l = s at *
    go_enter Tryz.func26, Tryz.ntmps26
    go_wp2_with fail
    refine (h1 _).mono ?_
    rintro e w1 ⟨rfl, rfl⟩
    go_wp2_with fail
    refine (h2 _ hM).mono ?_
    rintro e w2 ⟨rfl, hb2⟩
    go_wp2
    go_ret
    exact ⟨rfl, hb2⟩
  | true =>
    have hp' : Lib.hasPrefix l [120, 32, 61, 32] = true := hp
    rw [hp'] at h1
    rw [Bool.true_and]
    cases hc : cutL pY (Lib.trimPrefix l pX) with
    | none =>
      have hq := cutT_none hc
      unfold pY at hq
      rw [hq] at h2
      simp only
      clear hp hp' hq hlen hl hc
      unfold pX at *
      generalize str (Lib.trimPrefix l [120, 32, 61, 32]) = s1 at *
      generalize str l = s at *
      generalize str [] = s0 at *
      go_enter Tryz.func26, Tryz.ntmps26
      go_wp2_with fail
      refine (h1 _).mono ?_
      rintro e w1 ⟨rfl, rfl⟩
      go_wp2_with fail
      refine (h2 _ hM).mono ?_
      rintro e w2 ⟨rfl, hb2⟩
      go_wp2
      go_ret
      exact ⟨rfl, hb2⟩
    | some q =>
      obtain ⟨u, v⟩ := q
      have hq := cutT_some hc
      unfold pY at hq
      rw [hq] at h2
      simp only
      have hpl := congrArg List.length (cut_parts (by decide) hc)
      simp only [List.length_append] at hpl
      have hn1 := fun W => isNumber_any u W (by omega)
      have hts := fun W => trimSuf_any v pR W (by omega)
      have hvl := trimSuffix_len v pR
      have hn2 := fun W => isNumber_any (Lib.trimSuffix v pR) W (by omega)
      clear hp hp' hq hlen hl hc hpl hvl
      unfold pX at *
      unfold pR at *
      generalize str (Lib.trimPrefix l [120, 32, 61, 32]) = s1 at *
      generalize str l = s at *
      generalize str u = su at *
      generalize str v = sv at *
      generalize str (Lib.trimSuffix v [44, 32, 114, 117, 108, 101, 32, 61, 32, 66, 51, 47, 83, 50, 51]) = st at *
      generalize numB (Lib.trimSuffix v [44, 32, 114, 117, 108, 101, 32, 61, 32, 66, 51, 47, 83, 50, 51]) = n2 at *
      cases hnu : numB u with
      | false =>
        rw [hnu] at hn1
        rw [Bool.false_and]
        clear hnu
        go_enter Tryz.func26, Tryz.ntmps26
        go_wp2_with fail
        refine (h1 _).mono ?_
        rintro e w1 ⟨rfl, rfl⟩
        go_wp2_with fail
        refine (h2 _ hM).mono ?_
        rintro e w2 ⟨rfl, hb2⟩
        go_wp2_with fail
        refine (hn1 _).mono ?_
        rintro e w3 ⟨rfl, hb3⟩
        have hB3 := Lib.hid (Qt.more hb2 hb2.size hb3)
        clear hb3 hb2
        go_wp2
        go_ret
        exact ⟨rfl, hB3.out⟩
      | true =>
        rw [hnu] at hn1
        rw [Bool.true_and]
        clear hnu
        go_enter Tryz.func26, Tryz.ntmps26
        go_wp2_with fail
        refine (h1 _).mono ?_
        rintro e w1 ⟨rfl, rfl⟩
        go_wp2_with fail
        refine (h2 _ hM).mono ?_
        rintro e w2 ⟨rfl, hb2⟩
        go_wp2_with fail
        refine (hn1 _).mono ?_
        rintro e w3 ⟨rfl, hb3⟩
        have hB3 := Lib.hid (Qt.more hb2 hb2.size hb3)
        clear hb3 hb2
        go_wp2_with fail
        refine (hts _).mono ?_
        rintro e w4 ⟨rfl, rfl⟩
        go_wp2_with fail
        refine (hn2 _).mono ?_
        rintro e w5 ⟨rfl, hb5⟩
        have hB5 := Lib.hid (Qt.more hB3.out hB3.out.size hb5)
        clear hb5 hB3
        go_wp2
        go_ret
        exact ⟨rfl, hB5.out⟩
end Go.Proofs.YtacpncmdgkljdaaGreatDoor
namespace Go.Proofs.YtacpncmdgkljdaaGreatDoor.Cel
open Go.RowKit Go.Sort


theorem isNaN_any (x : Int) (w : World) : Calls Tryz.prog 75 #[.int .i64 x] w fun e w' => e = .returned (.bool false) ∧ w = w' := by
  go_enter Tryz.func75, Tryz.ntmps75
  go_wp2
  all_goals go_ret
  all_goals exact ⟨by simp, rfl⟩

set_option maxHeartbeats 400000 in
theorem cmp_any (x y : Int) (w : World) : Calls Tryz.prog 63 #[.int .i64 x, .int .i64 y] w fun e w' => e = .returned (.int .i64 (cmpI x y)) ∧ w = w' := by
  rcases Int.lt_trichotomy x y with h | h | h
  · have e : cmpI x y = -1 := by unfold cmpI; rw [if_pos h]
    rw [e]; clear e
    go_enter Tryz.func63, Tryz.ntmps63
    go_wp2_with (go_at_call 75; refine (isNaN_any _ _).mono ?_; rintro e w' ⟨rfl, rfl⟩)
    go_ret
    exact ⟨rfl, rfl⟩
  · subst h
    have e : cmpI x x = 0 := by unfold cmpI; simp
    rw [e]; clear e
    go_enter Tryz.func63, Tryz.ntmps63
    go_wp2_with (go_at_call 75; refine (isNaN_any _ _).mono ?_; rintro e w' ⟨rfl, rfl⟩)
    go_ret
    exact ⟨rfl, rfl⟩
  · have e : cmpI x y = 1 := by unfold cmpI; rw [if_neg (by omega), if_pos h]
    rw [e]; clear e
    have h' : ¬ x < y := by omega
    go_enter Tryz.func63, Tryz.ntmps63
    go_wp2_with (go_at_call 75; refine (isNaN_any _ _).mono ?_; rintro e w' ⟨rfl, rfl⟩)
    go_ret
    exact ⟨rfl, rfl⟩

/-! ### cmp.Or, the method compare -/

theorem or_any (a b : Int) (w : World) (B : Nat) (h0 : w.cell? ⟨B, 0, none⟩ = some (.int .i64 a)) (h1 : w.cell? ⟨B, 1, none⟩ = some (.int .i64 b)) :
    Calls Tryz.prog 62 #[.slice (some ⟨B, 0, none⟩) 2 2] w fun e w' => e = .returned (.int .i64 (orI a b)) ∧ w = w' := by
  by_cases ha : a = 0
  · subst ha
    by_cases hb : b = 0
    · subst hb
      have e : orI 0 0 = 0 := by decide
      rw [e]; clear e
      go_enter Tryz.func62, Tryz.ntmps62
      go_wp2
      go_rounds 3
      all_goals go_ret
      all_goals exact ⟨rfl, rfl⟩
    · have e : orI 0 b = b := by unfold orI; simp
      rw [e]; clear e
      have hb' : (b == 0) = false := by simpa using hb
      have hb2 : (b != 0) = true := by simpa using hb
      clear hb
      go_enter Tryz.func62, Tryz.ntmps62
      go_wp2
      go_rounds 3
      all_goals go_ret
      all_goals exact ⟨rfl, rfl⟩
  · have e : orI a b = a := by unfold orI; simp [ha]
    rw [e]; clear e
    have ha' : (a == 0) = false := by simpa using ha
    have ha2 : (a != 0) = true := by simpa using ha
    clear ha
    go_enter Tryz.func62, Tryz.ntmps62
    go_wp2
    go_rounds 3
    all_goals go_ret
    all_goals exact ⟨rfl, rfl⟩


set_option maxHeartbeats 400000 in
theorem compare_any (p q : Int × Int) (w : World) :
    Calls Tryz.prog 35 #[.agg #[.int .i64 p.1, .int .i64 p.2], .agg #[.int .i64 q.1, .int .i64 q.2]] w fun e w' => e = .returned (.int .i64 (cmpP p q)) ∧ Below w.heap.size w w' := by
  obtain ⟨a, b⟩ := p
  obtain ⟨c, d⟩ := q
  simp only [cmpP]
  have hB : Below w.heap.size w ((w.alloc (.cells #[.int .i64 a, .int .i64 b] 65)).alloc (.cells #[.int .i64 c, .int .i64 d] 65)) := ((Below.refl _ _).alloc (Nat.le_refl _) _).alloc (by simp) _
  have k0 := cell_regrown (w := (w.alloc (.cells #[.int .i64 a, .int .i64 b] 65)).alloc (.cells #[.int .i64 c, .int .i64 d] 65)) (a := ⟨w.heap.size, 0, none⟩) (v := .int .i64 a) (by simp)
  have k1 := cell_regrown (w := (w.alloc (.cells #[.int .i64 a, .int .i64 b] 65)).alloc (.cells #[.int .i64 c, .int .i64 d] 65)) (a := ⟨w.heap.size, 1, none⟩) (v := .int .i64 b) (by simp)
  have k2 := cell_regrown (w := (w.alloc (.cells #[.int .i64 a, .int .i64 b] 65)).alloc (.cells #[.int .i64 c, .int .i64 d] 65)) (a := ⟨w.heap.size + 1, 0, none⟩) (v := .int .i64 c) (by simp)
  have k3 := cell_regrown (w := (w.alloc (.cells #[.int .i64 a, .int .i64 b] 65)).alloc (.cells #[.int .i64 c, .int .i64 d] 65)) (a := ⟨w.heap.size + 1, 1, none⟩) (v := .int .i64 d) (by simp)
  go_enter Tryz.func35, Tryz.ntmps35
  go_wp2
  refine Qt.below_tail 10 (by kernel_rfl) (by kernel_rfl) ?_
  generalize (w.alloc (.cells #[.int .i64 a, .int .i64 b] 65)).alloc (.cells #[.int .i64 c, .int .i64 d] 65) = W at *
  simp only [List.take_succ_cons, List.take_zero, List.drop_succ_cons, List.drop_zero]
  repeat (go_big_quiet_step (first | (go_at_call 63; exact Qt.at_same fun _ _ => cmp_any _ _ _)))
  refine wpQuiet_nil ?_
  intro w1 hb1
  go_wp2_with fail
  refine (or_any (cmpI b d) (cmpI a c) _ w1.heap.size (by simp) (by simp)).mono ?_
  rintro e w' ⟨rfl, rfl⟩
  go_wp2
  go_ret
  exact ⟨rfl, (hB.trans (hb1.mono hB.size)).alloc (Nat.le_trans hB.size hb1.size) _⟩

/-! ### bounds -/

theorem beyond_any (p : Int × Int) (w : World) :
    Calls Tryz.prog 34 #[.agg #[.int .i64 p.1, .int .i64 p.2]] w fun e w' => e = .returned (.bool (!inB p)) ∧ Below w.heap.size w w' := by
  obtain ⟨a, b⟩ := p
  generalize hr : inB (a, b) = r
  have HR := Lib.hid hr
  clear hr
  go_enter Tryz.func34, Tryz.ntmps34
  go_wp2
  all_goals go_ret
  all_goals refine ⟨?_, (Below.refl _ _).alloc (Nat.le_refl _) _⟩
  all_goals (refine Qt.ret_bool ?_; rw [← HR.out]; simp [inB]; omega)

theorem in_any (p : Int × Int) (w : World) :
    Calls Tryz.prog 43 #[.agg #[.int .i64 p.1, .int .i64 p.2]] w fun e w' => e = .returned (.bool (inB p)) ∧ Below w.heap.size w w' := by
  obtain ⟨a, b⟩ := p
  generalize hr : inB (a, b) = r
  have HR := Lib.hid hr
  clear hr
  go_enter Tryz.func43, Tryz.ntmps43
  go_wp2
  all_goals go_ret
  all_goals refine ⟨?_, (Below.refl _ _).alloc (Nat.le_refl _) _⟩
  all_goals (refine Qt.ret_bool ?_; rw [← HR.out]; simp [inB]; omega)


theorem less_any (p q : Int × Int) (w : World) :
    Calls Tryz.prog 33 #[.agg #[.int .i64 p.1, .int .i64 p.2], .agg #[.int .i64 q.1, .int .i64 q.2]] w fun e w' => e = .returned (.bool (lessB p q)) ∧ Below w.heap.size w w' := by
  obtain ⟨a, b⟩ := p
  obtain ⟨c, d⟩ := q
  generalize hr : lessB (a, b) (c, d) = r
  have HR := Lib.hid hr
  clear hr
  go_enter Tryz.func33, Tryz.ntmps33
  go_wp2
  all_goals go_ret
  all_goals refine ⟨?_, ((Below.refl _ _).alloc (Nat.le_refl _) _).alloc (by simp) _⟩
  all_goals (refine Qt.ret_bool ?_; rw [← HR.out]; simp [lessB] at *; omega)


theorem pick_any (c n : Int) (w : World) (h1 : -9223372036854775808 ≤ c) (h2 : c ≤ 9223372036854775807) (hn : 1 ≤ n) (hn2 : n ≤ 9223372036854775807) :
    Calls Tryz.prog 32 #[.int .i64 c, .int .i64 n] w fun e w' => e = .returned (.int .i64 (pickI c n)) ∧ w = w' := by
  generalize hr : pickI c n = r
  have HR := Lib.hid hr
  clear hr
  go_enter Tryz.func32, Tryz.ntmps32
  go_wp2
  all_goals go_ret
  all_goals refine ⟨?_, rfl⟩
  all_goals (refine Qt.ret_int ?_; rw [← HR.out]; unfold pickI)
  · rw [if_pos (by assumption), ← Int.neg_tmod, Int.tmod_eq_emod_of_nonneg (by omega)]
  · rw [if_neg (by omega)]

end Go.Proofs.YtacpncmdgkljdaaGreatDoor.Cel
namespace Go.Proofs.YtacpncmdgkljdaaGreatDoor.Cel
open Go.RowKit Go.Sort

/-- The slice at A of l.length cells (two numbers each) reads as l, below block B. -/
def Rd (w : World) (B : Nat) (A : Option Addr) (l : List (Int × Int)) : Prop :=
  ∀ j, j < l.length → ∃ b off, A = some ⟨b, off, none⟩ ∧ b < B ∧ w.cell? ⟨b, off + j * 2, none⟩ = some (.int .i64 (l.getD j (0, 0)).1) ∧ w.cell? ⟨b, off + j * 2 + 1, none⟩ = some (.int .i64 (l.getD j (0, 0)).2)

theorem Rd.below {w w' : World} {B B' : Nat} {A : Option Addr} {l : List (Int × Int)} (h : Rd w B A l) (hb : Below B' w w') (hB : B ≤ B') : Rd w' B A l := fun j hj => by
  obtain ⟨b, off, e, hlt, h0, h1⟩ := h j hj
  exact ⟨b, off, e, hlt, (hb.cell (p := ⟨b, off + j * 2, none⟩) (Nat.lt_of_lt_of_le hlt hB)).trans h0, (hb.cell (p := ⟨b, off + j * 2 + 1, none⟩) (Nat.lt_of_lt_of_le hlt hB)).trans h1⟩

theorem Rd.more {w : World} {B B' : Nat} {A : Option Addr} {l : List (Int × Int)} (h : Rd w B A l) (hB : B ≤ B') : Rd w B' A l := fun j hj => by
  obtain ⟨b, off, e, hlt, h0, h1⟩ := h j hj
  exact ⟨b, off, e, by omega, h0, h1⟩

theorem Rd.nil (w : World) (B : Nat) (A : Option Addr) : Rd w B A [] := fun j hj => absurd hj (Nat.not_lt_zero j)

/-- where the elements lie: one place for all. -/
theorem Rd.at_ {w : World} {B : Nat} {A : Option Addr} {l : List (Int × Int)} (h : Rd w B A l) (hn : 0 < l.length) :
    ∃ b off, A = some ⟨b, off, none⟩ ∧ b < B ∧ ∀ j, j < l.length → w.cell? ⟨b, off + j * 2, none⟩ = some (.int .i64 (l.getD j (0, 0)).1) ∧ w.cell? ⟨b, off + j * 2 + 1, none⟩ = some (.int .i64 (l.getD j (0, 0)).2) := by
  obtain ⟨b, off, e, hlt, _, _⟩ := h 0 hn
  refine ⟨b, off, e, hlt, fun j hj => ?_⟩
  obtain ⟨b', off', e', _, h0, h1⟩ := h j hj
  rw [e] at e'
  injection e' with e'
  injection e' with e1 e2
  subst e1 e2
  exact ⟨h0, h1⟩

theorem beyond_no (p : Int × Int) (h : inB p = true) (w : World) : Calls Tryz.prog 34 #[.agg #[.int .i64 p.1, .int .i64 p.2]] w fun e w' => e = .returned (.bool false) ∧ Below w.heap.size w w' := by
  have := beyond_any p w; rw [h] at this; exact this
theorem beyond_yes (p : Int × Int) (h : inB p = false) (w : World) : Calls Tryz.prog 34 #[.agg #[.int .i64 p.1, .int .i64 p.2]] w fun e w' => e = .returned (.bool true) ∧ Below w.heap.size w w' := by
  have := beyond_any p w; rw [h] at this; exact this

set_option maxHeartbeats 1000000 in
theorem right_any (A : Option Addr) (l : List (Int × Int)) (c : Nat) (w : World) (hR : Rd w w.heap.size A l) (hl : l.length ≤ 1000000) (hc : l.length ≤ c) :
    Calls Tryz.prog 14 #[.slice A l.length c] w fun e w' => e = .returned (.bool (rightB l)) ∧ Below w.heap.size w w' := by
  by_cases hlong : 2000 < l.length
  · rw [rightB_long hlong]
    have hz : (2000 : Int) < (l.length : Int) := by omega
    go_enter Tryz.func14, Tryz.ntmps14
    go_wp2
    go_ret
    exact ⟨rfl, Below.refl _ _⟩
  · have hz : ¬ (2000 : Int) < (l.length : Int) := by omega
    generalize hr : rightB l = r
    have HR := Lib.hid hr
    clear hr
    go_enter Tryz.func14, Tryz.ntmps14
    go_wp2
    go_loopw [10] (fun i wr => ∃ k : Nat, k ≤ l.length ∧ i = .int .i64 k ∧ Hid (∀ j, j < k → okAt l j = true) ∧ Below w.heap.size w wr) (fun i _ => l.length - (intOf i).toNat)
    case atStart => exact ⟨0, Nat.zero_le _, rfl, fun j hj => absurd hj (Nat.not_lt_zero j), Below.refl _ _⟩
    case round =>
      obtain ⟨k, hk, rfl, HK, hb⟩ := hrel
      by_cases hlt : k < l.length
      · have hltz : (k : Int) < (l.length : Int) := by omega
        obtain ⟨b, off, rfl, hbB, hcell⟩ := (hR.below hb (Nat.le_refl _)).at_ (by omega)
        have hsz := hb.size
        obtain ⟨⟨x, y⟩, hxy⟩ : ∃ p, p = l.getD k (0, 0) := ⟨_, rfl⟩
        have c0 := (hcell k hlt).1
        have c1 := (hcell k hlt).2
        rw [← hxy] at c0 c1
        simp only at c0 c1
        have HXY := Lib.hid hxy
        clear hxy
        by_cases hin : inB (x, y) = true
        · rcases Nat.eq_zero_or_pos k with hk0 | hk0
          · clear hcell
            have hkd : decide (0 < k) = false := by simp; omega
            have hok : okAt l k = true := by unfold okAt; rw [← HXY.out, hin, hk0]; rfl
            have HOK := Lib.hid hok
            clear hk0 hok
            go_wp2
            have k0 := Qt.cell_in (w := wr.alloc (.cells #[.int .i64 x, .int .i64 y] 37)) (a := ⟨wr.heap.size, 0, none⟩) (v := .int .i64 x) (by simp)
            have k1 := Qt.cell_in (w := wr.alloc (.cells #[.int .i64 x, .int .i64 y] 37)) (a := ⟨wr.heap.size, 1, none⟩) (v := .int .i64 y) (by simp)
            refine Qt.below_all (by kernel_rfl) (by kernel_rfl) ?_
            repeat (go_big_quiet_step (first | (go_at_call 34; exact Qt.at_call (beyond_no (x, y) hin))))
            refine wpQuiet_nil ?_
            intro w1 hb1
            go_wp2
            go_roundw
            case measure => simp [intOf]; omega
            case rel =>
              refine ⟨k + 1, by omega, by go_num, (show Hid _ from fun j hj => ?_), (hb.alloc hsz _).trans (hb1.mono (by simp; omega))⟩
              by_cases hjk : j = k
              · subst hjk; exact HOK.out
              · exact HK.out j (by omega)
          · obtain ⟨kp, rfl⟩ : ∃ kp, k = kp + 1 := ⟨k - 1, by omega⟩
            obtain ⟨⟨px, py⟩, hp⟩ : ∃ p, p = l.getD kp (0, 0) := ⟨_, rfl⟩
            have p0 := (hcell kp (by omega)).1
            have p1 := (hcell kp (by omega)).2
            rw [← hp] at p0 p1
            simp only at p0 p1
            have HP := Lib.hid hp
            clear hp hcell
            by_cases hcm : cmpP (px, py) (x, y) < 0
            · have hok : okAt l (kp + 1) = true := by unfold okAt; rw [← HXY.out, hin, Nat.add_sub_cancel, ← HP.out]; simpa using hcm
              have HOK := Lib.hid hok
              clear hok
              go_wp2
              have k0 := Qt.cell_in (w := wr.alloc (.cells #[.int .i64 x, .int .i64 y] 37)) (a := ⟨wr.heap.size, 0, none⟩) (v := .int .i64 x) (by simp)
              have k1 := Qt.cell_in (w := wr.alloc (.cells #[.int .i64 x, .int .i64 y] 37)) (a := ⟨wr.heap.size, 1, none⟩) (v := .int .i64 y) (by simp)
              have k2 := Qt.cell_in (w := wr.alloc (.cells #[.int .i64 x, .int .i64 y] 37)) (a := ⟨b, off + kp * 2, none⟩) (v := .int .i64 px) (by rw [World.cell?_alloc_lt _ _ _ (by exact Nat.lt_of_lt_of_le hbB hsz)]; exact p0)
              have k3 := Qt.cell_in (w := wr.alloc (.cells #[.int .i64 x, .int .i64 y] 37)) (a := ⟨b, off + kp * 2 + 1, none⟩) (v := .int .i64 py) (by rw [World.cell?_alloc_lt _ _ _ (by exact Nat.lt_of_lt_of_le hbB hsz)]; exact p1)
              refine Qt.below_all (by kernel_rfl) (by kernel_rfl) ?_
              repeat (go_big_quiet_step (first | (go_at_call 34; exact Qt.at_call (beyond_no (x, y) hin)) | (go_at_call 35; exact Qt.at_call (compare_any (px, py) (x, y)))))
              refine wpQuiet_nil ?_
              intro w1 hb1
              go_wp2
              go_roundw
              case measure => simp [intOf]; omega
              case rel =>
                refine ⟨kp + 1 + 1, by omega, by go_num, (show Hid _ from fun j hj => ?_), (hb.alloc hsz _).trans (hb1.mono (by simp; omega))⟩
                by_cases hjk : j = kp + 1
                · subst hjk; exact HOK.out
                · exact HK.out j (by omega)
            · have hok : okAt l (kp + 1) = false := by unfold okAt; rw [← HXY.out, hin, Nat.add_sub_cancel, ← HP.out]; simpa using hcm
              have HNO := Lib.hid (rightB_no hlt hok)
              clear hok
              go_wp2
              have k0 := Qt.cell_in (w := wr.alloc (.cells #[.int .i64 x, .int .i64 y] 37)) (a := ⟨wr.heap.size, 0, none⟩) (v := .int .i64 x) (by simp)
              have k1 := Qt.cell_in (w := wr.alloc (.cells #[.int .i64 x, .int .i64 y] 37)) (a := ⟨wr.heap.size, 1, none⟩) (v := .int .i64 y) (by simp)
              have k2 := Qt.cell_in (w := wr.alloc (.cells #[.int .i64 x, .int .i64 y] 37)) (a := ⟨b, off + kp * 2, none⟩) (v := .int .i64 px) (by rw [World.cell?_alloc_lt _ _ _ (by exact Nat.lt_of_lt_of_le hbB hsz)]; exact p0)
              have k3 := Qt.cell_in (w := wr.alloc (.cells #[.int .i64 x, .int .i64 y] 37)) (a := ⟨b, off + kp * 2 + 1, none⟩) (v := .int .i64 py) (by rw [World.cell?_alloc_lt _ _ _ (by exact Nat.lt_of_lt_of_le hbB hsz)]; exact p1)
              refine Qt.below_all (by kernel_rfl) (by kernel_rfl) ?_
              repeat (go_big_quiet_step (first | (go_at_call 34; exact Qt.at_call (beyond_no (x, y) hin)) | (go_at_call 35; exact Qt.at_call (compare_any (px, py) (x, y)))))
              refine wpQuiet_nil ?_
              intro w1 hb1
              go_wp2
              go_ret
              exact ⟨by rw [← HR.out, HNO.out]; rfl, (hb.alloc hsz _).trans (hb1.mono (by simp; omega))⟩
        · have hin' : inB (x, y) = false := by simpa using hin
          have hok : okAt l k = false := by unfold okAt; rw [← HXY.out, hin']; rfl
          have HNO := Lib.hid (rightB_no hlt hok)
          clear hok hcell hin
          go_wp2
          have k0 := Qt.cell_in (w := wr.alloc (.cells #[.int .i64 x, .int .i64 y] 37)) (a := ⟨wr.heap.size, 0, none⟩) (v := .int .i64 x) (by simp)
          have k1 := Qt.cell_in (w := wr.alloc (.cells #[.int .i64 x, .int .i64 y] 37)) (a := ⟨wr.heap.size, 1, none⟩) (v := .int .i64 y) (by simp)
          refine Qt.below_all (by kernel_rfl) (by kernel_rfl) ?_
          repeat (go_big_quiet_step (first | (go_at_call 34; exact Qt.at_call (beyond_yes (x, y) hin'))))
          refine wpQuiet_nil ?_
          intro w1 hb1
          go_wp2
          go_ret
          exact ⟨by rw [← HR.out, HNO.out]; rfl, (hb.alloc hsz _).trans (hb1.mono (by simp; omega))⟩
      · have hltz : ¬ (k : Int) < (l.length : Int) := by omega
        have hkl : k = l.length := by omega
        have e : rightB l = true := rightB_yes (by omega) fun j hj => HK.out j (by omega)
        have E := Lib.hid e
        clear e HK hkl
        go_wp2
        go_ret
        exact ⟨by rw [← HR.out, E.out]; rfl, hb⟩

end Go.Proofs.YtacpncmdgkljdaaGreatDoor.Cel
namespace Go.Proofs.YtacpncmdgkljdaaGreatDoor.Cel
open Go.RowKit Go.Sort

/-- the cells' own cells -/
def fl (l : List (Int × Int)) : List Value := l.flatMap fun c => [.int .i64 c.1, .int .i64 c.2]
theorem fl_append (l m : List (Int × Int)) : fl (l ++ m) = fl l ++ fl m := by simp [fl]
theorem length_fl (l : List (Int × Int)) : (fl l).length = l.length * 2 := by
  induction l with
  | nil => rfl
  | cons x l ih => simp only [fl, List.flatMap_cons, List.length_append, List.length_cons, List.length_nil] at ih ⊢; omega
theorem fl_get (l : List (Int × Int)) (j : Nat) (h : j < l.length) : (fl l)[j * 2]? = some (.int .i64 (l.getD j (0, 0)).1) ∧ (fl l)[j * 2 + 1]? = some (.int .i64 (l.getD j (0, 0)).2) := by
  induction l generalizing j with
  | nil => exact absurd h (Nat.not_lt_zero j)
  | cons x l ih =>
    cases j with
    | zero => simp [fl]
    | succ j =>
      have := ih j (by simpa using h)
      have e1 : (j + 1) * 2 = j * 2 + 1 + 1 := by omega
      have e2 : fl (x :: l) = .int .i64 x.1 :: .int .i64 x.2 :: fl l := rfl
      rw [e1, e2]
      simpa using this

/-- A slice of the call's own that holds l: as the laws on append say it. -/
def Own (w : World) (B T : Nat) (v : Value) (l : List (Int × Int)) : Prop := w.ownsRow B T 2 v l.length (fl l)

theorem Own.rd {w : World} {B T : Nat} {v : Value} {l : List (Int × Int)} (h : Own w B T v l) : ∃ A c, v = .slice A l.length c ∧ l.length ≤ c ∧ Rd w w.heap.size A l := by
  rcases h.2 with ⟨hv, hn⟩ | ⟨g, cap, cur, hv, hB, hg, hn, hm, hs, ht⟩
  · have : l = [] := List.eq_nil_of_length_eq_zero hn
    subst this
    exact ⟨none, 0, hv, Nat.le_refl _, Rd.nil _ _ _⟩
  · refine ⟨some ⟨g, 0, none⟩, cap, hv, hn, fun j hj => ?_⟩
    subst hv
    have hlt : g < w.heap.size := by
      rcases Nat.lt_or_ge g w.heap.size with h | h
      · exact h
      · rw [Array.getElem?_eq_none h] at hg; cases hg
    have hf := fl_get l j hj
    refine ⟨g, 0, rfl, hlt, ?_, ?_⟩
    · rw [Nat.zero_add]; exact (World.ownsRow.cellAt h (j * 2) (by omega)).trans hf.1
    · rw [Nat.zero_add]; exact (World.ownsRow.cellAt h (j * 2 + 1) (by omega)).trans hf.2

theorem Own.below {w w' : World} {B T : Nat} {v : Value} {l : List (Int × Int)} (h : Own w B T v l) (hb : Below w.heap.size w w') : Own w' B T v l := by
  refine ⟨h.1, ?_⟩
  rcases h.2 with h | ⟨g, cap, cur, hv, hB, hg, hn, hm, hs, ht⟩
  · exact .inl h
  · refine .inr ⟨g, cap, cur, hv, hB, ?_, hn, hm, hs, ht⟩
    rw [hb.block g ?_]
    · exact hg
    · rcases Nat.lt_or_ge g w.heap.size with h | h
      · exact h
      · rw [Array.getElem?_eq_none h] at hg; cases hg

theorem Own.mono {w : World} {B B' T : Nat} {v : Value} {l : List (Int × Int)} (h : Own w B T v l) (hB : B' ≤ B) : Own w B' T v l := by
  refine ⟨h.1, ?_⟩
  rcases h.2 with h | ⟨g, cap, cur, hv, hg, r⟩
  · exact .inl h
  · exact .inr ⟨g, cap, cur, hv, Nat.le_trans hB hg, r⟩

theorem own_push {w : World} {B T : Nat} {v : Value} {out : List (Int × Int)} {x y : Int} (h : w.ownsRow B T 2 v (out.length + 1) (fl out ++ [.int .i64 x, .int .i64 y])) : Own w B T v (out ++ [(x, y)]) := by
  unfold Own
  rw [fl_append, List.length_append]
  exact h

/-- A cell of a block that is not the row's. -/
theorem grown_cell {w w' : World} {row : Option Nat} {a : Addr} {v : Value} (hg : w.grownBy w' row) (h : w.cell? a = some v) (hne : some a.block ≠ row) : w'.cell? a = some v :=
  (World.cell?_of_block (w := w) (hg.block a.block (block_lt_of_cell h) hne)).trans h

theorem one_new {w : World} {T : Nat} {x y : Int} : ∀ j u, ([.int .i64 x, .int .i64 y] : List Value)[j]? = some u → (w.alloc (.cells #[.int .i64 x, .int .i64 y] T)).cell? ((⟨w.heap.size, 0, none⟩ : Addr).add j) = some u := by
  intro j u hj
  match j, hj with
  | 0, hj => simp at hj; subst hj; simp [Addr.add]
  | 1, hj => simp at hj; subst hj; simp [Addr.add]
theorem one_cell {x y : Int} : ∀ u ∈ ([.int .i64 x, .int .i64 y] : List Value), u.oneCell' = true := by
  intro u hu
  simp at hu
  rcases hu with rfl | rfl <;> rfl

/-- What an append of one cell leaves: the row, a box beside it, what is below. -/
theorem pushed {w0 w2 w3 : World} {T : Nat} {v v' : Value} {out : List (Int × Int)} {x y cx cy : Int} (hb : Below w0.heap.size w0 w2) (hsz : w0.heap.size < w2.heap.size) (hcx : w2.cell? ⟨w0.heap.size, 0, none⟩ = some (.int .i64 cx)) (hcy : w2.cell? ⟨w0.heap.size, 1, none⟩ = some (.int .i64 cy))
    (hown : Own w2 (w0.heap.size + 1) T v out) {o : Obj} (h3 : w3.ownsRow (w0.heap.size + 1) T 2 v' (out.length + 1) (fl out ++ [.int .i64 x, .int .i64 y])) (hg : (w2.alloc o).grownBy w3 v.ownBlock) :
    Own w3 (w0.heap.size + 1) T v' (out ++ [(x, y)]) ∧ w3.cell? ⟨w0.heap.size, 0, none⟩ = some (.int .i64 cx) ∧ w3.cell? ⟨w0.heap.size, 1, none⟩ = some (.int .i64 cy) ∧ Below w0.heap.size w0 w3 ∧ w0.heap.size < w3.heap.size := by
  have hne : some w0.heap.size ≠ v.ownBlock := fun e => by
    have := (World.ownsRow.lt hown _ e.symm).1; omega
  have hal : ∀ a u, w2.cell? a = some u → (w2.alloc o).cell? a = some u := fun a u h => (World.cell?_alloc_lt _ _ _ (block_lt_of_cell h)).trans h
  refine ⟨own_push h3, grown_cell hg (hal _ _ hcx) hne, grown_cell hg (hal _ _ hcy) hne, ((hb.alloc (Nat.le_of_lt hsz) _).grown hg (by simp; omega) (fun k e => ?_)), ?_⟩
  · have := (World.ownsRow.lt hown k e).1; omega
  · have h1 := hg.size; simp at h1; omega

theorem infoCell : (Tryz.prog.info? 37).map (fun i => (i.zero, i.size, i.bytes)) = some (some (.agg #[.int .i64 0, .int .i64 0]), 2, 16) := by kernel_rfl
theorem infoPlace : (Tryz.prog.info? 65).map (fun i => (i.zero, i.size, i.bytes)) = some (some (.agg #[.int .i64 0, .int .i64 0]), 2, 16) := by kernel_rfl

theorem less_yes (p q : Int × Int) (h : lessB p q = true) (w : World) : Calls Tryz.prog 33 #[.agg #[.int .i64 p.1, .int .i64 p.2], .agg #[.int .i64 q.1, .int .i64 q.2]] w fun e w' => e = .returned (.bool true) ∧ Below w.heap.size w w' := by
  have := less_any p q w; rw [h] at this; exact this
theorem less_no (p q : Int × Int) (h : lessB p q = false) (w : World) : Calls Tryz.prog 33 #[.agg #[.int .i64 p.1, .int .i64 p.2], .agg #[.int .i64 q.1, .int .i64 q.2]] w fun e w' => e = .returned (.bool false) ∧ Below w.heap.size w w' := by
  have := less_any p q w; rw [h] at this; exact this

/-- what Put has gathered, and what is still to come, make the whole -/
def putAt (c : Int × Int) (done : Bool) (out rest : List (Int × Int)) : List (Int × Int) := out ++ (if done then outL c rest else putL c rest)

set_option maxHeartbeats 1000000 in
set_option maxRecDepth 100000 in
theorem put_any (A : Option Addr) (l : List (Int × Int)) (cp : Nat) (c : Int × Int) (w : World) (hR : Rd w w.heap.size A l) (hl : l.length ≤ 1000000) (hc : l.length ≤ cp) :
    Calls Tryz.prog 13 #[.slice A l.length cp, .agg #[.int .i64 c.1, .int .i64 c.2]] w fun e w' => ∃ v, e = .returned v ∧ Own w' w.heap.size 37 v (putL c l) ∧ Below w.heap.size w w' := by
  obtain ⟨cx, cy⟩ := c
  obtain ⟨i0, hi, hz0, hz1, hz2⟩ := info_parts infoCell
  go_enter Tryz.func13, Tryz.ntmps13
  go_wp2
  go_loopw [5, 6, 7] (fun v d i wr => ∃ (k : Nat) (done : Bool) (out : List (Int × Int)), k ≤ l.length ∧ i = .int .i64 k ∧ d = .bool done ∧ Hid (putAt (cx, cy) done out (l.drop k) = putL (cx, cy) l) ∧ out.length ≤ k + 1 ∧ Hid (done = false → out.length ≤ k) ∧ Own wr (w.heap.size + 1) 37 v out ∧
      wr.cell? ⟨w.heap.size, 0, none⟩ = some (.int .i64 cx) ∧ wr.cell? ⟨w.heap.size, 1, none⟩ = some (.int .i64 cy) ∧ Below w.heap.size w wr ∧ w.heap.size < wr.heap.size) (fun _ _ i _ => l.length - (intOf i).toNat)
  case atStart => exact ⟨0, false, [], Nat.zero_le _, rfl, rfl, rfl, by simp, fun _ => by simp, World.ownsRow_nil _ _ _ _, by simp, by simp, (Below.refl _ _).alloc (Nat.le_refl _) _, by simp⟩
  case round =>
    obtain ⟨k, done, out, hk, rfl, rfl, HP, hol, HO2, hown, hcx, hcy, hb, hsz⟩ := hrel
    by_cases hlt : k < l.length
    · have hltz : (k : Int) < (l.length : Int) := by omega
      obtain ⟨b, off, rfl, hbB, hcell⟩ := hR.at_ (by omega)
      obtain ⟨⟨x, y⟩, hxy⟩ : ∃ p, p = l.getD k (0, 0) := ⟨_, rfl⟩
      have a0 := (hcell k hlt).1
      have a1 := (hcell k hlt).2
      rw [← hxy] at a0 a1
      simp only at a0 a1
      have c0 := Qt.keep hb a0
      have c1 := Qt.keep hb a1
      have HXY := Lib.hid hxy
      have HD := Lib.hid (drop_cons hlt)
      clear hxy hcell
      have k0 := Qt.cell_in hcx
      have k1 := Qt.cell_in hcy
      have k2 := Qt.cell_in c0
      have k3 := Qt.cell_in c1
      have hcase : (x = cx ∧ y = cy) ∨ (x = cx ∧ ¬ y = cy) ∨ ¬ x = cx := by
        by_cases h1 : x = cx <;> by_cases h2 : y = cy <;> simp [h1, h2]
      cases done with
      | true =>
        go_wp2
        refine Qt.below_all (by kernel_rfl) (by kernel_rfl) ?_
        repeat (go_big_quiet_step (fail))
        refine wpQuiet_nil ?_
        intro w1 hb1
        have d0 := Qt.cell_in (Qt.keep hb1 hcx)
        have d1 := Qt.cell_in (Qt.keep hb1 hcy)
        have d2 := Qt.cell_in (Qt.keep hb1 c0)
        have d3 := Qt.cell_in (Qt.keep hb1 c1)
        clear k0 k1 k2 k3
        rcases hcase with ⟨rfl, rfl⟩ | ⟨rfl, hy⟩ | hx
        · go_wp2
          refine Qt.below_all (by kernel_rfl) (by kernel_rfl) ?_
          repeat (go_big_quiet_step (fail))
          refine wpQuiet_nil ?_
          intro w2 hb2
          have HB : Below wr.heap.size wr w2 := Qt.more hb1 hb1.size hb2
          clear d0 d1 d2 d3
          go_wp2
          go_roundw
          case measure => simp [intOf]; omega
          case rel =>
            refine ⟨k + 1, true, out, by omega, by go_num, rfl, ?_, by omega, (fun h => by cases h), hown.below HB, Qt.keep HB hcx, Qt.keep HB hcy, Qt.more hb (Nat.le_of_lt hsz) HB, Nat.lt_of_lt_of_le hsz HB.size⟩
            show _ = _
            rw [← HP.out, HD.out, ← HXY.out]
            simp [putAt, outL]
        all_goals
          go_wp2
          refine Qt.below_all (by kernel_rfl) (by kernel_rfl) ?_
          repeat (go_big_quiet_step (fail))
          refine wpQuiet_nil ?_
          intro w2 hb2
          have HB : Below wr.heap.size wr w2 := Qt.more hb1 hb1.size hb2
          have e2 := Qt.keep HB c0
          have e3 := Qt.keep HB c1
          clear d0 d1 d2 d3
          have hs2 := HB.size
          go_wp2_with (at_builtin; refine wpList_append_own _ rfl (.tmp 42) (.tmp 47) 22 rfl (w.heap.size + 1) 37 i0 (.agg #[.int .i64 0, .int .i64 0]) 2 16 Tryz.underlying22 hi hz0 hz1 hz2 rfl (by decide) _ _ _ rfl (World.ownsRow.alloc (hown.below HB) _) ⟨w2.heap.size, 0, none⟩ 1 1 [.int .i64 x, .int .i64 y] rfl rfl one_new one_cell (by unfold maxLen; omega) (by omega) (by simp; omega) ?_; intro v3 w3 hown3 hgrow _)
          have P := pushed (Qt.more hb (Nat.le_of_lt hsz) HB) (Nat.lt_of_lt_of_le hsz HB.size) (Qt.keep HB hcx) (Qt.keep HB hcy) (hown.below HB) hown3 hgrow
          clear hown3 hgrow hown hcx hcy e2 e3
          go_wp2
          go_roundw
          case measure => simp [intOf]; omega
          case rel =>
            refine ⟨k + 1, true, out ++ [(x, y)], by omega, by go_num, rfl, ?_, by simp; omega, (fun h => by cases h), P.1, P.2.1, P.2.2.1, P.2.2.2.1, P.2.2.2.2⟩
            show _ = _
            rw [← HP.out, HD.out, ← HXY.out]
            simp [putAt, outL, *]
      | false =>
        rcases hcase with ⟨rfl, rfl⟩ | hne
        · go_wp2
          refine Qt.below_all (by kernel_rfl) (by kernel_rfl) ?_
          repeat (go_big_quiet_step (fail))
          refine wpQuiet_nil ?_
          intro w1 hb1
          have b0 := Qt.keep hb1 hcx
          have b1 := Qt.keep hb1 hcy
          have hs1 := hb1.size
          have HB1 : Below w.heap.size w w1 := Qt.more hb (Nat.le_of_lt hsz) hb1
          clear k0 k1 k2 k3
          go_wp2_with (at_builtin; refine wpList_append_own _ rfl (.tmp 32) (.tmp 34) 22 rfl (w.heap.size + 1) 37 i0 (.agg #[.int .i64 0, .int .i64 0]) 2 16 Tryz.underlying22 hi hz0 hz1 hz2 rfl (by decide) _ _ _ rfl (World.ownsRow.alloc (hown.below hb1) _) ⟨w1.heap.size, 0, none⟩ 1 1 [.int .i64 x, .int .i64 y] rfl rfl one_new one_cell (by unfold maxLen; omega) (by omega) (by simp; omega) ?_; intro v3 w3 hown3 hgrow3 _)
          have P := pushed HB1 (Nat.lt_of_lt_of_le hsz hb1.size) b0 b1 (hown.below hb1) hown3 hgrow3
          obtain ⟨P0, P1, P2, P3, P4⟩ := P
          have d0 := Qt.cell_in P1
          have d1 := Qt.cell_in P2
          have d2 := Qt.cell_in (Qt.keep P3 a0)
          have d3 := Qt.cell_in (Qt.keep P3 a1)
          clear hown3 hgrow3 hown hcx hcy b0 b1 hb1 HB1 hs1
          go_wp2
          refine Qt.below_all (by kernel_rfl) (by kernel_rfl) ?_
          repeat (go_big_quiet_step (fail))
          refine wpQuiet_nil ?_
          intro w4 hb4
          go_wp2
          go_roundw
          case measure => simp [intOf]; omega
          case rel =>
            refine ⟨k + 1, true, out ++ [(x, y)], by omega, by go_num, rfl, ?_, by simp; omega, (fun h => by cases h), P0.below hb4, Qt.keep hb4 P1, Qt.keep hb4 P2, Qt.more P3 (Nat.le_of_lt P4) hb4, Nat.lt_of_lt_of_le P4 hb4.size⟩
            show _ = _
            rw [← HP.out, HD.out, ← HXY.out]
            simp [putAt, putL, outL]
        · cases hls : lessB (cx, cy) (x, y) with
          | true =>
            rcases hne with ⟨rfl, hy⟩ | hx
            · go_wp2
              refine Qt.below_all (by kernel_rfl) (by kernel_rfl) ?_
              repeat (go_big_quiet_step (first | (go_at_call 33; exact Qt.at_call (less_yes (x, cy) (x, y) hls))))
              refine wpQuiet_nil ?_
              intro w1 hb1
              have b0 := Qt.keep hb1 hcx
              have b1 := Qt.keep hb1 hcy
              have hs1 := hb1.size
              have HB1 : Below w.heap.size w w1 := Qt.more hb (Nat.le_of_lt hsz) hb1
              have HL := Lib.hid hls
              clear k0 k1 k2 k3 hls
              go_wp2_with (at_builtin; refine wpList_append_own _ rfl (.tmp 32) (.tmp 34) 22 rfl (w.heap.size + 1) 37 i0 (.agg #[.int .i64 0, .int .i64 0]) 2 16 Tryz.underlying22 hi hz0 hz1 hz2 rfl (by decide) _ _ _ rfl (World.ownsRow.alloc (hown.below hb1) _) ⟨w1.heap.size, 0, none⟩ 1 1 [.int .i64 x, .int .i64 cy] rfl rfl one_new one_cell (by unfold maxLen; omega) (by omega) (by simp; omega) ?_; intro v3 w3 hown3 hgrow3 _)
              have P := pushed HB1 (Nat.lt_of_lt_of_le hsz hb1.size) b0 b1 (hown.below hb1) hown3 hgrow3
              obtain ⟨P0, P1, P2, P3, P4⟩ := P
              have d0 := Qt.cell_in P1
              have d1 := Qt.cell_in P2
              have d2 := Qt.cell_in (Qt.keep P3 a0)
              have d3 := Qt.cell_in (Qt.keep P3 a1)
              clear hown3 hgrow3 hown hcx hcy b0 b1 hb1 HB1 hs1
              go_wp2
              refine Qt.below_all (by kernel_rfl) (by kernel_rfl) ?_
              repeat (go_big_quiet_step (fail))
              refine wpQuiet_nil ?_
              intro w4 hb4
              have hs4 := hb4.size
              have e2 := Qt.keep (Qt.more P3 (Nat.le_of_lt P4) hb4) a0
              have e3 := Qt.keep (Qt.more P3 (Nat.le_of_lt P4) hb4) a1
              clear d0 d1 d2 d3
              have hl1 : (out ++ [(x, cy)]).length ≤ 1000002 := by simp; omega
              go_wp2_with (at_builtin; refine wpList_append_own _ rfl (.tmp 42) (.tmp 47) 22 rfl (w.heap.size + 1) 37 i0 (.agg #[.int .i64 0, .int .i64 0]) 2 16 Tryz.underlying22 hi hz0 hz1 hz2 rfl (by decide) _ _ _ rfl (World.ownsRow.alloc (P0.below hb4) _) ⟨w4.heap.size, 0, none⟩ 1 1 [.int .i64 x, .int .i64 y] rfl rfl one_new one_cell (by unfold maxLen; omega) (by omega) (by simp; omega) ?_; intro v5 w5 hown5 hgrow5 _)
              have R := pushed (Qt.more P3 (Nat.le_of_lt P4) hb4) (Nat.lt_of_lt_of_le P4 hs4) (Qt.keep hb4 P1) (Qt.keep hb4 P2) (P0.below hb4) hown5 hgrow5
              clear hown5 hgrow5 P0 P1 P2 P3 P4 hb4 e2 e3
              go_wp2
              go_roundw
              case measure => simp [intOf]; omega
              case rel =>
                refine ⟨k + 1, true, (out ++ [(x, cy)]) ++ [(x, y)], by omega, by go_num, rfl, ?_, by have := HO2.out trivial; simp; omega, (fun h => by cases h), R.1, R.2.1, R.2.2.1, R.2.2.2.1, R.2.2.2.2⟩
                show _ = _
                rw [← HP.out, HD.out, ← HXY.out]
                simp [putAt, putL, outL, HL.out, *]
            · go_wp2
              refine Qt.below_all (by kernel_rfl) (by kernel_rfl) ?_
              repeat (go_big_quiet_step (first | (go_at_call 33; exact Qt.at_call (less_yes (cx, cy) (x, y) hls))))
              refine wpQuiet_nil ?_
              intro w1 hb1
              have b0 := Qt.keep hb1 hcx
              have b1 := Qt.keep hb1 hcy
              have hs1 := hb1.size
              have HB1 : Below w.heap.size w w1 := Qt.more hb (Nat.le_of_lt hsz) hb1
              have HL := Lib.hid hls
              clear k0 k1 k2 k3 hls
              go_wp2_with (at_builtin; refine wpList_append_own _ rfl (.tmp 32) (.tmp 34) 22 rfl (w.heap.size + 1) 37 i0 (.agg #[.int .i64 0, .int .i64 0]) 2 16 Tryz.underlying22 hi hz0 hz1 hz2 rfl (by decide) _ _ _ rfl (World.ownsRow.alloc (hown.below hb1) _) ⟨w1.heap.size, 0, none⟩ 1 1 [.int .i64 cx, .int .i64 cy] rfl rfl one_new one_cell (by unfold maxLen; omega) (by omega) (by simp; omega) ?_; intro v3 w3 hown3 hgrow3 _)
              have P := pushed HB1 (Nat.lt_of_lt_of_le hsz hb1.size) b0 b1 (hown.below hb1) hown3 hgrow3
              obtain ⟨P0, P1, P2, P3, P4⟩ := P
              have d0 := Qt.cell_in P1
              have d1 := Qt.cell_in P2
              have d2 := Qt.cell_in (Qt.keep P3 a0)
              have d3 := Qt.cell_in (Qt.keep P3 a1)
              clear hown3 hgrow3 hown hcx hcy b0 b1 hb1 HB1 hs1
              go_wp2
              refine Qt.below_all (by kernel_rfl) (by kernel_rfl) ?_
              repeat (go_big_quiet_step (fail))
              refine wpQuiet_nil ?_
              intro w4 hb4
              have hs4 := hb4.size
              have e2 := Qt.keep (Qt.more P3 (Nat.le_of_lt P4) hb4) a0
              have e3 := Qt.keep (Qt.more P3 (Nat.le_of_lt P4) hb4) a1
              clear d0 d1 d2 d3
              have hl1 : (out ++ [(cx, cy)]).length ≤ 1000002 := by simp; omega
              go_wp2_with (at_builtin; refine wpList_append_own _ rfl (.tmp 42) (.tmp 47) 22 rfl (w.heap.size + 1) 37 i0 (.agg #[.int .i64 0, .int .i64 0]) 2 16 Tryz.underlying22 hi hz0 hz1 hz2 rfl (by decide) _ _ _ rfl (World.ownsRow.alloc (P0.below hb4) _) ⟨w4.heap.size, 0, none⟩ 1 1 [.int .i64 x, .int .i64 y] rfl rfl one_new one_cell (by unfold maxLen; omega) (by omega) (by simp; omega) ?_; intro v5 w5 hown5 hgrow5 _)
              have R := pushed (Qt.more P3 (Nat.le_of_lt P4) hb4) (Nat.lt_of_lt_of_le P4 hs4) (Qt.keep hb4 P1) (Qt.keep hb4 P2) (P0.below hb4) hown5 hgrow5
              clear hown5 hgrow5 P0 P1 P2 P3 P4 hb4 e2 e3
              go_wp2
              go_roundw
              case measure => simp [intOf]; omega
              case rel =>
                refine ⟨k + 1, true, (out ++ [(cx, cy)]) ++ [(x, y)], by omega, by go_num, rfl, ?_, by have := HO2.out trivial; simp; omega, (fun h => by cases h), R.1, R.2.1, R.2.2.1, R.2.2.2.1, R.2.2.2.2⟩
                show _ = _
                rw [← HP.out, HD.out, ← HXY.out]
                simp [putAt, putL, outL, HL.out, *]
          | false =>
            rcases hne with ⟨rfl, hy⟩ | hx
            · go_wp2
              refine Qt.below_all (by kernel_rfl) (by kernel_rfl) ?_
              repeat (go_big_quiet_step (first | (go_at_call 33; exact Qt.at_call (less_no (x, cy) (x, y) hls))))
              refine wpQuiet_nil ?_
              intro w1 hb1
              have hs1 := hb1.size
              have d0 := Qt.cell_in (Qt.keep hb1 hcx)
              have d1 := Qt.cell_in (Qt.keep hb1 hcy)
              have d2 := Qt.cell_in (Qt.keep hb1 c0)
              have d3 := Qt.cell_in (Qt.keep hb1 c1)
              have HL := Lib.hid hls
              clear k0 k1 k2 k3 hls
              go_wp2
              refine Qt.below_all (by kernel_rfl) (by kernel_rfl) ?_
              repeat (go_big_quiet_step (fail))
              refine wpQuiet_nil ?_
              intro w4 hb4
              have HB : Below wr.heap.size wr w4 := Qt.more hb1 hb1.size hb4
              have hs4 := HB.size
              have e2 := Qt.keep HB c0
              have e3 := Qt.keep HB c1
              clear d0 d1 d2 d3
              go_wp2_with (at_builtin; refine wpList_append_own _ rfl (.tmp 42) (.tmp 47) 22 rfl (w.heap.size + 1) 37 i0 (.agg #[.int .i64 0, .int .i64 0]) 2 16 Tryz.underlying22 hi hz0 hz1 hz2 rfl (by decide) _ _ _ rfl (World.ownsRow.alloc (hown.below HB) _) ⟨w4.heap.size, 0, none⟩ 1 1 [.int .i64 x, .int .i64 y] rfl rfl one_new one_cell (by unfold maxLen; omega) (by omega) (by simp; omega) ?_; intro v5 w5 hown5 hgrow5 _)
              have R := pushed (Qt.more hb (Nat.le_of_lt hsz) HB) (Nat.lt_of_lt_of_le hsz hs4) (Qt.keep HB hcx) (Qt.keep HB hcy) (hown.below HB) hown5 hgrow5
              clear hown5 hgrow5 hown hcx hcy hb1 hb4 HB e2 e3
              go_wp2
              go_roundw
              case measure => simp [intOf]; omega
              case rel =>
                refine ⟨k + 1, false, out ++ [(x, y)], by omega, by go_num, rfl, ?_, by simp; omega, (fun _ => by have := HO2.out trivial; simp; omega), R.1, R.2.1, R.2.2.1, R.2.2.2.1, R.2.2.2.2⟩
                show _ = _
                rw [← HP.out, HD.out, ← HXY.out]
                simp [putAt, putL, outL, HL.out, *]
            · go_wp2
              refine Qt.below_all (by kernel_rfl) (by kernel_rfl) ?_
              repeat (go_big_quiet_step (first | (go_at_call 33; exact Qt.at_call (less_no (cx, cy) (x, y) hls))))
              refine wpQuiet_nil ?_
              intro w1 hb1
              have hs1 := hb1.size
              have d0 := Qt.cell_in (Qt.keep hb1 hcx)
              have d1 := Qt.cell_in (Qt.keep hb1 hcy)
              have d2 := Qt.cell_in (Qt.keep hb1 c0)
              have d3 := Qt.cell_in (Qt.keep hb1 c1)
              have HL := Lib.hid hls
              clear k0 k1 k2 k3 hls
              go_wp2
              refine Qt.below_all (by kernel_rfl) (by kernel_rfl) ?_
              repeat (go_big_quiet_step (fail))
              refine wpQuiet_nil ?_
              intro w4 hb4
              have HB : Below wr.heap.size wr w4 := Qt.more hb1 hb1.size hb4
              have hs4 := HB.size
              have e2 := Qt.keep HB c0
              have e3 := Qt.keep HB c1
              clear d0 d1 d2 d3
              go_wp2_with (at_builtin; refine wpList_append_own _ rfl (.tmp 42) (.tmp 47) 22 rfl (w.heap.size + 1) 37 i0 (.agg #[.int .i64 0, .int .i64 0]) 2 16 Tryz.underlying22 hi hz0 hz1 hz2 rfl (by decide) _ _ _ rfl (World.ownsRow.alloc (hown.below HB) _) ⟨w4.heap.size, 0, none⟩ 1 1 [.int .i64 x, .int .i64 y] rfl rfl one_new one_cell (by unfold maxLen; omega) (by omega) (by simp; omega) ?_; intro v5 w5 hown5 hgrow5 _)
              have R := pushed (Qt.more hb (Nat.le_of_lt hsz) HB) (Nat.lt_of_lt_of_le hsz hs4) (Qt.keep HB hcx) (Qt.keep HB hcy) (hown.below HB) hown5 hgrow5
              clear hown5 hgrow5 hown hcx hcy hb1 hb4 HB e2 e3
              go_wp2
              go_roundw
              case measure => simp [intOf]; omega
              case rel =>
                refine ⟨k + 1, false, out ++ [(x, y)], by omega, by go_num, rfl, ?_, by simp; omega, (fun _ => by have := HO2.out trivial; simp; omega), R.1, R.2.1, R.2.2.1, R.2.2.2.1, R.2.2.2.2⟩
                show _ = _
                rw [← HP.out, HD.out, ← HXY.out]
                simp [putAt, putL, outL, HL.out, *]
    · have hltz : ¬ (k : Int) < (l.length : Int) := by omega
      have hkl : l.drop k = [] := List.drop_eq_nil_of_le (by omega)
      have HKL := Lib.hid hkl
      clear hkl
      cases done with
      | true =>
        go_wp2
        go_ret
        refine ⟨_, rfl, ?_, hb⟩
        rw [← HP.out, HKL.out]
        simpa [putAt, outL] using hown.mono (Nat.le_succ _)
      | false =>
        go_wp2_with (at_builtin; refine wpList_append_own _ rfl (.tmp 51) (.tmp 53) 22 rfl (w.heap.size + 1) 37 i0 (.agg #[.int .i64 0, .int .i64 0]) 2 16 Tryz.underlying22 hi hz0 hz1 hz2 rfl (by decide) _ _ _ rfl (World.ownsRow.alloc hown _) ⟨wr.heap.size, 0, none⟩ 1 1 [.int .i64 cx, .int .i64 cy] rfl rfl one_new one_cell (by unfold maxLen; omega) (by omega) (by simp; omega) ?_; intro v3 w3 hown3 hgrow3 _)
        have P := pushed hb hsz hcx hcy hown hown3 hgrow3
        clear hown3 hgrow3
        go_wp2
        go_ret
        refine ⟨_, rfl, ?_, P.2.2.2.1⟩
        rw [← HP.out, HKL.out]
        simpa [putAt, putL] using P.1.mono (Nat.le_succ _)

end Go.Proofs.YtacpncmdgkljdaaGreatDoor.Cel
namespace Go.Proofs.YtacpncmdgkljdaaGreatDoor.Cel
open Go.RowKit Go.Sort

/-- A row of n cells at the head of block g, of the call's own. -/
def Row (w : World) (B T g n cap : Nat) (l : List (Int × Int)) : Prop := l.length = n ∧ w.ownsRow B T 2 (.slice (some ⟨g, 0, none⟩) n cap) n (fl l)

section
variable {w w' : World} {B T g n cap : Nat} {l : List (Int × Int)}
theorem Row.own (h : Row w B T g n cap l) : Own w B T (.slice (some ⟨g, 0, none⟩) l.length cap) l := by
  obtain ⟨h1, h2⟩ := h
  subst h1
  exact h2
theorem Row.of_own (h : Own w B T (.slice (some ⟨g, 0, none⟩) l.length cap) l) : Row w B T g l.length cap l := ⟨rfl, h⟩
theorem Row.below (h : Row w B T g n cap l) (hb : Below w.heap.size w w') : Row w' B T g n cap l := by
  obtain ⟨h1, h2⟩ := h
  subst h1
  exact ⟨rfl, Own.below (l := l) h2 hb⟩
theorem Row.lt (h : Row w B T g n cap l) : B ≤ g ∧ g < w.heap.size := World.ownsRow.lt h.2 g rfl
theorem Row.cap_ (h : Row w B T g n cap l) : n ≤ cap := by
  rcases h.2.2 with ⟨h', _⟩ | ⟨g', cap', cur, h', _, _, hnc, _⟩
  · simp at h'
  · simp only [Value.slice.injEq] at h'
    omega
theorem Row.cell (h : Row w B T g n cap l) {j : Nat} (hj : j < n) : w.cell? ⟨g, j * 2, none⟩ = some (.int .i64 (l.getD j (0, 0)).1) ∧ w.cell? ⟨g, j * 2 + 1, none⟩ = some (.int .i64 (l.getD j (0, 0)).2) := by
  have hf := fl_get l j (by rw [h.1]; exact hj)
  exact ⟨(World.ownsRow.cellAt h.2 (j * 2) (by omega)).trans hf.1, (World.ownsRow.cellAt h.2 (j * 2 + 1) (by omega)).trans hf.2⟩
theorem Row.free (h : Row w B T g n cap l) (j : Nat) : w.frozen? ⟨g, j, none⟩ = false := World.ownsRow.frozenAt h.2 j

theorem fl_set (l : List (Int × Int)) (i : Nat) (x y : Int) : fl (l.set i (x, y)) = ((fl l).set (i * 2) (.int .i64 x)).set (i * 2 + 1) (.int .i64 y) := by
  induction l generalizing i with
  | nil => rfl
  | cons p l ih =>
    cases i with
    | zero => rfl
    | succ i =>
      have e1 : (i + 1) * 2 = i * 2 + 1 + 1 := by omega
      have e2 : ∀ (q : Int × Int) (m : List (Int × Int)), fl (q :: m) = .int .i64 q.1 :: .int .i64 q.2 :: fl m := fun _ _ => rfl
      rw [List.set_cons_succ, e2, e2, ih, e1]
      rfl

theorem Row.store (h : Row w B T g n cap l) (i : Nat) (x y : Int) : Row ((w.setCell ⟨g, i * 2, none⟩ (.int .i64 x)).setCell ⟨g, i * 2 + 1, none⟩ (.int .i64 y)) B T g n cap (l.set i (x, y)) := by
  refine ⟨by rw [List.length_set]; exact h.1, ?_⟩
  rw [fl_set]
  exact (World.ownsRow.stored (World.ownsRow.stored h.2 (i * 2) (.int .i64 x)).1 (i * 2 + 1) (.int .i64 y)).1

theorem Row.rd (h : Row w B T g n cap l) : Rd w w.heap.size (some ⟨g, 0, none⟩) l := fun j hj => by
  have := h.cell (j := j) (by rw [← h.1]; exact hj)
  exact ⟨g, 0, rfl, h.lt.2, by rw [Nat.zero_add]; exact this.1, by rw [Nat.zero_add]; exact this.2⟩
end

theorem fl_replicate (n : Nat) : (madeCells #[.int .i64 0, .int .i64 0] (n * 2)).toList = fl (List.replicate n (0, 0)) := by
  apply List.ext_getElem?
  intro j
  by_cases hj : j < n * 2
  · have hl : j / 2 < (List.replicate n ((0 : Int), (0 : Int))).length := by simp; omega
    have hf := fl_get _ (j / 2) hl
    have hg : (List.replicate n ((0 : Int), (0 : Int))).getD (j / 2) (0, 0) = (0, 0) := by
      rw [List.getD_eq_getElem?_getD, List.getElem?_replicate]; split <;> rfl
    rw [hg] at hf
    have hm : (madeCells #[.int .i64 0, .int .i64 0] (n * 2)).toList[j]? = some (.int .i64 0) := by
      have : j % 2 = 0 ∨ j % 2 = 1 := by omega
      rcases this with h | h <;> simp [madeCells, hj, h]
    rw [hm]
    have h2 : j = j / 2 * 2 ∨ j = j / 2 * 2 + 1 := by omega
    rcases h2 with h | h
    · rw [h]; exact hf.1.symm
    · rw [h]; exact hf.2.symm
  · rw [List.getElem?_eq_none (by simp [size_madeCells]; omega), List.getElem?_eq_none (by rw [length_fl]; simp; omega)]

theorem Row.made (w : World) (B T n : Nat) (hB : B ≤ w.heap.size) (hn : n ≤ 1000000) : Row (w.alloc (.cells (madeCells #[.int .i64 0, .int .i64 0] (n * 2)) T)) B T w.heap.size n n (List.replicate n (0, 0)) := by
  refine ⟨List.length_replicate, ?_⟩
  rw [← fl_replicate]
  exact World.ownsRow_lit w _ n hB (by unfold maxLen; omega) (size_madeCells _ _)

/-- the first k are told, the others are noughts -/
def filled (l : List (Int × Int)) (k : Nat) : List (Int × Int) := l.take k ++ List.replicate (l.length - k) (0, 0)
theorem filled_zero (l : List (Int × Int)) : filled l 0 = List.replicate l.length (0, 0) := by simp [filled]
theorem filled_all (l : List (Int × Int)) : filled l l.length = l := by simp [filled]
theorem filled_step {l : List (Int × Int)} {k : Nat} (h : k < l.length) : (filled l k).set k (l.getD k (0, 0)) = filled l (k + 1) := by
  unfold filled
  obtain ⟨m, hm⟩ : ∃ m, l.length - k = m + 1 := ⟨l.length - k - 1, by omega⟩
  have hm2 : l.length - (k + 1) = m := by omega
  have hl : (l.take k).length = k := by simp; omega
  rw [take_snoc h, hm, hm2, List.replicate_succ, List.set_append_right _ _ (by omega), hl, Nat.sub_self, List.set_cons_zero, List.append_assoc]
  rfl

/-- A row, and the loop's box laid beside it. -/
theorem box_beside {wr : World} {B T g n cap : Nat} {l : List (Int × Int)} (h : Row wr B T g n cap l) (o : Obj) {k : Nat} (hk : k < n) :
    (wr.alloc o).frozen? ⟨g, k * 2, none⟩ = false ∧ (wr.alloc o).frozen? ⟨g, k * 2 + 1, none⟩ = false ∧ (wr.alloc o).cell? ⟨g, k * 2, none⟩ = some (.int .i64 (l.getD k (0, 0)).1) ∧ (wr.alloc o).cell? ⟨g, k * 2 + 1, none⟩ = some (.int .i64 (l.getD k (0, 0)).2) :=
  have h' := h.below ((Below.refl _ wr).alloc (Nat.le_refl _) o)
  ⟨h'.free _, h'.free _, (h'.cell hk).1, (h'.cell hk).2⟩

/-- What a round leaves: the next element is told. -/
theorem filled_on {w wr : World} {T k : Nat} {l : List (Int × Int)} {x y : Int} (hb : Below w.heap.size w wr) (h : Row wr w.heap.size T w.heap.size l.length l.length (filled l k)) (hlt : k < l.length) (hxy : (x, y) = l.getD k (0, 0)) (o : Obj) :
    Row (((wr.alloc o).setCell ⟨w.heap.size, k * 2, none⟩ (.int .i64 x)).setCell ⟨w.heap.size, k * 2 + 1, none⟩ (.int .i64 y)) w.heap.size T w.heap.size l.length l.length (filled l (k + 1)) ∧
    Below w.heap.size w (((wr.alloc o).setCell ⟨w.heap.size, k * 2, none⟩ (.int .i64 x)).setCell ⟨w.heap.size, k * 2 + 1, none⟩ (.int .i64 y)) := by
  refine ⟨?_, ((hb.alloc hb.size o).setCell (Nat.le_refl _) _).setCell (Nat.le_refl _) _⟩
  rw [← filled_step hlt, ← hxy]
  exact (h.below ((Below.refl _ wr).alloc (Nat.le_refl _) o)).store k x y

end Go.Proofs.YtacpncmdgkljdaaGreatDoor.Cel
namespace Go.Proofs.YtacpncmdgkljdaaGreatDoor.Cel
open Go.RowKit Go.Sort

/-- where the first cell stands of which p holds; -1 -/
def ixL (p : Int × Int → Bool) (l : List (Int × Int)) : Int := match l.findIdx? p with | some k => k | none => -1
theorem ixL_hit {p : Int × Int → Bool} {l : List (Int × Int)} {k : Nat} (hk : k < l.length) (h : p (l.getD k (0, 0)) = true) (hb : ∀ j, j < k → p (l.getD j (0, 0)) = false) : ixL p l = k := by
  unfold ixL
  have e : l.findIdx? p = some k := by
    rw [List.findIdx?_eq_some_iff_getElem]
    refine ⟨hk, by rwa [List.getD_eq_getElem?_getD, List.getElem?_eq_getElem hk] at h, fun j hj => ?_⟩
    have := hb j hj
    rw [List.getD_eq_getElem?_getD, List.getElem?_eq_getElem (by omega)] at this
    simpa using this
  rw [e]
theorem ixL_miss {p : Int × Int → Bool} {l : List (Int × Int)} (hb : ∀ j, j < l.length → p (l.getD j (0, 0)) = false) : ixL p l = -1 := by
  unfold ixL
  have e : l.findIdx? p = none := by
    rw [List.findIdx?_eq_none_iff]
    intro x hx
    obtain ⟨j, hj, rfl⟩ := List.getElem_of_mem hx
    have := hb j hj
    rwa [List.getD_eq_getElem?_getD, List.getElem?_eq_getElem hj] at this
  rw [e]
theorem ixL_any (p : Int × Int → Bool) (l : List (Int × Int)) : decide (0 ≤ ixL p l) = l.any p := by
  unfold ixL
  cases h : l.findIdx? p with
  | none =>
    rw [List.findIdx?_eq_none_iff] at h
    have : l.any p = false := by rw [List.any_eq_false]; intro x hx; rw [h x hx]; simp
    rw [this]; rfl
  | some k =>
    rw [List.findIdx?_eq_some_iff_getElem] at h
    obtain ⟨hk, hp, _⟩ := h
    have : l.any p = true := List.any_eq_true.2 ⟨_, List.getElem_mem hk, hp⟩
    rw [this]; simp

/-- Has: whether a cell is in a list -/
def hasB (l : List (Int × Int)) (q : Int × Int) : Bool := l.any fun p => decide (p = q)
theorem hasB_iff (l : List (Int × Int)) (q : Int × Int) : hasB l q = true ↔ q ∈ l := by
  simp [hasB]

end Go.Proofs.YtacpncmdgkljdaaGreatDoor.Cel
namespace Go.Proofs.YtacpncmdgkljdaaGreatDoor.Cel
open Go.RowKit Go.Sort

/-! ### in plain words -/
def ddS (acc : List (Int × Int)) (x : Int × Int) : List (Int × Int) := if acc.getLast? = some x then acc else acc ++ [x]
def ddL (l : List (Int × Int)) : List (Int × Int) := l.foldl ddS []
theorem ddL_snoc (l : List (Int × Int)) (x : Int × Int) : ddL (l ++ [x]) = ddS (ddL l) x := by simp [ddL, List.foldl_append]

theorem snoc_ind {P : List (Int × Int) → Prop} (h0 : P []) (hs : ∀ l x, P l → P (l ++ [x])) (l : List (Int × Int)) : P l := by
  have h : ∀ m : List (Int × Int), P m.reverse := by
    intro m
    induction m with
    | nil => exact h0
    | cons x m ih => rw [List.reverse_cons]; exact hs _ _ ih
  have := h l.reverse
  rwa [List.reverse_reverse] at this

theorem last_ddL (l : List (Int × Int)) : (ddL l).getLast? = l.getLast? := by
  refine snoc_ind (P := fun l => (ddL l).getLast? = l.getLast?) rfl (fun l x ih => ?_) l
  show (ddL (l ++ [x])).getLast? = (l ++ [x]).getLast?
  rw [ddL_snoc, ddS]
  split
  · rename_i h; rw [h]; simp
  · simp
theorem length_ddL (l : List (Int × Int)) : (ddL l).length ≤ l.length := by
  refine snoc_ind (P := fun l => (ddL l).length ≤ l.length) (Nat.le_refl _) (fun l x ih => ?_) l
  show (ddL (l ++ [x])).length ≤ (l ++ [x]).length
  rw [ddL_snoc, ddS]
  have ih' : (ddL l).length ≤ l.length := ih
  split <;> simp <;> omega
theorem ddL_same {l : List (Int × Int)} {k : Nat} (h0 : 0 < k) (hk : k < l.length) (h : l.getD k (0, 0) = l.getD (k - 1) (0, 0)) : ddL (l.take (k + 1)) = ddL (l.take k) := by
  rw [take_snoc hk, ddL_snoc, ddS, last_ddL]
  have : (l.take k).getLast? = some (l.getD (k - 1) (0, 0)) := by
    rw [List.getLast?_eq_getElem?, List.length_take, Nat.min_eq_left (by omega), List.getElem?_take, if_pos (by omega), List.getD_eq_getElem?_getD, List.getElem?_eq_getElem (by omega)]
    rfl
  rw [this, h, if_pos rfl]
theorem ddL_other {l : List (Int × Int)} {k : Nat} (hk : k < l.length) (h : k = 0 ∨ l.getD k (0, 0) ≠ l.getD (k - 1) (0, 0)) : ddL (l.take (k + 1)) = ddL (l.take k) ++ [l.getD k (0, 0)] := by
  rw [take_snoc hk, ddL_snoc, ddS, last_ddL, if_neg]
  rcases h with h | h
  · subst h; simp
  · by_cases h0 : k = 0
    · subst h0; simp
    · have : (l.take k).getLast? = some (l.getD (k - 1) (0, 0)) := by
        rw [List.getLast?_eq_getElem?, List.length_take, Nat.min_eq_left (by omega), List.getElem?_take, if_pos (by omega), List.getD_eq_getElem?_getD, List.getElem?_eq_getElem (by omega)]
        rfl
      rw [this]
      intro e
      exact h (Option.some.inj e).symm

/-- Of what is sorted it makes the set. -/
theorem ddL_sorted {l : List (Int × Int)} (h : l.Pairwise fun p q => lessB q p = false) : Rises (ddL l) ∧ ∀ y, y ∈ ddL l ↔ y ∈ l := by
  refine snoc_ind (P := fun l => (l.Pairwise fun p q => lessB q p = false) → Rises (ddL l) ∧ ∀ y, y ∈ ddL l ↔ y ∈ l) (fun _ => ⟨List.Pairwise.nil, fun _ => Iff.rfl⟩) (fun l x ih hs => ?_) l h
  have hp := List.pairwise_append.1 hs
  obtain ⟨h1, h2⟩ := ih hp.1
  rw [ddL_snoc, ddS]
  split
  · rename_i hl
    refine ⟨h1, fun y => ?_⟩
    rw [h2, List.mem_append, List.mem_singleton]
    constructor
    · exact .inl
    · rintro (h | rfl)
      · exact h
      · rw [last_ddL] at hl
        exact List.mem_of_getLast? hl
  · rename_i hl
    rw [last_ddL] at hl
    refine ⟨List.pairwise_append.2 ⟨h1, List.pairwise_singleton _ _, fun y hy z hz => ?_⟩, fun y => by rw [List.mem_append, List.mem_append, h2]⟩
    rw [List.mem_singleton] at hz
    subst hz
    have hyl := (h2 y).1 hy
    have hxy : lessB z y = false := hp.2.2 y hyl z (List.mem_singleton.2 rfl)
    refine lessB_total (fun e => ?_) hxy
    subst e
    -- z itself is in l: then it is the last one
    obtain ⟨i, hi, hiz⟩ := List.getElem_of_mem hyl
    have hlast : l.getLast? = some (l[l.length - 1]'(by omega)) := by rw [List.getLast?_eq_getElem?, List.getElem?_eq_getElem (by omega)]
    have h3 : lessB z (l[l.length - 1]'(by omega)) = false := hp.2.2 _ (List.getElem_mem _) z (List.mem_singleton.2 rfl)
    by_cases hil : i = l.length - 1
    · subst hil
      rw [hiz] at hlast
      exact hl hlast
    · have h4 := List.pairwise_iff_getElem.1 hp.1 i (l.length - 1) hi (by omega) (by omega)
      rw [hiz] at h4
      by_cases e : l[l.length - 1]'(by omega) = z
      · rw [e] at hlast; exact hl hlast
      · have := lessB_total e h4
        rw [this] at h3
        cases h3

theorem ddL_setL {l : List (Int × Int)} (h : l.Pairwise fun p q => lessB q p = false) : ddL l = setL l :=
  rises_ext (ddL_sorted h).1 (rises_setL l) fun y => by rw [(ddL_sorted h).2, mem_setL]

/-! ### clear -/
theorem fl_take (l : List (Int × Int)) (k : Nat) : fl (l.take k) = (fl l).take (k * 2) := by
  induction l generalizing k with
  | nil => simp [fl]
  | cons x l ih =>
    cases k with
    | zero => rfl
    | succ k =>
      have e1 : (k + 1) * 2 = k * 2 + 1 + 1 := by omega
      have e2 : ∀ (q : Int × Int) (m : List (Int × Int)), fl (q :: m) = .int .i64 q.1 :: .int .i64 q.2 :: fl m := fun _ _ => rfl
      rw [List.take_succ_cons, e2, e2, ih, e1]
      rfl

theorem Row.cut {w : World} {B T g n cap k : Nat} {l : List (Int × Int)} (h : Row w B T g n cap l) (hk : k ≤ n) : Row w B T g k cap (l.take k) := by
  obtain ⟨hn, hlen, h' | ⟨g', cap', cur, hv, hB, hg, hnc, hcm, hcs, htake⟩⟩ := h
  · simp at h'
  · simp only [Value.slice.injEq, Option.some.injEq, Addr.mk.injEq, and_true, true_and] at hv
    obtain ⟨rfl, rfl⟩ := hv
    have e := fl_take l k
    refine ⟨by rw [List.length_take]; omega, by rw [length_fl, List.length_take]; omega, .inr ⟨g, cap, cur, rfl, hB, hg, by omega, hcm, hcs, ?_⟩⟩
    rw [e, ← htake, List.take_take, Nat.min_eq_left (by omega)]

/-- clear of the row's end: what stands ahead of it stays. -/
theorem clear_row {P : Program} {w : World} {B T t g n cap k c : Nat} {l : List (Int × Int)} (h : Row w B T g n cap l) (hk : k < n) (ht : P.underlying t = some (.slice T)) (hv : ∀ w, (zeroValue T).run P w = .ok (.agg #[.int .i64 0, .int .i64 0]) w) :
    ∃ w', (∀ ty, (Builtin.clear_ #[t] ty #[.slice (some ⟨g, k * 2, none⟩) (n - k) c]).run P w = .ok (.tuple #[]) w') ∧ Row w' B T g k cap (l.take k) ∧ Below B w w' := by
  have hcut := h.cut (Nat.le_of_lt hk)
  obtain ⟨hn, hlen, h' | ⟨g', cap', cur, hvv, hB, hg, hnc, hcm, hcs, htake⟩⟩ := h
  · simp at h'
  · simp only [Value.slice.injEq, Option.some.injEq, Addr.mk.injEq, and_true, true_and] at hvv
    obtain ⟨rfl, rfl⟩ := hvv
    obtain ⟨Z, hZ⟩ : ∃ Z, Z = (Builtin.zeroCells #[.int .i64 0, .int .i64 0] (n - k)).toList := ⟨_, rfl⟩
    have hz1 : ∀ u ∈ Z, u.oneCell' = true := by
      intro u hu
      rw [hZ] at hu
      simp only [Builtin.zeroCells, Array.toList_map, List.mem_map] at hu
      obtain ⟨i, _, rfl⟩ := hu
      have : i % 2 = 0 ∨ i % 2 = 1 := by omega
      rcases this with h | h <;> simp [h] <;> rfl
    have hzl : Z.length = (n - k) * 2 := by rw [hZ]; simp [Builtin.zeroCells]
    have hle : k * 2 + 0 + (n - k) * 2 ≤ cur.size := by
      rw [hcs]
      have := Nat.mul_le_mul_right 2 hnc
      omega
    have hst := run_storeCells_at P g (k * 2) T Z 0 cur w hg (by rw [hzl]; exact hle) hz1
    rw [hzl, Nat.add_zero] at hst
    refine ⟨w.setRow g (cur.toList.take (k * 2) ++ Z ++ cur.toList.drop (k * 2 + (n - k) * 2)).toArray, fun ty => ?_, ?_, ?_⟩
    · obtain ⟨m, hm⟩ : ∃ m, n - k = m + 1 := ⟨n - k - 1, by omega⟩
      rw [hm] at hst hZ ⊢
      simp only [Builtin.clear_]
      simp [run_underlying ht, hv, Value.cells, ← hZ, hst]
    · obtain ⟨hn2, hlen2, _⟩ := hcut
      refine ⟨hn2, hlen2, .inr ⟨g, cap, _, rfl, hB, setRow_heap w g cur _ T _ hg, by omega, hcm, ?_, ?_⟩⟩
      · simp [hzl, hcs]
        have := Nat.mul_le_mul_right 2 hnc
        omega
      · have hkc : k * 2 ≤ cur.toList.length := by rw [Array.length_toList, hcs]; have := Nat.mul_le_mul_right 2 hnc; omega
        show List.take (k * 2) (List.take (k * 2) cur.toList ++ Z ++ _) = _
        rw [List.append_assoc, List.take_append_of_le_length (by rw [List.length_take]; omega), List.take_take, Nat.min_self]
        have e := fl_take l k
        rw [e, ← htake, List.take_take, Nat.min_eq_left (by omega)]
    · exact ⟨rfl, rfl, rfl, by simp, fun j hj => setRow_other w g j _ (by omega)⟩

/-- What the second loop has done: the first kk places hold what is kept of the first p. -/
structure Packs (l : List (Int × Int)) (p kk : Nat) (cur : List (Int × Int)) : Prop where
  len : cur.length = l.length
  kept : cur.take kk = ddL (l.take p)
  size : (ddL (l.take p)).length = kk
  lt : kk < p
  high : ∀ j, p ≤ j + 1 → cur.getD j (0, 0) = l.getD j (0, 0)

theorem Packs.skip {l cur : List (Int × Int)} {p kk : Nat} (h : Packs l p kk cur) (h0 : 0 < p) (hp : p < l.length) (he : l.getD p (0, 0) = l.getD (p - 1) (0, 0)) : Packs l (p + 1) kk cur := by
  have e := ddL_same h0 hp he
  exact ⟨h.len, by rw [e]; exact h.kept, by rw [e]; exact h.size, by have := h.lt; omega, fun j hj => h.high j (by omega)⟩
theorem Packs.keep {l cur : List (Int × Int)} {p kk : Nat} (h : Packs l p kk cur) (hp : p < l.length) (he : l.getD p (0, 0) ≠ l.getD (p - 1) (0, 0)) : Packs l (p + 1) (kk + 1) (cur.set kk (l.getD p (0, 0))) := by
  have e := ddL_other hp (.inr he)
  have hlt := h.lt
  have hkl : kk < cur.length := by rw [h.len]; omega
  refine ⟨by rw [List.length_set]; exact h.len, ?_, by rw [e]; simp [h.size], by omega, fun j hj => ?_⟩
  · rw [e, ← h.kept]
    apply List.ext_getElem?
    intro i
    rw [List.getElem?_take]
    by_cases hi : i < kk
    · rw [if_pos (by omega), List.getElem?_set_ne (by omega), List.getElem?_append_left (by rw [List.length_take]; omega), List.getElem?_take, if_pos hi]
    · by_cases hi2 : i = kk
      · subst hi2
        rw [if_pos (by omega), List.getElem?_set_self hkl, List.getElem?_append_right (by rw [List.length_take]; omega)]
        have : i - (List.take i cur).length = 0 := by rw [List.length_take]; omega
        rw [this]
        rfl
      · rw [if_neg (by omega), List.getElem?_append_right (by rw [List.length_take]; omega), List.getElem?_eq_none]
        rw [List.length_take]; simp; omega
  · rw [← h.high j (by omega), List.getD_eq_getElem?_getD, List.getElem?_set_ne (by omega), List.getD_eq_getElem?_getD]

theorem zeroPlace : ∀ w, (zeroValue 65).run Tryz.prog w = .ok (.agg #[.int .i64 0, .int .i64 0]) w := fun _ => by kernel_rfl

/-- in the first k places nothing stands twice in a row -/
def noTwin (l : List (Int × Int)) (k : Nat) : Prop := ∀ j, 0 < j → j < k → l.getD j (0, 0) ≠ l.getD (j - 1) (0, 0)
theorem noTwin_ddL {l : List (Int × Int)} {k : Nat} (hk : k ≤ l.length) (h : noTwin l k) : ddL (l.take k) = l.take k := by
  induction k with
  | zero => simp [ddL]
  | succ k ih =>
    rw [ddL_other (by omega), ih (by omega) (fun j h0 hj => h j h0 (by omega)), ← take_snoc (by omega)]
    by_cases h0 : k = 0
    · exact .inl h0
    · exact .inr (h k (by omega) (by omega))

end Go.Proofs.YtacpncmdgkljdaaGreatDoor.Cel
namespace Go.Proofs.YtacpncmdgkljdaaGreatDoor.Cel
open Go.RowKit Go.Sort

theorem any_out {l : List (Int × Int)} : (l.any fun p => !inB p) = false ↔ ∀ c ∈ l, inB c = true := by
  rw [List.any_eq_false]
  constructor
  · intro h c hc; have := h c hc; simpa using this
  · intro h c hc; rw [h c hc]; simp

end Go.Proofs.YtacpncmdgkljdaaGreatDoor.Cel
namespace Go.Proofs.YtacpncmdgkljdaaGreatDoor.Cel
open Go.RowKit Go.Sort

/-- where a cell stands, or would stand, in a list that rises -/
structure Stands (l : List (Int × Int)) (t : Int × Int) (i : Nat) : Prop where
  le : i ≤ l.length
  low : ∀ j, j < i → lessB (l.getD j (0, 0)) t = true
  high : ∀ j, i ≤ j → j < l.length → lessB (l.getD j (0, 0)) t = false

def FoundAt (l : List (Int × Int)) (t : Int × Int) (w : World) (e : Ending) (w' : World) : Prop :=
  ∃ i, Stands l t i ∧ e = .returned (.tuple #[.int .i64 (i : Nat), .bool (decide (i < l.length ∧ l.getD i (0, 0) = t))]) ∧ Below w.heap.size w w'

theorem rises_get {l : List (Int × Int)} (h : Rises l) {i j : Nat} (hij : i < j) (hj : j < l.length) : lessB (l.getD i (0, 0)) (l.getD j (0, 0)) = true := by
  have := List.pairwise_iff_getElem.1 h i j (by omega) hj hij
  rw [List.getD_eq_getElem?_getD, List.getD_eq_getElem?_getD, List.getElem?_eq_getElem (by omega), List.getElem?_eq_getElem hj]
  exact this

end Go.Proofs.YtacpncmdgkljdaaGreatDoor.Cel
