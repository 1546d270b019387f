/-
  The laws' own first calls, whose answers are fixed: they are as they should be.
-/
import Derived.Test.YtkmcleekiienmaaDoorNf
import Derived.Test.YtkmcleekiienmaaDoorNc
namespace Go.Proofs.YtkmcleekiienmaaDoor
open Go.RowKit Go.Sort

theorem now_one (w : World) (T : Nat) (x : Int) : Now (w.alloc (.cells #[.int .i64 x] T)) (some ⟨w.heap.size, 0, none⟩) [x] := fun j hj => by
  have hj1 : j = 0 := by simp at hj; omega
  subst hj1
  exact ⟨w.heap.size, 0, rfl, by simp, by simp⟩
theorem now_two (w : World) (T : Nat) (x y : Int) : Now (w.alloc (.cells #[.int .i64 x, .int .i64 y] T)) (some ⟨w.heap.size, 0, none⟩) [x, y] := fun j hj => by
  have hj2 : j < 2 := hj
  refine ⟨w.heap.size, 0, rfl, by simp, ?_⟩
  match j, hj2 with
  | 0, _ => simp
  | 1, _ => simp

theorem aw_sum {A : Option Addr} {l : List Int} {n c : Nat} {p q : Int} {w : World} (hp : sumL l = (p, q)) (hR : Now w A l) (hn : n = l.length) (hl : n ≤ 9223372036854775807) (hc : n ≤ c) (hw : ∀ x ∈ l, I64 x) :
    Calls Tryd.prog 18 #[.slice A n c] w fun e w' => e = .returned (.tuple #[.int .i64 p, .int .i64 q]) ∧ Below w.heap.size w w' := by
  subst hn
  have := sum_any A l c w hR hl hc hw
  rw [hp] at this
  exact this
theorem aw_parse {s : ByteArray} {p q : Int} {w : World} (hs : s.size ≤ maxLen) (hp : parseL s.data.toList = (p, q)) :
    Calls Tryd.prog 16 #[.string s] w fun e w' => e = .returned (.tuple #[.int .i64 p, .int .i64 q]) ∧ Below w.heap.size w w' := by
  have := parse_any s w hs
  rw [hp] at this
  exact this
theorem aw_text {n : Int} {s : ByteArray} {w : World} (hi : I64 n) (hT : Tab w) (hs : txt n = s) :
    Calls Tryd.prog 12 #[.int .i64 n] w fun e w' => e = .returned (.string s) ∧ Below w.heap.size w w' := by
  have := text_any n w hi hT
  rwa [hs] at this
theorem aw_bits (w : World) : Calls Tryd.prog 14 #[.int .i64 10] w fun e w' => ∃ A c, e = .returned (.slice A 2 c) ∧ Hid (Now w' A [1, 3]) ∧ 2 ≤ c ∧ Below w.heap.size w w' := by
  refine (bits_any 10 w (by unfold I64; omega)).mono ?_
  rintro e w' ⟨v, rfl, hR, hb⟩
  have e : bitsL 10 = [1, 3] := by decide
  rw [e] at hR
  obtain ⟨A, c, rfl, hc, hN⟩ := hR
  exact ⟨A, c, rfl, hN, hc, hb⟩
theorem txt_120 : txt 120 = ⟨#[49, 50, 48]⟩ := by
  unfold txt txtL
  rw [if_pos (by omega), show (120 : Int).toNat = 120 from rfl, dec_big (by omega), dec_big (by omega), dec_small (by omega)]
  rfl
theorem txt_neg : txt (-1) = ⟨#[]⟩ := by unfold txt txtL; rw [if_neg (by omega)]
theorem i64_small {x : Int} (h : -1000 ≤ x ∧ x ≤ 1000) : I64 x := by unfold I64; omega

set_option maxHeartbeats 2000000 in
set_option maxRecDepth 100000 in
theorem awake_any (w : World) (hT : Tab w) : Calls Tryd.prog 9 #[] w fun e w' => e = .returned (.bool true) ∧ Below w.heap.size w w' := by
  go_enter Tryd.func9, Tryd.ntmps9
  go_wp2_with fail
  refine (aw_bits w).mono ?_
  rintro e w1 ⟨A, c, rfl, HL, hc, hb1⟩
  have B1 : Hid (Below w.heap.size w w1) := hb1
  clear hb1
  go_wp2_with fail
  refine (aw_sum (p := 4) (q := 0) (by decide) (now_two w1 3 1 1) rfl (by decide) (by decide) (by intro x hx; simp at hx; subst hx; exact i64_small (by omega))).mono ?_
  rintro e w2 ⟨rfl, hb2⟩
  have b2 : Below w1.heap.size w1 w2 := Qt.more ((Below.refl _ w1).alloc (Nat.le_refl _) _) (by simp) hb2
  have B2 := Lib.hid (Qt.more B1.out B1.out.size b2)
  have HL2 := Lib.hid (HL.out.below b2)
  clear hb2 b2 HL B1
  go_wp2_with fail
  refine (aw_sum (p := 0) (q := 1) (by decide) (now_one w2 3 62) rfl (by decide) (by decide) (by intro x hx; simp at hx; subst hx; exact i64_small (by omega))).mono ?_
  rintro e w3 ⟨rfl, hb3⟩
  have b3 : Below w2.heap.size w2 w3 := Qt.more ((Below.refl _ w2).alloc (Nat.le_refl _) _) (by simp) hb3
  have B3 := Lib.hid (Qt.more B2.out B2.out.size b3)
  have HL3 := Lib.hid (HL2.out.below b3)
  clear hb3 b3 HL2 B2
  go_wp2_with fail
  refine (aw_sum (p := 0) (q := 21) (by decide) (now_two w3 3 61 61) rfl (by decide) (by decide) (by intro x hx; simp at hx; subst hx; exact i64_small (by omega))).mono ?_
  rintro e w4 ⟨rfl, hb4⟩
  have b4 : Below w3.heap.size w3 w4 := Qt.more ((Below.refl _ w3).alloc (Nat.le_refl _) _) (by simp) hb4
  have B4 := Lib.hid (Qt.more B3.out B3.out.size b4)
  have HL4 := Lib.hid (HL3.out.below b4)
  clear hb4 b4 HL3 B3
  go_wp2_with fail
  refine (aw_parse (p := 4611686018427387903) (q := 0) (by decide) (by decide)).mono ?_
  rintro e w5 ⟨rfl, b5⟩
  have B5 := Lib.hid (Qt.more B4.out B4.out.size b5)
  have HL5 := Lib.hid (HL4.out.below b5)
  clear b5 HL4 B4
  go_wp2_with fail
  refine (aw_parse (p := 0) (q := 21) (by decide) (by decide)).mono ?_
  rintro e w6 ⟨rfl, b6⟩
  have B6 := Lib.hid (Qt.more B5.out B5.out.size b6)
  have HL6 := Lib.hid (HL5.out.below b6)
  clear b6 HL5 B5
  go_wp2_with fail
  refine (aw_parse (p := 0) (q := 20) (by decide) (by decide)).mono ?_
  rintro e w7 ⟨rfl, b7⟩
  have B7 := Lib.hid (Qt.more B6.out B6.out.size b7)
  have HL7 := Lib.hid (HL6.out.below b7)
  clear b7 HL6 B6
  go_wp2_with fail
  refine (ints_yes (HL7.out.below ((Below.refl _ w7).alloc (Nat.le_refl _) _)) (now_two w7 3 1 3) rfl rfl (by decide) rfl).mono ?_
  rintro e w8 ⟨rfl, hb8⟩
  have b8 : Below w7.heap.size w7 w8 := Qt.more ((Below.refl _ w7).alloc (Nat.le_refl _) _) (by simp) hb8
  have B8 := Lib.hid (Qt.more B7.out B7.out.size b8)
  have HT8 := Lib.hid (hT.below B8.out)
  clear hb8 b8 HL7 B7
  go_wp2_with fail
  refine (aw_text (i64_small (by omega)) HT8.out txt_120).mono ?_
  rintro e w9 ⟨rfl, b9⟩
  have B9 := Lib.hid (Qt.more B8.out B8.out.size b9)
  have HT9 := Lib.hid (hT.below B9.out)
  clear b9 HT8 B8
  go_wp2_with fail
  refine (aw_text (i64_small (by omega)) HT9.out txt_neg).mono ?_
  rintro e w10 ⟨rfl, b10⟩
  have B10 := Lib.hid (Qt.more B9.out B9.out.size b10)
  clear b10 HT9 B9
  go_wp2
  go_ret
  exact ⟨rfl, B10.out⟩

end Go.Proofs.YtkmcleekiienmaaDoor
