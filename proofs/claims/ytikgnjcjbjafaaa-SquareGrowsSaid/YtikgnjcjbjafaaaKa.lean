/-
  The law SquareOut.
-/
import Derived.Test.YtikgnjcjbjafaaaB22
import Derived.Test.YtikgnjcjbjafaaaB18
import Derived.Test.YtikgnjcjbjafaaaB16
namespace Go.Proofs.Ytikgnjcjbjafaaa
set_option maxRecDepth 100000
set_option linter.unusedVariables false
set_option linter.unusedSimpArgs false
open Go.RowKit Go.Sort

theorem inside_cases (e : Nat) (x y : Int) : (¬ -(2 ^ e) ≤ x ∧ insideB e (x, y) = false) ∨ (-(2 ^ e) ≤ x ∧ ¬ x < 2 ^ e ∧ insideB e (x, y) = false) ∨ (-(2 ^ e) ≤ x ∧ x < 2 ^ e ∧ ¬ -(2 ^ e) ≤ y ∧ insideB e (x, y) = false) ∨ (-(2 ^ e) ≤ x ∧ x < 2 ^ e ∧ -(2 ^ e) ≤ y ∧ ¬ y < 2 ^ e ∧ insideB e (x, y) = false) ∨ (-(2 ^ e) ≤ x ∧ x < 2 ^ e ∧ -(2 ^ e) ≤ y ∧ y < 2 ^ e ∧ insideB e (x, y) = true) := by
  unfold insideB
  simp only [decide_eq_false_iff_not, decide_eq_true_eq]
  generalize (2 : Int) ^ e = p at *
  omega
set_option maxHeartbeats 16000000 in
theorem squareOut_law (room : Int) (A : Option Addr) (raw : List Raw5) (c : Nat) (B : Option Addr) (rs : List (Int × Int)) (d : Nat) (lev : Int) (k : Int × Int) (al : Bool) (w : World) (hI : I64 room) (hR : RdR w w.heap.size A raw) (hl : raw.length ≤ 9223372036854775807) (hF : ∀ j, j < raw.length → Fine5 (raw.getD j dead5))
    (hB : RdC w w.heap.size B rs) (hBl : rs.length ≤ 9223372036854775807) (hBc : rs.length ≤ d) (hBw : ∀ p ∈ rs, Cel.I64 p.1 ∧ Cel.I64 p.2) (hL : I64 lev) (hk : I64 k.1 ∧ I64 k.2) :
    Calls Try.prog 5 #[.int .i64 room, .slice A raw.length c, .slice B rs.length d, .int .i64 lev, cellV k, .bool al] w fun e w' => e = .returned (.bool true) ∧ Below w.heap.size w w' := by
  obtain ⟨R, m, n, e, t, HL⟩ := square_ok room raw rs lev
  obtain ⟨x, y⟩ := k
  have hsq := fun W hR' hB' => square7_any HL A c B d W hI hR' hl hF hB' hBl hBc hBw hL
  have hget := HL.sq.get (x, y)
  have hin : insideB e (x, y) = true → ∃ (m' : List Nd) (p : Nat), set7 m R n (x, y) al = (m', (p : Int), 0) := fun h => by
    obtain ⟨m', p, e1, _⟩ := HL.sq.set_fine h al (by have := HL.len; have := HL.thi; have := HL.ehi; omega)
    exact ⟨m', p, e1⟩
  have hout := fun h => HL.sq.set_out (c := (x, y)) h al
  have hm6 : m.length ≤ 1000000 := by have := HL.few; omega
  have hlev := HL.sq.is.lev
  have hnl := HL.sq.is.lt
  have he6 : e ≤ 60 := by have := HL.ehi; omega
  obtain ⟨hp1, hp2⟩ := pow_bd7 he6
  have hal := (Below.refl w.heap.size w).alloc (Nat.le_refl _) (.cells #[.int .i64 x, .int .i64 y] 32)
  have hC := clB_new (w := w) (x, y)
  have HAL := Lib.hid hal
  have HC := Lib.hid (show ClB (w.alloc (.cells #[.int .i64 x, .int .i64 y] 32)) w.heap.size (x, y) from hC)
  have HR := Lib.hid hR
  have HB := Lib.hid hB
  have HG := Lib.hid hget
  have HIN := Lib.hid hin
  have HO := Lib.hid hout
  have HLV := Lib.hid hlev
  have HSQ := Lib.hid hsq
  obtain ⟨hx, hy⟩ := hk
  have HX := Lib.hid hx
  have HY := Lib.hid hy
  have hnz : (n : Int) < (m.length : Int) := by omega
  have hcase := inside_cases e x y
  clear hal hC hR hB hget hin hout hlev hsq HL hI hF hBw hL hl hBl hx hy
  go_enter Try.func5, Try.ntmps5
  go_wp2_with fail
  generalize hw0 : (w.alloc (.cells #[.int .i64 x, .int .i64 y] 32)) = w0 at *
  refine (awake7_any w0).mono ?_
  rintro r w1 ⟨rfl, hb1⟩
  have HB1 := Lib.hid (Qt.more HAL.out HAL.out.size hb1)
  have HC1 := Lib.hid (HC.out.below hb1)
  have hs1 := HSQ.out w1 ((HR.out.below HB1.out (Nat.le_refl _)).more HB1.out.size) ((Cel.Rd.below HB.out HB1.out (Nat.le_refl _)).more HB1.out.size)
  clear hw0 HAL HC HR HB HSQ hb1
  go_wp2_with fail
  refine hs1.mono ?_
  rintro r w2 ⟨A2, c2, rfl, hcap2, N2, hb2⟩
  have hal := (Below.refl w2.heap.size w2).alloc (Nat.le_refl _) (.cells #[.slice A2 m.length c2, .int .i64 R] 27)
  have hb' := Qt.more (B := w1.heap.size) hb2 hb2.size hal
  have HS2 := Lib.hid (stB_new N2 hcap2 R)
  have HB2 := Lib.hid (Qt.more HB1.out HB1.out.size hb')
  have HC2 := Lib.hid (HC1.out.below hb')
  obtain ⟨q2, o2, hA2, hq2, hnd⟩ := HS2.out.nd (by omega)
  have y0 := (hnd n hnl).1
  rw [HLV.out] at y0
  rw [show (((e + 1 : Nat)) : Int) = (e : Int) + 1 by omega] at y0
  have k0 := HC2.out.c0
  have k1 := HC2.out.c1
  have s0 := HS2.out.s0
  have s1 := HS2.out.s1
  dsimp only at k0 k1
  subst hA2
  clear hs1 hb2 hb' HB1 HC1 N2 hal hnd hq2
  have hgt := fun W (hW : Below (w2.alloc (.cells #[.slice (some ⟨q2, o2, none⟩) m.length c2, .int .i64 R] 27)).heap.size (w2.alloc (.cells #[.slice (some ⟨q2, o2, none⟩) m.length c2, .int .i64 R] 27)) W) => get7_any (some ⟨q2, o2, none⟩) m c2 R n (x, y) W ((HS2.out.below hW).rd) hm6 hcap2 HX.out HY.out
  have hst := fun W (hW : Below (w2.alloc (.cells #[.slice (some ⟨q2, o2, none⟩) m.length c2, .int .i64 R] 27)).heap.size (w2.alloc (.cells #[.slice (some ⟨q2, o2, none⟩) m.length c2, .int .i64 R] 27)) W) => set7_any (some ⟨q2, o2, none⟩) m c2 R n (x, y) al W ((HS2.out.below hW).rd) hm6 hcap2 HX.out HY.out
  rw [HG.out] at hgt
  unfold storeV cellV at hgt hst
  rcases hcase with ⟨a1, a5⟩ | ⟨a1, a2, a5⟩ | ⟨a1, a2, a3, a5⟩ | ⟨a1, a2, a3, a4, a5⟩ | ⟨a1, a2, a3, a4, a5⟩
  all_goals
    rw [a5] at hgt
    have HA5 := Lib.hid a5
    clear a5
    try have d4 : decide (y < 2 ^ e) = false := decide_eq_false (by generalize (2 : Int) ^ e = p at *; omega)
    go_wp2_with fail
    generalize (w2.alloc (.cells #[.slice (some ⟨q2, o2, none⟩) m.length c2, .int .i64 R] 27)) = v2 at *
    generalize w2.heap.size = b2 at *
    clear y0
    refine (hgt v2 (Below.refl _ _)).mono ?_
    rintro r w3 ⟨rfl, hb3⟩
    have k0 := (HC2.out.below hb3).c0
    have k1 := (HC2.out.below hb3).c1
    have s0 := (HS2.out.below hb3).s0
    have s1 := (HS2.out.below hb3).s1
    dsimp only at k0 k1
    have hs3 := hst w3 hb3
    have HB3 := Lib.hid (Qt.more HB2.out HB2.out.size hb3)
    clear hst hgt hb3 HC2 HS2 HB2
    first
      | (rw [HO.out HA5.out] at hs3
         go_wp2_with fail
         refine hs3.mono ?_
         intro r w4 h
         obtain ⟨A4, c4, rfl, hcap4, N4, hb4⟩ := putR_box h
         have HB4 := Lib.hid (Qt.more HB3.out HB3.out.size (Qt.more (B := w3.heap.size) hb4 hb4.size ((Below.refl w4.heap.size w4).alloc (Nat.le_refl _) (.cells #[.slice A4 m.length c4, .int .i64 R] 27))))
         clear h hs3 hb4 N4 s0 s1 k0 k1
         go_wp2_with fail
         go_ret
         exact ⟨rfl, HB4.out⟩)
      | (obtain ⟨m', p, e1⟩ := HIN.out HA5.out
         rw [e1] at hs3
         generalize decide ((x, y) ∈ Cel.rawSet rs) = isb at *
         cases isb
         all_goals
           go_wp2_with fail
           refine hs3.mono ?_
           intro r w4 h
           obtain ⟨A4, c4, rfl, hcap4, N4, hb4⟩ := putR_box h
           have HB4 := Lib.hid (Qt.more HB3.out HB3.out.size (Qt.more (B := w3.heap.size) hb4 hb4.size ((Below.refl w4.heap.size w4).alloc (Nat.le_refl _) (.cells #[.slice A4 m'.length c4, .int .i64 R] 27))))
           clear h hs3 hb4 N4 s0 s1 k0 k1
           go_wp2_with fail
           go_ret
           exact ⟨rfl, HB4.out⟩)
end Go.Proofs.Ytikgnjcjbjafaaa
