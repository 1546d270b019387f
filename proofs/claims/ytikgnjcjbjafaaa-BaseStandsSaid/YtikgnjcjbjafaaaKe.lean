/-
  The law BaseNine.
-/
import Derived.Test.YtikgnjcjbjafaaaB26
import Derived.Test.YtikgnjcjbjafaaaB19
namespace Go.Proofs.Ytikgnjcjbjafaaa
set_option maxRecDepth 100000
set_option linter.unusedVariables false
set_option linter.unusedSimpArgs false
open Go.RowKit Go.Sort

theorem levI_is {l : List Nd} {e n : Nat} (hn : Is l e n) : levI l (n : Int) = (e : Int) := by
  unfold levI
  rw [if_pos ⟨by omega, by have := hn.lt; omega⟩, ndAt_nat, hn.lev]
theorem nine8_at {room : Int} {l : List Nd} {e n : Nat} (hr : Right6 l room) (hn : Is l (e + 2) n) (he : e + 2 ≤ 42) (hroom : ((l.length + 9 : Nat) : Int) ≤ room) :
    ∃ (a : List Nd) (f : Nat → Int) (p : Nat → Nat), nine8 l room (n : Int) = (a, f, 0) ∧ NineAt room l e n 9 a p ∧ ∀ j, j < 9 → f j = ((p j : Nat) : Int) := by
  obtain ⟨a, p, h⟩ := nine_at hr hn he hroom 9 (Nat.le_refl _)
  refine ⟨a, (nineTo room l n 9).2.1, p, ?_, h, h.at_⟩
  have hl := levI_is hn
  have hz : nineZ room l (n : Int) = nineTo room l n 9 := by
    unfold nineZ
    rw [if_neg (by omega), Int.toNat_natCast, if_pos h.err]
  have he2 := h.err
  unfold nine8 grown9
  rw [if_pos (right_iff.2 hr), hz, if_pos he2]
  have h1 := h.list
  generalize nineTo room l n 9 = z at *
  obtain ⟨z1, z2, z3⟩ := z
  simp only at h1 he2
  rw [h1, he2]
theorem NineAt.corner {room : Int} {l a : List Nd} {e n : Nat} {p : Nat → Nat} (h : NineAt room l e n 9 a p) (hr : Right6 l room) (hn : Is l (e + 2) n) {k : Nat} (hk : k < 4) : p (k / 2 * 6 + k % 2 * 2) = kidN l n k := by
  have h1 := h.kids (k / 2 * 6 + k % 2 * 2) (by omega)
  rw [show (k / 2 * 6 + k % 2 * 2) / 3 = k / 2 * 2 by omega, show (k / 2 * 6 + k % 2 * 2) % 3 = k % 2 * 2 by omega] at h1
  have h2 := h.grows.at_ (corner_at hr hn hk)
  rw [h1] at h2
  exact Option.some.inj h2
/-- A node's cells, its kids by name. -/
theorem NdAt.kids {w : World} {b o : Nat} {x : Nd} (h : NdAt w b o x) {k : Kd} (hk : x.2.1 = k) : w.cell? ⟨b, o + 1, none⟩ = some (.int .i64 k.1) ∧ w.cell? ⟨b, o + 2, none⟩ = some (.int .i64 k.2.1) ∧ w.cell? ⟨b, o + 3, none⟩ = some (.int .i64 k.2.2.1) ∧ w.cell? ⟨b, o + 4, none⟩ = some (.int .i64 k.2.2.2) := by
  subst hk
  obtain ⟨_, h1, h2, h3, h4, _⟩ := h
  exact ⟨h1, h2, h3, h4⟩
/-- four numbers in a box -/
def K4B (w : World) (b : Nat) (x y u v : Int) : Prop := w.heap[b]? = some (.cells #[.int .i64 x, .int .i64 y, .int .i64 u, .int .i64 v] 52 (0, 0))
theorem K4B.below {w w' : World} {b : Nat} {x y u v : Int} (h : K4B w b x y u v) (hb : Below w.heap.size w w') : K4B w' b x y u v := (hb.block _ (lt_heap6 h)).trans h
theorem K4B.s0 {w : World} {b : Nat} {x y u v : Int} (h : K4B w b x y u v) : w.cell? ⟨b, 0, none⟩ = some (.int .i64 x) := by rw [Lib.cell_of_heap h]; rfl
theorem K4B.s1 {w : World} {b : Nat} {x y u v : Int} (h : K4B w b x y u v) : w.cell? ⟨b, 1, none⟩ = some (.int .i64 y) := by rw [Lib.cell_of_heap h]; rfl
theorem K4B.s2 {w : World} {b : Nat} {x y u v : Int} (h : K4B w b x y u v) : w.cell? ⟨b, 2, none⟩ = some (.int .i64 u) := by rw [Lib.cell_of_heap h]; rfl
theorem K4B.s3 {w : World} {b : Nat} {x y u v : Int} (h : K4B w b x y u v) : w.cell? ⟨b, 3, none⟩ = some (.int .i64 v) := by rw [Lib.cell_of_heap h]; rfl
/-- What is known of the nine. -/
structure NnK (m a : List Nd) (n : Nat) (p : Nat → Nat) (X : Nat → Nat → Nat) : Prop where
  kid : ∀ j, j < 9 → (a.getD (p j) deadN).2.1 = (((X (j / 3) (j % 3) : Nat) : Int), ((X (j / 3) (j % 3 + 1) : Nat) : Int), ((X (j / 3 + 1) (j % 3) : Nat) : Int), ((X (j / 3 + 1) (j % 3 + 1) : Nat) : Int))
  lt : ∀ j, j < 9 → p j < a.length
  own : (m.getD n deadN).2.1 = (((p 0 : Nat) : Int), ((p 2 : Nat) : Int), ((p 6 : Nat) : Int), ((p 8 : Nat) : Int))
theorem StB.node {W : World} {b : Nat} {q o : Nat} {l : List Nd} {c : Nat} {room : Int} (h : StB W b (some ⟨q, o, none⟩) l c room) {j : Nat} (hj : j < l.length) : NdAt W q (o + j * 6) (l.getD j deadN) := by
  obtain ⟨b', o', e, _, hn⟩ := h.rd j hj
  injection e with e
  injection e with e1 e2
  subst e1 e2
  exact hn
set_option maxHeartbeats 16000000 in
theorem baseNine_law (room : Int) (A : Option Addr) (raw : List Raw5) (c : Nat) (B : Option Addr) (rs : List (Int × Int)) (d : Nat) (lev : Int) (w : World) (hI : I64 room) (hR : RdR w w.heap.size A raw) (hl : raw.length ≤ 9223372036854775807) (hF : ∀ j, j < raw.length → Fine5 (raw.getD j dead5))
    (hB : RdC w w.heap.size B rs) (hBl : rs.length ≤ 9223372036854775807) (hBc : rs.length ≤ d) (hBw : ∀ p ∈ rs, Cel.I64 p.1 ∧ Cel.I64 p.2) (hL : I64 lev) :
    Calls Try.prog 10 #[.int .i64 room, .slice A raw.length c, .slice B rs.length d, .int .i64 lev] w fun e w' => e = .returned (.bool true) ∧ Below w.heap.size w w' := by
  obtain ⟨R0, m0, n, e, t, HL⟩ := square_ok room raw rs lev
  have hsq := fun W hR' hB' => square7_any HL A c B d W hI hR' hl hF hB' hBl hBc hBw hL
  have hrl := HL.rlo
  have hrh := HL.rhi
  have hw100 : IntKind.i64.wrap (R0 + 100) = R0 + 100 := by rw [IntKind.wrap_i64]; omega
  obtain ⟨R, hRR⟩ : ∃ R, R = R0 + 100 := ⟨_, rfl⟩
  have hlen := HL.len
  have hthi := HL.thi
  have hehi := HL.ehi
  have hrt : Right6 m0 R := HL.sq.right.more (by omega) (by omega) (by omega)
  obtain ⟨e', rfl⟩ : ∃ e', e = e' + 1 := ⟨e - 1, by have := HL.elo; omega⟩
  have hnis : Is m0 (e' + 2) n := HL.sq.is
  obtain ⟨a, f, p, hn8, hat, hfp⟩ := nine8_at hrt hnis (by omega) (by omega)
  have hm6 : m0.length ≤ 1000000 := by have := HL.few; omega
  have hnl := HL.sq.is.lt
  have hlen_a := hat.len
  have HK : Hid (NnK m0 a n p (sx m0 n)) := ⟨fun j hj => hat.kid hj, fun j hj => (hat.is j hj).lt, kd_ext fun k hk => by
    rw [kid_cast hrt hnis hk, ← hat.corner hrt hnis hk]
    rcases (by omega : k = 0 ∨ k = 1 ∨ k = 2 ∨ k = 3) with rfl | rfl | rfl | rfl <;> rfl⟩
  generalize sx m0 n = X at HK
  have HR := Lib.hid hR
  have HB := Lib.hid hB
  have HSQ := Lib.hid hsq
  have HFP := Lib.hid hfp
  have HLEN := Lib.hid (show m0.length ≤ 1000000 ∧ n < m0.length ∧ a.length ≤ 1000000 ∧ 0 < a.length from ⟨hm6, hnl, by have := HL.few; omega, by have := (hat.is 0 (by decide)).lt; omega⟩)
  have hnz : (n : Int) < (m0.length : Int) := by omega
  have HN8 := Lib.hid (show nine8 m0 R (n : Int) = (a, f, 0) from hn8)
  replace hw100 : IntKind.i64.wrap (R0 + 100) = R := hw100.trans hRR.symm
  clear hsq hR hB hat hfp hn8 hrt hnis hlen hthi hehi HL hI hF hBw hL hl hBl hm6 hnl hrl hrh hRR hlen_a
  go_enter Try.func10, Try.ntmps10
  go_wp2_with fail
  refine (awake8_any w).mono ?_
  rintro r w1 ⟨rfl, hb1⟩
  have HB1 := Lib.hid hb1
  have hs1 := HSQ.out w1 ((HR.out.below hb1 (Nat.le_refl _)).more hb1.size) ((Cel.Rd.below HB.out hb1 (Nat.le_refl _)).more hb1.size)
  clear HR HB HSQ hb1
  go_wp2_with fail
  refine hs1.mono ?_
  rintro r w2 ⟨A2, c2, rfl, hcap2, N2, hb2⟩
  have hal := (Below.refl w2.heap.size w2).alloc (Nat.le_refl _) (.cells #[.slice A2 m0.length c2, .int .i64 R] 27)
  have hb' := Qt.more (B := w1.heap.size) hb2 hb2.size hal
  have HS2 := Lib.hid (stB_new N2 hcap2 R)
  have HB2 := Lib.hid (Qt.more HB1.out HB1.out.size hb')
  have s0 := HS2.out.s0
  have s1 := HS2.out.s1
  clear hs1 hb2 hb' HB1 N2 hal
  go_wp2_with fail
  clear hw100
  generalize (w2.alloc (.cells #[.slice A2 m0.length c2, .int .i64 R] 27)) = v2 at *
  generalize w2.heap.size = b2 at *
  have hc := nine8_any A2 m0 c2 R n v2 HS2.out.rd HLEN.out.1 hcap2
  rw [HN8.out] at hc
  unfold storeV at hc
  refine hc.mono ?_
  rintro r w3 ⟨A3, c3, rfl, hcap3, N3, hb3⟩
  simp only at hcap3 N3
  have hal := (Below.refl w3.heap.size w3).alloc (Nat.le_refl _) (.cells #[.slice A3 a.length c3, .int .i64 R] 27)
  have hal2 := hal.alloc hal.size (.cells #[.int .i64 (f 0), .int .i64 (f 1), .int .i64 (f 2), .int .i64 (f 3), .int .i64 (f 4), .int .i64 (f 5), .int .i64 (f 6), .int .i64 (f 7), .int .i64 (f 8)] 61)
  have hb' := Qt.more (B := v2.heap.size) hb3 hb3.size hal2
  have HE3 := Lib.hid ((stB_new N3 hcap3 R).below ((Below.refl _ _).alloc (Nat.le_refl _) (.cells #[.int .i64 (f 0), .int .i64 (f 1), .int .i64 (f 2), .int .i64 (f 3), .int .i64 (f 4), .int .i64 (f 5), .int .i64 (f 6), .int .i64 (f 7), .int .i64 (f 8)] 61)))
  have hsz : (w3.alloc (.cells #[.slice A3 a.length c3, .int .i64 R] 27)).heap.size = w3.heap.size + 1 := by simp
  have HN3 := Lib.hid (show N9 ((w3.alloc (.cells #[.slice A3 a.length c3, .int .i64 R] 27)).alloc (.cells #[.int .i64 (f 0), .int .i64 (f 1), .int .i64 (f 2), .int .i64 (f 3), .int .i64 (f 4), .int .i64 (f 5), .int .i64 (f 6), .int .i64 (f 7), .int .i64 (f 8)] 61)) (w3.heap.size + 1) f from heap_new hsz)
  have HS3 := Lib.hid (HS2.out.below hb')
  have HB3 := Lib.hid (Qt.more HB2.out HB2.out.size hb')
  clear hc hb3 hb' N3 hal hal2 HB2 HS2 hsz s0 s1 HN8
  go_wp2_with fail
  generalize ((w3.alloc (.cells #[.slice A3 a.length c3, .int .i64 R] 27)).alloc (.cells #[.int .i64 (f 0), .int .i64 (f 1), .int .i64 (f 2), .int .i64 (f 3), .int .i64 (f 4), .int .i64 (f 5), .int .i64 (f 6), .int .i64 (f 7), .int .i64 (f 8)] 61)) = v3 at *
  generalize w3.heap.size = b3 at *
  go_loopw [15] (fun u wr => ∃ i : Nat, i ≤ 9 ∧ u = .int .i64 i ∧ Hid (Below v3.heap.size v3 wr)) (fun u _ => 9 - (intOf u).toNat)
  case atStart => exact ⟨0, Nat.zero_le _, rfl, Below.refl _ _⟩
  case round =>
    obtain ⟨i, hi, rfl, HH⟩ := hrel
    by_cases hlt : i < 9
    · have hltz : (i : Int) < 9 := by omega
      have k0 := Qt.cell_in (HE3.out.below HH.out).s0
      have y0 := (HN3.out.below HH.out).c (p := i) hlt
      rw [HFP.out i hlt] at y0
      have k1 := Qt.cell_in y0
      have hpl := HK.out.lt i hlt
      obtain ⟨q, hq⟩ : ∃ q, q = p i := ⟨_, rfl⟩
      rw [← hq] at k1 hpl
      have hpd : decide (a.length ≤ q) = false := decide_eq_false (by omega)
      have hpd0 : decide ((q : Int) < 0) = false := decide_eq_false (by omega)
      have HW := Lib.hid HH.out
      clear y0 hpl hq HH
      go_wp2_with fail
      refine Qt.below_all (by kernel_rfl) (by kernel_rfl) ?_
      iterate 13 (go_big_quiet_step (fail))
      refine wpQuiet_nil ?_
      intro w7 hb7
      have HW7 := Lib.hid (Qt.more HW.out HW.out.size hb7)
      clear k0 k1 hb7 HW
      go_wp2_with fail
      go_roundw
      case measure => simp [intOf]; omega
      case rel => exact ⟨i + 1, by omega, by go_num, HW7.out⟩
    · obtain rfl : i = 9 := by omega
      have KJ := HK.out.kid 4 (by decide)
      simp only [Nat.reduceDiv, Nat.reduceMod, Nat.reduceAdd] at KJ
      obtain ⟨qa, oa, rfl, hqa, _⟩ := (HE3.out.below HH.out).nd HLEN.out.2.2.2
      obtain ⟨x1, x2, x3, x4⟩ := ((HE3.out.below HH.out).node (HK.out.lt 4 (by decide))).kids KJ
      have a0 := (HE3.out.below HH.out).s0
      have y4 := (HN3.out.below HH.out).c (p := 4) (by decide)
      rw [HFP.out 4 (by decide)] at y4
      have p4 : ((p 4 : Nat) : Int) < (a.length : Int) := by have := HK.out.lt 4 (by decide); omega
      have hal := (Below.refl wr.heap.size wr).alloc (Nat.le_refl _) (.cells #[.int .i64 ((X 1 1 : Nat) : Int), .int .i64 ((X 1 2 : Nat) : Int), .int .i64 ((X 2 1 : Nat) : Int), .int .i64 ((X 2 2 : Nat) : Int)] 52)
      have HN4 := Lib.hid ((HN3.out.below HH.out).below hal)
      have y0 := HN4.out.c (p := 0) (by decide)
      have y2 := HN4.out.c (p := 2) (by decide)
      have y6 := HN4.out.c (p := 6) (by decide)
      have y8 := HN4.out.c (p := 8) (by decide)
      rw [HFP.out 0 (by decide)] at y0
      rw [HFP.out 2 (by decide)] at y2
      rw [HFP.out 6 (by decide)] at y6
      rw [HFP.out 8 (by decide)] at y8
      have hal2 := hal.alloc hal.size (.cells #[.int .i64 ((p 0 : Nat) : Int), .int .i64 ((p 2 : Nat) : Int), .int .i64 ((p 6 : Nat) : Int), .int .i64 ((p 8 : Nat) : Int)] 52)
      have hsz : (wr.alloc (.cells #[.int .i64 ((X 1 1 : Nat) : Int), .int .i64 ((X 1 2 : Nat) : Int), .int .i64 ((X 2 1 : Nat) : Int), .int .i64 ((X 2 2 : Nat) : Int)] 52)).heap.size = wr.heap.size + 1 := by simp
      have HX4 := Lib.hid (show K4B ((wr.alloc (.cells #[.int .i64 ((X 1 1 : Nat) : Int), .int .i64 ((X 1 2 : Nat) : Int), .int .i64 ((X 2 1 : Nat) : Int), .int .i64 ((X 2 2 : Nat) : Int)] 52)).alloc (.cells #[.int .i64 ((p 0 : Nat) : Int), .int .i64 ((p 2 : Nat) : Int), .int .i64 ((p 6 : Nat) : Int), .int .i64 ((p 8 : Nat) : Int)] 52)) wr.heap.size ((X 1 1 : Nat) : Int) ((X 1 2 : Nat) : Int) ((X 2 1 : Nat) : Int) ((X 2 2 : Nat) : Int) from heap_old (heap_alloc_new wr _))
      have HC4 := Lib.hid (show K4B ((wr.alloc (.cells #[.int .i64 ((X 1 1 : Nat) : Int), .int .i64 ((X 1 2 : Nat) : Int), .int .i64 ((X 2 1 : Nat) : Int), .int .i64 ((X 2 2 : Nat) : Int)] 52)).alloc (.cells #[.int .i64 ((p 0 : Nat) : Int), .int .i64 ((p 2 : Nat) : Int), .int .i64 ((p 6 : Nat) : Int), .int .i64 ((p 8 : Nat) : Int)] 52)) (wr.heap.size + 1) ((p 0 : Nat) : Int) ((p 2 : Nat) : Int) ((p 6 : Nat) : Int) ((p 8 : Nat) : Int) from heap_new hsz)
      have hbw := Qt.more HH.out HH.out.size hal2
      have HE4 := Lib.hid (HE3.out.below hbw)
      have HS4 := Lib.hid (HS3.out.below hbw)
      have HM4 := Lib.hid (HN3.out.below hbw)
      have HB4 := Lib.hid (Qt.more HB3.out HB3.out.size hbw)
      clear hal hal2 hsz hbw HB3 HS3 HE3 HN3 HH
      go_wp2_with fail
      clear x1 x2 x3 x4 y0 y2 y4 y6 y8 a0 p4 KJ
      generalize ((wr.alloc (.cells #[.int .i64 ((X 1 1 : Nat) : Int), .int .i64 ((X 1 2 : Nat) : Int), .int .i64 ((X 2 1 : Nat) : Int), .int .i64 ((X 2 2 : Nat) : Int)] 52)).alloc (.cells #[.int .i64 ((p 0 : Nat) : Int), .int .i64 ((p 2 : Nat) : Int), .int .i64 ((p 6 : Nat) : Int), .int .i64 ((p 8 : Nat) : Int)] 52)) = v4 at *
      generalize wr.heap.size = b4 at *
      go_loopw [18] (fun u wr => ∃ i : Nat, i ≤ 4 ∧ u = .int .i64 i ∧ Hid (Below v4.heap.size v4 wr)) (fun u _ => 4 - (intOf u).toNat)
      case atStart => exact ⟨0, Nat.zero_le _, rfl, Below.refl _ _⟩
      case round =>
        obtain ⟨i, hi, rfl, HH⟩ := hrel
        by_cases hlt : i < 4
        · obtain ⟨qs, os, rfl, hqs, _⟩ := (HS4.out.below HH.out).nd (by have := HLEN.out.2.1; omega)
          obtain ⟨m1, m2, m3, m4⟩ := ((HS4.out.below HH.out).node HLEN.out.2.1).kids HK.out.own
          have g0 := Qt.cell_in (HS4.out.below HH.out).s0
          have g1 := Qt.cell_in (HE4.out.below HH.out).s0
          have HW := Lib.hid HH.out
          have HXi := HX4.out.below HH.out
          have HCi := HC4.out.below HH.out
          have HEi := HE4.out.below HH.out
          rcases (by omega : i = 0 ∨ i = 1 ∨ i = 2 ∨ i = 3) with rfl | rfl | rfl | rfl
          · have K := HK.out.kid 0 (by decide)
            simp only [Nat.reduceDiv, Nat.reduceMod, Nat.reduceAdd] at K
            obtain ⟨n1, n2, n3, n4⟩ := (HEi.node (HK.out.lt 0 (by decide))).kids K
            have u0 := Qt.cell_in HCi.s0
            have u1 := Qt.cell_in m1
            have u2 := Qt.cell_in HXi.s0
            have u3 := Qt.cell_in n4
            have hpz : ((p 0 : Nat) : Int) < (a.length : Int) := by have := HK.out.lt 0 (by decide); omega
            have hd0 : decide (((p 0 : Nat) : Int) = ((p 0 : Nat) : Int)) = true := decide_eq_true rfl
            have hd1 : decide (((X 1 1 : Nat) : Int) = ((X 1 1 : Nat) : Int)) = true := decide_eq_true rfl
            clear n1 n2 n3 n4 m1 m2 m3 m4 K HXi HCi HEi HH
            go_wp2_with fail
            refine Qt.below_all (by kernel_rfl) (by kernel_rfl) ?_
            iterate 29 (go_big_quiet_step (fail))
            refine wpQuiet_nil ?_
            intro w7 hb7
            have HW7 := Lib.hid (Qt.more HW.out HW.out.size hb7)
            clear g0 g1 u0 u1 u2 u3 hb7 HW hd0 hd1
            go_wp2_with fail
            go_roundw
            case measure => simp [intOf]
            case rel => exact ⟨1, by omega, by go_num, HW7.out⟩
          · have K := HK.out.kid 2 (by decide)
            simp only [Nat.reduceDiv, Nat.reduceMod, Nat.reduceAdd] at K
            obtain ⟨n1, n2, n3, n4⟩ := (HEi.node (HK.out.lt 2 (by decide))).kids K
            have u0 := Qt.cell_in HCi.s1
            have u1 := Qt.cell_in m2
            have u2 := Qt.cell_in HXi.s1
            have u3 := Qt.cell_in n3
            have hpz : ((p 2 : Nat) : Int) < (a.length : Int) := by have := HK.out.lt 2 (by decide); omega
            have hd0 : decide (((p 2 : Nat) : Int) = ((p 2 : Nat) : Int)) = true := decide_eq_true rfl
            have hd1 : decide (((X 1 2 : Nat) : Int) = ((X 1 2 : Nat) : Int)) = true := decide_eq_true rfl
            clear n1 n2 n3 n4 m1 m2 m3 m4 K HXi HCi HEi HH
            go_wp2_with fail
            refine Qt.below_all (by kernel_rfl) (by kernel_rfl) ?_
            iterate 29 (go_big_quiet_step (fail))
            refine wpQuiet_nil ?_
            intro w7 hb7
            have HW7 := Lib.hid (Qt.more HW.out HW.out.size hb7)
            clear g0 g1 u0 u1 u2 u3 hb7 HW hd0 hd1
            go_wp2_with fail
            go_roundw
            case measure => simp [intOf]
            case rel => exact ⟨2, by omega, by go_num, HW7.out⟩
          · have K := HK.out.kid 6 (by decide)
            simp only [Nat.reduceDiv, Nat.reduceMod, Nat.reduceAdd] at K
            obtain ⟨n1, n2, n3, n4⟩ := (HEi.node (HK.out.lt 6 (by decide))).kids K
            have u0 := Qt.cell_in HCi.s2
            have u1 := Qt.cell_in m3
            have u2 := Qt.cell_in HXi.s2
            have u3 := Qt.cell_in n2
            have hpz : ((p 6 : Nat) : Int) < (a.length : Int) := by have := HK.out.lt 6 (by decide); omega
            have hd0 : decide (((p 6 : Nat) : Int) = ((p 6 : Nat) : Int)) = true := decide_eq_true rfl
            have hd1 : decide (((X 2 1 : Nat) : Int) = ((X 2 1 : Nat) : Int)) = true := decide_eq_true rfl
            clear n1 n2 n3 n4 m1 m2 m3 m4 K HXi HCi HEi HH
            go_wp2_with fail
            refine Qt.below_all (by kernel_rfl) (by kernel_rfl) ?_
            iterate 29 (go_big_quiet_step (fail))
            refine wpQuiet_nil ?_
            intro w7 hb7
            have HW7 := Lib.hid (Qt.more HW.out HW.out.size hb7)
            clear g0 g1 u0 u1 u2 u3 hb7 HW hd0 hd1
            go_wp2_with fail
            go_roundw
            case measure => simp [intOf]
            case rel => exact ⟨3, by omega, by go_num, HW7.out⟩
          · have K := HK.out.kid 8 (by decide)
            simp only [Nat.reduceDiv, Nat.reduceMod, Nat.reduceAdd] at K
            obtain ⟨n1, n2, n3, n4⟩ := (HEi.node (HK.out.lt 8 (by decide))).kids K
            have u0 := Qt.cell_in HCi.s3
            have u1 := Qt.cell_in m4
            have u2 := Qt.cell_in HXi.s3
            have u3 := Qt.cell_in n1
            have hpz : ((p 8 : Nat) : Int) < (a.length : Int) := by have := HK.out.lt 8 (by decide); omega
            have hd0 : decide (((p 8 : Nat) : Int) = ((p 8 : Nat) : Int)) = true := decide_eq_true rfl
            have hd1 : decide (((X 2 2 : Nat) : Int) = ((X 2 2 : Nat) : Int)) = true := decide_eq_true rfl
            clear n1 n2 n3 n4 m1 m2 m3 m4 K HXi HCi HEi HH
            go_wp2_with fail
            refine Qt.below_all (by kernel_rfl) (by kernel_rfl) ?_
            iterate 29 (go_big_quiet_step (fail))
            refine wpQuiet_nil ?_
            intro w7 hb7
            have HW7 := Lib.hid (Qt.more HW.out HW.out.size hb7)
            clear g0 g1 u0 u1 u2 u3 hb7 HW hd0 hd1
            go_wp2_with fail
            go_roundw
            case measure => simp [intOf]
            case rel => exact ⟨4, by omega, by go_num, HW7.out⟩
        · obtain rfl : i = 4 := by omega
          have g1 := Qt.cell_in (HE4.out.below HH.out).s0
          have HW := Lib.hid (Qt.more HB4.out HB4.out.size HH.out)
          have y := (HM4.out.below HH.out).c (p := 0) (by decide)
          rw [HFP.out 0 (by decide)] at y
          have y0 := Qt.cell_in y
          clear y
          have p0 : ((p 0 : Nat) : Int) < (a.length : Int) := by have := HK.out.lt 0 (by decide); omega
          have y := (HM4.out.below HH.out).c (p := 1) (by decide)
          rw [HFP.out 1 (by decide)] at y
          have y1 := Qt.cell_in y
          clear y
          have p1 : ((p 1 : Nat) : Int) < (a.length : Int) := by have := HK.out.lt 1 (by decide); omega
          have y := (HM4.out.below HH.out).c (p := 2) (by decide)
          rw [HFP.out 2 (by decide)] at y
          have y2 := Qt.cell_in y
          clear y
          have p2 : ((p 2 : Nat) : Int) < (a.length : Int) := by have := HK.out.lt 2 (by decide); omega
          have y := (HM4.out.below HH.out).c (p := 3) (by decide)
          rw [HFP.out 3 (by decide)] at y
          have y3 := Qt.cell_in y
          clear y
          have p3 : ((p 3 : Nat) : Int) < (a.length : Int) := by have := HK.out.lt 3 (by decide); omega
          have y := (HM4.out.below HH.out).c (p := 5) (by decide)
          rw [HFP.out 5 (by decide)] at y
          have y5 := Qt.cell_in y
          clear y
          have p5 : ((p 5 : Nat) : Int) < (a.length : Int) := by have := HK.out.lt 5 (by decide); omega
          have y := (HM4.out.below HH.out).c (p := 6) (by decide)
          rw [HFP.out 6 (by decide)] at y
          have y6 := Qt.cell_in y
          clear y
          have p6 : ((p 6 : Nat) : Int) < (a.length : Int) := by have := HK.out.lt 6 (by decide); omega
          have y := (HM4.out.below HH.out).c (p := 7) (by decide)
          rw [HFP.out 7 (by decide)] at y
          have y7 := Qt.cell_in y
          clear y
          have p7 : ((p 7 : Nat) : Int) < (a.length : Int) := by have := HK.out.lt 7 (by decide); omega
          have y := (HM4.out.below HH.out).c (p := 8) (by decide)
          rw [HFP.out 8 (by decide)] at y
          have y8 := Qt.cell_in y
          clear y
          have p8 : ((p 8 : Nat) : Int) < (a.length : Int) := by have := HK.out.lt 8 (by decide); omega
          have K := HK.out.kid 1 (by decide)
          simp only [Nat.reduceDiv, Nat.reduceMod, Nat.reduceAdd] at K
          obtain ⟨k, _, _, _⟩ := ((HE4.out.below HH.out).node (HK.out.lt 1 (by decide))).kids K
          have k1 := Qt.cell_in k
          clear K k
          have K := HK.out.kid 0 (by decide)
          simp only [Nat.reduceDiv, Nat.reduceMod, Nat.reduceAdd] at K
          obtain ⟨_, k, _, _⟩ := ((HE4.out.below HH.out).node (HK.out.lt 0 (by decide))).kids K
          have k0 := Qt.cell_in k
          clear K k
          have K := HK.out.kid 7 (by decide)
          simp only [Nat.reduceDiv, Nat.reduceMod, Nat.reduceAdd] at K
          obtain ⟨_, _, _, k⟩ := ((HE4.out.below HH.out).node (HK.out.lt 7 (by decide))).kids K
          have k7 := Qt.cell_in k
          clear K k
          have K := HK.out.kid 8 (by decide)
          simp only [Nat.reduceDiv, Nat.reduceMod, Nat.reduceAdd] at K
          obtain ⟨_, _, k, _⟩ := ((HE4.out.below HH.out).node (HK.out.lt 8 (by decide))).kids K
          have k8 := Qt.cell_in k
          clear K k
          have K := HK.out.kid 3 (by decide)
          simp only [Nat.reduceDiv, Nat.reduceMod, Nat.reduceAdd] at K
          obtain ⟨_, _, k, _⟩ := ((HE4.out.below HH.out).node (HK.out.lt 3 (by decide))).kids K
          have k3 := Qt.cell_in k
          clear K k
          have K := HK.out.kid 6 (by decide)
          simp only [Nat.reduceDiv, Nat.reduceMod, Nat.reduceAdd] at K
          obtain ⟨k, _, _, _⟩ := ((HE4.out.below HH.out).node (HK.out.lt 6 (by decide))).kids K
          have k6 := Qt.cell_in k
          clear K k
          have K := HK.out.kid 5 (by decide)
          simp only [Nat.reduceDiv, Nat.reduceMod, Nat.reduceAdd] at K
          obtain ⟨_, k, _, _⟩ := ((HE4.out.below HH.out).node (HK.out.lt 5 (by decide))).kids K
          have k5 := Qt.cell_in k
          clear K k
          have K := HK.out.kid 2 (by decide)
          simp only [Nat.reduceDiv, Nat.reduceMod, Nat.reduceAdd] at K
          obtain ⟨_, _, _, k⟩ := ((HE4.out.below HH.out).node (HK.out.lt 2 (by decide))).kids K
          have k2 := Qt.cell_in k
          clear K k
          have hd0 : decide (((X 0 1 : Nat) : Int) = ((X 0 1 : Nat) : Int)) = true := decide_eq_true rfl
          have hd1 : decide (((X 3 2 : Nat) : Int) = ((X 3 2 : Nat) : Int)) = true := decide_eq_true rfl
          have hd2 : decide (((X 2 0 : Nat) : Int) = ((X 2 0 : Nat) : Int)) = true := decide_eq_true rfl
          have hd3 : decide (((X 1 3 : Nat) : Int) = ((X 1 3 : Nat) : Int)) = true := decide_eq_true rfl
          have HV := Lib.hid HH.out
          clear HH HM4 HE4 HS4 HX4 HC4
          go_wp2_with fail
          refine Qt.below_all (by kernel_rfl) (by kernel_rfl) ?_
          iterate 78 (go_big_quiet_step (fail))
          refine wpQuiet_nil ?_
          intro w7 hb7
          have HW7 := Lib.hid (Qt.more HW.out HW.out.size hb7)
          clear hb7 HW g1 y0 y1 y2 y3 y5 y6 y7 y8 k0 k1 k2 k3 k5 k6 k7 k8 hd0 hd1 hd2 hd3
          go_wp2_with fail
          go_ret
          exact ⟨rfl, HW7.out⟩
end Go.Proofs.Ytikgnjcjbjafaaa
