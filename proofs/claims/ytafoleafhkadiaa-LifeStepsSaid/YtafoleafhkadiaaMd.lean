/-
  LifeMoves: it makes no difference where a set stands, nor how it is turned: the law returns true whatever numbers come in.
  Conditions: none.
-/
import Derived.Test.YtafoleafhkadiaaMc
namespace Go.Proofs.Ytafoleafhkadiaa
open Go.RowKit Go.Sort

theorem shL_setL (dx dy : Int) {l : List (Int × Int)} (h : Rises l) : shL dx dy l = setL (l.map fun p => (p.1 + dx, p.2 + dy)) :=
  rises_ext (rises_shL dx dy h) (rises_setL _) fun y => by rw [mem_setL]; rfl
theorem setL_map_setL (f : Int × Int → Int × Int) (l : List (Int × Int)) : setL ((setL l).map f) = setL (l.map f) := by
  refine setL_ext fun y => ?_
  rw [List.mem_map, List.mem_map]
  constructor
  · rintro ⟨a, ha, e⟩; exact ⟨a, (mem_setL _ _).1 ha, e⟩
  · rintro ⟨a, ha, e⟩; exact ⟨a, (mem_setL _ _).2 ha, e⟩
theorem sh_turn (dx dy k : Int) (l : List (Int × Int)) : shL dx dy (turnL k l) = setL (l.map fun p => ((turnP k p).1 + dx, (turnP k p).2 + dy)) := by
  rw [shL_setL dx dy (show Rises (turnL k l) from rises_setL _)]
  unfold turnL
  rw [setL_map_setL, List.map_map]
  rfl
theorem moves_eq (dx dy k : Int) {l : List (Int × Int)} (h : Rises l) (n : Nat) : iterL n (shL dx dy (turnL k l)) = shL dx dy (turnL k (iterL n l)) := by
  rw [sh_turn, sh_turn]
  exact iter_map ((iso_turn k).comp (iso_shift dx dy)) h n
theorem shL_box {a b c d : Int} {l : List (Int × Int)} (h : InBox a b c d l) (dx dy : Int) : InBox (a + dx) (b + dx) (c + dy) (d + dy) (shL dx dy l) := by
  intro p hp
  unfold shL at hp
  obtain ⟨q, hq, rfl⟩ := List.mem_map.1 hp
  have := h q hq
  simp only
  omega
theorem right_box {a b c d : Int} {l : List (Int × Int)} (h : InBox a b c d l) (hs : Rises l) (hl : l.length ≤ 2000) (h1 : -1099511627776 ≤ a) (h2 : b ≤ 1099511627776) (h3 : -1099511627776 ≤ c) (h4 : d ≤ 1099511627776) : rightB l = true :=
  (rightB_iff l).2 ⟨hl, fun p hp => by have := h p hp; rw [inB_iff]; omega, hs⟩
theorem shiftR_box {a b c d dx dy : Int} {l : List (Int × Int)} (h : InBox a b c d l) (hs : Rises l) (hl : l.length ≤ 2000) (h1 : -1099511627776 ≤ a) (h2 : b ≤ 1099511627776) (h3 : -1099511627776 ≤ c) (h4 : d ≤ 1099511627776)
    (g1 : -1099511627776 ≤ a + dx) (g2 : b + dx ≤ 1099511627776) (g3 : -1099511627776 ≤ c + dy) (g4 : d + dy ≤ 1099511627776) : shiftR l dx dy = (0, shL dx dy l) := by
  unfold shiftR
  rw [if_pos (right_box h hs hl h1 h2 h3 h4), if_pos]
  rw [List.all_eq_true]
  intro p hp
  have := shL_box h dx dy p hp
  rw [inB_iff]
  omega
theorem runA_box {a c : Int} {t n : Nat} {l : List (Int × Int)} (h : InBox a (a + t - 1) c (c + t - 1) l) (hs : Rises l) (hl : l.length ≤ 2000) (ha : -1099511627776 + n ≤ a ∧ a + t + n ≤ 1099511627776) (hc : -1099511627776 + n ≤ c ∧ c + t + n ≤ 1099511627776) (hroom : (t + 2 * n) * (t + 2 * n) ≤ 2000) (hn : n ≤ 1000) :
    runA l n = (0, iterL n l) := by
  unfold runA
  rw [if_pos ⟨right_box h hs hl (by omega) (by omega) (by omega) (by omega), by omega, by omega⟩, Int.toNat_natCast]
  exact runR_box h hs ha hc hroom
theorem iter_len {a c : Int} {t n : Nat} {l : List (Int × Int)} (h : InBox a (a + t - 1) c (c + t - 1) l) (hs : Rises l) (hroom : (t + 2 * n) * (t + 2 * n) ≤ 2000) : (iterL n l).length ≤ 2000 := by
  have := box_len (iter_box h n) (rises_iterL hs n) (t + 2 * n) (t + 2 * n) (by push_cast; omega) (by push_cast; omega)
  omega

/-- what the law says of its sets -/
theorem moves_facts {s : List (Int × Int)} (h : Near s) {t p q : Int} {k : Nat} (hp : 0 ≤ p ∧ p < 549755813888) (hq : 0 ≤ q ∧ q < 549755813888) (hk : k ≤ 12) :
    shiftR (turnL t s) p (-q) = (0, shL p (-q) (turnL t s)) ∧ runA s k = (0, iterL k s) ∧ runA (shL p (-q) (turnL t s)) k = (0, iterL k (shL p (-q) (turnL t s))) ∧ shiftR (turnL t (iterL k s)) p (-q) = (0, shL p (-q) (turnL t (iterL k s))) ∧
    iterL k (shL p (-q) (turnL t s)) = shL p (-q) (turnL t (iterL k s)) ∧ InBox (-1000000) 1000000 (-1000000) 1000000 s ∧ InBox (-1000000) 1000000 (-1000000) 1000000 (iterL k s) ∧ (turnL t s).length ≤ 60 ∧ (iterL k s).length ≤ 2000 ∧ (turnL t (iterL k s)).length ≤ 2000 ∧ (iterL k (shL p (-q) (turnL t s))).length ≤ 2000 := by
  have hb : InBox (-8) (-8 + ((16 : Nat) : Int) - 1) (-8) (-8 + ((16 : Nat) : Int) - 1) s := h.box.mono (by omega) (by omega) (by omega) (by omega)
  have hb8 : InBox (-8) 8 (-8) 8 s := h.box.mono (by omega) (by omega) (by omega) (by omega)
  have hT := turnL_box (k := t) hb8
  have hTr : Rises (turnL t s) := rises_setL _
  have hTl : (turnL t s).length ≤ 60 := Nat.le_trans (length_turnL t s) h.1
  have hroom : (16 + 2 * k) * (16 + 2 * k) ≤ 2000 := Nat.le_trans (Nat.mul_le_mul (show 16 + 2 * k ≤ 40 by omega) (show 16 + 2 * k ≤ 40 by omega)) (by decide)
  have hroom2 : (17 + 2 * k) * (17 + 2 * k) ≤ 2000 := Nat.le_trans (Nat.mul_le_mul (show 17 + 2 * k ≤ 41 by omega) (show 17 + 2 * k ≤ 41 by omega)) (by decide)
  have hI : InBox (-20) 20 (-20) 20 (iterL k s) := (iter_box h.box k).mono (by omega) (by omega) (by omega) (by omega)
  have hIl := iter_len hb h.2.1 hroom
  have hTI := turnL_box (k := t) hI
  have hTIl : (turnL t (iterL k s)).length ≤ 2000 := Nat.le_trans (length_turnL _ _) hIl
  have hS := shL_box hT p (-q)
  have hS' : InBox (-8 + p) (-8 + p + ((17 : Nat) : Int) - 1) (-8 + -q) (-8 + -q + ((17 : Nat) : Int) - 1) (shL p (-q) (turnL t s)) := hS.mono (by omega) (by omega) (by omega) (by omega)
  have hSr : Rises (shL p (-q) (turnL t s)) := rises_shL _ _ hTr
  refine ⟨shiftR_box hT hTr (by omega) (by omega) (by omega) (by omega) (by omega) (by omega) (by omega) (by omega) (by omega), runA_box hb h.2.1 (by have := h.1; omega) (by omega) (by omega) hroom (by omega),
    runA_box hS' hSr (by rw [length_shL]; omega) (by omega) (by omega) hroom2 (by omega), shiftR_box hTI (rises_setL _) hTIl (by omega) (by omega) (by omega) (by omega) (by omega) (by omega) (by omega) (by omega),
    moves_eq p (-q) t h.2.1 k, hb8.mono (by omega) (by omega) (by omega) (by omega), hI.mono (by omega) (by omega) (by omega) (by omega), hTl, hIl, hTIl, iter_len hS' hSr hroom2⟩

set_option maxHeartbeats 8000000 in
set_option maxRecDepth 100000 in
theorem lifeMoves_walk (A : Option Addr) (raw : List (Int × Int)) (c : Nat) (way dx dy n : Int) (w : World) (hR : Rd w w.heap.size A raw) (hl : raw.length ≤ 9223372036854775807) (hc : raw.length ≤ c) (hw : ∀ p ∈ raw, I64 p.1 ∧ I64 p.2) (hway : I64 way) (hdx : I64 dx) (hdy : I64 dy) (hn : I64 n) :
    Calls Try.prog 6 #[.slice A raw.length c, .int .i64 way, .int .i64 dx, .int .i64 dy, .int .i64 n] w fun e w' => e = .returned (.bool true) ∧ Below w.heap.size w w' := by
  have HW := Lib.hid hw
  have HWAY := Lib.hid hway
  have HDX := Lib.hid hdx
  have HDY := Lib.hid hdy
  have HN := Lib.hid hn
  clear hw hway hdx hdy hn
  go_enter Try.func6, Try.ntmps6
  go_wp2_with fail
  refine (awake2_any w).mono ?_
  rintro e w1 ⟨rfl, hb1⟩
  go_wp2_with fail
  refine (set_any A raw c w1 ((hR.below hb1 (Nat.le_refl _)).more hb1.size) hl hc HW.out).mono ?_
  rintro e w2 ⟨v, rfl, ⟨A2, c2, rfl, hc2, hr2⟩, hb2⟩
  have HB2 := Lib.hid (Qt.more hb1 hb1.size hb2)
  have HNE := Lib.hid (rawSet_near raw)
  obtain ⟨s, hs⟩ : ∃ s, s = rawSet raw := ⟨_, rfl⟩
  rw [← hs] at hr2 hc2 HNE ⊢
  have HS2 : Hid (Now w2 A2 s) := hr2
  have h60 := HNE.out.1
  clear hs hb1 hb2 hr2 hR HW
  have hpn := pickI_bd n 13 (by omega)
  have hpx := pickI_bd dx 549755813888 (by omega)
  have hpy := pickI_bd dy 549755813888 (by omega)
  go_wp2_with (first
    | (go_at_call_of 29 (Value.int IntKind.i64 n); refine (pick2_any n 13 _ HN.out.1 HN.out.2 (by omega) (by omega)).mono ?_; rintro e w3 ⟨rfl, rfl⟩)
    | (go_at_call_of 29 (Value.int IntKind.i64 dx); refine (pick2_any dx 549755813888 _ HDX.out.1 HDX.out.2 (by omega) (by omega)).mono ?_; rintro e w3 ⟨rfl, rfl⟩)
    | (go_at_call_of 29 (Value.int IntKind.i64 dy); refine (pick2_any dy 549755813888 _ HDY.out.1 HDY.out.2 (by omega) (by omega)).mono ?_; rintro e w3 ⟨rfl, rfl⟩))
  obtain ⟨p, hp⟩ : ∃ p, p = pickI dx 549755813888 := ⟨_, rfl⟩
  obtain ⟨q, hq⟩ : ∃ q, q = pickI dy 549755813888 := ⟨_, rfl⟩
  obtain ⟨k, hk⟩ : ∃ k : Nat, (k : Int) = pickI n 13 := ⟨(pickI n 13).toNat, by omega⟩
  rw [← hp] at hpx ⊢
  rw [← hq] at hpy ⊢
  rw [← hk] at hpn ⊢
  clear hp hq hk
  obtain ⟨F1, F2, F3, F4, F5, F6, F7, F8, F9, F10, F11⟩ := moves_facts HNE.out (t := pickI way 8) hpx hpy (k := k) (by omega)
  obtain ⟨T, hT⟩ : ∃ T, T = turnL (pickI way 8) s := ⟨_, rfl⟩
  obtain ⟨a, ha⟩ : ∃ a, a = iterL k s := ⟨_, rfl⟩
  rw [← hT, ← ha] at F5
  rw [← hT] at F1 F3 F8 F11
  rw [← ha] at F2 F4 F7 F9 F10
  obtain ⟨u, hu⟩ : ∃ u, u = turnL (pickI way 8) a := ⟨_, rfl⟩
  rw [← hu] at F4 F5 F10
  obtain ⟨z, hz⟩ : ∃ z, z = shL p (-q) T := ⟨_, rfl⟩
  have hzl : z.length ≤ 60 := by rw [hz, length_shL]; exact F8
  rw [← hz] at F1 F3 F5 F11
  obtain ⟨b, hb⟩ : ∃ b, b = iterL k z := ⟨_, rfl⟩
  obtain ⟨x, hx⟩ : ∃ x, x = shL p (-q) u := ⟨_, rfl⟩
  have hxl : x.length ≤ 2000 := by rw [hx, length_shL]; exact F10
  rw [← hb] at F3 F5 F11
  rw [← hx] at F4 F5
  have G1 := Lib.hid F1
  have G2 := Lib.hid F2
  have G3 := Lib.hid F3
  have G4 := Lib.hid F4
  have G5 := Lib.hid F5
  have G6 := Lib.hid F6
  have G7 := Lib.hid F7
  have GT := Lib.hid hT.symm
  have GU := Lib.hid hu.symm
  have GK : Hid (I64 (k : Int)) := ⟨by omega, by omega⟩
  have GP : Hid (I64 p) := ⟨by omega, by omega⟩
  have GQ : Hid (I64 (-q)) := ⟨by omega, by omega⟩
  clear F1 F2 F3 F4 F5 F6 F7 hT hu hz hb ha hx
  refine (turned_ok GT.out HS2.out rfl hc2 (by omega) G6.out HWAY.out).mono ?_
  rintro e w3 ⟨A3, c3, rfl, hc3, HT3, hb3⟩
  have HB3 := Lib.hid (Qt.more HB2.out HB2.out.size hb3)
  have HS3 := Lib.hid (HS2.out.below hb3)
  clear hb3 HS2 HB2
  go_wp2_with fail
  refine (refShift_ok G1.out HT3.out rfl hc3 (by omega) GP.out GQ.out).mono ?_
  rintro e w4 ⟨A4, c4, rfl, hc4, HZ4, hb4⟩
  have HB4 := Lib.hid (Qt.more HB3.out HB3.out.size hb4)
  have HS4 := Lib.hid (HS3.out.below hb4)
  clear hb4 HS3 HB3 HT3
  go_wp2_with fail
  refine (run_ok G2.out HS4.out rfl hc2 (by omega) GK.out).mono ?_
  rintro e w5 ⟨A5, c5, rfl, hc5, HA5, hb5⟩
  have HB5 := Lib.hid (Qt.more HB4.out HB4.out.size hb5)
  have HZ5 := Lib.hid (HZ4.out.below hb5)
  clear hb5 HS4 HB4 HZ4
  go_wp2_with fail
  refine (run_ok G3.out HZ5.out rfl hc4 (by omega) GK.out).mono ?_
  rintro e w6 ⟨A6, c6, rfl, hc6, HB6', hb6⟩
  have HB6 := Lib.hid (Qt.more HB5.out HB5.out.size hb6)
  have HA6 := Lib.hid (HA5.out.below hb6)
  clear hb6 HA5 HB5 HZ5
  go_wp2_with fail
  refine (turned_ok GU.out HA6.out rfl hc5 (by omega) G7.out HWAY.out).mono ?_
  rintro e w7 ⟨A7, c7, rfl, hc7, HU7, hb7⟩
  have HB7 := Lib.hid (Qt.more HB6.out HB6.out.size hb7)
  have HBB7 := Lib.hid (HB6'.out.below hb7)
  clear hb7 HA6 HB6 HB6'
  go_wp2_with fail
  refine (refShift_ok G4.out HU7.out rfl hc7 (by omega) GP.out GQ.out).mono ?_
  rintro e w8 ⟨A8, c8, rfl, hc8, HX8, hb8⟩
  have HB8 := Lib.hid (Qt.more HB7.out HB7.out.size hb8)
  have HBB8 := Lib.hid (HBB7.out.below hb8)
  clear hb8 HU7 HB7 HBB7
  go_wp2_with (go_at_call 16; refine (same_eq HBB8.out HX8.out (by omega) G5.out).mono ?_; rintro e w9 ⟨rfl, hb9⟩)
  go_ret
  exact ⟨rfl, Qt.more HB8.out HB8.out.size hb9⟩

end Go.Proofs.Ytafoleafhkadiaa
