/-
  The document's answers of layer 8: One.
-/
import Derived.Test.YtikgnjcjbjafaaaJy
import Derived.Test.YtikgnjcjbjafaaaB17
import Derived.Test.YtikgnjcjbjafaaaGf
namespace Go.Proofs.Ytikgnjcjbjafaaa
set_option maxRecDepth 100000
set_option linter.unusedVariables false
set_option linter.unusedSimpArgs false
open Go.RowKit Go.Sort

/-- how many are alive about a place among sixteen, so far -/
def abT (v : Nat → Int) (p : Nat) : Nat → Int
  | 0 => 0
  | i + 1 => abT v p i + (if i = 4 then 0 else v (p + 4 * (i / 3) + i % 3 - 5))
theorem abT_succ (v : Nat → Int) (p i : Nat) : abT v p (i + 1) = abT v p i + (if i = 4 then 0 else v (p + 4 * (i / 3) + i % 3 - 5)) := rfl
theorem abT_bd {v : Nat → Int} {p : Nat} (hp : p ≤ 10) (hv : ∀ j, j < 16 → 0 ≤ v j ∧ v j ≤ 1) : ∀ i, i ≤ 9 → 0 ≤ abT v p i ∧ abT v p i ≤ i
  | 0, _ => ⟨Int.le_refl _, Int.le_refl _⟩
  | i + 1, hi => by
    have ih := abT_bd hp hv i (by omega)
    rw [abT_succ]
    split
    · omega
    · have := hv (p + 4 * (i / 3) + i % 3 - 5) (by omega)
      omega
/-- is a place alive behind a generation? -/
def lvB (v : Nat → Int) (p : Nat) : Bool := Cel.livesB (decide (v p = 1)) (abT v p 9)
def placeP (k : Nat) : Nat := 4 * (1 + k / 2) + (1 + k % 2)
/-- the kids so far -/
def qkT (v : Nat → Int) : Nat → Kd
  | 0 => (0, 0, 0, 0)
  | k + 1 => if lvB v (placeP k) = true then kset (qkT v k) k 1 else qkT v k
theorem qkT_succ (v : Nat → Int) (k : Nat) : qkT v (k + 1) = if lvB v (placeP k) = true then kset (qkT v k) k 1 else qkT v k := rfl
theorem qkT_four (v : Nat → Int) : qkT v 4 = (if lvB v 5 = true then 1 else 0, if lvB v 6 = true then 1 else 0, if lvB v 9 = true then 1 else 0, if lvB v 10 = true then 1 else 0) := by
  have h4 : qkT v 4 = if lvB v 10 = true then kset (qkT v 3) 3 1 else qkT v 3 := rfl
  have h3 : qkT v 3 = if lvB v 9 = true then kset (qkT v 2) 2 1 else qkT v 2 := rfl
  have h2 : qkT v 2 = if lvB v 6 = true then kset (qkT v 1) 1 1 else qkT v 1 := rfl
  have h1 : qkT v 1 = if lvB v 5 = true then kset (0, 0, 0, 0) 0 1 else (0, 0, 0, 0) := rfl
  rw [h4, h3, h2, h1]
  cases lvB v 5 <;> cases lvB v 6 <;> cases lvB v 9 <;> cases lvB v 10 <;> rfl
/-- the sixteen, by their place -/
def sv (l : List Nd) (n : Nat) (j : Nat) : Int := ((sx l n (j / 4) (j % 4) : Nat) : Int)
theorem abT_about (l : List Nd) (n : Nat) {y x : Nat} (hy : y = 1 ∨ y = 2) (hx : x = 1 ∨ x = 2) : abT (sv l n) (4 * y + x) 9 = ((aboutK l n y x : Nat) : Int) := by
  unfold aboutK
  rcases hy with rfl | rfl <;> rcases hx with rfl | rfl <;> simp [abT, sv] <;> omega
theorem lvB_nx (l : List Nd) (n : Nat) {y x : Nat} (hy : y = 1 ∨ y = 2) (hx : x = 1 ∨ x = 2) : (if lvB (sv l n) (4 * y + x) = true then (1 : Int) else 0) = ((nxK l n y x : Nat) : Int) := by
  unfold lvB nxK
  rw [abT_about l n hy hx]
  have e : decide (sv l n (4 * y + x) = 1) = decide (sx l n y x = 1) := by
    apply decide_eq_decide.2
    unfold sv
    rw [show (4 * y + x) / 4 = y by omega, show (4 * y + x) % 4 = x by omega]
    omega
  rw [e]
  split <;> rfl
theorem qkT_step (l : List Nd) (n : Nat) : qkT (sv l n) 4 = stepK l n := by
  rw [qkT_four]
  unfold stepK
  rw [← lvB_nx l n (y := 1) (x := 1) (.inl rfl) (.inl rfl), ← lvB_nx l n (y := 1) (x := 2) (.inl rfl) (.inr rfl), ← lvB_nx l n (y := 2) (x := 1) (.inr rfl) (.inl rfl), ← lvB_nx l n (y := 2) (x := 2) (.inr rfl) (.inr rfl)]
theorem sxTo_sv (l : List Nd) (n : Nat) {j : Nat} (hj : j < 16) : (sxTo l n 16).getD j 0 = sv l n j := sxTo_get l n hj
/-- what is known in One's loop over kids -/
structure OnAt (w w2 wr : World) (A : Option Addr) (l : List Nd) (c : Nat) (room : Int) (q : Kd) : Prop where
  e7 : E7At w wr A l c room
  kids : KR wr w2.heap.size q
  bel : Below w2.heap.size w2 wr
theorem OnAt.below {w w2 wr w' : World} {A : Option Addr} {l : List Nd} {c : Nat} {room : Int} {q : Kd} (h : OnAt w w2 wr A l c room q) (hb : Below wr.heap.size wr w') : OnAt w w2 w' A l c room q := ⟨h.e7.below hb, (hb.block _ (lt_heap6 h.kids)).trans h.kids, Qt.more h.bel h.bel.size hb⟩
theorem OnAt.set {w w2 wr : World} {A : Option Addr} {l : List Nd} {c : Nat} {room : Int} {q : Kd} (h : OnAt w w2 wr A l c room q) (hs : w.heap.size + 2 ≤ w2.heap.size) {j : Nat} (hj : j < 4) (x : Int) : OnAt w w2 (wr.setCell ⟨w2.heap.size, j, none⟩ (.int .i64 x)) A l c room (kset q j x) :=
  ⟨h.e7.set h.kids (Nat.le_of_ble_eq_true rfl) hs j _, h.kids.set hj x, h.bel.setCell (by show w2.heap.size ≤ w2.heap.size; omega) _⟩
set_option maxHeartbeats 16000000 in
theorem refOne_any {room : Int} {l : List Nd} (hr : Right6 l room) (A : Option Addr) (c : Nat) {n : Nat} (w : World) (hn : Is l 2 n) (hR : RdN w w.heap.size A l) (hc : l.length ≤ c) :
    Calls Try.prog 68 #[storeV A l.length c room, .int .i64 (n : Nat)] w (PutR (put6 l room (stepK l n)) room w) := by
  have hE := e7_0 hR hc room
  have h16 := refSixteen_any hr A c room _ (e := 0) hn hE.st.rd
  have hput := fun W (hW : RdN W W.heap.size A l) => refPut7 (A := A) (c := c) (stepK l n) hW hr hc
  have hq4 := qkT_step l n
  have hvb : ∀ j, j < 16 → 0 ≤ sv l n j ∧ sv l n j ≤ 1 := fun j hj => by
    have := sx_two hr hn (y := j / 4) (x := j % 4) (by omega) (by omega)
    unfold sv
    omega
  have hsv := fun j (hj : j < 16) => sxTo_sv l n hj
  have hL16 := sxTo_len l n 16
  generalize put6 l room (stepK l n) = z at *
  generalize sxTo l n 16 = L at *
  generalize sv l n = v at *
  rw [← hq4] at hput
  have s0 := hE.s0
  have s1 := hE.s1
  have HE := Lib.hid hE
  have HVB := Lib.hid hvb
  have HPUT := Lib.hid hput
  have HSV := Lib.hid hsv
  unfold storeV at h16 ⊢
  clear hR hr hE hq4 hvb hput hsv
  go_enter Try.func68, Try.ntmps68
  go_wp2_with fail
  refine h16.mono ?_
  generalize (w.alloc (.cells #[.slice A l.length c, .int .i64 room] 27)).alloc (.cells #[.slice none 0 0, .int .i64 0] 27) = wx at *
  rintro r w2 ⟨A8, c8, rfl, hc8, hR8, hb2⟩
  have hE2 := HE.out.below hb2
  have hs2 := hE2.size
  have hal := (Below.refl w2.heap.size w2).alloc (Nat.le_refl _) (.cells #[.int .i64 0, .int .i64 0, .int .i64 0, .int .i64 0] 52)
  have HO0 := Lib.hid (show OnAt w w2 (w2.alloc (.cells #[.int .i64 0, .int .i64 0, .int .i64 0, .int .i64 0] 52)) A l c room (qkT v 0) from ⟨hE2.below hal, heap_new rfl, hal⟩)
  obtain ⟨b8, o8, rfl, hlt8, hcell⟩ := Rd.at_ hR8 (by omega)
  have hxc : ∀ j, j < 16 → w2.cell? ⟨b8, o8 + j, none⟩ = some (.int .i64 (v j)) := fun j hj => by rw [← HSV.out j hj]; exact hcell j (by omega)
  have HXC := Lib.hid hxc
  have hLz : (L.length : Int) = 16 := by omega
  clear h16 HE s0 s1 hb2 hE2 hR8 hcell hxc hal HSV
  go_wp2_with fail
  generalize (w2.alloc (.cells #[.int .i64 0, .int .i64 0, .int .i64 0, .int .i64 0] 52)) = w3 at *
  go_loopw [9] (fun u wr => ∃ k : Nat, k ≤ 4 ∧ u = .int .i64 k ∧ Hid (OnAt w w2 wr A l c room (qkT v k))) (fun u _ => 4 - (intOf u).toNat)
  case atStart => exact ⟨0, Nat.zero_le _, rfl, HO0.out⟩
  case round =>
    obtain ⟨k, hk, rfl, HH⟩ := hrel
    by_cases hlt : k < 4
    · have hltz : (k : Int) < 4 := by omega
      have hqs := qkT_succ v k
      have HQS := Lib.hid hqs
      obtain ⟨wo, hwo⟩ : ∃ wo, wo = wr := ⟨_, rfl⟩
      rw [← hwo] at HH ⊢
      clear hwo hqs HO0
      rcases (by omega : k = 0 ∨ k = 1 ∨ k = 2 ∨ k = 3) with rfl | rfl | rfl | rfl
      · go_wp2_with fail
        go_loopw [12, 13] (fun a u wr => ∃ i : Nat, i ≤ 9 ∧ u = .int .i64 i ∧ a = .int .i64 (abT v 5 i) ∧ Hid (Below wo.heap.size wo wr)) (fun _ u _ => 9 - (intOf u).toNat)
        case atStart => exact ⟨0, Nat.zero_le _, rfl, rfl, Below.refl _ _⟩
        case round =>
          obtain ⟨i, hi, rfl, rfl, HI⟩ := hrel
          have hab := abT_bd (p := 5) (by decide) HVB.out i hi
          have hbw := Qt.more HH.out.bel HH.out.bel.size HI.out
          have hx : ∀ j, j < 16 → wr.cell? ⟨b8, o8 + j, none⟩ = some (.int .i64 (v j)) := fun j hj => (hbw.cell (p := ⟨b8, o8 + j, none⟩) hlt8).trans (HXC.out j hj)
          have x0 : wr.cell? ⟨b8, o8, none⟩ = some (.int .i64 (v 0)) := hx 0 (by decide)
          have x1 := hx 1 (by decide)
          have x2 := hx 2 (by decide)
          have x3 := hx 3 (by decide)
          have x4 := hx 4 (by decide)
          have x5 := hx 5 (by decide)
          have x6 := hx 6 (by decide)
          have x7 := hx 7 (by decide)
          have x8 := hx 8 (by decide)
          have x9 := hx 9 (by decide)
          have x10 := hx 10 (by decide)
          have x11 := hx 11 (by decide)
          have x12 := hx 12 (by decide)
          have x13 := hx 13 (by decide)
          have x14 := hx 14 (by decide)
          have x15 := hx 15 (by decide)
          by_cases hlx : i < 9
          · have hlxz : (i : Int) < 9 := by omega
            have HSC := Lib.hid (abT_succ v 5 i)
            generalize abT v 5 i = ab at *
            have HWR := Lib.hid (fun j (hj : j < 16) => (by have := HVB.out j hj; rw [IntKind.wrap_i64]; omega : IntKind.i64.wrap (ab + v j) = ab + v j))
            have HIB := Lib.hid HI.out
            clear hx hbw hab HI
            rcases (by omega : i = 0 ∨ i = 1 ∨ i = 2 ∨ i = 3 ∨ i = 4 ∨ i = 5 ∨ i = 6 ∨ i = 7 ∨ i = 8) with rfl | rfl | rfl | rfl | rfl | rfl | rfl | rfl | rfl
            · skip
              have hw := HWR.out 0 (by decide)
              go_wp2_with fail
              go_roundw
              case measure => simp [intOf]
              case rel => exact ⟨1, by decide, by go_num, by rw [HSC.out]; simp, HIB.out⟩
            · skip
              have hw := HWR.out 1 (by decide)
              go_wp2_with fail
              go_roundw
              case measure => simp [intOf]
              case rel => exact ⟨2, by decide, by go_num, by rw [HSC.out]; simp, HIB.out⟩
            · skip
              have hw := HWR.out 2 (by decide)
              go_wp2_with fail
              go_roundw
              case measure => simp [intOf]
              case rel => exact ⟨3, by decide, by go_num, by rw [HSC.out]; simp, HIB.out⟩
            · skip
              have hw := HWR.out 4 (by decide)
              go_wp2_with fail
              go_roundw
              case measure => simp [intOf]
              case rel => exact ⟨4, by decide, by go_num, by rw [HSC.out]; simp, HIB.out⟩
            · skip
              go_wp2_with fail
              go_roundw
              case measure => simp [intOf]
              case rel => exact ⟨5, by decide, by go_num, by rw [HSC.out]; simp, HIB.out⟩
            · skip
              have hw := HWR.out 6 (by decide)
              go_wp2_with fail
              go_roundw
              case measure => simp [intOf]
              case rel => exact ⟨6, by decide, by go_num, by rw [HSC.out]; simp, HIB.out⟩
            · skip
              have hw := HWR.out 8 (by decide)
              go_wp2_with fail
              go_roundw
              case measure => simp [intOf]
              case rel => exact ⟨7, by decide, by go_num, by rw [HSC.out]; simp, HIB.out⟩
            · skip
              have hw := HWR.out 9 (by decide)
              go_wp2_with fail
              go_roundw
              case measure => simp [intOf]
              case rel => exact ⟨8, by decide, by go_num, by rw [HSC.out]; simp, HIB.out⟩
            · skip
              have hw := HWR.out 10 (by decide)
              go_wp2_with fail
              go_roundw
              case measure => simp [intOf]
              case rel => exact ⟨9, by decide, by go_num, by rw [HSC.out]; simp, HIB.out⟩
          · obtain rfl : i = 9 := by omega
            have hlxz : ¬ ((9 : Nat) : Int) < 9 := by decide
            have hO := HH.out.below HI.out
            have hlb : lvB v 5 = Cel.livesB (decide (v 5 = 1)) (abT v 5 9) := rfl
            have hqs : qkT v (0 + 1) = if lvB v 5 = true then kset (qkT v 0) 0 1 else qkT v 0 := HQS.out
            have g0 := hO.kids.c (j := 0) (by decide)
            have f0 : wr.frozen? ⟨w2.heap.size, 0, none⟩ = false := Lib.frozen_of_heap hO.kids 0
            have HON := Lib.hid hO
            generalize abT v 5 9 = ab at *
            clear hx hbw hab HH HI x0 x1 x2 x3 x4 x7 x8 x11 x12 x13 x14 x15 hO HQS
            have hlv := Cel.refLives_any (decide (v 5 = 1)) ab wr
            rw [← hlb] at hlv
            have HQS := Lib.hid hqs
            clear hlb hqs
            cases hb : lvB v 5 with
            | true =>
              rw [hb] at hlv
              have HB := Lib.hid hb
              clear hb
              go_wp2_with fail
              refine hlv.mono ?_
              rintro r _ ⟨rfl, rfl⟩
              have HN := Lib.hid (HON.out.set hs2 (j := 0) (by decide) 1)
              clear hlv
              go_wp2_with fail
              go_roundw
              case measure => simp [intOf]
              case rel => exact ⟨1, by decide, by go_num, by rw [HQS.out, if_pos HB.out]; exact HN.out⟩
            | false =>
              rw [hb] at hlv
              have HB := Lib.hid hb
              clear hb
              go_wp2_with fail
              refine hlv.mono ?_
              rintro r _ ⟨rfl, rfl⟩
              clear hlv
              go_wp2_with fail
              go_roundw
              case measure => simp [intOf]
              case rel => exact ⟨1, by decide, by go_num, by rw [HQS.out, if_neg (by rw [HB.out]; decide)]; exact HON.out⟩
      · go_wp2_with fail
        go_loopw [12, 13] (fun a u wr => ∃ i : Nat, i ≤ 9 ∧ u = .int .i64 i ∧ a = .int .i64 (abT v 6 i) ∧ Hid (Below wo.heap.size wo wr)) (fun _ u _ => 9 - (intOf u).toNat)
        case atStart => exact ⟨0, Nat.zero_le _, rfl, rfl, Below.refl _ _⟩
        case round =>
          obtain ⟨i, hi, rfl, rfl, HI⟩ := hrel
          have hab := abT_bd (p := 6) (by decide) HVB.out i hi
          have hbw := Qt.more HH.out.bel HH.out.bel.size HI.out
          have hx : ∀ j, j < 16 → wr.cell? ⟨b8, o8 + j, none⟩ = some (.int .i64 (v j)) := fun j hj => (hbw.cell (p := ⟨b8, o8 + j, none⟩) hlt8).trans (HXC.out j hj)
          have x0 : wr.cell? ⟨b8, o8, none⟩ = some (.int .i64 (v 0)) := hx 0 (by decide)
          have x1 := hx 1 (by decide)
          have x2 := hx 2 (by decide)
          have x3 := hx 3 (by decide)
          have x4 := hx 4 (by decide)
          have x5 := hx 5 (by decide)
          have x6 := hx 6 (by decide)
          have x7 := hx 7 (by decide)
          have x8 := hx 8 (by decide)
          have x9 := hx 9 (by decide)
          have x10 := hx 10 (by decide)
          have x11 := hx 11 (by decide)
          have x12 := hx 12 (by decide)
          have x13 := hx 13 (by decide)
          have x14 := hx 14 (by decide)
          have x15 := hx 15 (by decide)
          by_cases hlx : i < 9
          · have hlxz : (i : Int) < 9 := by omega
            have HSC := Lib.hid (abT_succ v 6 i)
            generalize abT v 6 i = ab at *
            have HWR := Lib.hid (fun j (hj : j < 16) => (by have := HVB.out j hj; rw [IntKind.wrap_i64]; omega : IntKind.i64.wrap (ab + v j) = ab + v j))
            have HIB := Lib.hid HI.out
            clear hx hbw hab HI
            rcases (by omega : i = 0 ∨ i = 1 ∨ i = 2 ∨ i = 3 ∨ i = 4 ∨ i = 5 ∨ i = 6 ∨ i = 7 ∨ i = 8) with rfl | rfl | rfl | rfl | rfl | rfl | rfl | rfl | rfl
            · skip
              have hw := HWR.out 1 (by decide)
              go_wp2_with fail
              go_roundw
              case measure => simp [intOf]
              case rel => exact ⟨1, by decide, by go_num, by rw [HSC.out]; simp, HIB.out⟩
            · skip
              have hw := HWR.out 2 (by decide)
              go_wp2_with fail
              go_roundw
              case measure => simp [intOf]
              case rel => exact ⟨2, by decide, by go_num, by rw [HSC.out]; simp, HIB.out⟩
            · skip
              have hw := HWR.out 3 (by decide)
              go_wp2_with fail
              go_roundw
              case measure => simp [intOf]
              case rel => exact ⟨3, by decide, by go_num, by rw [HSC.out]; simp, HIB.out⟩
            · skip
              have hw := HWR.out 5 (by decide)
              go_wp2_with fail
              go_roundw
              case measure => simp [intOf]
              case rel => exact ⟨4, by decide, by go_num, by rw [HSC.out]; simp, HIB.out⟩
            · skip
              go_wp2_with fail
              go_roundw
              case measure => simp [intOf]
              case rel => exact ⟨5, by decide, by go_num, by rw [HSC.out]; simp, HIB.out⟩
            · skip
              have hw := HWR.out 7 (by decide)
              go_wp2_with fail
              go_roundw
              case measure => simp [intOf]
              case rel => exact ⟨6, by decide, by go_num, by rw [HSC.out]; simp, HIB.out⟩
            · skip
              have hw := HWR.out 9 (by decide)
              go_wp2_with fail
              go_roundw
              case measure => simp [intOf]
              case rel => exact ⟨7, by decide, by go_num, by rw [HSC.out]; simp, HIB.out⟩
            · skip
              have hw := HWR.out 10 (by decide)
              go_wp2_with fail
              go_roundw
              case measure => simp [intOf]
              case rel => exact ⟨8, by decide, by go_num, by rw [HSC.out]; simp, HIB.out⟩
            · skip
              have hw := HWR.out 11 (by decide)
              go_wp2_with fail
              go_roundw
              case measure => simp [intOf]
              case rel => exact ⟨9, by decide, by go_num, by rw [HSC.out]; simp, HIB.out⟩
          · obtain rfl : i = 9 := by omega
            have hlxz : ¬ ((9 : Nat) : Int) < 9 := by decide
            have hO := HH.out.below HI.out
            have hlb : lvB v 6 = Cel.livesB (decide (v 6 = 1)) (abT v 6 9) := rfl
            have hqs : qkT v (1 + 1) = if lvB v 6 = true then kset (qkT v 1) 1 1 else qkT v 1 := HQS.out
            have g0 := hO.kids.c (j := 1) (by decide)
            have f0 : wr.frozen? ⟨w2.heap.size, 1, none⟩ = false := Lib.frozen_of_heap hO.kids 1
            have HON := Lib.hid hO
            generalize abT v 6 9 = ab at *
            clear hx hbw hab HH HI x0 x1 x2 x3 x4 x7 x8 x11 x12 x13 x14 x15 hO HQS
            have hlv := Cel.refLives_any (decide (v 6 = 1)) ab wr
            rw [← hlb] at hlv
            have HQS := Lib.hid hqs
            clear hlb hqs
            cases hb : lvB v 6 with
            | true =>
              rw [hb] at hlv
              have HB := Lib.hid hb
              clear hb
              go_wp2_with fail
              refine hlv.mono ?_
              rintro r _ ⟨rfl, rfl⟩
              have HN := Lib.hid (HON.out.set hs2 (j := 1) (by decide) 1)
              clear hlv
              go_wp2_with fail
              go_roundw
              case measure => simp [intOf]
              case rel => exact ⟨2, by decide, by go_num, by rw [HQS.out, if_pos HB.out]; exact HN.out⟩
            | false =>
              rw [hb] at hlv
              have HB := Lib.hid hb
              clear hb
              go_wp2_with fail
              refine hlv.mono ?_
              rintro r _ ⟨rfl, rfl⟩
              clear hlv
              go_wp2_with fail
              go_roundw
              case measure => simp [intOf]
              case rel => exact ⟨2, by decide, by go_num, by rw [HQS.out, if_neg (by rw [HB.out]; decide)]; exact HON.out⟩
      · go_wp2_with fail
        go_loopw [12, 13] (fun a u wr => ∃ i : Nat, i ≤ 9 ∧ u = .int .i64 i ∧ a = .int .i64 (abT v 9 i) ∧ Hid (Below wo.heap.size wo wr)) (fun _ u _ => 9 - (intOf u).toNat)
        case atStart => exact ⟨0, Nat.zero_le _, rfl, rfl, Below.refl _ _⟩
        case round =>
          obtain ⟨i, hi, rfl, rfl, HI⟩ := hrel
          have hab := abT_bd (p := 9) (by decide) HVB.out i hi
          have hbw := Qt.more HH.out.bel HH.out.bel.size HI.out
          have hx : ∀ j, j < 16 → wr.cell? ⟨b8, o8 + j, none⟩ = some (.int .i64 (v j)) := fun j hj => (hbw.cell (p := ⟨b8, o8 + j, none⟩) hlt8).trans (HXC.out j hj)
          have x0 : wr.cell? ⟨b8, o8, none⟩ = some (.int .i64 (v 0)) := hx 0 (by decide)
          have x1 := hx 1 (by decide)
          have x2 := hx 2 (by decide)
          have x3 := hx 3 (by decide)
          have x4 := hx 4 (by decide)
          have x5 := hx 5 (by decide)
          have x6 := hx 6 (by decide)
          have x7 := hx 7 (by decide)
          have x8 := hx 8 (by decide)
          have x9 := hx 9 (by decide)
          have x10 := hx 10 (by decide)
          have x11 := hx 11 (by decide)
          have x12 := hx 12 (by decide)
          have x13 := hx 13 (by decide)
          have x14 := hx 14 (by decide)
          have x15 := hx 15 (by decide)
          by_cases hlx : i < 9
          · have hlxz : (i : Int) < 9 := by omega
            have HSC := Lib.hid (abT_succ v 9 i)
            generalize abT v 9 i = ab at *
            have HWR := Lib.hid (fun j (hj : j < 16) => (by have := HVB.out j hj; rw [IntKind.wrap_i64]; omega : IntKind.i64.wrap (ab + v j) = ab + v j))
            have HIB := Lib.hid HI.out
            clear hx hbw hab HI
            rcases (by omega : i = 0 ∨ i = 1 ∨ i = 2 ∨ i = 3 ∨ i = 4 ∨ i = 5 ∨ i = 6 ∨ i = 7 ∨ i = 8) with rfl | rfl | rfl | rfl | rfl | rfl | rfl | rfl | rfl
            · skip
              have hw := HWR.out 4 (by decide)
              go_wp2_with fail
              go_roundw
              case measure => simp [intOf]
              case rel => exact ⟨1, by decide, by go_num, by rw [HSC.out]; simp, HIB.out⟩
            · skip
              have hw := HWR.out 5 (by decide)
              go_wp2_with fail
              go_roundw
              case measure => simp [intOf]
              case rel => exact ⟨2, by decide, by go_num, by rw [HSC.out]; simp, HIB.out⟩
            · skip
              have hw := HWR.out 6 (by decide)
              go_wp2_with fail
              go_roundw
              case measure => simp [intOf]
              case rel => exact ⟨3, by decide, by go_num, by rw [HSC.out]; simp, HIB.out⟩
            · skip
              have hw := HWR.out 8 (by decide)
              go_wp2_with fail
              go_roundw
              case measure => simp [intOf]
              case rel => exact ⟨4, by decide, by go_num, by rw [HSC.out]; simp, HIB.out⟩
            · skip
              go_wp2_with fail
              go_roundw
              case measure => simp [intOf]
              case rel => exact ⟨5, by decide, by go_num, by rw [HSC.out]; simp, HIB.out⟩
            · skip
              have hw := HWR.out 10 (by decide)
              go_wp2_with fail
              go_roundw
              case measure => simp [intOf]
              case rel => exact ⟨6, by decide, by go_num, by rw [HSC.out]; simp, HIB.out⟩
            · skip
              have hw := HWR.out 12 (by decide)
              go_wp2_with fail
              go_roundw
              case measure => simp [intOf]
              case rel => exact ⟨7, by decide, by go_num, by rw [HSC.out]; simp, HIB.out⟩
            · skip
              have hw := HWR.out 13 (by decide)
              go_wp2_with fail
              go_roundw
              case measure => simp [intOf]
              case rel => exact ⟨8, by decide, by go_num, by rw [HSC.out]; simp, HIB.out⟩
            · skip
              have hw := HWR.out 14 (by decide)
              go_wp2_with fail
              go_roundw
              case measure => simp [intOf]
              case rel => exact ⟨9, by decide, by go_num, by rw [HSC.out]; simp, HIB.out⟩
          · obtain rfl : i = 9 := by omega
            have hlxz : ¬ ((9 : Nat) : Int) < 9 := by decide
            have hO := HH.out.below HI.out
            have hlb : lvB v 9 = Cel.livesB (decide (v 9 = 1)) (abT v 9 9) := rfl
            have hqs : qkT v (2 + 1) = if lvB v 9 = true then kset (qkT v 2) 2 1 else qkT v 2 := HQS.out
            have g0 := hO.kids.c (j := 2) (by decide)
            have f0 : wr.frozen? ⟨w2.heap.size, 2, none⟩ = false := Lib.frozen_of_heap hO.kids 2
            have HON := Lib.hid hO
            generalize abT v 9 9 = ab at *
            clear hx hbw hab HH HI x0 x1 x2 x3 x4 x7 x8 x11 x12 x13 x14 x15 hO HQS
            have hlv := Cel.refLives_any (decide (v 9 = 1)) ab wr
            rw [← hlb] at hlv
            have HQS := Lib.hid hqs
            clear hlb hqs
            cases hb : lvB v 9 with
            | true =>
              rw [hb] at hlv
              have HB := Lib.hid hb
              clear hb
              go_wp2_with fail
              refine hlv.mono ?_
              rintro r _ ⟨rfl, rfl⟩
              have HN := Lib.hid (HON.out.set hs2 (j := 2) (by decide) 1)
              clear hlv
              go_wp2_with fail
              go_roundw
              case measure => simp [intOf]
              case rel => exact ⟨3, by decide, by go_num, by rw [HQS.out, if_pos HB.out]; exact HN.out⟩
            | false =>
              rw [hb] at hlv
              have HB := Lib.hid hb
              clear hb
              go_wp2_with fail
              refine hlv.mono ?_
              rintro r _ ⟨rfl, rfl⟩
              clear hlv
              go_wp2_with fail
              go_roundw
              case measure => simp [intOf]
              case rel => exact ⟨3, by decide, by go_num, by rw [HQS.out, if_neg (by rw [HB.out]; decide)]; exact HON.out⟩
      · go_wp2_with fail
        go_loopw [12, 13] (fun a u wr => ∃ i : Nat, i ≤ 9 ∧ u = .int .i64 i ∧ a = .int .i64 (abT v 10 i) ∧ Hid (Below wo.heap.size wo wr)) (fun _ u _ => 9 - (intOf u).toNat)
        case atStart => exact ⟨0, Nat.zero_le _, rfl, rfl, Below.refl _ _⟩
        case round =>
          obtain ⟨i, hi, rfl, rfl, HI⟩ := hrel
          have hab := abT_bd (p := 10) (by decide) HVB.out i hi
          have hbw := Qt.more HH.out.bel HH.out.bel.size HI.out
          have hx : ∀ j, j < 16 → wr.cell? ⟨b8, o8 + j, none⟩ = some (.int .i64 (v j)) := fun j hj => (hbw.cell (p := ⟨b8, o8 + j, none⟩) hlt8).trans (HXC.out j hj)
          have x0 : wr.cell? ⟨b8, o8, none⟩ = some (.int .i64 (v 0)) := hx 0 (by decide)
          have x1 := hx 1 (by decide)
          have x2 := hx 2 (by decide)
          have x3 := hx 3 (by decide)
          have x4 := hx 4 (by decide)
          have x5 := hx 5 (by decide)
          have x6 := hx 6 (by decide)
          have x7 := hx 7 (by decide)
          have x8 := hx 8 (by decide)
          have x9 := hx 9 (by decide)
          have x10 := hx 10 (by decide)
          have x11 := hx 11 (by decide)
          have x12 := hx 12 (by decide)
          have x13 := hx 13 (by decide)
          have x14 := hx 14 (by decide)
          have x15 := hx 15 (by decide)
          by_cases hlx : i < 9
          · have hlxz : (i : Int) < 9 := by omega
            have HSC := Lib.hid (abT_succ v 10 i)
            generalize abT v 10 i = ab at *
            have HWR := Lib.hid (fun j (hj : j < 16) => (by have := HVB.out j hj; rw [IntKind.wrap_i64]; omega : IntKind.i64.wrap (ab + v j) = ab + v j))
            have HIB := Lib.hid HI.out
            clear hx hbw hab HI
            rcases (by omega : i = 0 ∨ i = 1 ∨ i = 2 ∨ i = 3 ∨ i = 4 ∨ i = 5 ∨ i = 6 ∨ i = 7 ∨ i = 8) with rfl | rfl | rfl | rfl | rfl | rfl | rfl | rfl | rfl
            · skip
              have hw := HWR.out 5 (by decide)
              go_wp2_with fail
              go_roundw
              case measure => simp [intOf]
              case rel => exact ⟨1, by decide, by go_num, by rw [HSC.out]; simp, HIB.out⟩
            · skip
              have hw := HWR.out 6 (by decide)
              go_wp2_with fail
              go_roundw
              case measure => simp [intOf]
              case rel => exact ⟨2, by decide, by go_num, by rw [HSC.out]; simp, HIB.out⟩
            · skip
              have hw := HWR.out 7 (by decide)
              go_wp2_with fail
              go_roundw
              case measure => simp [intOf]
              case rel => exact ⟨3, by decide, by go_num, by rw [HSC.out]; simp, HIB.out⟩
            · skip
              have hw := HWR.out 9 (by decide)
              go_wp2_with fail
              go_roundw
              case measure => simp [intOf]
              case rel => exact ⟨4, by decide, by go_num, by rw [HSC.out]; simp, HIB.out⟩
            · skip
              go_wp2_with fail
              go_roundw
              case measure => simp [intOf]
              case rel => exact ⟨5, by decide, by go_num, by rw [HSC.out]; simp, HIB.out⟩
            · skip
              have hw := HWR.out 11 (by decide)
              go_wp2_with fail
              go_roundw
              case measure => simp [intOf]
              case rel => exact ⟨6, by decide, by go_num, by rw [HSC.out]; simp, HIB.out⟩
            · skip
              have hw := HWR.out 13 (by decide)
              go_wp2_with fail
              go_roundw
              case measure => simp [intOf]
              case rel => exact ⟨7, by decide, by go_num, by rw [HSC.out]; simp, HIB.out⟩
            · skip
              have hw := HWR.out 14 (by decide)
              go_wp2_with fail
              go_roundw
              case measure => simp [intOf]
              case rel => exact ⟨8, by decide, by go_num, by rw [HSC.out]; simp, HIB.out⟩
            · skip
              have hw := HWR.out 15 (by decide)
              go_wp2_with fail
              go_roundw
              case measure => simp [intOf]
              case rel => exact ⟨9, by decide, by go_num, by rw [HSC.out]; simp, HIB.out⟩
          · obtain rfl : i = 9 := by omega
            have hlxz : ¬ ((9 : Nat) : Int) < 9 := by decide
            have hO := HH.out.below HI.out
            have hlb : lvB v 10 = Cel.livesB (decide (v 10 = 1)) (abT v 10 9) := rfl
            have hqs : qkT v (3 + 1) = if lvB v 10 = true then kset (qkT v 3) 3 1 else qkT v 3 := HQS.out
            have g0 := hO.kids.c (j := 3) (by decide)
            have f0 : wr.frozen? ⟨w2.heap.size, 3, none⟩ = false := Lib.frozen_of_heap hO.kids 3
            have HON := Lib.hid hO
            generalize abT v 10 9 = ab at *
            clear hx hbw hab HH HI x0 x1 x2 x3 x4 x7 x8 x11 x12 x13 x14 x15 hO HQS
            have hlv := Cel.refLives_any (decide (v 10 = 1)) ab wr
            rw [← hlb] at hlv
            have HQS := Lib.hid hqs
            clear hlb hqs
            cases hb : lvB v 10 with
            | true =>
              rw [hb] at hlv
              have HB := Lib.hid hb
              clear hb
              go_wp2_with fail
              refine hlv.mono ?_
              rintro r _ ⟨rfl, rfl⟩
              have HN := Lib.hid (HON.out.set hs2 (j := 3) (by decide) 1)
              clear hlv
              go_wp2_with fail
              go_roundw
              case measure => simp [intOf]
              case rel => exact ⟨4, by decide, by go_num, by rw [HQS.out, if_pos HB.out]; exact HN.out⟩
            | false =>
              rw [hb] at hlv
              have HB := Lib.hid hb
              clear hb
              go_wp2_with fail
              refine hlv.mono ?_
              rintro r _ ⟨rfl, rfl⟩
              clear hlv
              go_wp2_with fail
              go_roundw
              case measure => simp [intOf]
              case rel => exact ⟨4, by decide, by go_num, by rw [HQS.out, if_neg (by rw [HB.out]; decide)]; exact HON.out⟩
    · obtain rfl : k = 4 := by omega
      have hltz : ¬ ((4 : Nat) : Int) < 4 := by decide
      have hO := HH.out
      have s0 := hO.e7.s0
      have s1 := hO.e7.s1
      have k0 := hO.kids.c (j := 0) (by decide)
      have k1 := hO.kids.c (j := 1) (by decide)
      have k2 := hO.kids.c (j := 2) (by decide)
      have k3 := hO.kids.c (j := 3) (by decide)
      simp only [kd] at k0 k1 k2 k3
      have hc := HPUT.out wr hO.e7.st.rd
      have HE4 := Lib.hid hO.e7
      clear HH hO HPUT
      go_wp2_with fail
      refine hc.mono ?_
      rintro e w5 ⟨v9, rfl, ⟨A2, c2, rfl, hc2, hR2⟩, hb5⟩
      have HD := Lib.hid (HE4.out.below hb5)
      have r0 := HD.out.r0
      have r1 := HD.out.r1
      have fr0 := HD.out.free 0
      have fr1 := HD.out.free 1
      have HT := Lib.hid (HD.out.told hR2 (.slice A2 z.1.length c2) (.int .i64 room))
      clear hc hb5 hR2 HE4 HD s0 s1 k0 k1 k2 k3
      go_wp2_with fail
      clear r0 r1 fr0 fr1
      refine bodyPost_ret (results_cell3 rfl _ _ _ _ _ _ _ rfl HT.out.1 Try.underlying27 rfl (by kernel_rfl)) rfl ?_
      exact ⟨_, rfl, ⟨A2, c2, rfl, hc2, HT.out.2.2⟩, HT.out.2.1⟩
end Go.Proofs.Ytikgnjcjbjafaaa
