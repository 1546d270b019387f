/-
  The laws' bits: the text of a node's cells.
-/
import Derived.Test.YtcmdhochofoohaaRr
import Derived.Laws.IdiomStrings
namespace Go.Proofs.Ytcmdhochofoohaa
set_option maxRecDepth 100000
set_option linter.unusedVariables false
set_option linter.unusedSimpArgs false
open Go.RowKit Go.Sort

def txB (a : List UInt8) : ByteArray := ⟨a.toArray⟩
theorem txB_size (a : List UInt8) : (txB a).size = a.length := by show a.toArray.size = _; simp
theorem txB_append (a b : List UInt8) : txB a ++ txB b = txB (a ++ b) := by
  apply ByteArray.ext
  simp [txB]
theorem txB_mid (a : List UInt8) (p d : Nat) : (txB a).extract p (p + d) = txB ((a.drop p).take d) := by
  apply ByteArray.ext
  simp [txB, List.extract_eq_take_drop]
theorem conv_u8 (W : World) (x : UInt8) (v : Int) (hv : (x.toNat : Int) = v) : (convert 95 9 (.slice (some ⟨W.heap.size, 0, none⟩) 1 1)).run Try.prog (W.alloc (.cells #[.int .u8 v] 5)) = .ok (.string ⟨#[x]⟩) (W.alloc (.cells #[.int .u8 v] 5)) := by
  refine run_convert_bytes_back (P := Try.prog) _ 95 9 5 ⟨W.heap.size, 0, none⟩ 1 [x] Try.underlying95 Try.underlying5 Try.underlying9 fun j hj => ?_
  have hj0 : j = 0 := by simp at hj; omega
  subst hj0
  simp only [List.getElem_cons_zero, hv]
  simp [Addr.add]
/-- A node in a box. -/
structure NdB (w : World) (b : Nat) (x : Nd) : Prop where
  row : w.heap[b]? = some (.cells #[.int .i64 x.1, .int .i64 x.2.1.1, .int .i64 x.2.1.2.1, .int .i64 x.2.1.2.2.1, .int .i64 x.2.1.2.2.2, .int .i64 x.2.2] 49 (0, 0))
theorem NdB.below {w w' : World} {b : Nat} {x : Nd} (h : NdB w b x) (hb : Below w.heap.size w w') : NdB w' b x := ⟨(hb.block _ (lt_heap6 h.row)).trans h.row⟩
theorem NdB.lev {w : World} {b : Nat} {x : Nd} (h : NdB w b x) : w.cell? ⟨b, 0, none⟩ = some (.int .i64 x.1) := by rw [Lib.cell_of_heap h.row]; rfl
theorem NdB.kid {w : World} {b : Nat} {x : Nd} (h : NdB w b x) {j : Nat} (hj : j < 4) : w.cell? ⟨b, 1 + j, none⟩ = some (.int .i64 (kd x.2.1 j)) := by
  rw [Lib.cell_of_heap h.row]
  match j, hj with
  | 0, _ => rfl
  | 1, _ => rfl
  | 2, _ => rfl
  | 3, _ => rfl

set_option maxHeartbeats 4000000 in
set_option maxRecDepth 100000 in
theorem bits_0 (A : Option Addr) (l : List Nd) (c : Nat) (room : Int) (hRt : Right6 l room) (n : Nat) (hn : n < l.length) (hlev : (l.getD n deadN).1 = 0) (w : World) (hR : RdN w w.heap.size A l) :
    Calls Try.prog 27 #[storeV A l.length c room, .int .i64 n] w fun e w' => e = .returned (.string (txB (bitsN l 0 n))) ∧ Below w.heap.size w w' := by
  have hn2 := (level_zero hRt hn).1 hlev
  have hb1 : Below w.heap.size w (w.alloc (.cells #[.slice A l.length c, .int .i64 room] 25)) := (Below.refl _ _).alloc (Nat.le_refl _) _
  obtain ⟨q, o, rfl, hq, hnd⟩ := hR.at_ (by omega)
  have hsm := hRt.small
  have x := hnd n hn
  have hv : ∃ v : Nat, (v = 48 ∨ v = 49) ∧ l.getD n deadN = (0, (0, 0, 0, 0), (v : Int) - 48) := by
    have : n = 0 ∨ n = 1 := by omega
    rcases this with rfl | rfl
    · exact ⟨48, .inl rfl, hRt.dead⟩
    · exact ⟨49, .inr rfl, hRt.live⟩
  obtain ⟨v, hv, he⟩ := hv
  have hbits : bitsN l 0 n = [UInt8.ofNat v] := by
    show [UInt8.ofNat (48 + (l.getD n deadN).2.2.toNat)] = _
    rw [he]
    rcases hv with rfl | rfl <;> rfl
  rw [he] at x
  rw [hbits]
  obtain ⟨x0, x1, x2, x3, x4, x5⟩ := x
  have x0 := Qt.keep hb1 x0
  have x1 := Qt.keep hb1 x1
  have x2 := Qt.keep hb1 x2
  have x3 := Qt.keep hb1 x3
  have x4 := Qt.keep hb1 x4
  have x5 := Qt.keep hb1 x5
  have d1 : decide ((n : Int) < 0) = false := decide_eq_false (by omega)
  have d2 : decide (l.length ≤ n) = false := decide_eq_false (by omega)
  have hnz : (n : Int) < (l.length : Int) := by omega
  simp only at x0 x1 x2 x3 x4 x5
  have hbw := fun o p : Obj => (hb1.alloc hb1.size o).alloc (hb1.alloc hb1.size o).size p
  have HBW := Lib.hid hbw
  unfold storeV
  clear hbits he hnd hR hbw hb1 hRt
  rcases hv with rfl | rfl
  · have hcv := conv_u8 ((w.alloc (.cells #[.slice (some ⟨q, o, none⟩) l.length c, .int .i64 room] 25)).alloc (.cells #[.int .i64 0, .int .i64 0, .int .i64 0, .int .i64 0, .int .i64 0, .int .i64 0] 49)) 48 48 rfl
    rw [show ((w.alloc (.cells #[.slice (some ⟨q, o, none⟩) l.length c, .int .i64 room] 25)).alloc (.cells #[.int .i64 0, .int .i64 0, .int .i64 0, .int .i64 0, .int .i64 0, .int .i64 0] 49)).heap.size = w.heap.size + 1 + 1 by simp] at hcv
    go_enter Try.func27, Try.ntmps27
    go_wp2_with fail
    go_ret
    exact ⟨rfl, HBW.out _ _⟩
  · have hcv := conv_u8 ((w.alloc (.cells #[.slice (some ⟨q, o, none⟩) l.length c, .int .i64 room] 25)).alloc (.cells #[.int .i64 0, .int .i64 0, .int .i64 0, .int .i64 0, .int .i64 0, .int .i64 1] 49)) 49 49 rfl
    rw [show ((w.alloc (.cells #[.slice (some ⟨q, o, none⟩) l.length c, .int .i64 room] 25)).alloc (.cells #[.int .i64 0, .int .i64 0, .int .i64 0, .int .i64 0, .int .i64 0, .int .i64 1] 49)).heap.size = w.heap.size + 1 + 1 by simp] at hcv
    go_enter Try.func27, Try.ntmps27
    go_wp2_with fail
    go_ret
    exact ⟨rfl, HBW.out _ _⟩
/-- Four texts in a box, so many of them written. -/
structure SqB (w : World) (b : Nat) (f : Nat → ByteArray) (k : Nat) : Prop where
  row : w.heap[b]? = some (.cells #[.string (if 0 < k then f 0 else ⟨#[]⟩), .string (if 1 < k then f 1 else ⟨#[]⟩), .string (if 2 < k then f 2 else ⟨#[]⟩), .string (if 3 < k then f 3 else ⟨#[]⟩)] 96 (0, 0))
theorem SqB.below {w w' : World} {b k : Nat} {f : Nat → ByteArray} (h : SqB w b f k) (hb : Below w.heap.size w w') : SqB w' b f k := ⟨(hb.block _ (lt_heap6 h.row)).trans h.row⟩
theorem SqB.has {w : World} {b k : Nat} {f : Nat → ByteArray} (h : SqB w b f k) {j : Nat} (hj : j < 4) : ∃ v, w.cell? ⟨b, j, none⟩ = some (.string v) := by
  rw [Lib.cell_of_heap h.row]
  match j, hj with
  | 0, _ => exact ⟨_, rfl⟩
  | 1, _ => exact ⟨_, rfl⟩
  | 2, _ => exact ⟨_, rfl⟩
  | 3, _ => exact ⟨_, rfl⟩
theorem SqB.set {w : World} {b k : Nat} {f : Nat → ByteArray} (h : SqB w b f k) (hk : k < 4) : SqB (w.setCell ⟨b, k, none⟩ (.string (f k))) b f (k + 1) := by
  have h := h.row
  refine ⟨?_⟩
  match k, hk with
  | 0, _ => simp [World.setCell, Array.getElem?_modify, h]
  | 1, _ => simp [World.setCell, Array.getElem?_modify, h]
  | 2, _ => simp [World.setCell, Array.getElem?_modify, h]
  | 3, _ => simp [World.setCell, Array.getElem?_modify, h]
theorem SqB.all {w : World} {b : Nat} {f : Nat → ByteArray} (h : SqB w b f 4) {j : Nat} (hj : j < 4) : w.cell? ⟨b, j, none⟩ = some (.string (f j)) := by
  rw [Lib.cell_of_heap h.row]
  match j, hj with
  | 0, _ => rfl
  | 1, _ => rfl
  | 2, _ => rfl
  | 3, _ => rfl

def outB (s : Nat) (f : Nat → List UInt8) (y : Nat) : List UInt8 := if y ≤ s then half s (f 0) (f 1) y else half s (f 0) (f 1) s ++ half s (f 2) (f 3) (y - s)
theorem outB_0 (s : Nat) (f : Nat → List UInt8) : outB s f 0 = [] := by simp [outB, half]
theorem outB_end {s : Nat} (hs : 0 < s) (f : Nat → List UInt8) : outB s f (2 * s) = joinB s (f 0) (f 1) (f 2) (f 3) := by
  unfold outB joinB
  rw [if_neg (by omega), show 2 * s - s = s by omega]
theorem outB_succ {s : Nat} (hs : 0 < s) (f : Nat → List UInt8) {y : Nat} (hy : y < 2 * s) : outB s f (y + 1) = outB s f y ++ (row s (f (2 * (y / s))) (y % s) ++ row s (f (2 * (y / s) + 1)) (y % s)) := by
  unfold outB
  rcases Nat.lt_or_ge y s with h | h
  · rw [if_pos (by omega), if_pos (by omega), half_succ, Nat.div_eq_of_lt h, Nat.mod_eq_of_lt h]
  · have h1 : y / s = 1 := by
      rw [Nat.div_eq_iff (by omega)]
      omega
    have h2 : y % s = y - s := by
      rw [Nat.mod_eq_sub_mod h, Nat.mod_eq_of_lt (by omega)]
    rw [if_neg (by omega), h1, h2]
    by_cases he : y = s
    · subst he
      rw [if_pos (Nat.le_refl _), show y + 1 - y = (y - y) + 1 by omega, half_succ, Nat.sub_self]
      simp [half]
    · rw [if_neg (by omega), show y + 1 - s = (y - s) + 1 by omega, half_succ, List.append_assoc]
theorem txB_row (s : Nat) (a : List UInt8) (y : Nat) : txB (row s a y) = (txB a).extract (y * s) (y * s + s) := by
  rw [txB_mid]
  rfl
theorem outB_step {s : Nat} (hs : 0 < s) (f : Nat → List UInt8) {y : Nat} (hy : y < 2 * s) : txB (outB s f (y + 1)) = txB (outB s f y) ++ (txB (f (2 * (y / s)))).extract (y % s * s) (y % s * s + s) ++ (txB (f (2 * (y / s) + 1))).extract (y % s * s) (y % s * s + s) := by
  rw [outB_succ hs f hy, ← txB_row, ← txB_row, txB_append, txB_append, List.append_assoc]

set_option maxHeartbeats 16000000 in
set_option maxRecDepth 100000 in
theorem bits_succ (A : Option Addr) (l : List Nd) (c : Nat) (room : Int) (hRt : Right6 l room) (hc : l.length ≤ c) (j : Nat) (hj : j < 4)
    (ih : ∀ n, n < l.length → (l.getD n deadN).1 = j → ∀ w, RdN w w.heap.size A l → Calls Try.prog 27 #[storeV A l.length c room, .int .i64 n] w fun e w' => e = .returned (.string (txB (bitsN l j n))) ∧ Below w.heap.size w w')
    (n : Nat) (hn : n < l.length) (hlev : (l.getD n deadN).1 = (j : Int) + 1) (w : World) (hR : RdN w w.heap.size A l) :
    Calls Try.prog 27 #[storeV A l.length c room, .int .i64 n] w fun e w' => e = .returned (.string (txB (bitsN l (j + 1) n))) ∧ Below w.heap.size w w' := by
  have hn2 : 2 ≤ n := by
    rcases Nat.lt_or_ge n 2 with h | h
    · have := (level_zero hRt hn).2 h
      omega
    · exact h
  have hfit := fits_iff.1 (hRt.fits n hn2 hn)
  have hsm := hRt.small
  obtain ⟨⟨lv, K, pp⟩, hx⟩ : ∃ x, x = l.getD n deadN := ⟨_, rfl⟩
  have hkid : ∀ i, i < 4 → ∃ m : Nat, kd K i = (m : Int) ∧ m < l.length ∧ (l.getD m deadN).1 = j := fun i hi => by
    have h := hfit.kid i hi
    rw [← hx] at h hlev
    simp only at h hlev
    refine ⟨(kd K i).toNat, by omega, by omega, ?_⟩
    have h3 : (l.getD (kd K i).toNat deadN).1 = lv - 1 := h.2.2
    omega
  have hbits : bitsN l (j + 1) n = joinB (2 ^ j) (bitsN l j (kd K 0).toNat) (bitsN l j (kd K 1).toNat) (bitsN l j (kd K 2).toNat) (bitsN l j (kd K 3).toNat) := by
    show joinB (2 ^ j) (bitsN l j (l.getD n deadN).2.1.1.toNat) (bitsN l j (l.getD n deadN).2.1.2.1.toNat) (bitsN l j (l.getD n deadN).2.1.2.2.1.toNat) (bitsN l j (l.getD n deadN).2.1.2.2.2.toNat) = _
    rw [← hx]
    rfl
  rw [hbits]
  obtain ⟨f, hf⟩ : ∃ f : Nat → List UInt8, f = fun i => bitsN l j (kd K i).toNat := ⟨_, rfl⟩
  have hf0 : bitsN l j (kd K 0).toNat = f 0 := by rw [hf]
  have hf1 : bitsN l j (kd K 1).toNat = f 1 := by rw [hf]
  have hf2 : bitsN l j (kd K 2).toNat = f 2 := by rw [hf]
  have hf3 : bitsN l j (kd K 3).toNat = f 3 := by rw [hf]
  rw [hf0, hf1, hf2, hf3]
  have hfl : ∀ i, (f i).length = 2 ^ j * 2 ^ j := fun i => by rw [hf]; exact bitsN_len l j _
  have hih : ∀ i, i < 4 → ∀ W, RdN W W.heap.size A l → Calls Try.prog 27 #[storeV A l.length c room, .int .i64 (kd K i)] W fun e w' => e = .returned (.string (txB (f i))) ∧ Below W.heap.size W w' := fun i hi W hW => by
    obtain ⟨m, hm, hml, hmj⟩ := hkid i hi
    have := ih m hml hmj W hW
    rw [hm, hf]
    simp only
    rw [hm, Int.toNat_natCast]
    exact this
  have hb1 : Below w.heap.size w (w.alloc (.cells #[.slice A l.length c, .int .i64 room] 25)) := (Below.refl _ _).alloc (Nat.le_refl _) _
  obtain ⟨q, o, rfl, hq, hnd⟩ := hR.at_ (by omega)
  have x := hnd n hn
  rw [← hx] at x hlev
  obtain ⟨x0, x1, x2, x3, x4, x5⟩ := x
  replace x0 := Qt.keep hb1 x0
  replace x1 := Qt.keep hb1 x1
  replace x2 := Qt.keep hb1 x2
  replace x3 := Qt.keep hb1 x3
  replace x4 := Qt.keep hb1 x4
  replace x5 := Qt.keep hb1 x5
  have d1 : decide ((n : Int) < 0) = false := decide_eq_false (by omega)
  have d2 : decide (l.length ≤ n) = false := decide_eq_false (by omega)
  have hnz : (n : Int) < (l.length : Int) := by omega
  simp only at x0 x1 x2 x3 x4 x5 hlev
  subst hlev
  have hal := (Below.refl (w.alloc (.cells #[.slice (some ⟨q, o, none⟩) l.length c, .int .i64 room] 25)).heap.size (w.alloc (.cells #[.slice (some ⟨q, o, none⟩) l.length c, .int .i64 room] 25))).alloc (Nat.le_refl _) (.cells #[.int .i64 ((j : Int) + 1), .int .i64 K.1, .int .i64 K.2.1, .int .i64 K.2.2.1, .int .i64 K.2.2.2, .int .i64 pp] 49)
  have hal3 := (Below.refl ((w.alloc (.cells #[.slice (some ⟨q, o, none⟩) l.length c, .int .i64 room] 25)).alloc (.cells #[.int .i64 ((j : Int) + 1), .int .i64 K.1, .int .i64 K.2.1, .int .i64 K.2.2.1, .int .i64 K.2.2.2, .int .i64 pp] 49)).heap.size ((w.alloc (.cells #[.slice (some ⟨q, o, none⟩) l.length c, .int .i64 room] 25)).alloc (.cells #[.int .i64 ((j : Int) + 1), .int .i64 K.1, .int .i64 K.2.1, .int .i64 K.2.2.1, .int .i64 K.2.2.2, .int .i64 pp] 49))).alloc (Nat.le_refl _) (.cells #[.string ⟨#[]⟩, .string ⟨#[]⟩, .string ⟨#[]⟩, .string ⟨#[]⟩] 96)
  have hsz1 : (w.alloc (.cells #[.slice (some ⟨q, o, none⟩) l.length c, .int .i64 room] 25)).heap.size = w.heap.size + 1 := by simp
  have hsz2 : ((w.alloc (.cells #[.slice (some ⟨q, o, none⟩) l.length c, .int .i64 room] 25)).alloc (.cells #[.int .i64 ((j : Int) + 1), .int .i64 K.1, .int .i64 K.2.1, .int .i64 K.2.2.1, .int .i64 K.2.2.2, .int .i64 pp] 49)).heap.size = w.heap.size + 1 + 1 := by simp
  have HS2 := Lib.hid ((stB_new hR hc room).below hal)
  have hN : NdB ((w.alloc (.cells #[.slice (some ⟨q, o, none⟩) l.length c, .int .i64 room] 25)).alloc (.cells #[.int .i64 ((j : Int) + 1), .int .i64 K.1, .int .i64 K.2.1, .int .i64 K.2.2.1, .int .i64 K.2.2.2, .int .i64 pp] 49)) (w.heap.size + 1) ((j : Int) + 1, K, pp) := by
    refine ⟨?_⟩
    rw [← hsz1]
    exact heap_alloc_new _ _
  have HN2 := Lib.hid hN
  have hQ : SqB (((w.alloc (.cells #[.slice (some ⟨q, o, none⟩) l.length c, .int .i64 room] 25)).alloc (.cells #[.int .i64 ((j : Int) + 1), .int .i64 K.1, .int .i64 K.2.1, .int .i64 K.2.2.1, .int .i64 K.2.2.2, .int .i64 pp] 49)).alloc (.cells #[.string ⟨#[]⟩, .string ⟨#[]⟩, .string ⟨#[]⟩, .string ⟨#[]⟩] 96)) (w.heap.size + 1 + 1) (fun i => txB (f i)) 0 := by
    refine ⟨?_⟩
    rw [← hsz2]
    exact heap_alloc_new _ _
  have HQ3 := Lib.hid hQ
  have HB2 := Lib.hid (hb1.alloc hb1.size (.cells #[.int .i64 ((j : Int) + 1), .int .i64 K.1, .int .i64 K.2.1, .int .i64 K.2.2.1, .int .i64 K.2.2.2, .int .i64 pp] 49))
  have HB3 := Lib.hid (HB2.out.alloc HB2.out.size (.cells #[.string ⟨#[]⟩, .string ⟨#[]⟩, .string ⟨#[]⟩, .string ⟨#[]⟩] 96))
  have HBq := Lib.hid hal3
  have hj1 : ¬ ((j : Int) + 1 > 4) := by omega
  have hj2 : ¬ ((j : Int) + 1 < 1) := by omega
  have HFL := Lib.hid hfl
  have HIH := Lib.hid hih
  have HK := Lib.hid hkid
  unfold storeV
  clear hal hal3 hN hQ hb1 hbits hf hf0 hf1 hf2 hf3 hfl hih hkid hnd hR ih hfit hx hRt
  go_enter Try.func27, Try.ntmps27
  go_wp2_with fail
  clear x0 x1 x2 x3 x4 x5
  generalize (((w.alloc (.cells #[.slice (some ⟨q, o, none⟩) l.length c, .int .i64 room] 25)).alloc (.cells #[.int .i64 ((j : Int) + 1), .int .i64 K.1, .int .i64 K.2.1, .int .i64 K.2.2.1, .int .i64 K.2.2.2, .int .i64 pp] 49)).alloc (.cells #[.string ⟨#[]⟩, .string ⟨#[]⟩, .string ⟨#[]⟩, .string ⟨#[]⟩] 96)) = v3 at *
  generalize ((w.alloc (.cells #[.slice (some ⟨q, o, none⟩) l.length c, .int .i64 room] 25)).alloc (.cells #[.int .i64 ((j : Int) + 1), .int .i64 K.1, .int .i64 K.2.1, .int .i64 K.2.2.1, .int .i64 K.2.2.2, .int .i64 pp] 49)) = v2 at *
  clear hsz1
  generalize hg : w.heap.size + 1 + 1 = g at *
  generalize hg1 : w.heap.size + 1 = b1 at *
  generalize hg0 : w.heap.size = b0 at *
  go_loopw [7] (fun i wr => ∃ k : Nat, k ≤ 4 ∧ i = .int .i64 k ∧ Hid (SqB wr g (fun i => txB (f i)) k ∧ Below v2.heap.size v2 wr)) (fun i _ => 4 - (intOf i).toNat)
  case atStart => exact ⟨0, by decide, rfl, HQ3.out, HBq.out⟩
  case round =>
    obtain ⟨k, hk, rfl, HH⟩ := hrel
    have HB := Lib.hid HH.out.2
    have HSw := Lib.hid (HS2.out.below HB.out)
    have HNw := Lib.hid (HN2.out.below HB.out)
    by_cases hlt : k < 4
    · have hltz : (k : Int) < 4 := by omega
      have HQw := Lib.hid HH.out.1
      obtain ⟨m, hm, hml, hmj⟩ := HK.out k hlt
      have hkv := HNw.out.kid hlt
      simp only at hkv
      have p0 := Qt.cell_in HSw.out.s0
      have p1 := Qt.cell_in HSw.out.s1
      have p2 := Qt.cell_in hkv
      have hcall := fun W (hW : Below wr.heap.size wr W) => HIH.out k hlt W (HSw.out.below hW).rd
      have hset := fun w1 (h1 : Below wr.heap.size wr w1) => (HQw.out.below h1).set hlt
      have hhas := fun w1 (h1 : Below wr.heap.size wr w1) => (HQw.out.below h1).has hlt
      have hfro := fun w1 (h1 : Below wr.heap.size wr w1) => Lib.frozen_of_heap (HQw.out.below h1).row k
      have HSET := Lib.hid hset
      have HHAS := Lib.hid hhas
      have HFRO := Lib.hid hfro
      unfold storeV at hcall
      clear hset hhas hfro hkv HH hm hml hmj
      go_wp2_with fail
      refine Qt.below_tail 7 (by kernel_rfl) (by kernel_rfl) ?_
      simp only [List.take_succ_cons, List.take_zero, List.drop_succ_cons, List.drop_zero]
      repeat (go_big_quiet_step (first | (go_at_call 27; exact Qt.at_call' hcall)))
      refine wpQuiet_nil ?_
      intro w1 hb1
      obtain ⟨v, hv⟩ := HHAS.out w1 hb1
      have hfr := HFRO.out w1 hb1
      have HX := Lib.hid (HSET.out w1 hb1)
      have HBX : Hid (Below v2.heap.size v2 (w1.setCell ⟨g, k, none⟩ (.string (txB (f k))))) := (Qt.more HB.out HB.out.size hb1).setCell (p := ⟨g, k, none⟩) (by show v2.heap.size ≤ g; omega) _
      clear p0 p1 p2 hcall HSET HHAS HFRO hb1
      go_wp2_with fail
      go_roundw
      case measure => first | (simp [intOf]; done) | (simp [intOf]; omega)
      case rel => exact ⟨k + 1, by omega, by go_num, HX.out, HBX.out⟩
    · obtain rfl : k = 4 := by omega
      have HQ := HH.out.1
      have t0 : wr.cell? ⟨g, 0, none⟩ = some (.string (txB (f 0))) := HQ.all (j := 0) (by decide)
      have t1 : wr.cell? ⟨g, 1, none⟩ = some (.string (txB (f 1))) := HQ.all (j := 1) (by decide)
      have t2 : wr.cell? ⟨g, 2, none⟩ = some (.string (txB (f 2))) := HQ.all (j := 2) (by decide)
      have t3 : wr.cell? ⟨g, 3, none⟩ = some (.string (txB (f 3))) := HQ.all (j := 3) (by decide)
      have HBw : Hid (Below b0 w wr) := by
        show Below b0 w wr
        exact HB2.out.trans (HB.out.mono (by omega))
      have n0 : wr.cell? ⟨b1, 0, none⟩ = some (.int .i64 ((j : Int) + 1)) := HNw.out.lev
      have z0 : (txB (f 0)).size = 2 ^ j * 2 ^ j := (txB_size _).trans (HFL.out 0)
      have z1 : (txB (f 1)).size = 2 ^ j * 2 ^ j := (txB_size _).trans (HFL.out 1)
      have z2 : (txB (f 2)).size = 2 ^ j * 2 ^ j := (txB_size _).trans (HFL.out 2)
      have z3 : (txB (f 3)).size = 2 ^ j * 2 ^ j := (txB_size _).trans (HFL.out 3)
      have HST := Lib.hid (fun y (hy : y < 2 * 2 ^ j) => outB_step (s := 2 ^ j) (Nat.two_pow_pos j) f hy)
      have HEND := Lib.hid (outB_end (s := 2 ^ j) (Nat.two_pow_pos j) f)
      have H0 := Lib.hid (outB_0 (2 ^ j) f)
      clear HH HB HSw HNw HQ HS2 HN2 HQ3 HB2 HB3 HBq HIH HK HFL
      have hj4 : j = 0 ∨ j = 1 ∨ j = 2 ∨ j = 3 := by omega
      rcases hj4 with rfl | rfl | rfl | rfl
      · have z0' : (txB (f 0)).size = 1 := z0
        have z1' : (txB (f 1)).size = 1 := z1
        have z2' : (txB (f 2)).size = 1 := z2
        have z3' : (txB (f 3)).size = 1 := z3
        have HST' : Hid (∀ y, y < 2 → txB (outB 1 f (y + 1)) = txB (outB 1 f y) ++ (txB (f (2 * (y / 1)))).extract (y % 1 * 1) (y % 1 * 1 + 1) ++ (txB (f (2 * (y / 1) + 1))).extract (y % 1 * 1) (y % 1 * 1 + 1)) := HST.out
        have HEND' : Hid (outB 1 f 2 = joinB 1 (f 0) (f 1) (f 2) (f 3)) := HEND.out
        clear z0 z1 z2 z3 HST HEND H0
        go_wp2_with fail
        clear n0
        generalize wr = v4 at *
        go_loopw [9, 10] (fun ov i wr => ∃ (y : Nat) (od : ByteArray), y ≤ 2 ∧ i = .int .i64 y ∧ ov = .string od ∧ od.size ≤ 2 * y ∧ Hid (od = txB (outB 1 f y) ∧ Below v4.heap.size v4 wr)) (fun _ i _ => 2 - (intOf i).toNat)
        case atStart => exact ⟨0, ⟨#[]⟩, by decide, rfl, rfl, by decide, by rw [outB_0]; rfl, Below.refl _ _⟩
        case round =>
          obtain ⟨y, od, hy, rfl, rfl, hos, HH⟩ := hrel
          have HBr := Lib.hid HH.out.2
          by_cases hlt : y < 2
          · have hstep := HST'.out y hlt
            rw [← HH.out.1] at hstep
            have HSTP := Lib.hid hstep
            have c0 := Qt.keep HBr.out t0
            have c1 := Qt.keep HBr.out t1
            have c2 := Qt.keep HBr.out t2
            have c3 := Qt.keep HBr.out t3
            have q0 := Qt.cell_in c0
            have q1 := Qt.cell_in c1
            have q2 := Qt.cell_in c2
            have q3 := Qt.cell_in c3
            clear hstep HH HST' HEND'
            have hyy : y = 0 ∨ y = 1 := by omega
            rcases hyy with rfl | rfl <;>
              (go_wp2_with fail
               refine Qt.below_all (by kernel_rfl) (by kernel_rfl) ?_
               repeat (go_big_quiet_step (fail))
               refine wpQuiet_nil ?_
               intro w5 hb5
               have HB5 := Lib.hid (Qt.more HBr.out HBr.out.size hb5)
               clear hb5
               go_wp2_with fail
               go_roundw
               case measure => first | (simp [intOf]; done) | (simp [intOf]; omega)
               case rel => exact ⟨_, _, by decide, by go_num, rfl, (by simp only [ByteArray.size_append, ByteArray.size_extract]; omega), HSTP.out.symm, HB5.out⟩)
          · obtain rfl : y = 2 := by omega
            have hod := HH.out.1
            rw [HEND'.out] at hod
            have HOD := Lib.hid hod
            have HBf := Lib.hid (Qt.more HBw.out (hg0 ▸ HBw.out.size) HBr.out)
            clear HH HST' HEND' hod
            go_wp2_with fail
            go_ret
            first
              | exact ⟨congrArg (fun t => Ending.returned (.string t)) HOD.out, HBf.out⟩
              | exact ⟨congrArg (fun t => Ending.returned (.string t)) HOD.out, hg0 ▸ HBf.out⟩
      · have z0' : (txB (f 0)).size = 4 := z0
        have z1' : (txB (f 1)).size = 4 := z1
        have z2' : (txB (f 2)).size = 4 := z2
        have z3' : (txB (f 3)).size = 4 := z3
        have HST' : Hid (∀ y, y < 4 → txB (outB 2 f (y + 1)) = txB (outB 2 f y) ++ (txB (f (2 * (y / 2)))).extract (y % 2 * 2) (y % 2 * 2 + 2) ++ (txB (f (2 * (y / 2) + 1))).extract (y % 2 * 2) (y % 2 * 2 + 2)) := HST.out
        have HEND' : Hid (outB 2 f 4 = joinB 2 (f 0) (f 1) (f 2) (f 3)) := HEND.out
        clear z0 z1 z2 z3 HST HEND H0
        go_wp2_with fail
        clear n0
        generalize wr = v4 at *
        go_loopw [9, 10] (fun ov i wr => ∃ (y : Nat) (od : ByteArray), y ≤ 4 ∧ i = .int .i64 y ∧ ov = .string od ∧ od.size ≤ 4 * y ∧ Hid (od = txB (outB 2 f y) ∧ Below v4.heap.size v4 wr)) (fun _ i _ => 4 - (intOf i).toNat)
        case atStart => exact ⟨0, ⟨#[]⟩, by decide, rfl, rfl, by decide, by rw [outB_0]; rfl, Below.refl _ _⟩
        case round =>
          obtain ⟨y, od, hy, rfl, rfl, hos, HH⟩ := hrel
          have HBr := Lib.hid HH.out.2
          by_cases hlt : y < 4
          · have hstep := HST'.out y hlt
            rw [← HH.out.1] at hstep
            have HSTP := Lib.hid hstep
            have c0 := Qt.keep HBr.out t0
            have c1 := Qt.keep HBr.out t1
            have c2 := Qt.keep HBr.out t2
            have c3 := Qt.keep HBr.out t3
            have q0 := Qt.cell_in c0
            have q1 := Qt.cell_in c1
            have q2 := Qt.cell_in c2
            have q3 := Qt.cell_in c3
            clear hstep HH HST' HEND'
            have hyy : y = 0 ∨ y = 1 ∨ y = 2 ∨ y = 3 := by omega
            rcases hyy with rfl | rfl | rfl | rfl <;>
              (go_wp2_with fail
               refine Qt.below_all (by kernel_rfl) (by kernel_rfl) ?_
               repeat (go_big_quiet_step (fail))
               refine wpQuiet_nil ?_
               intro w5 hb5
               have HB5 := Lib.hid (Qt.more HBr.out HBr.out.size hb5)
               clear hb5
               go_wp2_with fail
               go_roundw
               case measure => first | (simp [intOf]; done) | (simp [intOf]; omega)
               case rel => exact ⟨_, _, by decide, by go_num, rfl, (by simp only [ByteArray.size_append, ByteArray.size_extract]; omega), HSTP.out.symm, HB5.out⟩)
          · obtain rfl : y = 4 := by omega
            have hod := HH.out.1
            rw [HEND'.out] at hod
            have HOD := Lib.hid hod
            have HBf := Lib.hid (Qt.more HBw.out (hg0 ▸ HBw.out.size) HBr.out)
            clear HH HST' HEND' hod
            go_wp2_with fail
            go_ret
            first
              | exact ⟨congrArg (fun t => Ending.returned (.string t)) HOD.out, HBf.out⟩
              | exact ⟨congrArg (fun t => Ending.returned (.string t)) HOD.out, hg0 ▸ HBf.out⟩
      · have z0' : (txB (f 0)).size = 16 := z0
        have z1' : (txB (f 1)).size = 16 := z1
        have z2' : (txB (f 2)).size = 16 := z2
        have z3' : (txB (f 3)).size = 16 := z3
        have HST' : Hid (∀ y, y < 8 → txB (outB 4 f (y + 1)) = txB (outB 4 f y) ++ (txB (f (2 * (y / 4)))).extract (y % 4 * 4) (y % 4 * 4 + 4) ++ (txB (f (2 * (y / 4) + 1))).extract (y % 4 * 4) (y % 4 * 4 + 4)) := HST.out
        have HEND' : Hid (outB 4 f 8 = joinB 4 (f 0) (f 1) (f 2) (f 3)) := HEND.out
        clear z0 z1 z2 z3 HST HEND H0
        go_wp2_with fail
        clear n0
        generalize wr = v4 at *
        go_loopw [9, 10] (fun ov i wr => ∃ (y : Nat) (od : ByteArray), y ≤ 8 ∧ i = .int .i64 y ∧ ov = .string od ∧ od.size ≤ 8 * y ∧ Hid (od = txB (outB 4 f y) ∧ Below v4.heap.size v4 wr)) (fun _ i _ => 8 - (intOf i).toNat)
        case atStart => exact ⟨0, ⟨#[]⟩, by decide, rfl, rfl, by decide, by rw [outB_0]; rfl, Below.refl _ _⟩
        case round =>
          obtain ⟨y, od, hy, rfl, rfl, hos, HH⟩ := hrel
          have HBr := Lib.hid HH.out.2
          by_cases hlt : y < 8
          · have hstep := HST'.out y hlt
            rw [← HH.out.1] at hstep
            have HSTP := Lib.hid hstep
            have c0 := Qt.keep HBr.out t0
            have c1 := Qt.keep HBr.out t1
            have c2 := Qt.keep HBr.out t2
            have c3 := Qt.keep HBr.out t3
            have q0 := Qt.cell_in c0
            have q1 := Qt.cell_in c1
            have q2 := Qt.cell_in c2
            have q3 := Qt.cell_in c3
            clear hstep HH HST' HEND'
            have hyy : y = 0 ∨ y = 1 ∨ y = 2 ∨ y = 3 ∨ y = 4 ∨ y = 5 ∨ y = 6 ∨ y = 7 := by omega
            rcases hyy with rfl | rfl | rfl | rfl | rfl | rfl | rfl | rfl <;>
              (go_wp2_with fail
               refine Qt.below_all (by kernel_rfl) (by kernel_rfl) ?_
               repeat (go_big_quiet_step (fail))
               refine wpQuiet_nil ?_
               intro w5 hb5
               have HB5 := Lib.hid (Qt.more HBr.out HBr.out.size hb5)
               clear hb5
               go_wp2_with fail
               go_roundw
               case measure => first | (simp [intOf]; done) | (simp [intOf]; omega)
               case rel => exact ⟨_, _, by decide, by go_num, rfl, (by simp only [ByteArray.size_append, ByteArray.size_extract]; omega), HSTP.out.symm, HB5.out⟩)
          · obtain rfl : y = 8 := by omega
            have hod := HH.out.1
            rw [HEND'.out] at hod
            have HOD := Lib.hid hod
            have HBf := Lib.hid (Qt.more HBw.out (hg0 ▸ HBw.out.size) HBr.out)
            clear HH HST' HEND' hod
            go_wp2_with fail
            go_ret
            first
              | exact ⟨congrArg (fun t => Ending.returned (.string t)) HOD.out, HBf.out⟩
              | exact ⟨congrArg (fun t => Ending.returned (.string t)) HOD.out, hg0 ▸ HBf.out⟩
      · have z0' : (txB (f 0)).size = 64 := z0
        have z1' : (txB (f 1)).size = 64 := z1
        have z2' : (txB (f 2)).size = 64 := z2
        have z3' : (txB (f 3)).size = 64 := z3
        have HST' : Hid (∀ y, y < 16 → txB (outB 8 f (y + 1)) = txB (outB 8 f y) ++ (txB (f (2 * (y / 8)))).extract (y % 8 * 8) (y % 8 * 8 + 8) ++ (txB (f (2 * (y / 8) + 1))).extract (y % 8 * 8) (y % 8 * 8 + 8)) := HST.out
        have HEND' : Hid (outB 8 f 16 = joinB 8 (f 0) (f 1) (f 2) (f 3)) := HEND.out
        clear z0 z1 z2 z3 HST HEND H0
        go_wp2_with fail
        clear n0
        generalize wr = v4 at *
        go_loopw [9, 10] (fun ov i wr => ∃ (y : Nat) (od : ByteArray), y ≤ 16 ∧ i = .int .i64 y ∧ ov = .string od ∧ od.size ≤ 16 * y ∧ Hid (od = txB (outB 8 f y) ∧ Below v4.heap.size v4 wr)) (fun _ i _ => 16 - (intOf i).toNat)
        case atStart => exact ⟨0, ⟨#[]⟩, by decide, rfl, rfl, by decide, by rw [outB_0]; rfl, Below.refl _ _⟩
        case round =>
          obtain ⟨y, od, hy, rfl, rfl, hos, HH⟩ := hrel
          have HBr := Lib.hid HH.out.2
          by_cases hlt : y < 16
          · have hstep := HST'.out y hlt
            rw [← HH.out.1] at hstep
            have HSTP := Lib.hid hstep
            have c0 := Qt.keep HBr.out t0
            have c1 := Qt.keep HBr.out t1
            have c2 := Qt.keep HBr.out t2
            have c3 := Qt.keep HBr.out t3
            have q0 := Qt.cell_in c0
            have q1 := Qt.cell_in c1
            have q2 := Qt.cell_in c2
            have q3 := Qt.cell_in c3
            clear hstep HH HST' HEND'
            have hyy : y = 0 ∨ y = 1 ∨ y = 2 ∨ y = 3 ∨ y = 4 ∨ y = 5 ∨ y = 6 ∨ y = 7 ∨ y = 8 ∨ y = 9 ∨ y = 10 ∨ y = 11 ∨ y = 12 ∨ y = 13 ∨ y = 14 ∨ y = 15 := by omega
            rcases hyy with rfl | rfl | rfl | rfl | rfl | rfl | rfl | rfl | rfl | rfl | rfl | rfl | rfl | rfl | rfl | rfl <;>
              (go_wp2_with fail
               refine Qt.below_all (by kernel_rfl) (by kernel_rfl) ?_
               repeat (go_big_quiet_step (fail))
               refine wpQuiet_nil ?_
               intro w5 hb5
               have HB5 := Lib.hid (Qt.more HBr.out HBr.out.size hb5)
               clear hb5
               go_wp2_with fail
               go_roundw
               case measure => first | (simp [intOf]; done) | (simp [intOf]; omega)
               case rel => exact ⟨_, _, by decide, by go_num, rfl, (by simp only [ByteArray.size_append, ByteArray.size_extract]; omega), HSTP.out.symm, HB5.out⟩)
          · obtain rfl : y = 16 := by omega
            have hod := HH.out.1
            rw [HEND'.out] at hod
            have HOD := Lib.hid hod
            have HBf := Lib.hid (Qt.more HBw.out (hg0 ▸ HBw.out.size) HBr.out)
            clear HH HST' HEND' hod
            go_wp2_with fail
            go_ret
            first
              | exact ⟨congrArg (fun t => Ending.returned (.string t)) HOD.out, HBf.out⟩
              | exact ⟨congrArg (fun t => Ending.returned (.string t)) HOD.out, hg0 ▸ HBf.out⟩
end Go.Proofs.Ytcmdhochofoohaa
