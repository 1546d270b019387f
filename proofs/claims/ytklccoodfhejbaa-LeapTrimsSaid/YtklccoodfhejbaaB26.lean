/-
  Texts that the claims of this seat share, part 26.
-/
import Derived.Test.YtklccoodfhejbaaB25
import Derived.Test.YtklccoodfhejbaaB23
set_option linter.unusedVariables false
set_option linter.unusedSimpArgs false
namespace Go.Proofs.Ytklccoodfhejbaa
set_option maxRecDepth 100000
set_option linter.unusedVariables false
set_option linter.unusedSimpArgs false
open Go.RowKit Go.Sort

theorem rdN_set {w : World} {B q T j : Nat} {A : Option Addr} {l : List Nd} {cs : Array Value} {fz : Nat × Nat} (h : RdN w B A l) (hrow : w.heap[q]? = some (.cells cs T fz)) (hsz : cs.size ≤ 5) (u : Value) : RdN (w.setCell ⟨q, j, none⟩ u) B A l := by
  intro i hi
  obtain ⟨b, off, e, hne, hlt, h0, h1, h2, h3, h4, h5⟩ := rdN_ne h hrow hsz i hi
  have hb : (w.setCell ⟨q, j, none⟩ u).heap[b]? = w.heap[b]? := Below.heap_setCell _ _ _ _ hne
  have hc : ∀ o, (w.setCell ⟨q, j, none⟩ u).cell? ⟨b, o, none⟩ = w.cell? ⟨b, o, none⟩ := fun o => World.cell?_of_block (w := w) hb
  exact ⟨b, off, e, hlt, (hc _).trans h0, (hc _).trans h1, (hc _).trans h2, (hc _).trans h3, (hc _).trans h4, (hc _).trans h5⟩
theorem E7At.set {w wr : World} {B : Option Addr} {m : List Nd} {d T q : Nat} {room : Int} {cs : Array Value} {fz : Nat × Nat} (h : E7At w wr B m d room) (hrow : wr.heap[q]? = some (.cells cs T fz)) (hsz : cs.size ≤ 5) (hq : w.heap.size + 2 ≤ q) (j : Nat) (u : Value) : E7At w (wr.setCell ⟨q, j, none⟩ u) B m d room := by
  refine ⟨⟨?_, (rdN_set h.st.rd hrow hsz u).more (by simp [World.setCell]), h.st.cap⟩, ?_, h.bel.setCell (by show w.heap.size ≤ q; omega) _⟩
  · rw [Below.heap_setCell _ _ _ _ (by show w.heap.size ≠ q; omega)]; exact h.st.row
  · rw [Below.heap_setCell _ _ _ _ (by show w.heap.size + 1 ≠ q; omega)]; exact h.res
/-- What is told of a making: with an error whatever store. -/
def PutE (p : List Nd × Int × Int) (room : Int) (w : World) (e : Ending) (w' : World) : Prop :=
  ∃ m, (p.2.2 = 0 → m = p.1) ∧ PutR (m, p.2.1, p.2.2) room w e w'
theorem PutR.putE {p : List Nd × Int × Int} {room : Int} {w : World} {e : Ending} {w' : World} (h : PutR p room w e w') : PutE p room w e w' := ⟨p.1, fun _ => rfl, h⟩
theorem putE_box {zl : List Nd} {zn ze room : Int} {w : World} {e : Ending} {w' : World} (h : PutE (zl, zn, ze) room w e w') : ∃ (M : List Nd) (A : Option Addr) (c : Nat), (ze = 0 → M = zl) ∧ e = .returned (.tuple #[.agg #[.slice A M.length c, .int .i64 room], .int .i64 zn, .int .i64 ze]) ∧ M.length ≤ c ∧ NowN w' A M ∧ Below w.heap.size w w' := by
  obtain ⟨M, hM, v, rfl, ⟨A, c, rfl, hc, hN⟩, hb⟩ := h
  exact ⟨M, A, c, hM, rfl, hc, hN, hb⟩
/-- What is known in the loop over quarters. -/
structure B7At (w wr : World) (B : Option Addr) (m : List Nd) (d : Nat) (room : Int) (vs : Nat → Value) (P : Nat → List (Int × Int)) (qb : Nat) (q : Kd) : Prop where
  e7 : E7At w wr B m d room
  qs : wr.heap[qb]? = some (.cells #[vs 0, vs 1, vs 2, vs 3] 107 (0, 0))
  rd : ∀ i, i < 4 → ∃ A c, vs i = .slice A (P i).length c ∧ (P i).length ≤ c ∧ RdC wr qb A (P i) ∧ ∀ a, A = some a → w.heap.size + 2 ≤ a.block
  kids : KR wr (qb + 1) q
  lo : w.heap.size + 2 ≤ qb
theorem rdC_set {w : World} {B q j : Nat} {A : Option Addr} {l : List (Int × Int)} (h : RdC w B A l) (hne : ∀ a, A = some a → a.block ≠ q) (u : Value) : RdC (w.setCell ⟨q, j, none⟩ u) B A l := fun i hi => by
  obtain ⟨b, off, e, hlt, h0, h1⟩ := h i hi
  have hb : (w.setCell ⟨q, j, none⟩ u).heap[b]? = w.heap[b]? := Below.heap_setCell _ _ _ _ (hne _ e)
  exact ⟨b, off, e, hlt, (World.cell?_of_block (w := w) hb).trans h0, (World.cell?_of_block (w := w) hb).trans h1⟩
section
variable {w wr w' : World} {B A2 : Option Addr} {m pl : List Nd} {d c2 : Nat} {room : Int} {vs : Nat → Value} {P : Nat → List (Int × Int)} {qb : Nat} {q : Kd}
theorem B7At.below (h : B7At w wr B m d room vs P qb q) (hb : Below wr.heap.size wr w') : B7At w w' B m d room vs P qb q := by
  have hlt := lt_heap6 h.qs
  exact ⟨h.e7.below hb, (hb.block _ hlt).trans h.qs, fun i hi => by
    obtain ⟨A, c, e, hc, hR, hl⟩ := h.rd i hi
    exact ⟨A, c, e, hc, Cel.Rd.below hR hb (Nat.le_of_lt hlt), hl⟩, (hb.block _ (lt_heap6 h.kids)).trans h.kids, h.lo⟩
theorem B7At.put (h : B7At w wr B m d room vs P qb q) (hN : NowN wr A2 pl) (hc : pl.length ≤ c2) : B7At w ((wr.setCell ⟨w.heap.size, 0, none⟩ (.slice A2 pl.length c2)).setCell ⟨w.heap.size, 1, none⟩ (.int .i64 room)) A2 pl c2 room vs P qb q := by
  have hlo := h.lo
  have ho : ∀ b, b ≠ w.heap.size → ((wr.setCell ⟨w.heap.size, 0, none⟩ (.slice A2 pl.length c2)).setCell ⟨w.heap.size, 1, none⟩ (.int .i64 room)).heap[b]? = wr.heap[b]? := fun b hb => by
    rw [Below.heap_setCell _ _ _ _ (by show b ≠ w.heap.size; exact hb), Below.heap_setCell _ _ _ _ (by show b ≠ w.heap.size; exact hb)]
  refine ⟨h.e7.put hN hc, (ho qb (by omega)).trans h.qs, fun i hi => ?_, (ho (qb + 1) (by omega)).trans h.kids, hlo⟩
  obtain ⟨A, c, e, hcap, hR, hl⟩ := h.rd i hi
  exact ⟨A, c, e, hcap, rdC_set (rdC_set hR (fun a ha => by have := hl a ha; omega) _) (fun a ha => by have := hl a ha; omega) _, hl⟩
theorem B7At.kid (h : B7At w wr B m d room vs P qb q) {j : Nat} (hj : j < 4) (v : Int) : B7At w (wr.setCell ⟨qb + 1, j, none⟩ (.int .i64 v)) B m d room vs P qb (kset q j v) := by
  have hlo := h.lo
  refine ⟨h.e7.set h.kids (Nat.le_of_ble_eq_true rfl) (by omega) j _, ?_, fun i hi => ?_, h.kids.set hj v, hlo⟩
  · rw [Below.heap_setCell _ _ _ _ (by show qb ≠ qb + 1; omega)]; exact h.qs
  · obtain ⟨A, c, e, hcap, hR, hl⟩ := h.rd i hi
    refine ⟨A, c, e, hcap, fun k hk => ?_, hl⟩
    obtain ⟨b, off, e2, hlt, h0, h1⟩ := hR k hk
    have hb : (wr.setCell ⟨qb + 1, j, none⟩ (.int .i64 v)).heap[b]? = wr.heap[b]? := Below.heap_setCell _ _ _ _ (by show b ≠ qb + 1; omega)
    exact ⟨b, off, e2, hlt, (World.cell?_of_block (w := wr) hb).trans h0, (World.cell?_of_block (w := wr) hb).trans h1⟩
theorem B7At.qc (h : B7At w wr B m d room vs P qb q) {i : Nat} (hi : i < 4) : wr.cell? ⟨qb, i, none⟩ = some (vs i) := by
  rcases (by omega : i = 0 ∨ i = 1 ∨ i = 2 ∨ i = 3) with rfl | rfl | rfl | rfl <;> (rw [Lib.cell_of_heap h.qs]; rfl)
end
set_option maxHeartbeats 4000000 in
theorem build_none (room : Int) (k : Nat) (hk : k ≤ 42) (l : List Nd) (A : Option Addr) (c : Nat) (A' : Option Addr) (c' : Nat) (w : World) (hR : RdN w w.heap.size A l) (hr : Right6 l room) (hc : l.length ≤ c) :
    Calls Try.prog 59 #[storeV A l.length c room, .slice A' 0 c', .int .i64 ((k : Nat) : Int)] w (PutR (emptyTo l room k) room w) := by
  have HE := Lib.hid (e7_0 hR hc room)
  have hcall := refEmpty7_any A l c room k _ HE.out.st.rd hr hc hk
  obtain ⟨z, hz⟩ : ∃ z, z = emptyTo l room k := ⟨_, rfl⟩
  rw [← hz] at hcall ⊢
  have s0 := HE.out.s0
  have s1 := HE.out.s1
  clear hz hr hR
  unfold storeV at hcall ⊢
  go_enter Try.func59, Try.ntmps59
  go_wp2_with fail
  refine hcall.mono ?_
  generalize (w.alloc (.cells #[.slice A l.length c, .int .i64 room] 26)).alloc (.cells #[.slice none 0 0, .int .i64 0] 26) = wx at *
  rintro e w2 ⟨v, rfl, ⟨A2, c2, rfl, hc2, hR2⟩, hb2⟩
  have HD := Lib.hid (HE.out.below hb2)
  have r0 := HD.out.r0
  have r1 := HD.out.r1
  have fr0 := HD.out.free 0
  have fr1 := HD.out.free 1
  have ht := HD.out.told hR2 (.slice A2 z.1.length c2) (.int .i64 room)
  have HT := Lib.hid ht
  clear hcall HE HD hb2 hR2 ht s0 s1
  go_wp2_with fail
  clear r0 r1 fr0 fr1
  refine bodyPost_ret (results_cell3 rfl _ _ _ _ _ _ _ rfl HT.out.1 Try.underlying26 rfl (by kernel_rfl)) rfl ?_
  exact ⟨_, rfl, ⟨A2, c2, rfl, hc2, HT.out.2.2⟩, HT.out.2.1⟩
set_option maxHeartbeats 4000000 in
theorem build_one (room : Int) (l : List Nd) (A : Option Addr) (c : Nat) (A' : Option Addr) (n c' : Nat) (hn : 0 < n) (w : World) (hR : RdN w w.heap.size A l) (hc : l.length ≤ c) :
    Calls Try.prog 59 #[storeV A l.length c room, .slice A' n c', .int .i64 0] w (PutR (l, 1, 0) room w) := by
  have hal1 := (Below.refl w.heap.size w).alloc (Nat.le_refl _) (.cells #[.slice A l.length c, .int .i64 room] 26)
  have hal2 := hal1.alloc hal1.size (.cells #[.slice A l.length c, .int .i64 room] 26)
  have HT : Hid (((w.alloc (.cells #[.slice A l.length c, .int .i64 room] 26)).alloc (.cells #[.slice A l.length c, .int .i64 room] 26)).heap[w.heap.size + 1]? = some (.cells #[.slice A l.length c, .int .i64 room] 26 (0, 0)) ∧ Below w.heap.size w ((w.alloc (.cells #[.slice A l.length c, .int .i64 room] 26)).alloc (.cells #[.slice A l.length c, .int .i64 room] 26)) ∧ NowN ((w.alloc (.cells #[.slice A l.length c, .int .i64 room] 26)).alloc (.cells #[.slice A l.length c, .int .i64 room] 26)) A l) := ⟨heap_new (by simp), hal2, (hR.below hal2 (Nat.le_refl _)).more hal2.size⟩
  have hn0 : ((n : Int) == 0) = false := beq_eq_false_iff_ne.2 (by omega)
  have hnz : ¬ (n : Int) = 0 := by omega
  clear hR hal1 hal2
  unfold storeV
  go_enter Try.func59, Try.ntmps59
  go_wp2_with fail
  refine bodyPost_ret (results_cell3 rfl _ _ _ _ _ _ _ rfl HT.out.1 Try.underlying26 rfl (by kernel_rfl)) rfl ?_
  exact ⟨_, rfl, ⟨A, c, rfl, hc, HT.out.2.2⟩, HT.out.2.1⟩
def Build7 (room : Int) (k : Nat) : Prop := ∀ (l : List Nd) (A : Option Addr) (c : Nat) (S : List (Int × Int)) (A' : Option Addr) (c' : Nat) (w : World), RdN w w.heap.size A l → Right6 l room → l.length ≤ c → RdC w w.heap.size A' S → S.length ≤ 900000 → S.length ≤ c' → (∀ s ∈ S, InSq k s) →
    Calls Try.prog 59 #[storeV A l.length c room, .slice A' S.length c', .int .i64 ((k : Nat) : Int)] w (PutE (buildC room k l S) room w)
set_option maxHeartbeats 16000000 in
theorem build_step (room : Int) (k : Nat) (hk : k + 1 ≤ 42) (ih : Build7 room k) (l : List Nd) (A : Option Addr) (c : Nat) (S : List (Int × Int)) (A' : Option Addr) (c' : Nat) (w : World) (hR : RdN w w.heap.size A l) (hr : Right6 l room) (hc : l.length ≤ c) (hS : RdC w w.heap.size A' S) (hSl : S.length ≤ 900000) (hSc : S.length ≤ c') (hin : ∀ s ∈ S, InSq (k + 1) s) (hS0 : ¬ S = []) :
    Calls Try.prog 59 #[storeV A l.length c room, .slice A' S.length c', .int .i64 ((k : Int) + 1)] w (PutE (buildC room (k + 1) l S) room w) := by
  have HE := Lib.hid (e7_0 hR hc room)
  have hpos : 0 < S.length := List.length_pos_iff.2 hS0
  have hp0 : ((S.length : Int) == 0) = false := beq_eq_false_iff_ne.2 (by omega)
  have hpz : ¬ (S.length : Int) = 0 := by omega
  have hk0 : (((k : Int) + 1) == 0) = false := beq_eq_false_iff_ne.2 (by omega)
  have hkz : ¬ (k : Int) + 1 = 0 := by omega
  have hcall := refParts_any A' S c' k _ ((Cel.Rd.below hS HE.out.bel (Nat.le_refl _)).more HE.out.bel.size) hSl (by omega) hin
  obtain ⟨z, hz⟩ : ∃ z, z = buildC room (k + 1) l S := ⟨_, rfl⟩
  rw [← hz]
  have hzz : z = four room (fun i l => buildC room k l (S.filter fun c => decide (q7 k c = i))) l := by
    rw [hz]
    show (if S = [] then _ else _) = _
    rw [if_neg hS0]
  have HZ := Lib.hid hzz
  have HR := Lib.hid hr
  have HIH := Lib.hid ih
  have HIN := Lib.hid hin
  have HSL := Lib.hid hSl
  clear hz hzz hr hR ih hin hS hSc hS0 hSl
  unfold storeV
  go_enter Try.func59, Try.ntmps59
  go_wp2_with fail
  refine hcall.mono ?_
  generalize (w.alloc (.cells #[.slice A l.length c, .int .i64 room] 26)).alloc (.cells #[.slice none 0 0, .int .i64 0] 26) = wx at *
  rintro e w2 ⟨vs, rfl, hvs, hb2⟩
  obtain ⟨A0, c0, e0, _⟩ := hvs 0 (by decide)
  obtain ⟨A1, c1, e1, _⟩ := hvs 1 (by decide)
  obtain ⟨A2, c2, e2, _⟩ := hvs 2 (by decide)
  obtain ⟨A3, c3, e3, _⟩ := hvs 3 (by decide)
  rw [e0, e1, e2, e3]
  have hal1 := (Below.refl w2.heap.size w2).alloc (Nat.le_refl _) (.cells #[.slice A0 (partL k S 0).length c0, .slice A1 (partL k S 1).length c1, .slice A2 (partL k S 2).length c2, .slice A3 (partL k S 3).length c3] 107)
  have hal2 := hal1.alloc hal1.size (.cells #[.int .i64 0, .int .i64 0, .int .i64 0, .int .i64 0] 33)
  have hs1 : (w2.alloc (.cells #[.slice A0 (partL k S 0).length c0, .slice A1 (partL k S 1).length c1, .slice A2 (partL k S 2).length c2, .slice A3 (partL k S 3).length c3] 107)).heap.size = w2.heap.size + 1 := by simp
  have HB0 := Lib.hid (show B7At w ((w2.alloc (.cells #[.slice A0 (partL k S 0).length c0, .slice A1 (partL k S 1).length c1, .slice A2 (partL k S 2).length c2, .slice A3 (partL k S 3).length c3] 107)).alloc (.cells #[.int .i64 0, .int .i64 0, .int .i64 0, .int .i64 0] 33)) A l c room vs (partL k S) w2.heap.size (0, 0, 0, 0) from
    ⟨(HE.out.below hb2).below hal2, by rw [e0, e1, e2, e3]; exact heap_old (heap_new rfl), fun i hi => by
      obtain ⟨A4, c4, e, hcap, hR4, hl4⟩ := hvs i hi
      exact ⟨A4, c4, e, hcap, Cel.Rd.below hR4 hal2 (Nat.le_refl _), fun a ha => by have := hl4 a ha; have := HE.out.size; omega⟩, heap_new hs1, by have := (HE.out.below hb2).size; omega⟩)
  clear hcall hvs hb2 hal1 hal2 HE e0 e1 e2 e3
  go_wp2_with fail
  generalize (w2.alloc (.cells #[.slice A0 (partL k S 0).length c0, .slice A1 (partL k S 1).length c1, .slice A2 (partL k S 2).length c2, .slice A3 (partL k S 3).length c3] 107)).alloc (.cells #[.int .i64 0, .int .i64 0, .int .i64 0, .int .i64 0] 33) = wy at *
  generalize w2.heap.size = qb at *
  go_loopw [11] (fun i wr => ∃ (j : Nat) (m : List Nd) (d : Nat) (B : Option Addr) (q : Kd), j ≤ 4 ∧ i = .int .i64 j ∧ Hid (B7At w wr B m d room vs (partL k S) qb q ∧ fourTo (fun i l => buildC room k l (S.filter fun c => decide (q7 k c = i))) l j = (m, q, 0))) (fun i _ => 4 - (intOf i).toNat)
  case atStart => exact ⟨0, l, c, A, (0, 0, 0, 0), Nat.zero_le _, rfl, HB0.out, rfl⟩
  case round =>
    obtain ⟨j, m, d, B, q, hj, rfl, HH⟩ := hrel
    obtain ⟨H, hto⟩ := HH.out
    have hm6 : Right6 m room := by
      have := fourTo_right (F := fun i l => buildC room k l (S.filter fun c => decide (q7 k c = i))) (fun i l' _ h' => build_right k l' _ h') HR.out j hj
      rw [hto] at this
      exact this
    by_cases hlt : j < 4
    · have hltz : (j : Int) < 4 := by omega
      obtain ⟨A4, c4, e4, hcap4, hR4, hl4⟩ := H.rd j hlt
      have hcall := fun W (hW : Below wr.heap.size wr W) => HIH.out m B d (partL k S j) A4 c4 W ((H.e7.st.below hW).rd) hm6 H.e7.st.cap ((Cel.Rd.below (Cel.Rd.more hR4 (Nat.le_of_lt (lt_heap6 H.qs))) hW (Nat.le_refl _)).more hW.size) (Nat.le_trans (len_part _ _ _) HSL.out) hcap4 (part_sq HIN.out hlt)
      have hbp := build_part (room := room) k m S j
      rw [hbp] at hcall
      obtain ⟨⟨zl, zn, ze⟩, hz⟩ : ∃ z, z = buildC room k m (S.filter fun c => decide (q7 k c = j)) := ⟨_, rfl⟩
      rw [← hz] at hcall
      have hnext : fourTo (fun i l => buildC room k l (S.filter fun c => decide (q7 k c = i))) l (j + 1) = (zl, kset q j zn, ze) := by
        show (if (fourTo _ l j).2.2 = 0 then _ else _) = _
        rw [hto, if_pos rfl]
        dsimp only
        rw [← hz]
      have hwk : IntKind.i64.wrap (k : Int) = (k : Int) := by rw [IntKind.wrap_i64]; omega
      have HNX := Lib.hid hnext
      have HT := Lib.hid H
      have q0 := fun W (hW : Below wr.heap.size wr W) => (H.below hW).qc hlt
      rw [e4] at q0
      generalize hnn : (partL k S j).length = n4 at *
      unfold storeV at hcall
      clear hbp hz hnext hto HH hR4 hl4 e4 H hnn
      go_wp2_with fail
      refine region_calm_to (fun W => Below wr.heap.size wr W) (fun (a0 a9 : Act) (w9 : World) => ∃ (M9 : List Nd) (A9 : Option Addr) (c9 b9 : Nat), a9 = ((((((((((((((a0.put (some 35) (.agg #[.slice B m.length d, .int .i64 room])).put (some 36) (.int .i64 (j : Int))).put (some 37) (.pointer (some ⟨qb, j, none⟩))).put (some 38) (.slice A4 n4 c4)).put (some 39) (.int .i64 ((k : Int) + 1))).put (some 40) (.int .i64 (k : Int))).put (some 41) (.tuple #[(.agg #[.slice A9 M9.length c9, .int .i64 room]), .int .i64 zn, .int .i64 ze])).put (some 34) (.tuple #[(.agg #[.slice A9 M9.length c9, .int .i64 room]), .int .i64 zn, .int .i64 ze])).put (some 42) (.agg #[.slice A9 M9.length c9, .int .i64 room])).put (some 43) (.int .i64 zn)).put (some 44) (.int .i64 ze)).put (some 12) (.pointer (some ⟨b9, 0, none⟩))).put (some 13) (.int .i64 zn)).put (some 14) (.int .i64 ze)) ∧ (ze = 0 → M9 = zl) ∧ StB w9 b9 A9 M9 c9 room ∧ Below wr.heap.size wr w9) (.calm 0 (.calm 1 (.calm 2 (.calm 3 (.calm 4 (.calm 5 (.two 6 11 (.calm 7 (.calm 8 (.calm 9 (.calm 10 (.only 11 (.only 12 (.only 13 (.only 14 .done)))))))) (.only 6 (.calm 7 (.calm 8 (.calm 9 (.calm 10 (.only 12 (.only 13 (.only 14 .done))))))))))))))) (by kernel_rfl) (by kernel_rfl) (by kernel_rfl) (by rfl) (below_drew _) ?_ ?_
      · skip
        refine ⟨_, _, (.agg #[.slice B m.length d, .int .i64 room]), rfl, rfl, ⟨rfl, fun W hW => by have s0 := (HT.out.below hW).e7.s0; have s1 := (HT.out.below hW).e7.s1; simp only [execOp]; go_simp; done⟩, ?_⟩
        simp only [Act.put, List.setIfInBounds_toArray, List.set_cons_succ, List.set_cons_zero]
        refine ⟨_, _, .int .i64 (j : Int), rfl, rfl, ⟨rfl, fun W hW => by first | exact ⟨rfl, rfl⟩ | (simp only [Act.eval, execOp]; go_simp; try exact ⟨rfl, rfl⟩)⟩, ?_⟩
        simp only [Act.put, List.setIfInBounds_toArray, List.set_cons_succ, List.set_cons_zero]
        refine ⟨_, _, (.pointer (some ⟨qb, j, none⟩)), rfl, rfl, ⟨rfl, fun W hW => by first | exact ⟨rfl, rfl⟩ | (simp only [Act.eval, execOp]; go_simp; try exact ⟨rfl, rfl⟩)⟩, ?_⟩
        simp only [Act.put, List.setIfInBounds_toArray, List.set_cons_succ, List.set_cons_zero]
        refine ⟨_, _, (.slice A4 n4 c4), rfl, rfl, ⟨rfl, fun W hW => by have q0 := q0 W hW; simp only [execOp]; go_simp; done⟩, ?_⟩
        simp only [Act.put, List.setIfInBounds_toArray, List.set_cons_succ, List.set_cons_zero]
        refine ⟨_, _, .int .i64 ((k : Int) + 1), rfl, rfl, ⟨rfl, fun W hW => by first | exact ⟨rfl, rfl⟩ | (simp only [Act.eval, execOp]; go_simp; try exact ⟨rfl, rfl⟩)⟩, ?_⟩
        simp only [Act.put, List.setIfInBounds_toArray, List.set_cons_succ, List.set_cons_zero]
        refine ⟨_, _, .int .i64 (k : Int), rfl, rfl, ⟨rfl, fun W hW => by first | exact ⟨rfl, rfl⟩ | (simp only [Act.eval, execOp]; go_simp; try exact ⟨rfl, rfl⟩)⟩, ?_⟩
        simp only [Act.put, List.setIfInBounds_toArray, List.set_cons_succ, List.set_cons_zero]
        constructor
        · skip
          refine ⟨_, rfl, ?_⟩
          go_wp2_with fail
          refine (hcall _ (below_drew wr)).mono ?_
          intro e w9 h
          obtain ⟨M9, A9, c9, hM9, rfl, hcap9, N9, hb⟩ := putE_box h
          clear h
          have hBc1 := Qt.more (below_drew wr) (Nat.le_refl _) hb
          have hb_0_1 := hb
          go_wp2_with fail
          refine ⟨rfl, hBc1, ?_⟩
          refine ⟨_, _, (.tuple #[(.agg #[.slice A9 M9.length c9, .int .i64 room]), .int .i64 zn, .int .i64 ze]), rfl, rfl, ⟨rfl, fun W hW => by first | exact ⟨rfl, rfl⟩ | (simp only [Act.eval, execOp]; go_simp; try exact ⟨rfl, rfl⟩)⟩, ?_⟩
          simp only [Act.put, List.setIfInBounds_toArray, List.set_cons_succ, List.set_cons_zero]
          refine ⟨_, _, (.agg #[.slice A9 M9.length c9, .int .i64 room]), rfl, rfl, ⟨rfl, fun W hW => by first | exact ⟨rfl, rfl⟩ | (simp only [Act.eval, execOp]; go_simp; try exact ⟨rfl, rfl⟩)⟩, ?_⟩
          simp only [Act.put, List.setIfInBounds_toArray, List.set_cons_succ, List.set_cons_zero]
          refine ⟨_, _, .int .i64 zn, rfl, rfl, ⟨rfl, fun W hW => by first | exact ⟨rfl, rfl⟩ | (simp only [Act.eval, execOp]; go_simp; try exact ⟨rfl, rfl⟩)⟩, ?_⟩
          simp only [Act.put, List.setIfInBounds_toArray, List.set_cons_succ, List.set_cons_zero]
          refine ⟨_, _, .int .i64 ze, rfl, rfl, ⟨rfl, fun W hW => by first | exact ⟨rfl, rfl⟩ | (simp only [Act.eval, execOp]; go_simp; try exact ⟨rfl, rfl⟩)⟩, ?_⟩
          simp only [Act.put, List.setIfInBounds_toArray, List.set_cons_succ, List.set_cons_zero]
          refine ⟨_, rfl, ?_⟩
          have hBa2 := (hBc1).alloc (hBc1).size (.cells #[.slice none 0 0, .int .i64 0] 26)
          have hra2 : (w9.alloc (.cells #[.slice none 0 0, .int .i64 0] 26 (0, 0))).heap[w9.heap.size]? = _ := heap_alloc_new w9 (.cells #[.slice none 0 0, .int .i64 0] 26 (0, 0))
          go_wp2_with fail
          refine ⟨rfl, hBa2, ?_⟩
          have hle_w9 : wr.heap.size ≤ w9.heap.size := (hBc1).size
          have hB9 := (hBc1).alloc (hBc1).size (.cells #[.slice A9 M9.length c9, .int .i64 room] 26)
          have hS9 := stB_new N9 hcap9 room
          refine ⟨_, rfl, ?_⟩
          go_wp2_with fail
          refine ⟨rfl, hB9, ?_⟩
          refine ⟨_, rfl, ?_⟩
          go_wp2_with fail
          refine ⟨rfl, hB9, ?_⟩
          refine ⟨_, rfl, ?_⟩
          go_wp2_with fail
          refine ⟨rfl, hB9, ?_⟩
          show ∃ (M9 : List Nd) (A9 : Option Addr) (c9 b9 : Nat), _
          refine ⟨M9, A9, c9, w9.heap.size, ?_, hM9, hS9, hB9⟩
          first | rfl | simp only [Act.put, List.setIfInBounds_toArray, List.set_cons_succ, List.set_cons_zero]
        · skip
          refine ⟨_, rfl, ?_⟩
          have hBa1 := ((below_drew wr)).alloc (Nat.le_refl _) (.cells #[.slice none 0 0, .int .i64 0] 26)
          have hra1 : (wr.drew.alloc (.cells #[.slice none 0 0, .int .i64 0] 26 (0, 0))).heap[wr.heap.size]? = _ := heap_alloc_new wr.drew (.cells #[.slice none 0 0, .int .i64 0] 26 (0, 0))
          go_wp2_with fail
          refine ⟨rfl, hBa1, ?_⟩
          refine ⟨_, rfl, ?_⟩
          go_wp2_with fail
          refine (hcall _ hBa1).mono ?_
          intro e w9 h
          obtain ⟨M9, A9, c9, hM9, rfl, hcap9, N9, hb⟩ := putE_box h
          clear h
          have hBc3 := Qt.more hBa1 (hBa1).size hb
          have hrw3 := (hb.block _ (lt_heap6 hra1)).trans hra1
          have hb_0_3 := hb
          have f0 : w9.frozen? ⟨wr.heap.size, 0, none⟩ = false := Lib.frozen_of_heap hrw3 0
          have f1 : w9.frozen? ⟨wr.heap.size, 1, none⟩ = false := Lib.frozen_of_heap hrw3 1
          have g0 : w9.cell? ⟨wr.heap.size, 0, none⟩ = some (.slice none 0 0) := by rw [Lib.cell_of_heap hrw3]; rfl
          have g1 : w9.cell? ⟨wr.heap.size, 1, none⟩ = some (.int .i64 0) := by rw [Lib.cell_of_heap hrw3]; rfl
          go_wp2_with fail
          refine ⟨rfl, hBc3, ?_⟩
          refine ⟨_, _, (.tuple #[(.agg #[.slice A9 M9.length c9, .int .i64 room]), .int .i64 zn, .int .i64 ze]), rfl, rfl, ⟨rfl, fun W hW => by first | exact ⟨rfl, rfl⟩ | (simp only [Act.eval, execOp]; go_simp; try exact ⟨rfl, rfl⟩)⟩, ?_⟩
          simp only [Act.put, List.setIfInBounds_toArray, List.set_cons_succ, List.set_cons_zero]
          refine ⟨_, _, (.agg #[.slice A9 M9.length c9, .int .i64 room]), rfl, rfl, ⟨rfl, fun W hW => by first | exact ⟨rfl, rfl⟩ | (simp only [Act.eval, execOp]; go_simp; try exact ⟨rfl, rfl⟩)⟩, ?_⟩
          simp only [Act.put, List.setIfInBounds_toArray, List.set_cons_succ, List.set_cons_zero]
          refine ⟨_, _, .int .i64 zn, rfl, rfl, ⟨rfl, fun W hW => by first | exact ⟨rfl, rfl⟩ | (simp only [Act.eval, execOp]; go_simp; try exact ⟨rfl, rfl⟩)⟩, ?_⟩
          simp only [Act.put, List.setIfInBounds_toArray, List.set_cons_succ, List.set_cons_zero]
          refine ⟨_, _, .int .i64 ze, rfl, rfl, ⟨rfl, fun W hW => by first | exact ⟨rfl, rfl⟩ | (simp only [Act.eval, execOp]; go_simp; try exact ⟨rfl, rfl⟩)⟩, ?_⟩
          simp only [Act.put, List.setIfInBounds_toArray, List.set_cons_succ, List.set_cons_zero]
          have hB9 := ((hBc3.setCell (p := ⟨wr.heap.size, 0, none⟩) (Nat.le_refl _) (.slice A9 M9.length c9)).setCell (p := ⟨wr.heap.size, 1, none⟩) (Nat.le_refl _) (.int .i64 room))
          have hS9 := stB_put (room := room) hrw3 N9 hcap9
          refine ⟨_, rfl, ?_⟩
          go_wp2_with fail
          refine ⟨rfl, hB9, ?_⟩
          refine ⟨_, rfl, ?_⟩
          go_wp2_with fail
          refine ⟨rfl, hB9, ?_⟩
          refine ⟨_, rfl, ?_⟩
          go_wp2_with fail
          refine ⟨rfl, hB9, ?_⟩
          show ∃ (M9 : List Nd) (A9 : Option Addr) (c9 b9 : Nat), _
          refine ⟨M9, A9, c9, wr.heap.size, ?_, hM9, hS9, hB9⟩
          first | rfl | simp only [Act.put, List.setIfInBounds_toArray, List.set_cons_succ, List.set_cons_zero]
      rintro a9 w3 ⟨M, A9, c9, b9, rfl, hM9, hS9, hb9⟩
      simp only [Act.put, List.setIfInBounds_toArray, List.set_cons_succ, List.set_cons_zero]
      have H3 := Lib.hid (HT.out.below hb9)
      have HS := Lib.hid hS9
      clear hcall q0 hb9 hS9 HT
      by_cases hze : ze = 0
      · subst hze
        obtain rfl := hM9 rfl
        have s0 := HS.out.s0
        have s1 := HS.out.s1
        have g0 := H3.out.e7.s0
        have g1 := H3.out.e7.s1
        have f0 := H3.out.e7.f0
        have f1 := H3.out.e7.f1
        have HP := Lib.hid (H3.out.put HS.out.rd HS.out.cap)
        have hk := HP.out.kids.c hlt
        have hkf : ((w3.setCell ⟨w.heap.size, 0, none⟩ (.slice A9 M.length c9)).setCell ⟨w.heap.size, 1, none⟩ (.int .i64 room)).frozen? ⟨qb + 1, j, none⟩ = false := Lib.frozen_of_heap HP.out.kids j
        have HF := Lib.hid (HP.out.kid hlt zn)
        clear HS H3 HP
        go_wp2_with fail
        go_roundw
        case measure => simp [intOf]; omega
        case rel => exact ⟨j + 1, M, c9, A9, kset q j zn, by omega, by go_num, HF.out, HNX.out⟩
      · have hstop : fourTo (fun i l => buildC room k l (S.filter fun c => decide (q7 k c = i))) l 4 = (zl, kset q j zn, ze) := by
          have h1 := fourTo_stop (F := fun i l => buildC room k l (S.filter fun c => decide (q7 k c = i))) (l := l) (i := j + 1) (by rw [HNX.out]; exact hze) (4 - (j + 1))
          rw [show j + 1 + (4 - (j + 1)) = 4 by omega, HNX.out] at h1
          exact h1
        have hzz : z = (zl, 0, ze) := by
          rw [HZ.out]
          unfold four
          rw [hstop, if_neg hze]
        subst hzz
        have s0 := H3.out.e7.s0
        have s1 := H3.out.e7.s1
        have r0 := H3.out.e7.r0
        have r1 := H3.out.e7.r1
        have fr0 := H3.out.e7.free 0
        have fr1 := H3.out.e7.free 1
        have ht := Lib.hid (H3.out.e7.told H3.out.e7.st.rd (.slice B m.length d) (.int .i64 room))
        have hcap := H3.out.e7.st.cap
        clear hstop H3 HZ HNX HS hM9
        go_wp2_with fail
        clear r0 r1 fr0 fr1
        refine bodyPost_ret (results_cell3 rfl _ _ _ _ _ _ _ rfl ht.out.1 Try.underlying26 rfl (by kernel_rfl)) rfl ?_
        exact ⟨m, fun h => absurd h hze, _, rfl, ⟨B, d, rfl, hcap, ht.out.2.2⟩, ht.out.2.1⟩
    · obtain rfl : j = 4 := by omega
      have hzz : z = put6 m room q := by
        rw [HZ.out]
        unfold four
        rw [hto, if_pos rfl]
      have hcall := refPut7 q H.e7.st.rd hm6 H.e7.st.cap
      rw [← hzz] at hcall
      have s0 := H.e7.s0
      have s1 := H.e7.s1
      have k0 := H.kids.c (j := 0) (by decide)
      have k1 := H.kids.c (j := 1) (by decide)
      have k2 := H.kids.c (j := 2) (by decide)
      have k3 := H.kids.c (j := 3) (by decide)
      simp only [kd] at k0 k1 k2 k3
      have HT := Lib.hid H.e7
      clear HH HZ H hzz hto
      go_wp2_with fail
      refine hcall.mono ?_
      rintro e w3 ⟨v, rfl, ⟨A9, c9, rfl, hc9, hR9⟩, hb9⟩
      have HD := Lib.hid (HT.out.below hb9)
      have r0 := HD.out.r0
      have r1 := HD.out.r1
      have fr0 := HD.out.free 0
      have fr1 := HD.out.free 1
      have ht := Lib.hid (HD.out.told hR9 (.slice A9 z.1.length c9) (.int .i64 room))
      clear hcall HT HD hb9 hR9 s0 s1 k0 k1 k2 k3
      go_wp2_with fail
      clear r0 r1 fr0 fr1
      refine bodyPost_ret (results_cell3 rfl _ _ _ _ _ _ _ rfl ht.out.1 Try.underlying26 rfl (by kernel_rfl)) rfl ?_
      exact PutR.putE ⟨_, rfl, ⟨A9, c9, rfl, hc9, ht.out.2.2⟩, ht.out.2.1⟩
theorem build_any (room : Int) : ∀ k, k ≤ 42 → Build7 room k
  | 0, _ => fun l A c S A' c' w hR hr hc hS hSl hSc hin => by
    by_cases hS0 : S = []
    · subst hS0
      rw [buildC_nil]
      exact (build_none room 0 (by decide) l A c A' c' w hR hr hc).mono fun e w' h => h.putE
    · have e : buildC room 0 l S = (l, 1, 0) := by unfold buildC; rw [if_neg hS0]
      rw [e]
      exact (build_one room l A c A' S.length c' (List.length_pos_iff.2 hS0) w hR hc).mono fun e w' h => h.putE
  | k + 1, hk => fun l A c S A' c' w hR hr hc hS hSl hSc hin => by
    by_cases hS0 : S = []
    · subst hS0
      rw [buildC_nil]
      exact (build_none room (k + 1) hk l A c A' c' w hR hr hc).mono fun e w' h => h.putE
    · exact build_step room k hk (build_any room k (by omega)) l A c S A' c' w hR hr hc hS hSl hSc hin hS0
end Go.Proofs.Ytklccoodfhejbaa
