/-
  Texts that the claims of this seat share, part 7.
-/
import Derived.Test.YtacpncmdgkljdaaGreatDoorB06
import Derived.Test.YtacpncmdgkljdaaGreatDoorB04
import Derived.Test.YtacpncmdgkljdaaGreatDoorB01
import Derived.Test.YtacpncmdgkljdaaGreatDoorB03
import Derived.Test.YtacpncmdgkljdaaGreatDoorB00
import Derived.Maps.RangeWalk
import Derived.Maps.Views
import Derived.DeepKeys4
import Derived.Outline
import Derived.Deep.DeepFit
import Derived.Test.YtacpncmdgkljdaaGreatDoorB02
set_option linter.unusedVariables false
set_option linter.unusedSimpArgs false
namespace Go.Proofs.YtacpncmdgkljdaaGreatDoor.Cel
open Go.RowKit Go.Sort

theorem rawSet_in (raw : List (Int × Int)) : ∀ p ∈ rawSet raw, inB p = true := by
  intro p hp
  have h := rawTo_bd ((mem_setL _ _).1 hp)
  rw [inB_iff]
  omega
theorem rawSet_len (raw : List (Int × Int)) : (rawSet raw).length ≤ 60 := Nat.le_trans (length_setL _) (length_rawTo _ _)
theorem rawSet_rises (raw : List (Int × Int)) : Rises (rawSet raw) := rises_setL _
theorem rawSet_right (raw : List (Int × Int)) : rightB (rawSet raw) = true := (rightB_iff _).2 ⟨Nat.le_trans (rawSet_len raw) (by decide), rawSet_in raw, rawSet_rises raw⟩

/-! ### what the box is about -/
theorem loX_le {l : List (Int × Int)} {k j : Nat} (hj : j < k) (hk : k ≤ l.length) : loX l k ≤ (l.getD j (0, 0)).1 := by
  induction k with
  | zero => omega
  | succ k ih =>
    rw [loX_succ (by omega)]
    by_cases h : j = k
    · subst h; omega
    · have := ih (by omega) (by omega); omega
theorem hiX_ge {l : List (Int × Int)} {k j : Nat} (hj : j < k) (hk : k ≤ l.length) : (l.getD j (0, 0)).1 ≤ hiX l k := by
  induction k with
  | zero => omega
  | succ k ih =>
    rw [hiX_succ (by omega)]
    by_cases h : j = k
    · subst h; omega
    · have := ih (by omega) (by omega); omega
theorem loX_hit {l : List (Int × Int)} (h0 : 0 < l.length) {k : Nat} (hk : k ≤ l.length) : ∃ j, j < l.length ∧ (l.getD j (0, 0)).1 = loX l k := by
  induction k with
  | zero => exact ⟨0, h0, rfl⟩
  | succ k ih =>
    obtain ⟨j, hj, e⟩ := ih (by omega)
    rw [loX_succ (by omega)]
    by_cases h : loX l k ≤ (l.getD k (0, 0)).1
    · exact ⟨j, hj, by rw [e]; omega⟩
    · exact ⟨k, by omega, by omega⟩
theorem hiX_hit {l : List (Int × Int)} (h0 : 0 < l.length) {k : Nat} (hk : k ≤ l.length) : ∃ j, j < l.length ∧ (l.getD j (0, 0)).1 = hiX l k := by
  induction k with
  | zero => exact ⟨0, h0, rfl⟩
  | succ k ih =>
    obtain ⟨j, hj, e⟩ := ih (by omega)
    rw [hiX_succ (by omega)]
    by_cases h : (l.getD k (0, 0)).1 ≤ hiX l k
    · exact ⟨j, hj, by rw [e]; omega⟩
    · exact ⟨k, by omega, by omega⟩
theorem rises_y {l : List (Int × Int)} (h : Rises l) {i j : Nat} (hij : i ≤ j) (hj : j < l.length) : (l.getD i (0, 0)).2 ≤ (l.getD j (0, 0)).2 := by
  by_cases e : i = j
  · subst e; exact Int.le_refl _
  · have := rises_get h (i := i) (j := j) (by omega) hj
    rw [lessB_iff] at this
    omega

/-- whether one of the first k cells has p -/
def anyTo (p : Int × Int → Bool) (l : List (Int × Int)) (k : Nat) : Bool := (l.take k).any p
theorem anyTo_succ {p : Int × Int → Bool} {l : List (Int × Int)} {k : Nat} (hk : k < l.length) : anyTo p l (k + 1) = (anyTo p l k || p (l.getD k (0, 0))) := by
  unfold anyTo; rw [take_snoc hk, List.any_append]; simp
theorem anyTo_yes {p : Int × Int → Bool} {l : List (Int × Int)} {j : Nat} (hj : j < l.length) (h : p (l.getD j (0, 0)) = true) : anyTo p l l.length = true := by
  unfold anyTo
  rw [List.take_length, List.any_eq_true]
  exact ⟨_, getD_mem hj, h⟩

theorem Whole.set_ {w : World} {g T : Nat} {cs : Array Value} (h : Whole w g T cs) (i : Nat) (u : Value) : Whole (w.setCell ⟨g, i, none⟩ u) g T (cs.setIfInBounds i u) := heap_setCell_same w g i cs T u h
theorem Whole.far {w : World} {g T : Nat} {cs : Array Value} (h : Whole w g T cs) {p : Addr} (hp : g ≠ p.block) (u : Value) : Whole (w.setCell p u) g T cs := (Below.heap_setCell w p u g hp).trans h
theorem Whole.set4 {w : World} {g T : Nat} {a b c d a' b' c' d' a2 b2 c2 d2 : Value} (h : Whole w g T #[a, b, c, d]) (e0 : a' = a2) (e1 : b' = b2) (e2 : c' = c2) (e3 : d' = d2) :
    Whole ((((w.setCell ⟨g, 0, none⟩ a').setCell ⟨g, 1, none⟩ b').setCell ⟨g, 2, none⟩ c').setCell ⟨g, 3, none⟩ d') g T #[a2, b2, c2, d2] := by
  subst e0 e1 e2 e3
  exact (((h.set_ 0 a').set_ 1 b').set_ 2 c').set_ 3 d'
theorem side_eq {a b : Int} {P : Prop} [Decidable P] (h : a = b ↔ P) : Value.bool (a == b) = Value.bool (false || decide P) := by
  congr 1
  rw [Bool.eq_iff_iff]
  simp [h]

end Go.Proofs.YtacpncmdgkljdaaGreatDoor.Cel
namespace Go.Proofs.YtacpncmdgkljdaaGreatDoor
set_option linter.unusedVariables false
set_option linter.unusedSimpArgs false
open Go.RowKit Go.Sort
open Cel (boxV noBox loX hiX)

theorem putI_bd (q : List Tn) (t : UInt8) (n b : Nat) (h : ∀ x ∈ q, x.2 ≤ b) : ∀ x ∈ putI q t n, x.2 ≤ b + n := by
  by_cases hn : n = 0
  · subst hn; rw [putI_zero]; exact fun x hx => Nat.le_trans (h x hx) (Nat.le_add_right _ _)
  · rcases list_cases q with rfl | ⟨a, ⟨u, m⟩, rfl⟩
    · rw [putI_first t n hn]
      intro x hx
      rw [List.mem_singleton.1 hx]
      exact Nat.le_add_left _ _
    · by_cases ht : u = t
      · subst ht
        rw [putI_grow a u m n hn]
        intro x hx
        rcases List.mem_append.1 hx with hx | hx
        · exact Nat.le_trans (h x (List.mem_append_left _ hx)) (Nat.le_add_right _ _)
        · rw [List.mem_singleton.1 hx]
          have := h (u, m) (by simp)
          simp only at *
          omega
      · rw [putI_new a t u m n hn ht]
        intro x hx
        rcases List.mem_append.1 hx with hx | hx
        · exact Nat.le_trans (h x hx) (Nat.le_add_right _ _)
        · rw [List.mem_singleton.1 hx]; exact Nat.le_add_left _ _

theorem tellL_snoc (l : List (Nat × Nat)) (c : Nat × Nat) : tellL (l ++ [c]) = tellC (tellL l) c := by unfold tellL; rw [List.foldl_append]; rfl
theorem tellC_down (q : List Tn × Nat × Nat) (c : Nat × Nat) (h : q.2.2 < c.2) : tellC q c = (putI (putI (putI q.1 36 (c.2 - q.2.2)) 98 c.1) 111 1, c.1 + 1, c.2) := by unfold tellC; simp only [if_pos h]; rfl
theorem tellC_on (q : List Tn × Nat × Nat) (c : Nat × Nat) (h : ¬ q.2.2 < c.2) : tellC q c = (putI (putI q.1 98 (c.1 - q.2.1)) 111 1, c.1 + 1, c.2) := by unfold tellC; simp only [if_neg h]
theorem tellC_bd (q : List Tn × Nat × Nat) (c : Nat × Nat) (b : Nat) (hc : c.1 ≤ 3000000000000 ∧ c.2 ≤ 3000000000000) (h : ∀ x ∈ q.1, x.2 ≤ b) : ∀ x ∈ (tellC q c).1, x.2 ≤ b + 7000000000000 := by
  by_cases hd : q.2.2 < c.2
  · rw [tellC_down q c hd]
    intro x hx
    have := putI_bd _ 111 1 _ (putI_bd _ 98 c.1 _ (putI_bd _ 36 (c.2 - q.2.2) _ h)) x hx
    omega
  · rw [tellC_on q c hd]
    intro x hx
    have := putI_bd _ 111 1 _ (putI_bd _ 98 (c.1 - q.2.1) _ h) x hx
    omega
theorem tellL_bd (l : List (Nat × Nat)) : (∀ c ∈ l, c.1 ≤ 3000000000000 ∧ c.2 ≤ 3000000000000) → ∀ x ∈ (tellL l).1, x.2 ≤ 7000000000000 * l.length := by
  rcases list_cases l with rfl | ⟨a, c, rfl⟩
  · intro _ x hx; cases hx
  · intro h x hx
    rw [tellL_snoc] at hx
    have := tellC_bd (tellL a) c _ (h c (by simp)) (tellL_bd a fun c hc => h c (List.mem_append_left _ hc)) x hx
    simp only [List.length_append, List.length_cons, List.length_nil]
    omega
termination_by l.length
decreasing_by simp [*]
/-- where one stands behind so many cells -/
theorem tellL_where {l : List (Nat × Nat)} (hr : l.Pairwise lessN) {k : Nat} (hk : k < l.length) : (tellL (l.take k)).2.2 ≤ l[k].2 ∧ ((tellL (l.take k)).2.2 = l[k].2 → (tellL (l.take k)).2.1 ≤ l[k].1) := by
  cases k with
  | zero => exact ⟨Nat.zero_le _, fun _ => Nat.zero_le _⟩
  | succ k =>
    have h1 : l.take (k + 1) = l.take k ++ [l[k]] := List.take_succ_eq_append_getElem (by omega)
    rw [h1, tellL_snoc, tell_at]
    have := List.pairwise_iff_getElem.1 hr k (k + 1) (by omega) hk (by omega)
    unfold lessN at this
    simp only
    omega
theorem MR.row {B : Nat} {w w' : World} (h : MR B w w') {k : Nat} {cs : Array Value} {T : Nat} (hk : w.heap[k]? = some (.cells cs T (0, 0))) (hT : T ≠ 61) : w'.heap[k]? = some (.cells cs T (0, 0)) :=
  h.2 k _ hk (by simp) (fun c fz e => by injection e with _ e _; exact hT e)

theorem fromC_get (bx b_y : Int) (l : List (Int × Int)) {k : Nat} (h : k < l.length) (h2 : k < (fromC bx b_y l).length) : (fromC bx b_y l)[k] = ((l[k].1 - bx).toNat, (l[k].2 - b_y).toNat) := by simp [fromC]
/-- What is known at the head of the loop. -/
structure StrAt (w wr : World) (bx b_y wd ht : Int) (q : List Tn × Nat × Nat) (v : Value) : Prop where
  box : wr.heap[w.heap.size]? = some (.cells #[.int .i64 bx, .int .i64 b_y, .int .i64 wd, .int .i64 ht] 42 (0, 0))
  pos : wr.heap[w.heap.size + 1]? = some (.cells #[.int .i64 (bx + q.2.1), .int .i64 (b_y + q.2.2)] 37 (0, 0))
  own : OwnE wr (w.heap.size + 2) v (ups q.1)
  bel : Below w.heap.size w wr

set_option maxHeartbeats 8000000 in
set_option maxRecDepth 100000 in
theorem strokes_any (A : Option Addr) (l : List (Int × Int)) (c : Nat) (bx b_y wd ht : Int) (w : World) (hR : Cel.Rd w w.heap.size A l) (hl : l.length ≤ 2000) (hb : ∀ p ∈ l, bx ≤ p.1 ∧ b_y ≤ p.2 ∧ p.1 - bx ≤ 3000000000000 ∧ p.2 - b_y ≤ 3000000000000) (hx : -3000000000000 ≤ bx ∧ bx ≤ 3000000000000) (hy : -3000000000000 ≤ b_y ∧ b_y ≤ 3000000000000)
    (hr : (fromC bx b_y l).Pairwise lessN) :
    Calls Tryz.prog 18 #[.slice A l.length c, .agg #[.int .i64 bx, .int .i64 b_y, .int .i64 wd, .int .i64 ht]] w fun e w' => ∃ v, e = .returned v ∧ ReadsE w' v (ups (tellL (fromC bx b_y l)).1) ∧ Below w.heap.size w w' := by
  have hlen := fromC_len bx b_y l
  have hget : ∀ k (h : k < l.length) (h2 : k < (fromC bx b_y l).length), (l.getD k (0, 0)).1 = bx + ((fromC bx b_y l)[k].1 : Nat) ∧ (l.getD k (0, 0)).2 = b_y + ((fromC bx b_y l)[k].2 : Nat) ∧ (fromC bx b_y l)[k].1 ≤ 3000000000000 ∧ (fromC bx b_y l)[k].2 ≤ 3000000000000 := by
    intro k h h2
    have hm := hb _ (Cel.getD_mem h)
    rw [List.getD_eq_getElem?_getD, List.getElem?_eq_getElem h, Option.getD_some] at hm ⊢
    rw [fromC_get bx b_y l h h2]
    simp only
    omega
  have hbd : ∀ k, k ≤ l.length → (∀ x ∈ (tellL ((fromC bx b_y l).take k)).1, x.2 ≤ 14000000000000000) ∧ (tellL ((fromC bx b_y l).take k)).1.length ≤ 6000 := by
    intro k hk
    have h1 := tellL_len ((fromC bx b_y l).take k)
    have hkl : ((fromC bx b_y l).take k).length ≤ 2000 := by rw [List.length_take]; omega
    refine ⟨fun x hx => ?_, by omega⟩
    have := tellL_bd ((fromC bx b_y l).take k) (fun c hc => by
      obtain ⟨j, hj, e⟩ := List.getElem_of_mem (List.mem_of_mem_take hc)
      have := hget j (by omega) hj
      rw [← e]
      exact ⟨this.2.2.1, this.2.2.2⟩) x hx
    omega
  have hfull : (fromC bx b_y l).take l.length = fromC bx b_y l := by rw [← hlen, List.take_length]
  generalize fromC bx b_y l = L at *
  have HGET := Lib.hid hget
  have HBD := Lib.hid hbd
  have HR := Lib.hid hr
  clear hget hbd hr hb
  have HFULL := Lib.hid hfull
  have HLEN := Lib.hid hlen
  clear hfull hlen
  have H0 : StrAt w ((w.alloc (.cells #[.int .i64 bx, .int .i64 b_y, .int .i64 wd, .int .i64 ht] 42)).alloc (.cells #[.int .i64 bx, .int .i64 b_y] 37)) bx b_y wd ht (tellL (L.take 0)) (.slice none 0 0) := by
    have hb1 : Below w.heap.size w (w.alloc (.cells #[.int .i64 bx, .int .i64 b_y, .int .i64 wd, .int .i64 ht] 42)) := (Below.refl _ _).alloc (Nat.le_refl _) _
    have hs1 : (w.alloc (.cells #[.int .i64 bx, .int .i64 b_y, .int .i64 wd, .int .i64 ht] 42)).heap.size = w.heap.size + 1 := by simp
    refine ⟨?_, ?_, World.ownsRow_nil _ _ _ _, hb1.alloc (by omega) _⟩
    · rw [Lib.alloc_old _ _ _ (by omega)]
      exact heap_alloc_new w _
    · rw [← hs1]
      have := heap_alloc_new (w.alloc (.cells #[.int .i64 bx, .int .i64 b_y, .int .i64 wd, .int .i64 ht] 42)) (.cells #[.int .i64 bx, .int .i64 b_y] 37)
      rw [this]
      simp [tellL]
  have HH0 := Lib.hid H0
  clear H0
  go_enter Tryz.func18, Tryz.ntmps18
  go_wp2
  go_loopw [5, 16] (fun u i wr => ∃ (k : Nat) (v : Value), k ≤ l.length ∧ i = .int .i64 k ∧ u = v ∧ Hid (StrAt w wr bx b_y wd ht (tellL (L.take k)) v)) (fun _ i _ => l.length - (intOf i).toNat)
  case atStart => exact ⟨0, _, Nat.zero_le _, rfl, rfl, HH0⟩
  case round =>
    obtain ⟨k, v, hk, rfl, hv, HH⟩ := hrel
    have hv2 := hv.symm
    subst hv2
    clear hv
    by_cases hlt : k < l.length
    · have hltz : (k : Int) < (l.length : Int) := by omega
      have hkL : k < L.length := by have := HLEN.out; omega
      obtain ⟨b0, off, rfl, hbB, hcell⟩ := hR.at_ (by omega)
      obtain ⟨g1, g2, g3, g4⟩ := HGET.out k hlt hkL
      have H := HH.out
      have a0 := Qt.keep H.bel (hcell k hlt).1
      have a1 := Qt.keep H.bel (hcell k hlt).2
      obtain ⟨⟨X, Y⟩, hX⟩ : ∃ x, x = l.getD k (0, 0) := ⟨_, rfl⟩
      rw [← hX] at a0 a1 g1 g2
      obtain ⟨hbd, hlq⟩ := HBD.out k hk
      have hwh := tellL_where HR.out hkL
      have hsn : tellL (L.take (k + 1)) = tellC (tellL (L.take k)) L[k] := by rw [List.take_succ_eq_append_getElem hkL, tellL_snoc]
      obtain ⟨hH1, hH2, hH3, hH4⟩ := H
      generalize tellL (L.take k) = q at *
      obtain ⟨q, x, y⟩ := q
      obtain ⟨⟨cx, cy⟩, hc⟩ : ∃ z, z = L[k] := ⟨_, rfl⟩
      rw [← hc] at g1 g2 g3 g4 hwh hsn
      simp only at g1 g2 g3 g4 hwh a0 a1 hbd hlq hH1 hH2 hH3
      have HSN := Lib.hid hsn
      clear hsn hc hX hcell HH
      have hposlt : w.heap.size + 1 < wr.heap.size := lt_heap hH2
      have hM1 : MR (w.heap.size + 2) wr (wr.alloc (.cells #[.int .i64 X, .int .i64 Y] 37)) := (MR.refl _ _).alloc (by omega) _
      have hbox1 := hM1.row hH1 (by decide)
      have hpos1 := hM1.row hH2 (by decide)
      have hown1 : OwnE (wr.alloc (.cells #[.int .i64 X, .int .i64 Y] 37)) (w.heap.size + 2) v (ups q) := World.ownsRow.alloc hH3 _
      have hc1 : (wr.alloc (.cells #[.int .i64 X, .int .i64 Y] 37)).heap[wr.heap.size]? = some (.cells #[.int .i64 X, .int .i64 Y] 37 (0, 0)) := heap_alloc_new wr _
      have hsz1 : (wr.alloc (.cells #[.int .i64 X, .int .i64 Y] 37)).heap.size = wr.heap.size + 1 := by simp
      have hbel1 : Below w.heap.size w (wr.alloc (.cells #[.int .i64 X, .int .i64 Y] 37)) := hH4.alloc (by omega) _
      obtain ⟨px, hpx⟩ : ∃ z, z = bx + (x : Int) := ⟨_, rfl⟩
      obtain ⟨py, hpy⟩ : ∃ z, z = b_y + (y : Int) := ⟨_, rfl⟩
      rw [← hpx, ← hpy] at hpos1
      have p0 : (wr.alloc (.cells #[.int .i64 X, .int .i64 Y] 37)).cell? ⟨w.heap.size + 1, 0, none⟩ = some (.int .i64 px) := by rw [Lib.cell_of_heap hpos1]; rfl
      have p1 : (wr.alloc (.cells #[.int .i64 X, .int .i64 Y] 37)).cell? ⟨w.heap.size + 1, 1, none⟩ = some (.int .i64 py) := by rw [Lib.cell_of_heap hpos1]; rfl
      have hXb : -6000000000000 ≤ X ∧ X ≤ 6000000000000 := by omega
      have hYb : -6000000000000 ≤ Y ∧ Y ≤ 6000000000000 := by omega
      have HE := Lib.hid (And.intro g1 (And.intro g2 (And.intro hpx hpy)))
      clear hM1 hH1 hH2 hH3 hH4
      by_cases hdn : y < cy
      · have hgt : py < Y := by omega
        obtain ⟨n1, hn1⟩ : ∃ n, n = cy - y := ⟨_, rfl⟩
        have hd1 : Y - py = (n1 : Int) := by omega
        have hd2 : X - bx = (cx : Int) := by omega
        have hsn := HSN.out
        rw [tellC_down (q, x, y) (cx, cy) hdn] at hsn
        simp only at hsn
        rw [← hn1] at hsn
        have HSN := Lib.hid hsn
        have hnb : n1 ≤ 3000000000000 := by omega
        clear g1 g2 hpx hpy hn1 hwh hdn
        have hm2 : Calls Tryz.prog 42 #[v, .int .u8 36, .int .i64 n1] (wr.alloc (.cells #[.int .i64 X, .int .i64 Y] 37)) (MoreR (w.heap.size + 2) (putI q 36 n1) (wr.alloc (.cells #[.int .i64 X, .int .i64 Y] 37))) := more_any q 36 n1 hown1 (by omega) (by omega) (fun x hx => by have := hbd x hx; omega) (by omega)
        clear hsn hsz1
        go_wp2_with fail
        refine hm2.mono ?_
        rintro e w2 ⟨v2, rfl, hO2, hM2⟩
        have hbox2 := hM2.row hbox1 (by decide)
        have hpos2 := hM2.row hpos1 (by decide)
        have hc2 := hM2.row hc1 (by decide)
        have hbel2 : Below w.heap.size w w2 := hbel1.trans (hM2.1.mono (by omega))
        have hlen2 := putI_len q 36 n1
        have hbd2 := putI_bd q 36 n1 _ hbd
        generalize putI q 36 n1 = q2 at *
        have i0 : w2.cell? ⟨w.heap.size, 0, none⟩ = some (.int .i64 bx) := by rw [Lib.cell_of_heap hbox2]; rfl
        have i1 : w2.cell? ⟨wr.heap.size, 1, none⟩ = some (.int .i64 Y) := by rw [Lib.cell_of_heap hc2]; rfl
        have i2 : w2.frozen? ⟨w.heap.size + 1, 0, none⟩ = false := Lib.frozen_of_heap hpos2 0
        have i3 : w2.frozen? ⟨w.heap.size + 1, 1, none⟩ = false := Lib.frozen_of_heap hpos2 1
        have i4 : w2.cell? ⟨w.heap.size + 1, 0, none⟩ = some (.int .i64 px) := by rw [Lib.cell_of_heap hpos2]; rfl
        have i5 : w2.cell? ⟨w.heap.size + 1, 1, none⟩ = some (.int .i64 py) := by rw [Lib.cell_of_heap hpos2]; rfl
        have hbox3 : ((w2.setCell ⟨w.heap.size + 1, 0, none⟩ (.int .i64 bx)).setCell ⟨w.heap.size + 1, 1, none⟩ (.int .i64 Y)).heap[w.heap.size]? = _ := (Below.heap_setCell _ _ _ _ (by simp)).trans ((Below.heap_setCell w2 _ _ _ (by simp)).trans hbox2)
        have hpos3 : ((w2.setCell ⟨w.heap.size + 1, 0, none⟩ (.int .i64 bx)).setCell ⟨w.heap.size + 1, 1, none⟩ (.int .i64 Y)).heap[w.heap.size + 1]? = some (.cells #[.int .i64 bx, .int .i64 Y] 37 (0, 0)) := by simp [World.setCell, Array.getElem?_modify, hpos2]
        have hc3 : ((w2.setCell ⟨w.heap.size + 1, 0, none⟩ (.int .i64 bx)).setCell ⟨w.heap.size + 1, 1, none⟩ (.int .i64 Y)).heap[wr.heap.size]? = _ := (Below.heap_setCell _ _ _ _ (by simp; omega)).trans ((Below.heap_setCell w2 _ _ _ (by simp; omega)).trans hc2)
        have hne2 : v2.ownBlock = none ∨ v2.ownBlock ≠ some (w.heap.size + 1) := by
          cases hv : v2.ownBlock with
          | none => exact .inl rfl
          | some g => exact .inr (fun h2 => by injection h2 with h2; have := (own_kind hO2 g hv).1; omega)
        have hO3 : OwnE ((w2.setCell ⟨w.heap.size + 1, 0, none⟩ (.int .i64 bx)).setCell ⟨w.heap.size + 1, 1, none⟩ (.int .i64 Y)) (w.heap.size + 2) v2 (ups q2) := World.ownsRow.kept (World.ownsRow.kept hO2 (But.setCell 0 _) hne2) (But.setCell 1 _) hne2
        have hbel3 : Below w.heap.size w ((w2.setCell ⟨w.heap.size + 1, 0, none⟩ (.int .i64 bx)).setCell ⟨w.heap.size + 1, 1, none⟩ (.int .i64 Y)) := (hbel2.setCell (by show _ ≤ _ + 1; omega) _).setCell (by show _ ≤ _ + 1; omega) _
        have hsz3 : w.heap.size + 2 ≤ ((w2.setCell ⟨w.heap.size + 1, 0, none⟩ (.int .i64 bx)).setCell ⟨w.heap.size + 1, 1, none⟩ (.int .i64 Y)).heap.size := lt_heap hpos3
        have j0 : ((w2.setCell ⟨w.heap.size + 1, 0, none⟩ (.int .i64 bx)).setCell ⟨w.heap.size + 1, 1, none⟩ (.int .i64 Y)).cell? ⟨w.heap.size + 1, 0, none⟩ = some (.int .i64 bx) := by rw [Lib.cell_of_heap hpos3]; rfl
        have j1 : ((w2.setCell ⟨w.heap.size + 1, 0, none⟩ (.int .i64 bx)).setCell ⟨w.heap.size + 1, 1, none⟩ (.int .i64 Y)).cell? ⟨wr.heap.size, 0, none⟩ = some (.int .i64 X) := by rw [Lib.cell_of_heap hc3]; rfl
        clear hm2 hM2 hbox1 hpos1 hc1 hown1 hbel1 p0 p1 a0 a1 hbox2 hpos2 hc2 hbel2 hne2 hO2
        -- the gap
        have hm4 : Calls Tryz.prog 42 #[v2, .int .u8 98, .int .i64 cx] ((w2.setCell ⟨w.heap.size + 1, 0, none⟩ (.int .i64 bx)).setCell ⟨w.heap.size + 1, 1, none⟩ (.int .i64 Y)) (MoreR (w.heap.size + 2) (putI q2 98 cx) ((w2.setCell ⟨w.heap.size + 1, 0, none⟩ (.int .i64 bx)).setCell ⟨w.heap.size + 1, 1, none⟩ (.int .i64 Y))) := more_any q2 98 cx hO3 (hsz3) (by omega) (fun x hx => by have := hbd2 x hx; omega) (by omega)
        go_wp2_with fail
        refine hm4.mono ?_
        rintro e w4 ⟨v4, rfl, hO4, hM4⟩
        have hbox4 := hM4.row hbox3 (by decide)
        have hpos4 := hM4.row hpos3 (by decide)
        have hc4 := hM4.row hc3 (by decide)
        have hbel4 : Below w.heap.size w w4 := hbel3.trans (hM4.1.mono (by omega))
        have hlen4 := putI_len q2 98 cx
        have hbd4 := putI_bd q2 98 cx _ hbd2
        generalize putI q2 98 cx = q4 at *
        clear hm4 hM4 hbox3 hpos3 hc3 hO3 hbel3 hsz3 i0 i1 i2 i3 i4 i5 j0 j1 hbd2 hbd
        have hsz4 : w.heap.size + 2 ≤ w4.heap.size := lt_heap hpos4
        have hm5 : Calls Tryz.prog 42 #[v4, .int .u8 111, .int .i64 1] w4 (MoreR (w.heap.size + 2) (putI q4 111 1) w4) := more_any q4 111 1 hO4 hsz4 (by omega) (fun x hx => by have := hbd4 x hx; omega) (by omega)
        go_wp2_with fail
        refine hm5.mono ?_
        rintro e w5 ⟨v5, rfl, hO5, hM5⟩
        have hpos5 := hM5.row hpos4 (by decide)
        have hc5 := hM5.row hc4 (by decide)
        have hbox5 := hM5.row hbox4 (by decide)
        have hbel5 : Below w.heap.size w w5 := hbel4.trans (hM5.1.mono (by omega))
        have e0 : w5.cell? ⟨wr.heap.size, 0, none⟩ = some (.int .i64 X) := by rw [Lib.cell_of_heap hc5]; rfl
        have f0 : w5.frozen? ⟨w.heap.size + 1, 0, none⟩ = false := Lib.frozen_of_heap hpos5 0
        have d0 : w5.cell? ⟨w.heap.size + 1, 0, none⟩ = some (.int .i64 bx) := by rw [Lib.cell_of_heap hpos5]; rfl
        clear hm5 hM5 hO4 hc4 hpos4 hbox4 hbel4
        go_wp2
        go_roundw
        case measure => simp [intOf]; omega
        case rel =>
          refine ⟨k + 1, _, by omega, rfl, rfl, ?_⟩
          rw [HSN.out]
          refine ⟨?_, ?_, ?_, hbel5.setCell (by show _ ≤ _ + 1; omega) _⟩
          · exact (Below.heap_setCell w5 _ _ _ (by simp)).trans hbox5
          · have e1 : bx + ((cx + 1 : Nat) : Int) = X + 1 := by have := HE.out; omega
            have e2 : b_y + (cy : Int) = Y := by have := HE.out; omega
            show (w5.setCell ⟨w.heap.size + 1, 0, none⟩ (.int .i64 (X + 1))).heap[w.heap.size + 1]? = some (.cells #[.int .i64 (bx + ((cx + 1 : Nat) : Int)), .int .i64 (b_y + (cy : Int))] 37 (0, 0))
            rw [e1, e2]
            simp [World.setCell, Array.getElem?_modify, hpos5]
          · exact World.ownsRow.kept hO5 (But.setCell 0 _) (by
              cases hv : v5.ownBlock with
              | none => exact .inl rfl
              | some g => exact .inr (fun h2 => by injection h2 with h2; have := (own_kind hO5 g hv).1; omega))
      · have hgt : ¬ py < Y := by omega
        obtain ⟨n2, hn2⟩ : ∃ n, n = cx - x := ⟨_, rfl⟩
        have hd2 : X - px = (n2 : Int) := by omega
        have hsn := HSN.out
        rw [tellC_on (q, x, y) (cx, cy) hdn] at hsn
        simp only at hsn
        rw [← hn2] at hsn
        have HSN := Lib.hid hsn
        have hsz3 : w.heap.size + 2 ≤ (wr.alloc (.cells #[.int .i64 X, .int .i64 Y] 37)).heap.size := by omega
        have hpyY : py = Y := by omega
        rw [hpyY] at hpos1
        have hnb : n2 ≤ 3000000000000 := by omega
        clear g1 g2 hpx hpy hn2 hwh hdn hpyY
        clear hsn hsz1
        -- the gap
        have hm4 : Calls Tryz.prog 42 #[v, .int .u8 98, .int .i64 n2] (wr.alloc (.cells #[.int .i64 X, .int .i64 Y] 37)) (MoreR (w.heap.size + 2) (putI q 98 n2) (wr.alloc (.cells #[.int .i64 X, .int .i64 Y] 37))) := more_any q 98 n2 hown1 (hsz3) (by omega) (fun x hx => by have := hbd x hx; omega) (by omega)
        go_wp2_with fail
        refine hm4.mono ?_
        rintro e w4 ⟨v4, rfl, hO4, hM4⟩
        have hbox4 := hM4.row hbox1 (by decide)
        have hpos4 := hM4.row hpos1 (by decide)
        have hc4 := hM4.row hc1 (by decide)
        have hbel4 : Below w.heap.size w w4 := hbel1.trans (hM4.1.mono (by omega))
        have hlen4 := putI_len q 98 n2
        have hbd4 := putI_bd q 98 n2 _ hbd
        generalize putI q 98 n2 = q4 at *
        clear hm4 hM4 hbox1 hpos1 hc1 hown1 hbel1 hsz3 p0 p1 a0 a1 hbd
        have hsz4 : w.heap.size + 2 ≤ w4.heap.size := lt_heap hpos4
        have hm5 : Calls Tryz.prog 42 #[v4, .int .u8 111, .int .i64 1] w4 (MoreR (w.heap.size + 2) (putI q4 111 1) w4) := more_any q4 111 1 hO4 hsz4 (by omega) (fun x hx => by have := hbd4 x hx; omega) (by omega)
        go_wp2_with fail
        refine hm5.mono ?_
        rintro e w5 ⟨v5, rfl, hO5, hM5⟩
        have hpos5 := hM5.row hpos4 (by decide)
        have hc5 := hM5.row hc4 (by decide)
        have hbox5 := hM5.row hbox4 (by decide)
        have hbel5 : Below w.heap.size w w5 := hbel4.trans (hM5.1.mono (by omega))
        have e0 : w5.cell? ⟨wr.heap.size, 0, none⟩ = some (.int .i64 X) := by rw [Lib.cell_of_heap hc5]; rfl
        have f0 : w5.frozen? ⟨w.heap.size + 1, 0, none⟩ = false := Lib.frozen_of_heap hpos5 0
        have d0 : w5.cell? ⟨w.heap.size + 1, 0, none⟩ = some (.int .i64 px) := by rw [Lib.cell_of_heap hpos5]; rfl
        clear hm5 hM5 hO4 hc4 hpos4 hbox4 hbel4
        go_wp2
        go_roundw
        case measure => simp [intOf]; omega
        case rel =>
          refine ⟨k + 1, _, by omega, rfl, rfl, ?_⟩
          rw [HSN.out]
          refine ⟨?_, ?_, ?_, hbel5.setCell (by show _ ≤ _ + 1; omega) _⟩
          · exact (Below.heap_setCell w5 _ _ _ (by simp)).trans hbox5
          · have e1 : bx + ((cx + 1 : Nat) : Int) = X + 1 := by have := HE.out; omega
            have e2 : b_y + (cy : Int) = Y := by have := HE.out; omega
            show (w5.setCell ⟨w.heap.size + 1, 0, none⟩ (.int .i64 (X + 1))).heap[w.heap.size + 1]? = some (.cells #[.int .i64 (bx + ((cx + 1 : Nat) : Int)), .int .i64 (b_y + (cy : Int))] 37 (0, 0))
            rw [e1, e2]
            simp [World.setCell, Array.getElem?_modify, hpos5]
          · exact World.ownsRow.kept hO5 (But.setCell 0 _) (by
              cases hv : v5.ownBlock with
              | none => exact .inl rfl
              | some g => exact .inr (fun h2 => by injection h2 with h2; have := (own_kind hO5 g hv).1; omega))
    · have hltz : ¬ (k : Int) < (l.length : Int) := by omega
      obtain rfl : k = l.length := by omega
      rw [HFULL.out] at HH
      clear hlt hk
      go_wp2
      go_ret
      exact ⟨_, rfl, HH.out.own.reads, HH.out.bel⟩
end Go.Proofs.YtacpncmdgkljdaaGreatDoor
namespace Go.Proofs.YtacpncmdgkljdaaGreatDoor
set_option linter.unusedVariables false
set_option linter.unusedSimpArgs false
open Go.RowKit Go.Sort

set_option maxHeartbeats 4000000 in
set_option maxRecDepth 100000 in
theorem refPut_any {w : World} {B : Nat} {v : Value} (q : List Tn) (t : UInt8) (n : Nat) (hO : OwnE w B v (ups q)) (hB : B ≤ w.heap.size) (hl : q.length ≤ 900000) (hq : ∀ x ∈ q, x.2 ≤ 4000000000000000000) (hn : n ≤ 4000000000000000000) :
    Calls Tryz.prog 21 #[v, .int .u8 t.toNat, .int .i64 n] w (MoreR B (putI q t n) w) := by
  obtain ⟨A, c, rfl⟩ := slice_of_own hO
  rw [ups_len] at hO ⊢
  have HO := Lib.hid hO
  by_cases h0 : n = 0
  · subst h0
    show Calls Tryz.prog 21 #[.slice A q.length c, .int .u8 t.toNat, .int .i64 0] w (MoreR B (putI q t 0) w)
    rw [putI_zero]
    clear hO hq
    go_enter Tryz.func21, Tryz.ntmps21
    go_wp2
    go_ret
    exact ⟨_, rfl, HO.out, MR.refl _ _⟩
  · have hz : ((n : Int) == 0) = false := beq_eq_false_iff_ne.2 (by omega)
    have hpush : ∀ (u : UInt8) (m : Nat), putI q t n = q ++ [(u, m)] → ∃ v' w', (Builtin.append_ #[47, 47] 47 #[.slice A q.length c, .slice (some ⟨w.heap.size, 0, none⟩) 1 1]).run Tryz.prog (w.alloc (.cells #[.int .u8 u.toNat, .int .i64 m, .int .i64 0] 61)) = .ok v' w' ∧ Hid (OwnE w' B v' (ups (putI q t n)) ∧ MR B w w') := by
      intro u m he
      have h1 := pushE_any (out := ups q) (u, (m : Int), 0) hB (v := .slice A q.length c) HO.out (by rw [ups_len]; omega)
      obtain ⟨v', w', hrun, hown, hgrow, hbel⟩ := h1
      refine ⟨v', w', hrun, ?_, hbel, ?_⟩
      · rw [he, ups_append, ups_one]; exact hown
      · refine ((Lib.OthersKept.refl _ _ w).alloc _).grown hgrow fun k hk => ?_
        obtain ⟨_, hlt2, cs, fz, hc⟩ := own_kind HO.out k hk
        exact ⟨cs, fz, (Lib.alloc_old w _ k hlt2).trans hc⟩
    rcases list_cases q with rfl | ⟨a, ⟨u, m⟩, rfl⟩
    · obtain ⟨v', w', hrun, HH⟩ := hpush t n (putI_first t n h0)
      have HRUN := Lib.hid hrun
      clear hO hpush hrun hq h0
      simp only [List.length_nil] at *
      generalize putI [] t n = z at *
      go_enter Tryz.func21, Tryz.ntmps21
      go_wp2_with (at_builtin; refine Lib.wpList_append_run _ rfl (.tmp 43) (.tmp 47) 47 47 rfl _ _ rfl rfl _ _ HRUN.out ?_)
      go_ret
      exact ⟨_, rfl, HH.out.1, HH.out.2⟩
    · have hlen : (a ++ [(u, m)]).length = a.length + 1 := by simp
      have hul : (ups (a ++ [(u, m)])).length = a.length + 1 := by rw [ups_len]; simp
      have hlast := ups_last a u m
      have hm : m ≤ 4000000000000000000 := hq (u, m) (by simp)
      obtain ⟨A1, c1, hv1, _, hN1⟩ := OwnE.reads HO.out
      obtain ⟨g, c', hv, hBg, hcc, hfr, hcells, hset1, _⟩ := ownE_at HO.out (by rw [ups_len, hlen]; omega)
      rw [ups_len] at hv hcells hset1 hcc hv1
      injection hv with e1 e2 e3
      subst e1 e3
      injection hv1 with e1 e2 e3
      subst e1
      have hk := hcells a.length (by omega)
      rw [hlast] at hk
      simp only at hk
      obtain ⟨k0, k1, _⟩ := hk
      rw [hlen] at *
      have hsub : ((a.length + 1 : Nat) : Int) - 1 = (a.length : Int) := by omega
      have hge : (0 : Int) ≤ (a.length : Int) := by omega
      have hkz : a.length ≤ 900000 := by simp at hl; omega
      have hltk : a.length < a.length + 1 := by omega
      by_cases ht : u = t
      · subst ht
        have hsum : ((m + n : Nat) : Int) = (m : Int) + (n : Int) := by omega
        have hnil : OwnE w B (.slice none 0 0) [] := World.ownsRow_nil _ _ _ _
        obtain ⟨v1, w1, hrun, hown1, hgr⟩ := appE_any (out := []) (m := ups (a ++ [(u, m)])) c hB hnil hN1 (by rw [hul]; simp; omega)
        rw [hul] at hrun
        rw [List.nil_append] at hown1
        have hb1 : Below B w w1 := (Below.refl _ _).grown hgr hB (fun k e => by cases e)
        have ho1 : Lib.OthersKept 61 none w w1 := (Lib.OthersKept.refl _ _ w).grown hgr (fun k e => by cases e)
        obtain ⟨g1, c1', hv2, hBg1, hcc1, hfr1, hcells1, hset2, _⟩ := ownE_at hown1 (by rw [hul]; omega)
        subst hv2
        rw [hul] at hcells1 hset2 hcc1 hrun hown1
        have hk1 := hcells1 a.length (by omega)
        have hs1 := hset2 a.length (by omega)
        rw [hlast] at hk1 hs1
        simp only at hk1 hs1
        obtain ⟨_, l1, _⟩ := hk1
        have f1 := hfr1 (a.length * 3 + 1)
        obtain ⟨_, hlt2, cs, fz, hc⟩ := own_kind hown1 g1 rfl
        have hown : OwnE (w1.setCell ⟨g1, a.length * 3 + 1, none⟩ (.int .i64 ((m : Int) + (n : Int)))) B (.slice (some ⟨g1, 0, none⟩) (a.length + 1) c1') (ups (putI (a ++ [(u, m)]) u n)) := by
          have := hs1 ((m : Int) + (n : Int))
          rw [← hsum, ups_set] at this
          rw [putI_grow a u m n h0, ← hsum]
          exact this
        have hMR : MR B w (w1.setCell ⟨g1, a.length * 3 + 1, none⟩ (.int .i64 ((m : Int) + (n : Int)))) := MR.trans ⟨hb1, ho1⟩ ⟨(Below.refl _ _).setCell hBg1 _, others_set _ hc⟩
        have HF := Lib.hid (And.intro hown hMR)
        have HRUN := Lib.hid hrun
        generalize putI (a ++ [(u, m)]) u n = z at *
        clear hul hO hpush hq h0 hlen hlast hcells hset1 hs1 hc hown hMR HO hcc hsum hN1 hnil hown1 hgr hb1 ho1 hcells1 hset2 hrun hfr1 hfr
        generalize a.length = k at *
        go_enter Tryz.func21, Tryz.ntmps21
        go_wp2_with (at_builtin; refine Lib.wpList_append_run _ rfl (.const (.slice none 0 0)) (.tmp 25) 47 47 rfl _ _ rfl rfl _ _ HRUN.out ?_)
        go_ret
        exact ⟨_, rfl, HF.out.1, HF.out.2⟩
      · obtain ⟨v', w', hrun, HH⟩ := hpush t n (putI_new a t u m n h0 ht)
        have htz : ((u.toNat : Int) == (t.toNat : Int)) = false := beq_eq_false_iff_ne.2 (fun e => ht (UInt8.toNat_inj.1 (by omega)))
        have HRUN := Lib.hid hrun
        clear hul hO hpush hrun hq h0 hlen hlast hcells hset1 hfr HO hcc hN1
        generalize putI (a ++ [(u, m)]) t n = z at *
        generalize a.length = k at *
        go_enter Tryz.func21, Tryz.ntmps21
        go_wp2_with (at_builtin; refine Lib.wpList_append_run _ rfl (.tmp 43) (.tmp 47) 47 47 rfl _ _ rfl rfl _ _ HRUN.out ?_)
        go_ret
        exact ⟨_, rfl, HH.out.1, HH.out.2⟩
end Go.Proofs.YtacpncmdgkljdaaGreatDoor
namespace Go.Proofs.YtacpncmdgkljdaaGreatDoor
set_option linter.unusedVariables false
set_option linter.unusedSimpArgs false
open Go.RowKit Go.Sort
open Cel (boxV noBox loX hiX)

/-- a set, told from its box's corner on -/
def homeL (l : List (Int × Int)) : List (Nat × Nat) := fromC (loX l l.length) (l.getD 0 (0, 0)).2 l
def wideL (l : List (Int × Int)) : Int := if l.length = 0 then 0 else hiX l l.length - loX l l.length + 1
def highL (l : List (Int × Int)) : Int := if l.length = 0 then 0 else (l.getD (l.length - 1) (0, 0)).2 - (l.getD 0 (0, 0)).2 + 1
def printL (l : List (Int × Int)) : List UInt8 := printP (wideL l).toNat (highL l).toNat (homeL l)

theorem right_home {l : List (Int × Int)} (hr : Cel.rightB l = true) : (∀ p ∈ l, loX l l.length ≤ p.1 ∧ (l.getD 0 (0, 0)).2 ≤ p.2 ∧ p.1 - loX l l.length ≤ 3000000000000 ∧ p.2 - (l.getD 0 (0, 0)).2 ≤ 3000000000000) ∧
    (-3000000000000 ≤ loX l l.length ∧ loX l l.length ≤ 3000000000000) ∧ (-3000000000000 ≤ (l.getD 0 (0, 0)).2 ∧ (l.getD 0 (0, 0)).2 ≤ 3000000000000) ∧ (homeL l).Pairwise lessN ∧ 0 ≤ wideL l ∧ wideL l ≤ 3000000000000 ∧ 0 ≤ highL l ∧ highL l ≤ 3000000000000 := by
  obtain ⟨h2000, hin, hrs⟩ := (Cel.rightB_iff l).1 hr
  by_cases h0 : l.length = 0
  · have : l = [] := List.eq_nil_of_length_eq_zero h0
    subst this
    refine ⟨fun p hp => absurd hp (by simp), by decide, by decide, List.Pairwise.nil, by decide, by decide, by decide, by decide⟩
  · have hp0 : 0 < l.length := by omega
    have hlo := Cel.loX_bd hin hp0 l.length
    have hhi := Cel.hiX_bd hin hp0 l.length
    have hf := (Cel.inB_iff _).1 (hin _ (Cel.getD_mem hp0))
    have he := (Cel.inB_iff _).1 (hin _ (Cel.getD_mem (l := l) (k := l.length - 1) (by omega)))
    have hall : ∀ p ∈ l, loX l l.length ≤ p.1 ∧ (l.getD 0 (0, 0)).2 ≤ p.2 ∧ p.1 - loX l l.length ≤ 3000000000000 ∧ p.2 - (l.getD 0 (0, 0)).2 ≤ 3000000000000 := by
      intro p hp
      obtain ⟨j, hj, e⟩ := List.getElem_of_mem hp
      have e2 : l.getD j (0, 0) = p := by rw [List.getD_eq_getElem?_getD, List.getElem?_eq_getElem hj]; exact e
      have h1 := Cel.loX_le (l := l) (k := l.length) hj (Nat.le_refl _)
      have h2 := Cel.rises_y hrs (i := 0) (j := j) (by omega) hj
      have h3 := (Cel.inB_iff _).1 (hin p hp)
      rw [e2] at h1 h2
      omega
    have h4 := Cel.loX_le (l := l) (k := l.length) hp0 (Nat.le_refl _)
    have h5 := Cel.hiX_ge (l := l) (k := l.length) hp0 (Nat.le_refl _)
    have h6 := Cel.rises_y hrs (i := 0) (j := l.length - 1) (by omega) (by omega)
    refine ⟨hall, by omega, by omega, fromC_rises (fun c hc => ⟨(hall c hc).1, (hall c hc).2.1⟩) hrs, ?_⟩
    unfold wideL highL
    rw [if_neg h0, if_neg h0]
    omega

theorem print_bad (A : Option Addr) (l : List (Int × Int)) (c : Nat) (w : World) (hR : Cel.Rd w w.heap.size A l) (hl : l.length ≤ 1000000) (hc : l.length ≤ c) (hr : Cel.rightB l = false) :
    Calls Tryz.prog 6 #[.slice A l.length c] w fun e w' => e = .returned (.tuple #[.string (str []), .int .i64 1]) ∧ Below w.heap.size w w' := by
  have h := Cel.right_no hR hl hc hr
  go_enter Tryz.func6, Tryz.ntmps6
  go_wp2_with (go_at_call 14; refine h.mono ?_; rintro e w1 ⟨rfl, hb1⟩)
  go_ret2
  exact ⟨rfl, hb1⟩

def boxT (l : List (Int × Int)) : Value := .agg #[.int .i64 (loX l l.length), .int .i64 (l.getD 0 (0, 0)).2, .int .i64 (wideL l), .int .i64 (highL l)]
theorem boxed (A : Option Addr) (l : List (Int × Int)) (c : Nat) (w : World) (hR : Cel.Rd w w.heap.size A l) (hc : l.length ≤ c) (hr : Cel.rightB l = true) :
    Calls Tryz.prog 15 #[.slice A l.length c] w fun e w' => e = .returned (.tuple #[boxT l, .bool (decide (0 < l.length))]) ∧ Below w.heap.size w w' := by
  obtain ⟨h2000, hin, hrs⟩ := (Cel.rightB_iff l).1 hr
  by_cases h0 : l.length = 0
  · have : l = [] := List.eq_nil_of_length_eq_zero h0
    subst this
    exact Cel.box_nil A c w
  · have h := Cel.box_any A l c w hR (by omega) hc (by omega) hr hin
    have e : boxV l = boxT l := by unfold boxV boxT wideL highL; rw [if_neg h0, if_neg h0]
    rw [e] at h
    rw [decide_eq_true (by omega)]
    exact h

set_option maxHeartbeats 8000000 in
set_option maxRecDepth 100000 in
theorem print_good (A : Option Addr) (l : List (Int × Int)) (c : Nat) (w : World) (hR : Cel.Rd w w.heap.size A l) (hc : l.length ≤ c) (hr : Cel.rightB l = true) (hT : Tab w) :
    Calls Tryz.prog 6 #[.slice A l.length c] w fun e w' => e = .returned (.tuple #[.string (str (printL l)), .int .i64 0]) ∧ Below w.heap.size w w' := by
  have h2000 := ((Cel.rightB_iff l).1 hr).1
  have h1 := Cel.right_yes hR (by omega) hc hr
  have h2 := fun W (hb : Below w.heap.size w W) => boxed A l c W ((hR.below hb (Nat.le_refl _)).more hb.size) hc hr
  obtain ⟨q1, q2, q3, q4, q5, q6, q7, q8⟩ := right_home hr
  have hbd := tellL_bd (homeL l)
  have h3 := fun W (hb : Below w.heap.size w W) => strokes_any A l c (loX l l.length) (l.getD 0 (0, 0)).2 (wideL l) (highL l) W ((hR.below hb (Nat.le_refl _)).more hb.size) h2000 q1 q2 q3 q4
  have hhome : fromC (loX l l.length) (l.getD 0 (0, 0)).2 l = homeL l := rfl
  rw [hhome] at h3
  have hlen := tellL_len (homeL l)
  have hll : (homeL l).length = l.length := fromC_len _ _ _
  have hbnd : ∀ x ∈ (tellL (homeL l)).1, x.2 ≤ 14000000000000000 := by
    intro x hx
    have := hbd (fun c hc => by
      unfold homeL fromC at hc
      obtain ⟨d, hd, rfl⟩ := List.mem_map.1 hc
      have := q1 d hd
      simp only
      omega) x hx
    omega
  obtain ⟨qq, hqq⟩ : ∃ z, z = (tellL (homeL l)).1 := ⟨_, rfl⟩
  have hpr : printL l = headText (wideL l).toNat (highL l).toNat pR ++ 10 :: (textE (ups qq) ++ [33, 10]) := by
    unfold printL printP
    rw [hqq]
    unfold ups
    rw [textE_up]
  rw [← hqq] at hlen hbnd h3
  rw [hpr]
  unfold boxT at h2
  generalize homeL l = L at *
  generalize loX l l.length = bx at *
  generalize (l.getD 0 (0, 0)).2 = b_y at *
  obtain ⟨wd, hwd⟩ : ∃ z : Nat, z = (wideL l).toNat := ⟨_, rfl⟩
  obtain ⟨ht, hht⟩ : ∃ z : Nat, z = (highL l).toNat := ⟨_, rfl⟩
  have hwz : wideL l = (wd : Int) := by omega
  have hhz : highL l = (ht : Int) := by omega
  rw [hwz, hhz] at h2 h3
  rw [← hwd, ← hht]
  have hwb : wd ≤ 3000000000000 := by omega
  have hhb : ht ≤ 3000000000000 := by omega
  have htw := fun W (hT : Tab W) => text_any (wd : Int) W (by unfold I64; omega) hT
  have hth := fun W (hT : Tab W) => text_any (ht : Int) W (by unfold I64; omega) hT
  clear hwd hht hwz hhz q1 q2 q3 q4 q5 q6 q7 q8 hhome hqq hpr hbd
  go_enter Tryz.func6, Tryz.ntmps6
  go_wp2_with fail
  refine h1.mono ?_
  rintro e w1 ⟨rfl, hb1⟩
  go_wp2_with fail
  refine (h2 w1 hb1).mono ?_
  rintro e w2 ⟨rfl, hb2⟩
  have hbb2 := Qt.more hb1 hb1.size hb2
  have hsa : ({ data := #[120, 32, 61, 32] } : ByteArray).size = 4 := rfl
  have hsb : ({ data := #[44, 32, 121, 32, 61, 32] } : ByteArray).size = 6 := rfl
  have hsc : ({ data := #[44, 32, 114, 117, 108, 101, 32, 61, 32, 66, 51, 47, 83, 50, 51] } : ByteArray).size = 15 := rfl
  have hsd : ({ data := #[10] } : ByteArray).size = 1 := rfl
  have hse : (txt (wd : Int)).size ≤ 19 := txt_size _
  have hsf : (txt (ht : Int)).size ≤ 19 := txt_size _
  have hfin : str (headText wd ht pR ++ [10]) = { data := #[120, 32, 61, 32] } ++ txt (wd : Int) ++ { data := #[44, 32, 121, 32, 61, 32] } ++ txt (ht : Int) ++ { data := #[44, 32, 114, 117, 108, 101, 32, 61, 32, 66, 51, 47, 83, 50, 51] } ++ { data := #[10] } := by
    unfold txt
    rw [txtL_nat (by omega), txtL_nat (by omega)]
    apply ByteArray.ext
    apply Array.ext'
    simp [str, headText, pX, pY, pR]
  have HFIN := Lib.hid hfin
  clear hfin
  generalize txt (wd : Int) = tw at *
  generalize txt (ht : Int) = th at *
  have hal : Below w2.heap.size w2 (w2.alloc (.cells #[.int .i64 bx, .int .i64 b_y, .int .i64 wd, .int .i64 ht] 42)) := (Below.refl _ _).alloc (Nat.le_refl _) _
  have hbb3 := Qt.more hbb2 hbb2.size hal
  have hrow3 : (w2.alloc (.cells #[.int .i64 bx, .int .i64 b_y, .int .i64 wd, .int .i64 ht] 42)).heap[w2.heap.size]? = some (.cells #[.int .i64 bx, .int .i64 b_y, .int .i64 wd, .int .i64 ht] 42 (0, 0)) := heap_alloc_new _ _
  clear hal hb2 hb1 h1 h2
  go_wp2_with fail
  generalize w2.alloc (.cells #[.int .i64 bx, .int .i64 b_y, .int .i64 wd, .int .i64 ht] 42) = w3 at *
  have hT3 := hT.below hbb3
  have c2 : w3.cell? ⟨w2.heap.size, 2, none⟩ = some (.int .i64 wd) := by rw [Lib.cell_of_heap hrow3]; rfl
  have c3 : w3.cell? ⟨w2.heap.size, 3, none⟩ = some (.int .i64 ht) := by rw [Lib.cell_of_heap hrow3]; rfl
  have k2 := Qt.cell_in c2
  have k3 := Qt.cell_in c3
  refine Qt.below_all (by kernel_rfl) (by kernel_rfl) ?_
  repeat (go_big_quiet_step (first | (go_at_call_of 16 (Value.int .i64 (wd : Int)); exact Qt.at_call' fun _ hb => htw _ (hT3.below hb)) | (go_at_call_of 16 (Value.int .i64 (ht : Int)); exact Qt.at_call' fun _ hb => hth _ (hT3.below hb))))
  refine wpQuiet_nil ?_
  intro w4 hb4
  have hrow4 := (hb4.block _ (lt_heap hrow3)).trans hrow3
  have hbb4 := Qt.more hbb3 hbb3.size hb4
  have d0 : w4.cell? ⟨w2.heap.size, 0, none⟩ = some (.int .i64 bx) := by rw [Lib.cell_of_heap hrow4]; rfl
  have d1 : w4.cell? ⟨w2.heap.size, 1, none⟩ = some (.int .i64 b_y) := by rw [Lib.cell_of_heap hrow4]; rfl
  have d2 : w4.cell? ⟨w2.heap.size, 2, none⟩ = some (.int .i64 wd) := by rw [Lib.cell_of_heap hrow4]; rfl
  have d3 : w4.cell? ⟨w2.heap.size, 3, none⟩ = some (.int .i64 ht) := by rw [Lib.cell_of_heap hrow4]; rfl
  have hh4 := h3 w4 hbb4
  have hsg : ({ data := #[120, 32, 61, 32] } ++ tw ++ { data := #[44, 32, 121, 32, 61, 32] } ++ th ++ { data := #[44, 32, 114, 117, 108, 101, 32, 61, 32, 66, 51, 47, 83, 50, 51] } ++ { data := #[10] } : ByteArray).size ≤ 1000 := by
    simp only [ByteArray.size_append]
    omega
  generalize ({ data := #[120, 32, 61, 32] } ++ tw ++ { data := #[44, 32, 121, 32, 61, 32] } ++ th ++ { data := #[44, 32, 114, 117, 108, 101, 32, 61, 32, 66, 51, 47, 83, 50, 51] } ++ { data := #[10] } : ByteArray) = HD at *
  clear hb4 hrow4 hbb3 k2 k3 c2 c3 hrow3 hT3 h3 htw hth
  go_wp2_with fail
  refine hh4.mono ?_
  rintro e w5 ⟨v, rfl, ⟨A5, c5, rfl, hc5, hR5⟩, hb5⟩
  have hbb5 := Qt.more hbb4 hbb4.size hb5
  have htx := tokText_any A5 (ups qq) c5 w5 hR5 (by rw [ups_len]; omega) (fun x hx => by
    unfold ups itemsT at hx
    rw [List.map_map] at hx
    obtain ⟨y, hy, rfl⟩ := List.mem_map.1 hx
    have := hbnd y hy
    simp only [Function.comp, up]
    unfold I64
    omega) (hT.below hbb5)
  unfold TextR at htx
  have htl := textE_len (ups qq)
  rw [ups_len] at htl
  have hts : (str (textE (ups qq))).size ≤ 1000000 := by rw [str_size]; omega
  have hfin : str (headText wd ht pR ++ 10 :: (textE (ups qq) ++ [33, 10])) = HD ++ str (textE (ups qq)) ++ { data := #[33] } ++ { data := #[10] } := by
    rw [← HFIN.out]
    apply ByteArray.ext
    apply Array.ext'
    simp [str]
  have HF := Lib.hid hfin
  clear hfin htl hh4 hR5 hc5 hbb4 hb5 d0 d1 d2 d3
  generalize str (textE (ups qq)) = tq at *
  go_wp2_with fail
  refine htx.mono ?_
  rintro e w6 ⟨rfl, hb6⟩
  have hbb6 := Qt.more hbb5 hbb5.size hb6
  have hsh : ({ data := #[33] } : ByteArray).size = 1 := rfl
  have hsi : (HD ++ tq).size ≤ 1001000 := by rw [ByteArray.size_append]; omega
  have hsj : (HD ++ tq ++ { data := #[33] }).size ≤ 1001001 := by rw [ByteArray.size_append]; omega
  clear htx hb6
  go_wp2
  go_ret2
  refine ⟨?_, hbb6⟩
  rw [HF.out]
  rfl
end Go.Proofs.YtacpncmdgkljdaaGreatDoor
namespace Go.Proofs.YtacpncmdgkljdaaGreatDoor.Cel
open Go.RowKit Go.Sort

theorem refIn_yes (p : Int × Int) (h : inB p = true) (w : World) : Calls Tryz.prog 43 #[.agg #[.int .i64 p.1, .int .i64 p.2]] w fun e w' => e = .returned (.bool true) ∧ Below w.heap.size w w' := by
  have := in_any p w; rw [h] at this; exact this
theorem refIn_no (p : Int × Int) (h : inB p = false) (w : World) : Calls Tryz.prog 43 #[.agg #[.int .i64 p.1, .int .i64 p.2]] w fun e w' => e = .returned (.bool false) ∧ Below w.heap.size w w' := by
  have := in_any p w; rw [h] at this; exact this

set_option maxHeartbeats 1000000 in
set_option maxRecDepth 100000 in
theorem refRight_any (A : Option Addr) (l : List (Int × Int)) (c : Nat) (w : World) (hR : Rd w w.heap.size A l) (hl : l.length ≤ 1000000) (hc : l.length ≤ c) :
    Calls Tryz.prog 19 #[.slice A l.length c] w fun e w' => e = .returned (.bool (rightB l)) ∧ Below w.heap.size w w' := by
  generalize hr : rightB l = r
  have HR := Lib.hid hr
  clear hr
  go_enter Tryz.func19, Tryz.ntmps19
  go_wp2
  go_loopw [3] (fun i wr => ∃ k : Nat, k ≤ l.length ∧ i = .int .i64 k ∧ Hid (∀ j, j < k → okAt l j = true) ∧ Below w.heap.size w wr) (fun i _ => l.length - (intOf i).toNat)
  case atStart => exact ⟨0, Nat.zero_le _, rfl, fun j hj => absurd hj (Nat.not_lt_zero j), Below.refl _ _⟩
  case round =>
    obtain ⟨k, hk, rfl, HK, hb⟩ := hrel
    by_cases hlt : k < l.length
    · have hltz : (k : Int) < (l.length : Int) := by omega
      obtain ⟨b, off, rfl, hbB, hcell⟩ := hR.at_ (by omega)
      obtain ⟨⟨x, y⟩, hxy⟩ : ∃ p, p = l.getD k (0, 0) := ⟨_, rfl⟩
      have a0 := (hcell k hlt).1
      have a1 := (hcell k hlt).2
      rw [← hxy] at a0 a1
      simp only at a0 a1
      have k0 := Qt.cell_in (Qt.keep hb a0)
      have k1 := Qt.cell_in (Qt.keep hb a1)
      have HXY := Lib.hid hxy
      clear hxy a0 a1
      by_cases hin : inB (x, y) = true
      · rcases Nat.eq_zero_or_pos k with hk0 | hk0
        · clear hcell
          have hkd : decide (0 < k) = false := by simp; omega
          have hkd2 : decide ((0 : Int) < (k : Int)) = false := by simp; omega
          have HOK : Hid (okAt l k = true) := by show okAt l k = true; unfold okAt; rw [← HXY.out, hin, hk0]; rfl
          clear hk0
          go_wp2
          refine Qt.below_all (by kernel_rfl) (by kernel_rfl) ?_
          repeat (go_big_quiet_step (first | (go_at_call 43; exact Qt.at_call (refIn_yes (x, y) hin))))
          refine wpQuiet_nil ?_
          intro w1 hb1
          go_wp2
          go_roundw
          case measure => simp [intOf]; omega
          case rel =>
            refine ⟨k + 1, by omega, by go_num, (show Hid _ from fun j hj => ?_), Qt.more hb hb.size hb1⟩
            by_cases hjk : j = k
            · subst hjk; exact HOK.out
            · exact HK.out j (by omega)
        · obtain ⟨kp, rfl⟩ : ∃ kp, k = kp + 1 := ⟨k - 1, by omega⟩
          obtain ⟨⟨px, py⟩, hp⟩ : ∃ p, p = l.getD kp (0, 0) := ⟨_, rfl⟩
          have p0 := (hcell kp (by omega)).1
          have p1 := (hcell kp (by omega)).2
          rw [← hp] at p0 p1
          simp only at p0 p1
          have k2 := Qt.cell_in (Qt.keep hb p0)
          have k3 := Qt.cell_in (Qt.keep hb p1)
          have HP := Lib.hid hp
          clear hp hcell p0 p1
          cases hcm : lessB (px, py) (x, y)
          · have HNO : Hid (rightB l = false) := rightB_no hlt (by
              unfold okAt
              rw [← HXY.out, hin, Nat.add_sub_cancel, ← HP.out]
              have : ¬ cmpP (px, py) (x, y) < 0 := by rw [cmpP_neg, hcm]; exact Bool.false_ne_true
              simpa using this)
            go_wp2
            refine Qt.below_all (by kernel_rfl) (by kernel_rfl) ?_
            repeat (go_big_quiet_step (first | (go_at_call 43; exact Qt.at_call (refIn_yes (x, y) hin)) | (go_at_call 33; exact Qt.at_call (less_no (px, py) (x, y) hcm))))
            refine wpQuiet_nil ?_
            intro w1 hb1
            go_wp2
            go_ret
            exact ⟨by rw [← HR.out, HNO.out]; rfl, Qt.more hb hb.size hb1⟩
          · have HOK : Hid (okAt l (kp + 1) = true) := by
              show okAt l (kp + 1) = true
              unfold okAt
              rw [← HXY.out, hin, Nat.add_sub_cancel, ← HP.out]
              have : cmpP (px, py) (x, y) < 0 := by rw [cmpP_neg, hcm]
              simpa using this
            go_wp2
            refine Qt.below_all (by kernel_rfl) (by kernel_rfl) ?_
            repeat (go_big_quiet_step (first | (go_at_call 43; exact Qt.at_call (refIn_yes (x, y) hin)) | (go_at_call 33; exact Qt.at_call (less_yes (px, py) (x, y) hcm))))
            refine wpQuiet_nil ?_
            intro w1 hb1
            go_wp2
            go_roundw
            case measure => simp [intOf]; omega
            case rel =>
              refine ⟨kp + 1 + 1, by omega, by go_num, (show Hid _ from fun j hj => ?_), Qt.more hb hb.size hb1⟩
              by_cases hjk : j = kp + 1
              · subst hjk; exact HOK.out
              · exact HK.out j (by omega)
      · have hin' : inB (x, y) = false := by simpa using hin
        have HNO : Hid (rightB l = false) := rightB_no hlt (by unfold okAt; rw [← HXY.out, hin']; rfl)
        clear hcell hin
        go_wp2
        refine Qt.below_all (by kernel_rfl) (by kernel_rfl) ?_
        repeat (go_big_quiet_step (first | (go_at_call 43; exact Qt.at_call (refIn_no (x, y) hin'))))
        refine wpQuiet_nil ?_
        intro w1 hb1
        go_wp2
        go_ret
        exact ⟨by rw [← HR.out, HNO.out]; rfl, Qt.more hb hb.size hb1⟩
    · have hltz : ¬ (k : Int) < (l.length : Int) := by omega
      have hkl : k = l.length := by omega
      by_cases hlong : 2000 < l.length
      · have E := Lib.hid (rightB_long hlong)
        clear HK hkl
        go_wp2
        go_ret
        exact ⟨by rw [← HR.out, E.out]; simp; omega, hb⟩
      · have E : Hid (rightB l = true) := rightB_yes (by omega) fun j hj => HK.out j (by omega)
        clear HK hkl
        go_wp2
        go_ret
        exact ⟨by rw [← HR.out, E.out]; simp; omega, hb⟩

end Go.Proofs.YtacpncmdgkljdaaGreatDoor.Cel
namespace Go.Proofs.YtacpncmdgkljdaaGreatDoor.Cel

theorem inB_bd {p : Int × Int} (h : inB p = true) : -1099511627776 ≤ p.1 ∧ p.1 ≤ 1099511627776 ∧ -1099511627776 ≤ p.2 ∧ p.2 ≤ 1099511627776 := by simpa [inB] using h
theorem setL_ext {l m : List (Int × Int)} (h : ∀ y, y ∈ l ↔ y ∈ m) : setL l = setL m :=
  rises_ext (rises_setL l) (rises_setL m) fun y => by rw [mem_setL, mem_setL]; exact h y

/-- whether p is a neighbour of c -/
def nbB (c p : Int × Int) : Bool := decide (-1 ≤ c.1 - p.1 ∧ c.1 - p.1 ≤ 1 ∧ -1 ≤ c.2 - p.2 ∧ c.2 - p.2 ≤ 1 ∧ c ≠ p)
def nbr (l : List (Int × Int)) (p : Int × Int) : Nat := l.countP fun c => nbB c p
def livesB (a : Bool) (n : Int) : Bool := decide (n = 3) || (a && decide (n = 2))
/-- alive behind a generation -/
def aliveB (l : List (Int × Int)) (p : Int × Int) : Bool := livesB (decide (p ∈ l)) (nbr l p)
/-- a cell and its neighbours, row by row -/
def nine (c : Int × Int) : List (Int × Int) :=
  [(c.1 - 1, c.2 - 1), (c.1, c.2 - 1), (c.1 + 1, c.2 - 1), (c.1 - 1, c.2), (c.1, c.2), (c.1 + 1, c.2), (c.1 - 1, c.2 + 1), (c.1, c.2 + 1), (c.1 + 1, c.2 + 1)]
def cand (l : List (Int × Int)) : List (Int × Int) := l.flatMap nine
def nextL (l : List (Int × Int)) : List (Int × Int) := setL ((cand l).filter fun p => aliveB l p)

theorem mem_nine (c p : Int × Int) : p ∈ nine c ↔ -1 ≤ c.1 - p.1 ∧ c.1 - p.1 ≤ 1 ∧ -1 ≤ c.2 - p.2 ∧ c.2 - p.2 ≤ 1 := by
  obtain ⟨a, b⟩ := c
  obtain ⟨x, y⟩ := p
  simp only [nine, List.mem_cons, List.not_mem_nil, or_false, Prod.mk.injEq]
  omega
theorem mem_cand (l : List (Int × Int)) (p : Int × Int) : p ∈ cand l ↔ ∃ c ∈ l, -1 ≤ c.1 - p.1 ∧ c.1 - p.1 ≤ 1 ∧ -1 ≤ c.2 - p.2 ∧ c.2 - p.2 ≤ 1 := by
  unfold cand
  rw [List.mem_flatMap]
  constructor
  · rintro ⟨c, hc, h⟩; exact ⟨c, hc, (mem_nine c p).1 h⟩
  · rintro ⟨c, hc, h⟩; exact ⟨c, hc, (mem_nine c p).2 h⟩
theorem alive_cand {l : List (Int × Int)} {p : Int × Int} (h : aliveB l p = true) : p ∈ cand l := by
  rw [mem_cand]
  by_cases hp : p ∈ l
  · exact ⟨p, hp, by omega⟩
  · have h3 : nbr l p = 3 := by
      simp only [aliveB, livesB, hp, decide_false, Bool.false_and, Bool.or_false, decide_eq_true_eq] at h
      omega
    have hpos : 0 < l.countP fun c => nbB c p := by unfold nbr at h3; omega
    obtain ⟨c, hc, hn⟩ := List.countP_pos_iff.1 hpos
    simp only [nbB, decide_eq_true_eq] at hn
    exact ⟨c, hc, by omega⟩
theorem mem_nextL (l : List (Int × Int)) (p : Int × Int) : p ∈ nextL l ↔ aliveB l p = true := by
  unfold nextL
  rw [mem_setL, List.mem_filter]
  exact ⟨fun h => h.2, fun h => ⟨alive_cand h, h⟩⟩
theorem rises_nextL (l : List (Int × Int)) : Rises (nextL l) := rises_setL _

/-- what Of answers: an error's number, and a list -/
def ofR (l : List (Int × Int)) : Int × List (Int × Int) :=
  if (l.any fun p => !inB p) = true then (2, []) else if 2000 < (setL l).length then (3, []) else (0, setL l)
theorem any_ext {l m : List (Int × Int)} {f : Int × Int → Bool} (h : ∀ y, y ∈ l ↔ y ∈ m) : l.any f = m.any f := by
  rw [Bool.eq_iff_iff, List.any_eq_true, List.any_eq_true]
  constructor
  · rintro ⟨x, hx, e⟩; exact ⟨x, (h x).1 hx, e⟩
  · rintro ⟨x, hx, e⟩; exact ⟨x, (h x).2 hx, e⟩
theorem ofR_ext {l m : List (Int × Int)} (h : ∀ y, y ∈ l ↔ y ∈ m) : ofR l = ofR m := by
  unfold ofR
  rw [any_ext h, setL_ext h]
theorem ofR_len (l : List (Int × Int)) : (ofR l).2.length ≤ 2000 := by
  unfold ofR
  split
  · exact Nat.zero_le _
  · split
    · exact Nat.zero_le _
    · simp only; omega

def nextR (l : List (Int × Int)) : Int × List (Int × Int) := if rightB l = true then ofR (nextL l) else (1, [])
theorem nextR_bad {l : List (Int × Int)} (h : rightB l = false) : nextR l = (1, []) := by unfold nextR; rw [h]; rfl
theorem nextR_yes {l : List (Int × Int)} (h : rightB l = true) : nextR l = ofR (nextL l) := by unfold nextR; rw [if_pos h]
/-- some generations -/
def runR : Nat → List (Int × Int) → Int × List (Int × Int)
  | 0, l => (0, l)
  | n + 1, l => if (nextR l).1 = 0 then runR n (nextR l).2 else (nextR l).1 |> fun e => (e, [])
def runA (l : List (Int × Int)) (n : Int) : Int × List (Int × Int) := if rightB l = true ∧ 0 ≤ n ∧ n ≤ 1000 then runR n.toNat l else (1, [])

theorem nextR_errs (l : List (Int × Int)) : (nextR l).1 = 0 ∨ (nextR l).1 = 1 ∨ (nextR l).1 = 2 ∨ (nextR l).1 = 3 := by
  unfold nextR ofR
  split
  · split
    · simp
    · split <;> simp
  · simp
theorem nextR_err_nil {l : List (Int × Int)} (h : (nextR l).1 ≠ 0) : (nextR l).2 = [] := by
  unfold nextR ofR at *
  split at h <;> rename_i h1
  · split at h <;> rename_i h2
    · rw [if_pos h1, if_pos h2]
    · split at h <;> rename_i h3
      · rw [if_pos h1, if_neg h2, if_pos h3]
      · exact absurd rfl h
  · rw [if_neg h1]
theorem nextR_right {l : List (Int × Int)} (h : (nextR l).1 = 0) : rightB (nextR l).2 = true := by
  unfold nextR ofR at *
  split at h <;> rename_i h1
  · rw [if_pos h1]
    split at h <;> rename_i h2
    · exact absurd h (by decide)
    · rw [if_neg h2]
      split at h <;> rename_i h3
      · exact absurd h (by decide)
      · rw [if_neg h3]
        refine (rightB_iff _).2 ⟨by simp only; omega, fun c hc => ?_, rises_setL _⟩
        have hc' : c ∈ nextL l := (mem_setL _ _).1 hc
        cases hin : inB c
        · exact absurd (List.any_eq_true.2 ⟨c, hc', by rw [hin]; rfl⟩) h2
        · rfl
  · exact absurd h (by decide)
theorem runR_zero (l : List (Int × Int)) : runR 0 l = (0, l) := rfl
theorem runR_succ (n : Nat) (l : List (Int × Int)) : runR (n + 1) l = if (nextR l).1 = 0 then runR n (nextR l).2 else ((nextR l).1, []) := rfl
theorem runR_err {l : List (Int × Int)} (h : (nextR l).1 ≠ 0) (n : Nat) : runR (n + 1) l = ((nextR l).1, []) := by rw [runR_succ, if_neg h]
theorem runR_ok {l : List (Int × Int)} (h : (nextR l).1 = 0) (n : Nat) : runR (n + 1) l = runR n (nextR l).2 := by rw [runR_succ, if_pos h]
theorem runR_add (n m : Nat) (l : List (Int × Int)) (h : (runR n l).1 = 0) : runR (n + m) l = runR m (runR n l).2 := by
  induction n generalizing l with
  | zero => rw [Nat.zero_add]; rfl
  | succ n ih =>
    by_cases h0 : (nextR l).1 = 0
    · rw [runR_ok h0] at h ⊢
      rw [show n + 1 + m = (n + m) + 1 by omega, runR_ok h0]
      exact ih _ h
    · rw [runR_err h0] at h
      exact absurd h h0

/-! ### where a generation reaches -/

/-- a box that holds a list -/
def InBox (a b c d : Int) (l : List (Int × Int)) : Prop := ∀ p ∈ l, a ≤ p.1 ∧ p.1 ≤ b ∧ c ≤ p.2 ∧ p.2 ≤ d
theorem next_box {a b c d : Int} {l : List (Int × Int)} (h : InBox a b c d l) : InBox (a - 1) (b + 1) (c - 1) (d + 1) (nextL l) := by
  intro p hp
  obtain ⟨q, hq, hn⟩ := (mem_cand l p).1 (alive_cand ((mem_nextL l p).1 hp))
  have := h q hq
  omega

theorem length_le_of_subset {α : Type} [DecidableEq α] : ∀ (l m : List α), l.Nodup → (∀ y ∈ l, y ∈ m) → l.length ≤ m.length
  | [], _, _, _ => Nat.zero_le _
  | x :: l, m, hn, h => by
    obtain ⟨h1, h2⟩ := List.nodup_cons.1 hn
    have hx : x ∈ m := h x (by simp)
    have := length_le_of_subset l (m.erase x) h2 fun y hy => by
      have hne : y ≠ x := fun e => h1 (e ▸ hy)
      exact (List.mem_erase_of_ne hne).2 (h y (by simp [hy]))
    rw [List.length_erase_of_mem hx] at this
    have hpos := List.length_pos_of_mem hx
    simp only [List.length_cons]
    omega
theorem rises_nodup {l : List (Int × Int)} (h : Rises l) : l.Nodup := by
  refine List.Pairwise.imp ?_ h
  intro p q hpq e
  rw [e, lessB_irrefl] at hpq
  cases hpq

/-- all cells of a box -/
def boxL (a c : Int) (w h : Nat) : List (Int × Int) := (List.range h).flatMap fun (j : Nat) => (List.range w).map fun (i : Nat) => (a + (i : Int), c + (j : Int))
theorem mem_boxL {a c : Int} {w h : Nat} {p : Int × Int} (h1 : a ≤ p.1 ∧ p.1 < a + w ∧ c ≤ p.2 ∧ p.2 < c + h) : p ∈ boxL a c w h := by
  unfold boxL
  rw [List.mem_flatMap]
  refine ⟨(p.2 - c).toNat, List.mem_range.2 (by omega), List.mem_map.2 ⟨(p.1 - a).toNat, List.mem_range.2 (by omega), ?_⟩⟩
  obtain ⟨x, y⟩ := p
  simp only at h1
  simp only [Prod.mk.injEq]
  omega
theorem length_boxL (a c : Int) (w h : Nat) : (boxL a c w h).length = h * w := by
  unfold boxL
  rw [List.length_flatMap]
  simp only [List.length_map, List.length_range]
  induction h with
  | zero => simp
  | succ h ih => rw [List.range_succ, List.map_append, List.sum_append, ih]; simp [Nat.succ_mul]
theorem box_len {a b c d : Int} {l : List (Int × Int)} (h : InBox a b c d l) (hs : Rises l) (w t : Nat) (hw : b < a + w) (ht : d < c + t) : l.length ≤ t * w := by
  rw [← length_boxL a c w t]
  refine length_le_of_subset _ _ (rises_nodup hs) fun p hp => mem_boxL ?_
  have := h p hp
  omega

/-- A generation within bounds that is not too long is one. -/
theorem nextR_ok {l : List (Int × Int)} (h : rightB l = true) (hin : ∀ p ∈ nextL l, inB p = true) (hl : (nextL l).length ≤ 2000) : nextR l = (0, nextL l) := by
  rw [nextR_yes h]
  unfold ofR
  rw [if_neg, setL_of_rises (rises_nextL l), if_neg (by omega)]
  rw [List.any_eq_true]
  rintro ⟨p, hp, e⟩
  rw [hin p hp] at e
  cases e

/-- generations of lists, without bounds -/
def iterL : Nat → List (Int × Int) → List (Int × Int)
  | 0, l => l
  | n + 1, l => iterL n (nextL l)
theorem iterL_succ (n : Nat) (l : List (Int × Int)) : iterL (n + 1) l = nextL (iterL n l) := by
  induction n generalizing l with
  | zero => rfl
  | succ n ih => exact ih (nextL l)
theorem iterL_add (n m : Nat) (l : List (Int × Int)) : iterL (n + m) l = iterL m (iterL n l) := by
  induction n generalizing l with
  | zero => rw [Nat.zero_add]; rfl
  | succ n ih => rw [show n + 1 + m = (n + m) + 1 by omega]; exact ih (nextL l)
theorem iter_box {a b c d : Int} {l : List (Int × Int)} (h : InBox a b c d l) (n : Nat) : InBox (a - n) (b + n) (c - n) (d + n) (iterL n l) := by
  induction n with
  | zero => intro p hp; have := h p hp; simp; omega
  | succ n ih =>
    rw [iterL_succ]
    have := next_box ih
    intro p hp
    have := this p hp
    push_cast
    omega
theorem rises_iterL {l : List (Int × Int)} (h : Rises l) (n : Nat) : Rises (iterL n l) := by
  cases n with
  | zero => exact h
  | succ n => rw [iterL_succ]; exact rises_nextL _
/-- so many generations, as long as none is too long, nor out of bounds. -/
theorem runR_iter (n : Nat) (l : List (Int × Int)) (h : rightB l = true) (hk : ∀ k, 0 < k → k ≤ n → (∀ p ∈ iterL k l, inB p = true) ∧ (iterL k l).length ≤ 2000) : runR n l = (0, iterL n l) := by
  induction n generalizing l with
  | zero => rfl
  | succ n ih =>
    have h1 := hk 1 (by omega) (by omega)
    have e : nextR l = (0, nextL l) := nextR_ok h h1.1 h1.2
    rw [runR_ok (by rw [e]), e]
    refine ih (nextL l) ((rightB_iff _).2 ⟨h1.2, h1.1, rises_nextL l⟩) fun k h0 hkn => ?_
    exact hk (k + 1) (by omega) (by omega)

end Go.Proofs.YtacpncmdgkljdaaGreatDoor.Cel
namespace Go.Proofs.YtacpncmdgkljdaaGreatDoor.Cel
open Go.RowKit Go.Sort Go.ChangeShapes Go.WideShapes Go.ChangeAt
open Go.Maps (Keyed)

theorem cellKeyed : Keyed Tryz.prog 37 :=
  Keyed.of_law (deep_law_laid laidOut (m := 2) (by omega) (of_decide_eq_true (by kernel_rfl)) (by kernel_rfl) (by rw [Tryz.underlying37]))

/-- what a cell reads as, as a key -/
def kl (p : Int × Int) : Lit := .string (keyBytes [.int .i64 p.1, .int .i64 p.2])
theorem wf_of_i64 {a : Int} (h : I64 a) : (Lit.int .i64 a).wf = true := by
  unfold I64 at h
  simp only [Lit.wf, IntKind.min, IntKind.max, IntKind.signed, IntKind.bits]
  simp
  omega
theorem keyOf_cell {p : Int × Int} (h1 : I64 p.1) (h2 : I64 p.2) : keyOf Tryz.prog 37 (.agg #[.int .i64 p.1, .int .i64 p.2]) = some (kl p) := by
  have hkt : Tryz.prog.keyType 37 = true := by kernel_rfl
  have hsz : ∃ m, Tryz.prog.types.size = m + 1 := ⟨Tryz.prog.types.size - 1, by have : 0 < Tryz.prog.types.size := of_decide_eq_true (by kernel_rfl); omega⟩
  have hc2 : Tryz.prog.cellsOf 37 = 2 := by kernel_rfl
  have hc1 : Tryz.prog.cellsOf 3 = 1 := by kernel_rfl
  obtain ⟨m, hm⟩ := hsz
  have w1 := wf_of_i64 h1
  have w2 := wf_of_i64 h2
  unfold keyOf
  simp only [Tryz.underlying37]
  rw [if_pos (by simp [hkt, Value.formed, Tryz.underlying37, hc2]), hm]
  unfold Program.keyLits
  simp only [Tryz.underlying37, Value.cells]
  rw [if_pos (by rw [hc2]; simp)]
  simp [hc1, Program.keyLits, Tryz.underlying3, w1, w2, kl]

theorem key_cell {v : Value} {l : Lit} (h : keyOf Tryz.prog 37 v = some l) : ∃ p : Int × Int, I64 p.1 ∧ I64 p.2 ∧ v = .agg #[.int .i64 p.1, .int .i64 p.2] ∧ l = kl p := by
  obtain ⟨xs, L, rfl, hl, rfl⟩ := keyOf_top (by rw [Tryz.underlying37]) h
  have hsz : ∃ m, Tryz.prog.types.size = m + 1 := ⟨Tryz.prog.types.size - 1, by have : 0 < Tryz.prog.types.size := of_decide_eq_true (by kernel_rfl); omega⟩
  have hc2 : Tryz.prog.cellsOf 37 = 2 := by kernel_rfl
  have hc1 : Tryz.prog.cellsOf 3 = 1 := by kernel_rfl
  obtain ⟨m, hm⟩ := hsz
  rw [hm] at hl
  unfold Program.keyLits at hl
  simp only [Tryz.underlying37, hc2, hc1] at hl
  split at hl
  · rename_i hlen
    obtain ⟨xs⟩ := xs
    simp only at hlen hl
    clear h hm
    rcases xs with _ | ⟨a, _ | ⟨b, _ | ⟨c, xs⟩⟩⟩
    · simp at hlen
    · simp at hlen
    · simp [Program.keyLits, Tryz.underlying3, List.mapM_cons, hc1] at hl
      cases a <;> cases b <;> (try simp [Option.bind_eq_some_iff] at hl)
      rename_i q1 n1 q2 n2
      obtain ⟨_, ⟨⟨rfl, w1⟩, rfl⟩, _, ⟨_, ⟨⟨rfl, w2⟩, rfl⟩, rfl⟩, rfl⟩ := hl
      exact ⟨(n1, n2), i64_of_wf w1, i64_of_wf w2, rfl, rfl⟩
    · simp at hlen
  · cases hl

theorem kl_inj {p q : Int × Int} (hp1 : I64 p.1) (hp2 : I64 p.2) (hq1 : I64 q.1) (hq2 : I64 q.2) (h : kl p = kl q) : p = q := by
  have h1 := keyOf_cell hp1 hp2
  have h2 := keyOf_cell hq1 hq2
  rw [← h] at h2
  have := cellKeyed.inj h1 h2
  obtain ⟨a, b⟩ := p
  obtain ⟨c, d⟩ := q
  simpa using this

/-- How an element reads: as one number, twice the neighbours and one if it is alive. -/
def nearR (v : Value) : Option (DataW Unit × List MemPlace) :=
  match v with
  | .agg cs => (match cs.toList with | [.bool b, .int .i64 n] => some (.lit (.int .i64 (2 * n + if b then 1 else 0)), []) | _ => none)
  | _ => none
theorem nearR_mk (b : Bool) (n : Int) : nearR (.agg #[.bool b, .int .i64 n]) = some (.lit (.int .i64 (2 * n + if b then 1 else 0)), []) := rfl
theorem nearR_inv {v : Value} {y : DataW Unit × List MemPlace} (h : nearR v = some y) : ∃ p : Bool × Int, v = .agg #[.bool p.1, .int .i64 p.2] ∧ y = (.lit (.int .i64 (2 * p.2 + if p.1 then 1 else 0)), []) := by
  unfold nearR at h
  split at h
  · rename_i cs
    split at h
    · rename_i b n e
      obtain ⟨l⟩ := cs
      simp only at e
      subst e
      injection h with h
      exact ⟨(b, n), rfl, h.symm⟩
    · cases h
  · cases h
theorem code_inj {b c : Bool} {n m : Int} (h : (DataW.lit (.int .i64 (2 * n + if b then 1 else 0)) : DataW Unit) = .lit (.int .i64 (2 * m + if c then 1 else 0))) : b = c ∧ n = m := by
  have h' : (2 * n + if b then (1 : Int) else 0) = 2 * m + if c then 1 else 0 := by simpa using h
  cases b <;> cases c <;> simp at h' ⊢ <;> omega

/-- so many counts, in the order in which they come: where; whether of the cell itself -/
abbrev Evs := List ((Int × Int) × Bool)
def aliveE (E : Evs) (p : Int × Int) : Bool := E.any fun e => decide (e.1 = p) && e.2
def countE (E : Evs) (p : Int × Int) : Nat := E.countP fun e => decide (e.1 = p) && !e.2
def zeroD : DataW Unit := .lit (.int .i64 0)
/-- What a map says behind some counts. -/
def Tells (D : DataW Unit) (E : Evs) : Prop := Maps.IsMap D ∧ ∀ p : Int × Int, I64 p.1 → I64 p.2 →
  (Maps.has D (kl p) = E.any fun e => decide (e.1 = p)) ∧ D.atKey (kl p) zeroD = .lit (.int .i64 (2 * (countE E p : Int) + if aliveE E p then 1 else 0))
theorem tells_nil : Tells (.map []) [] := ⟨Maps.isMap_empty, fun p _ _ => ⟨rfl, rfl⟩⟩
theorem tells_put {D : DataW Unit} {E : Evs} {p : Int × Int} {b : Bool} {d : DataW Unit} (h : Tells D E) (h1 : I64 p.1) (h2 : I64 p.2)
    (hd : d = .lit (.int .i64 (2 * (countE (E ++ [(p, b)]) p : Int) + if aliveE (E ++ [(p, b)]) p then 1 else 0))) : Tells (D.put (kl p) d) (E ++ [(p, b)]) := by
  refine ⟨h.1.put _ _, fun q g1 g2 => ?_⟩
  have hk : WideAt.IsKeyLit (kl p) := cellKeyed.key (keyOf_cell h1 h2)
  by_cases e : q = p
  · subst e
    exact ⟨by rw [Maps.has_put_same h.1 hk]; simp, by rw [Maps.atKey_put_same h.1 hk, hd]⟩
  · have hne : kl q ≠ kl p := fun e' => e (kl_inj g1 g2 h1 h2 e')
    have e' : ¬ p = q := fun x => e x.symm
    obtain ⟨k1, k2⟩ := h.2 q g1 g2
    refine ⟨by rw [Maps.has_put_other hne, k1]; simp [e'], ?_⟩
    rw [Maps.atKey_put_other hne, k2]
    simp [aliveE, countE, List.countP_append, List.any_append, e']
theorem code_on (E : Evs) (p : Int × Int) : (2 * (countE E p : Int) + if (true : Bool) then (1 : Int) else 0) = 2 * (countE (E ++ [(p, true)]) p : Int) + if aliveE (E ++ [(p, true)]) p then 1 else 0 := by
  simp [aliveE, countE, List.countP_append, List.any_append]
theorem code_off (E : Evs) (p : Int × Int) : (2 * ((countE E p : Int) + 1) + if aliveE E p then (1 : Int) else 0) = 2 * (countE (E ++ [(p, false)]) p : Int) + if aliveE (E ++ [(p, false)]) p then 1 else 0 := by
  simp [aliveE, countE, List.countP_append, List.any_append]

/-! ### the counts of a set -/
/-- the counts about one cell -/
def nineE (c : Int × Int) : Evs := (nine c).map fun p => (p, decide (p = c))
def evs (l : List (Int × Int)) : Evs := l.flatMap nineE
theorem evs_any (l : List (Int × Int)) (p : Int × Int) : ((evs l).any fun e => decide (e.1 = p)) = true ↔ p ∈ cand l := by
  unfold evs nineE cand
  rw [List.any_eq_true]
  constructor
  · rintro ⟨e, he, h⟩
    obtain ⟨c, hc, h2⟩ := List.mem_flatMap.1 he
    obtain ⟨q, hq, rfl⟩ := List.mem_map.1 h2
    simp only [decide_eq_true_eq] at h
    subst h
    exact List.mem_flatMap.2 ⟨c, hc, hq⟩
  · intro h
    obtain ⟨c, hc, hq⟩ := List.mem_flatMap.1 h
    exact ⟨(p, decide (p = c)), List.mem_flatMap.2 ⟨c, hc, List.mem_map.2 ⟨p, hq, rfl⟩⟩, by simp⟩
theorem alive_evs (l : List (Int × Int)) (p : Int × Int) : aliveE (evs l) p = decide (p ∈ l) := by
  rw [Bool.eq_iff_iff, decide_eq_true_eq]
  unfold aliveE evs nineE
  rw [List.any_eq_true]
  constructor
  · rintro ⟨e, he, h⟩
    obtain ⟨c, hc, h2⟩ := List.mem_flatMap.1 he
    obtain ⟨q, hq, rfl⟩ := List.mem_map.1 h2
    simp only [Bool.and_eq_true, decide_eq_true_eq] at h
    obtain ⟨rfl, rfl⟩ := h
    exact hc
  · intro h
    exact ⟨(p, decide (p = p)), List.mem_flatMap.2 ⟨p, h, List.mem_map.2 ⟨p, (mem_nine p p).2 (by omega), rfl⟩⟩, by simp⟩
theorem count_nineE (c p : Int × Int) : countE (nineE c) p = if nbB c p then 1 else 0 := by
  obtain ⟨a, b⟩ := c
  obtain ⟨x, y⟩ := p
  by_cases h : nbB (a, b) (x, y) = true
  · rw [if_pos h]
    simp only [nbB, decide_eq_true_eq, ne_eq, Prod.mk.injEq] at h
    have hx : x = a - 1 ∨ x = a ∨ x = a + 1 := by omega
    have hy : y = b - 1 ∨ y = b ∨ y = b + 1 := by omega
    rcases hx with rfl | rfl | rfl <;> rcases hy with rfl | rfl | rfl <;> simp [countE, nineE, nine, List.countP_cons] <;> (repeat' split) <;> omega
  · rw [if_neg h]
    simp only [nbB, decide_eq_true_eq, ne_eq, Prod.mk.injEq] at h
    unfold countE
    rw [List.countP_eq_zero]
    intro e he
    obtain ⟨q, hq, rfl⟩ := List.mem_map.1 he
    have := (mem_nine _ _).1 hq
    simp only [Bool.and_eq_true, decide_eq_true_eq, Bool.not_eq_true', decide_eq_false_iff_not, not_and, Decidable.not_not]
    rintro rfl
    simp only at this
    simp only [Prod.mk.injEq]
    omega
theorem count_evs (l : List (Int × Int)) (p : Int × Int) : countE (evs l) p = nbr l p := by
  unfold nbr
  induction l with
  | nil => rfl
  | cons c l ih =>
    have : countE (evs (c :: l)) p = countE (nineE c) p + countE (evs l) p := by
      unfold countE evs
      rw [List.flatMap_cons, List.countP_append]
    rw [this, ih, count_nineE, List.countP_cons]
    omega

/-- the counts of the first k cells, and of the next one's first t -/
def evTo (l : List (Int × Int)) (k t : Nat) : Evs := evs (l.take k) ++ (nineE (l.getD k (0, 0))).take t
theorem evTo_zero (l : List (Int × Int)) : evTo l 0 0 = [] := rfl
theorem evTo_nine {l : List (Int × Int)} {k : Nat} (hk : k < l.length) : evTo l k 9 = evTo l (k + 1) 0 := by
  unfold evTo
  rw [take_snoc hk]
  simp [evs, List.flatMap_append, nineE, nine]
theorem evTo_end (l : List (Int × Int)) : evTo l l.length 0 = evs l := by simp [evTo]
theorem evTo_step {l : List (Int × Int)} {k t : Nat} {x y : Int} (hxy : (x, y) = l.getD k (0, 0)) (i j : Nat) (hi : i < 3) (hj : j < 3) (ht : t = 3 * j + i) :
    evTo l k (t + 1) = evTo l k t ++ [((x + ((i : Int) - 1), y + ((j : Int) - 1)), decide (i = 1 ∧ j = 1))] := by
  unfold evTo
  rw [← hxy, List.append_assoc]
  congr 1
  subst ht
  have : i = 0 ∨ i = 1 ∨ i = 2 := by omega
  have : j = 0 ∨ j = 1 ∨ j = 2 := by omega
  rcases ‹i = 0 ∨ i = 1 ∨ i = 2› with rfl | rfl | rfl <;> rcases ‹j = 0 ∨ j = 1 ∨ j = 2› with rfl | rfl | rfl <;>
    simp [nineE, nine] <;> omega
theorem evTo_on {l : List (Int × Int)} {k : Nat} {x y : Int} (hxy : (x, y) = l.getD k (0, 0)) {v z : Int} (hv : -1 ≤ v ∧ v ≤ 1) (hz : -1 ≤ z ∧ z ≤ 1) :
    evTo l k (3 * (z + 1).toNat + (v + 1).toNat + 1) = evTo l k (3 * (z + 1).toNat + (v + 1).toNat) ++ [((x + v, y + z), decide (v = 0 ∧ z = 0))] := by
  have h := evTo_step hxy (v + 1).toNat (z + 1).toNat (by omega) (by omega) (t := 3 * (z + 1).toNat + (v + 1).toNat) rfl
  have e1 : (((v + 1).toNat : Nat) : Int) - 1 = v := by omega
  have e2 : (((z + 1).toNat : Nat) : Int) - 1 = z := by omega
  have e3 : decide ((v + 1).toNat = 1 ∧ (z + 1).toNat = 1) = decide (v = 0 ∧ z = 0) := by
    rw [Bool.eq_iff_iff, decide_eq_true_eq, decide_eq_true_eq]; omega
  rw [e1, e2, e3] at h
  exact h
theorem length_evTo (l : List (Int × Int)) (k t : Nat) : (evTo l k t).length ≤ 9 * k + t := by
  unfold evTo evs nineE nine
  simp only [List.length_append, List.length_flatMap, List.length_map, List.length_take, List.length_cons, List.length_nil]
  have : ((l.take k).map fun _ => 9).sum ≤ 9 * k := by
    induction k generalizing l with
    | zero => simp
    | succ k ih =>
      cases l with
      | nil => simp
      | cons a l => simp only [List.take_succ_cons, List.map_cons, List.sum_cons]; have := ih l; omega
  have h2 := this
  simp only [Nat.zero_add, Nat.reduceAdd]
  omega

end Go.Proofs.YtacpncmdgkljdaaGreatDoor.Cel
namespace Go.Proofs.YtacpncmdgkljdaaGreatDoor.Cel
open Go.RowKit Go.Sort
open Go.Maps (Keyed)

/-- 'm[k]' at such a map, for the walk. -/
theorem wpList_lookup_near {P : Program} (w : World) {ops : Array Oper} {rest : List Oper} {o : Oper} {a : Act} {Q : Exit → Act → World → Prop}
    (hg : o.guard = none) (m x : Operand) (t : TypeId) (hop : o.op = Op.lookup t m x false)
    (k e : TypeId) (K : Keyed P k) (ht : P.underlying t = some (.map k e)) (hz : (zeroValue e).run P w = .ok (.agg #[.bool false, .int .i64 0]) w) (b n : Nat) (D : DataW Unit)
    (hm : a.eval m = .map (some b)) (hown : w.ownsMap P k nearR b n D) (key : Value) (kl : Lit) (hx : a.eval x = key) (hkey : keyOf P k key = some kl)
    (hK : ∀ (al : Bool) (c : Int), D.atKey kl zeroD = .lit (.int .i64 (2 * c + if al then 1 else 0)) → wpList P ops Q rest (a.put o.dst (.agg #[.bool al, .int .i64 c])) w) :
    wpList P ops Q (o :: rest) a w := by
  refine wpList_plain hg fun K' hK' => ?_
  obtain ⟨v, ps, hrun, hv⟩ := hown.lookup K ht hz (nearR_mk false 0) hkey
  obtain ⟨⟨al, c⟩, rfl, hy⟩ := nearR_inv hv
  unfold Oper.wp
  simp [execOp, hop, hm, hx, hrun, Result.andThen]
  exact hK' _ _ (hK al c (by injection hy))

theorem around_turn {w wr w1 : World} {o1 o2 : Obj} {bc : Nat} {u v : Value} (hb : Below w.heap.size w wr) (hlt : w.heap.size < bc) (hbc : bc < wr.heap.size) (d0 : wr.cell? ⟨bc, 0, none⟩ = some u) (d1 : wr.cell? ⟨bc, 1, none⟩ = some v)
    (hg : ((wr.alloc o1).alloc o2).grownBy w1 (some w.heap.size)) : w1.cell? ⟨bc, 0, none⟩ = some u ∧ w1.cell? ⟨bc, 1, none⟩ = some v ∧ Below w.heap.size w w1 ∧ bc < w1.heap.size := by
  have hal : ∀ a u, wr.cell? a = some u → ((wr.alloc o1).alloc o2).cell? a = some u := fun a u h =>
    (World.cell?_alloc_lt _ _ _ (by have := block_lt_of_cell h; simp; omega)).trans ((World.cell?_alloc_lt _ _ _ (block_lt_of_cell h)).trans h)
  have hne : ∀ o : Nat, some (⟨bc, o, none⟩ : Addr).block ≠ some w.heap.size := fun o e => by injection e with e; simp only at e; omega
  refine ⟨grown_cell hg (hal _ _ d0) (hne 0), grown_cell hg (hal _ _ d1) (hne 1), ((hb.alloc hb.size _).alloc (by have := hb.size; simp; omega) _).grown hg (by have := hb.size; simp; omega) (fun k e => by injection e with e; omega), ?_⟩
  have := hg.size
  simp at this
  omega

/-- what was found, in the proof's words -/
theorem near_found {D : DataW Unit} {E : Evs} {p : Int × Int} {al : Bool} {cn : Int} (h : Tells D E) (h1 : I64 p.1) (h2 : I64 p.2) (hat : D.atKey (kl p) zeroD = .lit (.int .i64 (2 * cn + if al = true then 1 else 0))) : al = aliveE E p ∧ cn = countE E p := by
  have e := (h.2 p h1 h2).2
  rw [hat] at e
  exact code_inj e
theorem countE_le (E : Evs) (p : Int × Int) : countE E p ≤ E.length := List.countP_le_length

theorem near_small {D : DataW Unit} {E : Evs} {p : Int × Int} {al : Bool} {cn : Int} (h : Tells D E) (h1 : I64 p.1) (h2 : I64 p.2) (hat : D.atKey (kl p) zeroD = .lit (.int .i64 (2 * cn + if al = true then 1 else 0))) (hl : E.length ≤ 100000) : 0 ≤ cn ∧ cn ≤ 100000 := by
  have e := (near_found h h1 h2 hat).2
  have := countE_le E p
  omega

theorem near_on {w1 : World} {B n t k : Nat} {l : List (Int × Int)} {D : DataW Unit} {d d' : DataW Unit} {p : Int × Int} {b : Bool} (hT : Tells D (evTo l k t)) (h1 : I64 p.1) (h2 : I64 p.2) (he : evTo l k (t + 1) = evTo l k t ++ [(p, b)])
    (hO : w1.ownsMap Tryz.prog 37 nearR B n (D.put (kl p) d)) (hd : d = d') (hd' : d' = .lit (.int .i64 (2 * (countE (evTo l k t ++ [(p, b)]) p : Int) + if aliveE (evTo l k t ++ [(p, b)]) p then 1 else 0))) {n' t' : Nat} (hn : n ≤ n') (ht : t' = t + 1) :
    ∃ D', Aside (w1.ownsMap Tryz.prog 37 nearR B n' D' ∧ Tells D' (evTo l k t')) := by
  subst hd ht
  rw [he]
  exact ⟨_, hO.mono hn, tells_put hT h1 h2 hd'⟩

/-- what comes of it: a map at a block of its own that tells the counts -/
def Around (l : List (Int × Int)) (w : World) (e : Ending) (w' : World) : Prop :=
  ∃ D, e = .returned (.map (some w.heap.size)) ∧ w'.ownsMap Tryz.prog 37 nearR w.heap.size (9 * l.length) D ∧ Hid (Tells D (evs l)) ∧ Below w.heap.size w w'

end Go.Proofs.YtacpncmdgkljdaaGreatDoor.Cel
namespace Go.Proofs.YtacpncmdgkljdaaGreatDoor.Cel
open Go.RowKit Go.Sort
open Go.Maps (Keyed)

/-- an answer of a list and an error's number -/
def Ans (w : World) (r : Int × List (Int × Int)) (e : Ending) (w' : World) : Prop := ∃ v, e = .returned (.tuple #[v, .int .i64 r.1]) ∧ Reads w' v r.2 ∧ Below w.heap.size w w'

theorem Ans.nil {w w' : World} (n : Int) (hb : Below w.heap.size w w') : Ans w (n, []) (.returned (.tuple #[.slice none 0 0, .int .i64 n])) w' :=
  ⟨_, rfl, ⟨none, 0, rfl, Nat.le_refl _, Rd.nil _ _ _⟩, hb⟩
theorem Ans.after {w w1 w' : World} {r : Int × List (Int × Int)} {e : Ending} (h : Ans w1 r e w') (hb : Below w.heap.size w w1) : Ans w r e w' := by
  obtain ⟨v, he, hr, hb'⟩ := h
  exact ⟨v, he, hr, Qt.more hb hb.size hb'⟩

/-- what has come out of the map so far -/
def Came (l : List (Int × Int)) (D : DataW Unit) (left : Lit → Bool) (out : List (Int × Int)) : Prop :=
  (∀ p ∈ out, aliveB l p = true) ∧ (∀ p : Int × Int, I64 p.1 → I64 p.2 → Maps.has D (kl p) = true → left (kl p) = false → aliveB l p = true → p ∈ out) ∧ ∀ z, left z = true → Maps.has D z = true

theorem came_end {l out : List (Int × Int)} {D : DataW Unit} {left : Lit → Bool} (h : Came l D left out) (hT : Tells D (evs l)) (hin : ∀ p ∈ l, inB p = true) (hleft : ∀ z, left z = false) : ∀ p, p ∈ out ↔ p ∈ nextL l := by
  intro p
  rw [mem_nextL]
  refine ⟨h.1 p, fun ha => ?_⟩
  have hc := alive_cand ha
  obtain ⟨q, hq, hn⟩ := (mem_cand l p).1 hc
  have hb := inB_bd (hin q hq)
  have i1 : I64 p.1 := ⟨by omega, by omega⟩
  have i2 : I64 p.2 := ⟨by omega, by omega⟩
  exact h.2.1 p i1 i2 (by rw [(hT.2 p i1 i2).1]; exact (evs_any l p).2 hc) (hleft _) ha
theorem came_start (l : List (Int × Int)) (D : DataW Unit) : Came l D (Maps.has D) [] :=
  ⟨fun p hp => absurd hp (by simp), fun p _ _ h1 h2 => (by rw [h1] at h2; cases h2), fun _ h => h⟩
theorem near_lives {l : List (Int × Int)} {D : DataW Unit} (hT : Tells D (evs l)) {x : Int × Int} {c : Bool × Int} {y : DataW Unit × List MemPlace} (i1 : I64 x.1) (i2 : I64 x.2) (hv : nearR (.agg #[.bool c.1, .int .i64 c.2]) = some y) (hat : ∀ zd, D.atKey (kl x) zd = y.1) :
    livesB c.1 c.2 = aliveB l x := by
  rw [nearR_mk] at hv
  injection hv with hv
  have e := hat zeroD
  rw [← hv] at e
  obtain ⟨ha, hc⟩ := near_found hT i1 i2 e
  rw [ha, hc, alive_evs, count_evs]
  rfl
theorem came_on {l out : List (Int × Int)} {D : DataW Unit} {left : Lit → Bool} {x : Int × Int} (h : Came l D left out) (i1 : I64 x.1) (i2 : I64 x.2) (b : Bool) (hb : aliveB l x = b) : Came l D (fun z => left z && !z.sameKey (kl x)) (if b then out ++ [x] else out) := by
  refine ⟨fun p hp => ?_, fun p j1 j2 hh hl ha => ?_, fun z hz => h.2.2 z (by simp only [Bool.and_eq_true] at hz; exact hz.1)⟩
  · cases b
    · exact h.1 p hp
    · simp only [if_true, List.mem_append, List.mem_singleton] at hp
      rcases hp with hp | rfl
      · exact h.1 p hp
      · exact hb
  · by_cases e : p = x
    · subst e
      rw [ha] at hb
      subst hb
      simp
    · have hne : (kl p).sameKey (kl x) = false := Maps.sameKey_ne fun e' => e (kl_inj j1 j2 i1 i2 e')
      simp only [hne, Bool.not_false, Bool.and_true] at hl
      have := h.2.1 p j1 j2 hh hl ha
      cases b <;> simp [this]

/-- the map's next entry, for the walk -/
theorem next_near {P : Program} (w : World) {ops : Array Oper} {rest : List Oper} {o : Oper} {a : Act} {Q : Exit → Act → World → Prop} (hg : o.guard = none) (it : Operand) (hop : o.op = Op.next it false) (hP : P = Tryz.prog) (b r n : Nat) (D : DataW Unit) (left : Lit → Bool) (cnt : Nat)
    (hit : a.eval it = .pointer (some ⟨r, 0, none⟩)) (h : w.ranges P 37 nearR b r n D left cnt)
    (hDone : cnt = 0 → (∀ kl, left kl = false) → wpList P ops Q rest (a.put o.dst (.tuple #[.bool false])) w)
    (hMore : ∀ (x : Int × Int) (c : Bool × Int) (y : DataW Unit × List MemPlace) (w' : World) (cnt' : Nat), I64 x.1 ∧ I64 x.2 ∧ nearR (.agg #[.bool c.1, .int .i64 c.2]) = some y ∧ (∀ zd, D.atKey (kl x) zd = y.1) → w'.ranges P 37 nearR b r n D (fun z => left z && !z.sameKey (kl x)) cnt' → cnt' < cnt →
      w.grownBy w' (some r) → w'.heap.size = w.heap.size → (Instr.entry (.pointer (some ⟨r, 0, none⟩))).run P w' = .ok (.tuple #[.agg #[.int .i64 x.1, .int .i64 x.2], .agg #[.bool c.1, .int .i64 c.2]]) w' → wpList P ops Q rest (a.put o.dst (.tuple #[.bool true, .agg #[.int .i64 x.1, .int .i64 x.2], .agg #[.bool c.1, .int .i64 c.2]])) w') :
    wpList P ops Q (o :: rest) a w := by
  subst hP
  refine wpList_next_ranges w hg it hop 37 cellKeyed nearR (fun x : Int × Int => .agg #[.int .i64 x.1, .int .i64 x.2]) (fun c : Bool × Int => .agg #[.bool c.1, .int .i64 c.2])
    (fun key kl' h => by obtain ⟨p, _, _, e, _⟩ := key_cell h; exact ⟨p, e⟩) (fun v y h => by obtain ⟨p, e, _⟩ := nearR_inv h; exact ⟨p, e⟩) b r n D left cnt hit h hDone ?_
  intro x c kl' y w' cnt' hkey hlk hv hat hrg hlt hgr hsz hen
  obtain ⟨p, i1, i2, e, rfl⟩ := key_cell hkey
  have : x = p := by
    obtain ⟨a, b⟩ := x
    obtain ⟨c, d⟩ := p
    simpa using e
  subst this
  exact hMore x c y w' cnt' ⟨i1, i2, hv, hat⟩ hrg hlt hgr hsz hen

/-- what stands beside an append's row stays -/
theorem came_push {w0 w w3 : World} {o1 o2 o3 : Obj} {b r n : Nat} {D : DataW Unit} {left : Lit → Bool} {cnt : Nat} {v v' : Value} {out : List (Int × Int)} {x : Int × Int} (hb : Below w0.heap.size w0 w) (hbr : b < r ∧ r < w.heap.size) (hw0 : w0.heap.size ≤ b) (h : w.ranges Tryz.prog 37 nearR b r n D left cnt)
    (hown : Own w (r + 1) 37 v out) (h3 : w3.ownsRow (r + 1) 37 2 v' (out.length + 1) (fl out ++ [.int .i64 x.1, .int .i64 x.2])) (hg : (((w.alloc o1).alloc o2).alloc o3).grownBy w3 v.ownBlock) :
    Own w3 (r + 1) 37 v' (out ++ [x]) ∧ w3.ranges Tryz.prog 37 nearR b r n D left cnt ∧ Below w0.heap.size w0 w3 ∧ r < w3.heap.size := by
  have hne : ∀ g, v.ownBlock = some g → r + 1 ≤ g := fun g e => (World.ownsRow.lt hown _ e).1
  have hsz := hb.size
  refine ⟨own_push h3, (((h.alloc _).alloc _).alloc _).kept hg (fun e => ?_) (fun e => ?_), (((hb.alloc hsz _).alloc (by simp; omega) _).alloc (by simp; omega) _).grown hg (by simp; omega) (fun k e => ?_), ?_⟩
  · have := hne _ e.symm; omega
  · have := hne _ e.symm; omega
  · have := hne _ e; omega
  · have := hg.size; simp at this; omega

theorem one_new2 {w : World} {o1 o2 : Obj} {T : Nat} {x y : Int} : ∀ j u, ([.int .i64 x, .int .i64 y] : List Value)[j]? = some u → (((w.alloc o1).alloc o2).alloc (.cells #[.int .i64 x, .int .i64 y] T)).cell? ((⟨w.heap.size + 1 + 1, 0, none⟩ : Addr).add j) = some u := by
  have h := @one_new ((w.alloc o1).alloc o2) T x y
  simpa using h

/-- nothing has come of this entry -/
theorem came_skip {w0 w : World} {o1 o2 : Obj} {b r n : Nat} {D : DataW Unit} {left : Lit → Bool} {cnt : Nat} {v : Value} {out : List (Int × Int)} (hb : Below w0.heap.size w0 w) (hbr : b < r ∧ r < w.heap.size) (h : w.ranges Tryz.prog 37 nearR b r n D left cnt)
    (hown : Own w (r + 1) 37 v out) :
    Own ((w.alloc o1).alloc o2) (r + 1) 37 v out ∧ ((w.alloc o1).alloc o2).ranges Tryz.prog 37 nearR b r n D left cnt ∧ Below w0.heap.size w0 ((w.alloc o1).alloc o2) ∧ r < ((w.alloc o1).alloc o2).heap.size :=
  have hsz := hb.size
  ⟨World.ownsRow.alloc (World.ownsRow.alloc hown _) _, (h.alloc _).alloc _, (hb.alloc hsz _).alloc (by simp; omega) _, by simp; omega⟩

end Go.Proofs.YtacpncmdgkljdaaGreatDoor.Cel
namespace Go.Proofs.YtacpncmdgkljdaaGreatDoor.Cel
open Go.RowKit Go.Sort

theorem ofR_out {l : List (Int × Int)} {k : Nat} (hk : k < l.length) (h : inB (l.getD k (0, 0)) = false) : ofR l = (2, []) := by
  unfold ofR
  rw [if_pos]
  exact List.any_eq_true.2 ⟨_, getD_mem hk, by rw [h]; rfl⟩
theorem ofR_in {l : List (Int × Int)} (h : ∀ j, j < l.length → inB (l.getD j (0, 0)) = true) : ofR l = if 2000 < (setL l).length then (3, []) else (0, setL l) := by
  unfold ofR
  rw [if_neg]
  rw [List.any_eq_true]
  rintro ⟨p, hp, e⟩
  obtain ⟨j, hj, he⟩ := List.getElem_of_mem hp
  have := h j hj
  rw [List.getD_eq_getElem?_getD, List.getElem?_eq_getElem hj, Option.getD_some, he] at this
  rw [this] at e
  cases e

end Go.Proofs.YtacpncmdgkljdaaGreatDoor.Cel
namespace Go.Proofs.YtacpncmdgkljdaaGreatDoor.Cel
open Go.RowKit Go.Sort

/-- what Shift answers -/
def shiftR (l : List (Int × Int)) (dx dy : Int) : Int × List (Int × Int) :=
  if rightB l = true then (if (shL dx dy l).all inB = true then (0, shL dx dy l) else (2, [])) else (1, [])

theorem push_one {w0 w2 w3 : World} {B T : Nat} {v v' : Value} {out : List (Int × Int)} {x y : Int} (hB : B ≤ w2.heap.size) (hb : Below B w0 w2) (hown : Own w2 B T v out) {o : Obj}
    (h3 : w3.ownsRow B T 2 v' (out.length + 1) (fl out ++ [.int .i64 x, .int .i64 y])) (hg : (w2.alloc o).grownBy w3 v.ownBlock) : Own w3 B T v' (out ++ [(x, y)]) ∧ Below B w0 w3 :=
  ⟨own_push h3, (hb.alloc hB _).grown hg (by simp; omega) (fun k e => (World.ownsRow.lt hown k e).1)⟩

/-- so many cells shifted -/
def shTo (dx dy : Int) (l : List (Int × Int)) (k : Nat) : List (Int × Int) := shL dx dy (l.take k)
theorem shTo_succ {dx dy : Int} {l : List (Int × Int)} {k : Nat} (hk : k < l.length) : shTo dx dy l (k + 1) = shTo dx dy l k ++ [((l.getD k (0, 0)).1 + dx, (l.getD k (0, 0)).2 + dy)] := by
  unfold shTo shL; rw [take_snoc hk, List.map_append]; rfl
theorem length_shTo (dx dy : Int) (l : List (Int × Int)) (k : Nat) : (shTo dx dy l k).length ≤ k := by
  unfold shTo; rw [length_shL, List.length_take]; omega
theorem sh_out {dx dy : Int} {l : List (Int × Int)} {k : Nat} {x y : Int} (hk : k < l.length) (hxy : (x, y) = l.getD k (0, 0)) (h : inB (x + dx, y + dy) = false) : (shL dx dy l).all inB = false := by
  rw [List.all_eq_false]
  refine ⟨(x + dx, y + dy), ?_, by rw [h]; exact Bool.false_ne_true⟩
  unfold shL
  exact List.mem_map.2 ⟨(x, y), by rw [hxy]; exact getD_mem hk, rfl⟩
theorem sh_in {dx dy : Int} {l : List (Int × Int)} (h : ∀ j, j < l.length → inB ((l.getD j (0, 0)).1 + dx, (l.getD j (0, 0)).2 + dy) = true) : (shL dx dy l).all inB = true := by
  rw [List.all_eq_true]
  intro p hp
  unfold shL at hp
  obtain ⟨q, hq, rfl⟩ := List.mem_map.1 hp
  obtain ⟨j, hj, he⟩ := List.getElem_of_mem hq
  have := h j hj
  rwa [List.getD_eq_getElem?_getD, List.getElem?_eq_getElem hj, Option.getD_some, he] at this
theorem inB_far {x y dx dy : Int} (h : inB (x, y) = true) (hf : dx < -2199023255552 ∨ 2199023255552 < dx ∨ dy < -2199023255552 ∨ 2199023255552 < dy) : inB (x + dx, y + dy) = false := by
  have := inB_bd h
  rw [Bool.eq_false_iff]
  intro h2
  have := inB_bd h2
  simp only at *
  omega

end Go.Proofs.YtacpncmdgkljdaaGreatDoor.Cel
