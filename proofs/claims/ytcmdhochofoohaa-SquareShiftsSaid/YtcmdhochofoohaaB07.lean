/-
  Texts that the claims of this seat share, part 7.
-/
import Derived.Test.YtcmdhochofoohaaB06
import Derived.Lib.AppendZerosOnto
set_option linter.unusedVariables false
set_option linter.unusedSimpArgs false
namespace Go.Proofs.Ytcmdhochofoohaa
set_option maxRecDepth 100000
set_option linter.unusedVariables false
set_option linter.unusedSimpArgs false
open Go.RowKit Go.Sort

/-- where the nodes seen so far are in the new store -/
def toF (K : Nat → Bool) (n : Nat) : Nat → Int := fun i => if i < n ∧ K i = true then (cnt K i : Int) else 0
theorem toF_zero (K : Nat → Bool) : toF K 0 = fun _ => 0 := by
  funext i
  unfold toF
  rw [if_neg (by omega)]
theorem toF_on (K : Nat → Bool) (n : Nat) (h : K n = true) : (fun k => if k = n then (cnt K n : Int) else toF K n k) = toF K (n + 1) := by
  funext k
  unfold toF
  by_cases e : k = n
  · subst e
    rw [if_pos rfl, if_pos ⟨Nat.lt_succ_self _, h⟩]
  · rw [if_neg e]
    by_cases h1 : k < n ∧ K k = true
    · rw [if_pos h1, if_pos ⟨by omega, h1.2⟩]
    · rw [if_neg h1, if_neg (fun h2 => h1 ⟨by omega, h2.2⟩)]
theorem toF_off (K : Nat → Bool) (n : Nat) (h : K n = false) : toF K n = toF K (n + 1) := by
  funext k
  unfold toF
  by_cases h1 : k < n ∧ K k = true
  · rw [if_pos h1, if_pos ⟨by omega, h1.2⟩]
  · rw [if_neg h1, if_neg (fun h2 => h1 ⟨by
      have : k ≠ n := fun e => by rw [e, h] at h2; exact absurd h2.2 (by decide)
      omega, h2.2⟩)]
section
variable {l : List Nd} {room : Int} {R : List Int} {K : Nat → Bool}
theorem to_kid (hr : Right6 l room) (hK : Kept l R K) {n : Nat} (hn : n < l.length) (hKn : K n = true) {c : Nat} (hc : c < 4) : toF K n (kd (l.getD n deadN).2.1 c).toNat = (cnt K (kd (l.getD n deadN).2.1 c).toNat : Int) := by
  by_cases h2 : 2 ≤ n
  · have h1 := (fits_iff.1 (hr.fits n h2 hn)).kid c hc
    unfold toF
    rw [if_pos ⟨by omega, hK.kid n h2 hn hKn c hc⟩]
  · have hk : (l.getD n deadN).2.1 = (0, 0, 0, 0) := by
      rcases (by omega : n = 0 ∨ n = 1) with rfl | rfl
      · rw [hr.dead]; rfl
      · rw [hr.live]; rfl
    rw [hk]
    have h0 : kd (0, 0, 0, 0) c = 0 := by rcases (by omega : c = 0 ∨ c = 1 ∨ c = 2 ∨ c = 3) with rfl | rfl | rfl | rfl <;> rfl
    rw [h0]
    have hc0 : cnt K 0 = 0 := rfl
    unfold toF
    simp only [Int.toNat_zero, hc0]
    split <;> rfl
theorem to_root (hK : Kept l R K) {r : Int} (hr : r ∈ R) (h0 : 0 ≤ r ∧ r < l.length) : toF K l.length r.toNat = (cnt K r.toNat : Int) := by
  unfold toF
  rw [if_pos ⟨by omega, hK.root r hr h0.1⟩]
end
/-- the first kids mapped -/
def mixK (K : Nat → Bool) (k : Kd) (j : Nat) : Kd :=
  (if 0 < j then (cnt K k.1.toNat : Int) else k.1, if 1 < j then (cnt K k.2.1.toNat : Int) else k.2.1, if 2 < j then (cnt K k.2.2.1.toNat : Int) else k.2.2.1, if 3 < j then (cnt K k.2.2.2.toNat : Int) else k.2.2.2)
theorem mixK_zero (K : Nat → Bool) (k : Kd) : mixK K k 0 = k := rfl
theorem mixK_all (K : Nat → Bool) (k : Kd) : mixK K k 4 = mapK K k := rfl
theorem mixK_set (K : Nat → Bool) (lv pp : Int) (k : Kd) (j : Nat) (hj : j < 4) : (cellsN (lv, mixK K k j, pp)).set (1 + j) (.int .i64 (cnt K (kd k j).toNat : Int)) = cellsN (lv, mixK K k (j + 1), pp) := by
  rcases (by omega : j = 0 ∨ j = 1 ∨ j = 2 ∨ j = 3) with rfl | rfl | rfl | rfl <;> rfl
theorem mixK_get (K : Nat → Bool) (lv pp : Int) (k : Kd) (j : Nat) (hj : j < 4) : ∃ v, (cellsN (lv, mixK K k j, pp))[1 + j]? = some v := by
  rcases (by omega : j = 0 ∨ j = 1 ∨ j = 2 ∨ j = 3) with rfl | rfl | rfl | rfl <;> exact ⟨_, rfl⟩

/-- where the roots are, so many told -/
def foundF (K : Nat → Bool) (R : List Int) (k : Nat) : Nat → Int := fun i => if i < k then (cnt K (R.getD i 0).toNat : Int) else 0
theorem foundF_zero (K : Nat → Bool) (R : List Int) : foundF K R 0 = fun _ => 0 := by
  funext i
  unfold foundF
  rw [if_neg (by omega)]
theorem foundF_succ (K : Nat → Bool) (R : List Int) (k : Nat) : (fun i => if i = k then (cnt K (R.getD k 0).toNat : Int) else foundF K R k i) = foundF K R (k + 1) := by
  funext i
  unfold foundF
  by_cases e : i = k
  · subst e
    rw [if_pos rfl, if_pos (Nat.lt_succ_self _)]
  · rw [if_neg e]
    by_cases h : i < k
    · rw [if_pos h, if_pos (by omega)]
    · rw [if_neg h, if_neg (by omega)]
theorem foundF_all (K : Nat → Bool) (R : List Int) : numsL R.length (foundF K R R.length) = R.map fun r => (cnt K r.toNat : Int) := by
  refine List.ext_getElem? fun i => ?_
  unfold numsL
  by_cases h : i < R.length
  · rw [List.getElem?_map, List.getElem?_range h, List.getElem?_map, List.getElem?_eq_getElem h]
    unfold foundF
    simp [h]
  · rw [List.getElem?_eq_none (by simp; omega), List.getElem?_eq_none (by simp; omega)]
theorem reads_row {w : World} {f : Nat} {xs : List Int} (h : RowV w f 3 (intsL xs)) : Reads w (.slice (some ⟨f, 0, none⟩) xs.length xs.length) xs :=
  ⟨_, _, rfl, Nat.le_refl _, fun j hj => ⟨f, 0, rfl, h.lt, by rw [Nat.zero_add]; exact h.cell (intsL_get hj)⟩⟩
/-- What Live answers, of a store and roots. -/
def live6 (l : List Nd) (room : Int) (R : List Int) : List Nd × List Int × Int := if (right6 l room && rootsB l R) = true then (liveL l R, liveAt l R, 0) else (l, [], 1)
def LiveR (p : List Nd × List Int × Int) (room : Int) (w : World) (e : Ending) (w' : World) : Prop :=
  ∃ v u, e = .returned (.tuple #[.agg #[v, .int .i64 room], u, .int .i64 p.2.2]) ∧ ReadsN w' v p.1 ∧ Reads w' u p.2.1 ∧ Below w.heap.size w w'

/-- What is known at the head of the loop over nodes. -/
structure LvAt (w wr : World) (A : Option Addr) (l : List Nd) (c : Nat) (room : Int) (K : Nat → Bool) (o q t n : Nat) (v : Value) : Prop where
  head : EmpHead w wr A l.length c room
  flg : RowV wr q 4 (boolsL l.length K)
  tor : RowV wr t 3 (intsL (numsL l.length (toF K n)))
  out : wr.heap[o]? = some (.cells #[v, .int .i64 room] 25 (0, 0))
  own : OwnN wr (w.heap.size + 2) v (newTo l K n)
  lo : w.heap.size + 2 ≤ o ∧ w.heap.size + 2 ≤ q ∧ w.heap.size + 2 ≤ t
section
variable {w wr w' : World} {A : Option Addr} {l : List Nd} {c : Nat} {room : Int} {K : Nat → Bool} {o q t n : Nat} {v : Value}
theorem LvAt.below (h : LvAt w wr A l c room K o q t n v) (hb : Below wr.heap.size wr w') : LvAt w w' A l c room K o q t n v :=
  ⟨h.head.below hb, h.flg.now hb, h.tor.now hb, (hb.block _ (lt_heap6 h.out)).trans h.out, h.own.below hb, h.lo⟩
theorem LvAt.c0 (h : LvAt w wr A l c room K o q t n v) : wr.cell? ⟨o, 0, none⟩ = some v := by rw [Lib.cell_of_heap h.out]; rfl
theorem LvAt.c1 (h : LvAt w wr A l c room K o q t n v) : wr.cell? ⟨o, 1, none⟩ = some (.int .i64 room) := by rw [Lib.cell_of_heap h.out]; rfl
theorem LvAt.f0 (h : LvAt w wr A l c room K o q t n v) : wr.frozen? ⟨o, 0, none⟩ = false := Lib.frozen_of_heap h.out 0
theorem LvAt.ot (h : LvAt w wr A l c room K o q t n v) : o ≠ t := by
  intro e
  have h1 := h.out
  have h2 := h.tor
  unfold RowV at h2
  rw [e, h2] at h1
  injection h1 with h1
  injection h1 with _ h1 _
  exact absurd h1 (by decide)
theorem LvAt.oq (h : LvAt w wr A l c room K o q t n v) : o ≠ q := by
  intro e
  have h1 := h.out
  have h2 := h.flg
  unfold RowV at h2
  rw [e, h2] at h1
  injection h1 with h1
  injection h1 with _ h1 _
  exact absurd h1 (by decide)
theorem LvAt.qt (h : LvAt w wr A l c room K o q t n v) : q ≠ t := by
  intro e
  have h1 := h.flg
  have h2 := h.tor
  unfold RowV at h1 h2
  rw [e, h2] at h1
  injection h1 with h1
  injection h1 with _ h1 _
  exact absurd h1 (by decide)
theorem own_ne {B i T : Nat} {cs : Array Value} {m : List Nd} (ho : OwnN wr B v m) (hi : wr.heap[i]? = some (.cells cs T (0, 0))) (hT : T ≠ 49) : v.ownBlock ≠ some i := by
  intro e
  obtain ⟨_, _, cs', fz, hc⟩ := ownN_kind ho i e
  rw [hi] at hc
  injection hc with hc
  injection hc with _ hc _
  exact hT hc
/-- a node's place is told -/
theorem LvAt.told (h : LvAt w wr A l c room K o q t n v) (i : Nat) (x : Int) (f : Nat → Int) (hf : (fun k => if k = i then x else toF K n k) = f) :
    EmpHead w (wr.setCell ⟨t, i, none⟩ (.int .i64 x)) A l.length c room ∧ RowV (wr.setCell ⟨t, i, none⟩ (.int .i64 x)) q 4 (boolsL l.length K) ∧ RowV (wr.setCell ⟨t, i, none⟩ (.int .i64 x)) t 3 (intsL (numsL l.length f)) ∧ (wr.setCell ⟨t, i, none⟩ (.int .i64 x)).heap[o]? = some (.cells #[v, .int .i64 room] 25 (0, 0)) ∧ OwnN (wr.setCell ⟨t, i, none⟩ (.int .i64 x)) (w.heap.size + 2) v (newTo l K n) := by
  have hb := h.lo.2.2
  have hset := h.tor.set i (.int .i64 x)
  rw [intsL_set, numsL_set, hf] at hset
  have hk : ∀ p, p < t → (wr.setCell ⟨t, i, none⟩ (.int .i64 x)).heap[p]? = wr.heap[p]? := fun p hp => Below.heap_setCell _ _ _ _ (by show p ≠ t; omega)
  have htor : wr.heap[t]? = some (.cells (intsL (numsL l.length (toF K n))).toArray 3 (0, 0)) := h.tor
  refine ⟨⟨(hk _ (by omega)).trans h.head.store, (hk _ (by omega)).trans h.head.res, h.head.bel.setCell (by show w.heap.size ≤ t; omega) _⟩, h.flg.other h.qt _ _, hset, ?_, World.ownsRow.kept h.own (but_set i _) (.inr (own_ne h.own htor (by decide)))⟩
  rw [Below.heap_setCell _ _ _ _ (by show o ≠ t; exact h.ot)]
  exact h.out
theorem LvAt.pushed {w7 w8 : World} {v v' : Value} {x : Nd} {ob : Obj} {m : List Nd} (hhead : EmpHead w w7 A l.length c room) (hflg : RowV w7 q 4 (boolsL l.length K)) (htor : RowV w7 t 3 (intsL (numsL l.length (toF K (n + 1)))))
    (hout : w7.heap[o]? = some (.cells #[v, .int .i64 room] 25 (0, 0))) (hown : OwnN w7 (w.heap.size + 2) v m) (hlo : w.heap.size + 2 ≤ o ∧ w.heap.size + 2 ≤ q ∧ w.heap.size + 2 ≤ t)
    (hg : (w7.alloc ob).grownBy w8 v.ownBlock) (hbp : Below (w.heap.size + 2) w7 w8) (ho : OwnN w8 (w.heap.size + 2) v' (m ++ [x])) (hs : newTo l K (n + 1) = m ++ [x]) :
    LvAt w (w8.setCell ⟨o, 0, none⟩ v') A l c room K o q t (n + 1) v' ∧ w8.heap[o]? = some (.cells #[v, .int .i64 room] 25 (0, 0)) := by
  have hsz : (w7.alloc ob).heap.size = w7.heap.size + 1 := by simp
  have hkeep : ∀ {i T : Nat} {cs : Array Value}, w7.heap[i]? = some (.cells cs T (0, 0)) → T ≠ 49 → w8.heap[i]? = some (.cells cs T (0, 0)) := by
    intro i T cs hi hT
    rw [hg.block i (by have := lt_heap6 hi; omega) (fun e => own_ne hown hi hT e.symm), Lib.alloc_old _ _ _ (lt_heap6 hi)]
    exact hi
  have hout8 := hkeep hout (by decide)
  have hflg8 : RowV w8 q 4 (boolsL l.length K) := hkeep hflg (by decide)
  have htor8 : RowV w8 t 3 (intsL (numsL l.length (toF K (n + 1)))) := hkeep htor (by decide)
  have hoq : q ≠ o := by
    intro e
    have h1 := hflg8
    unfold RowV at h1
    rw [e, hout8] at h1
    injection h1 with h1
    injection h1 with _ h1 _
    exact absurd h1 (by decide)
  have hot : t ≠ o := by
    intro e
    have h1 := htor8
    unfold RowV at h1
    rw [e, hout8] at h1
    injection h1 with h1
    injection h1 with _ h1 _
    exact absurd h1 (by decide)
  have hk : ∀ p, p < o → (w8.setCell ⟨o, 0, none⟩ v').heap[p]? = w8.heap[p]? := fun p hp => Below.heap_setCell _ _ _ _ (by show p ≠ o; omega)
  refine ⟨⟨⟨?_, ?_, (hhead.bel.trans (hbp.mono (by omega))).setCell (by show w.heap.size ≤ o; omega) _⟩, hflg8.other hoq _ _, htor8.other hot _ _, ?_, ?_, hlo⟩, hout8⟩
  · rw [hk _ (by omega), hbp.block _ (by omega)]
    exact hhead.store
  · rw [hk _ (by omega), hbp.block _ (by omega)]
    exact hhead.res
  · simp [World.setCell, Array.getElem?_modify, hout8]
  · rw [hs]
    exact World.ownsRow.kept ho (but_set 0 _) (.inr (own_ne ho hout8 (by decide)))
end
end Go.Proofs.Ytcmdhochofoohaa
namespace Go.Proofs.Ytcmdhochofoohaa
set_option maxRecDepth 100000
set_option linter.unusedVariables false
set_option linter.unusedSimpArgs false
open Go.RowKit Go.Sort

set_option maxHeartbeats 16000000 in
set_option maxRecDepth 100000 in
theorem nodeLive_bad (A : Option Addr) (l : List Nd) (c : Nat) (room : Int) (B : Option Addr) (R : List Int) (d : Nat) (w : World) (hR : RdN w w.heap.size A l) (hl : l.length ≤ 1000000) (hc : l.length ≤ c) (hrt : Rd w w.heap.size B R) (hRl : R.length ≤ 1000000) (hbad : (right6 l room && rootsB l R) = false) :
    Calls Try.prog 24 #[storeV A l.length c room, .slice B R.length d] w (LiveR (l, [], 1) room w) := by
  have HH0 := Lib.hid (empHead_0 w A l.length c room)
  have hs0 := HH0.out.s0
  have hs1 := HH0.out.s1
  have hmf : ∀ (fn : Fn) (first cap : Array Value) (W : World), (Instr.makeFunc fn first cap).run Try.prog W = .ok (.func fn first cap) W := fun _ _ _ _ => rfl
  have hright := nodeRight_any A l c room _ ((hR.below HH0.out.bel (Nat.le_refl _)).more HH0.out.bel.size) hl hc
  unfold storeV at hright ⊢
  cases hr : right6 l room with
  | false =>
    rw [hr] at hright
    clear hbad hr
    go_enter Try.func24, Try.ntmps24
    go_wp2_with (go_at_call 16; refine hright.mono ?_; rintro e w1 ⟨rfl, hb1⟩; have H1 := Lib.hid (HH0.out.below hb1); have s0 := H1.out.s0; have s1 := H1.out.s1; have r0 := H1.out.r0; have r1 := H1.out.r1; have f0 := H1.out.free 0; have f1 := H1.out.free 1; have ht := Lib.hid (H1.out.told (.slice A l.length c) (.int .i64 room)); clear hright hb1 hs0 hs1)
    refine bodyPost_ret (results_cell3 rfl _ _ _ _ _ _ _ rfl ht.out.1 Try.underlying25 rfl (by kernel_rfl)) rfl ?_
    exact ⟨_, _, rfl, ⟨A, c, rfl, hc, (hR.below ht.out.2 (Nat.le_refl _)).more ht.out.2.size⟩, ⟨none, 0, rfl, Nat.le_refl _, now_nil _ _⟩, ht.out.2⟩
  | true =>
    rw [hr] at hright
    rw [hr, Bool.true_and] at hbad
    clear hr
    go_enter Try.func24, Try.ntmps24
    go_wp2_with fail
    refine hright.mono ?_
    rintro e w1 ⟨rfl, hb1⟩
    have H1 := Lib.hid (HH0.out.below hb1)
    have s0 := H1.out.s0
    have s1 := H1.out.s1
    have hcon := contains_any A l c w.heap.size B R d w1 s0 ((hrt.below H1.out.bel (Nat.le_refl _)).more H1.out.bel.size) hRl
    rw [hbad] at hcon
    clear hright hb1 hs0 hs1 hbad
    go_wp2_with fail
    refine hcon.mono ?_
    rintro e w2 ⟨rfl, hb2⟩
    have H2 := Lib.hid (H1.out.below hb2)
    have s0 := H2.out.s0
    have s1 := H2.out.s1
    have r0 := H2.out.r0
    have r1 := H2.out.r1
    have f0 := H2.out.free 0
    have f1 := H2.out.free 1
    have ht := Lib.hid (H2.out.told (.slice A l.length c) (.int .i64 room))
    clear hcon hb2 H1
    go_wp2
    refine bodyPost_ret (results_cell3 rfl _ _ _ _ _ _ _ rfl ht.out.1 Try.underlying25 rfl (by kernel_rfl)) rfl ?_
    exact ⟨_, _, rfl, ⟨A, c, rfl, hc, (hR.below ht.out.2 (Nat.le_refl _)).more ht.out.2.size⟩, ⟨none, 0, rfl, Nat.le_refl _, now_nil _ _⟩, ht.out.2⟩

set_option maxHeartbeats 16000000 in
set_option maxRecDepth 100000 in
theorem nodeLive_good (A : Option Addr) (l : List Nd) (c : Nat) (room : Int) (B : Option Addr) (R : List Int) (d : Nat) (w : World) (hR : RdN w w.heap.size A l) (hl : l.length ≤ 1000000) (hc : l.length ≤ c) (hrt : Rd w w.heap.size B R) (hRl : R.length ≤ 1000000) (hr : right6 l room = true) (hroots : rootsB l R = true) :
    Calls Try.prog 24 #[storeV A l.length c room, .slice B R.length d] w (LiveR (liveL l R, liveAt l R, 0) room w) := by
  have HH0 := Lib.hid (empHead_0 w A l.length c room)
  have hs0 := HH0.out.s0
  have hs1 := HH0.out.s1
  have hmf : ∀ (fn : Fn) (first cap : Array Value) (W : World), (Instr.makeFunc fn first cap).run Try.prog W = .ok (.func fn first cap) W := fun _ _ _ _ => rfl
  have hright := nodeRight_any A l c room _ ((hR.below HH0.out.bel (Nat.le_refl _)).more HH0.out.bel.size) hl hc
  unfold storeV at hright ⊢
  have hR6 := right_iff.1 hr
  have h2 := hR6.two
  have hl5 : l.length ≤ 100000 := by have := hR6.len; have := hR6.room100; omega
  have HR6 := Lib.hid hR6
  have hin := rootsB_iff.1 hroots
  have HIN := Lib.hid hin
  have hmk1 := makeInts l.length hl
  have hmk2 := makeInts R.length hRl
  rw [hr] at hright
  obtain ⟨b0, off, rfl, hbB, hcell⟩ := hR.at_ (by omega)
  have HC := Lib.hid hcell
  have HRR := Lib.hid hR
  have HRT := Lib.hid hrt
  have HRO := Lib.hid hroots
  clear hr hin hR6 hcell hR hrt hroots
  go_enter Try.func24, Try.ntmps24
  go_wp2_with fail
  refine hright.mono ?_
  rintro e w1 ⟨rfl, hb1⟩
  have H1 := Lib.hid (HH0.out.below hb1)
  have s0 := H1.out.s0
  have s1 := H1.out.s1
  have hcon := contains_any _ l c w.heap.size B R d w1 s0 ((HRT.out.below H1.out.bel (Nat.le_refl _)).more H1.out.bel.size) hRl
  rw [HRO.out] at hcon
  clear hright hb1 hs0 hs1
  go_wp2_with fail
  refine hcon.mono ?_
  rintro e w2 ⟨rfl, hb2⟩
  have H2 := H1.out.below hb2
  have s0 := H2.s0
  have s1 := H2.s1
  have H3 := Lib.hid (H2.below ((Below.refl w2.heap.size w2).alloc (Nat.le_refl _) (.cells #[.slice none 0 0, .int .i64 room] 25)))
  have HO3 := Lib.hid (heap_alloc_new w2 (.cells #[.slice none 0 0, .int .i64 room] 25))
  have hbel := below_any (some ⟨b0, off, none⟩) l c B R d room (w2.alloc (.cells #[.slice none 0 0, .int .i64 room] 25)) ((HRR.out.below H3.out.bel (Nat.le_refl _)).more H3.out.bel.size) ((HRT.out.below H3.out.bel (Nat.le_refl _)).more H3.out.bel.size) HR6.out HIN.out hRl
  have s0o := fun o => (H2.below ((Below.refl w2.heap.size w2).alloc (Nat.le_refl _) o)).s0
  have ho2 : w.heap.size + 2 ≤ w2.heap.size := H2.size
  clear hcon hb2 H1 H2
  go_wp2_with fail
  refine hbel.mono ?_
  have hs3 : (w2.alloc (.cells #[.slice none 0 0, .int .i64 room] 25)).heap.size = w2.heap.size + 1 := by simp
  generalize (w2.alloc (.cells #[.slice none 0 0, .int .i64 room] 25)) = w3 at *
  generalize w2.heap.size = o at *
  rintro e w4 ⟨rfl, hfl⟩
  have H4 := H3.out.below hfl.bel
  have hout4 := (hfl.bel.block _ (lt_heap6 HO3.out)).trans HO3.out
  have s04 := H4.s0
  have hq := hfl.size
  have s0o4 := fun o => (H4.below ((Below.refl w4.heap.size w4).alloc (Nat.le_refl _) o)).s0
  have HL0 : Hid (LvAt w (w4.alloc (.cells (intsL (numsL l.length fun _ => 0)).toArray 3)) (some ⟨b0, off, none⟩) l c room (keepF l R) o w3.heap.size w4.heap.size 0 (.slice none 0 0)) := by
    have hal := (Below.refl w4.heap.size w4).alloc (Nat.le_refl _) (.cells (intsL (numsL l.length fun _ => 0)).toArray 3)
    refine ⟨H4.below hal, hfl.row.now hal, ?_, (hal.block _ (lt_heap6 hout4)).trans hout4, World.ownsRow_nil _ _ _ _, ⟨by omega, by omega, by omega⟩⟩
    rw [toF_zero]
    exact RowV.made w4 _ _
  generalize w3.heap.size = q at *
  subst hs3
  clear hbel s0 s1 s0o H3 HO3 H4 hfl hout4
  go_wp2
  clear hmk1 s04 s0o4 hmf
  generalize (w4.alloc (.cells (intsL (numsL l.length fun _ => 0)).toArray 3)) = w5 at *
  generalize w4.heap.size = t at *
  have HKP := Lib.hid (kept_keep HR6.out R)
  obtain ⟨K, hK⟩ : ∃ K, K = keepF l R := ⟨_, rfl⟩
  rw [← hK] at HL0 HKP
  have HKE := Lib.hid hK
  clear hK s0 s1 HH0 hq
  go_loopw [42] (fun i wr => ∃ (n : Nat) (v : Value), n ≤ l.length ∧ i = .int .i64 n ∧ Hid (LvAt w wr (some ⟨b0, off, none⟩) l c room K o (o + 1) t n v)) (fun i _ => l.length - (intOf i).toNat)
  case atStart => exact ⟨0, _, Nat.zero_le _, rfl, HL0.out⟩
  case round =>
    obtain ⟨n, v, hn, rfl, HH⟩ := hrel
    have H := HH.out
    by_cases hlt : n < l.length
    · have hltz : (n : Int) < (l.length : Int) := by omega
      obtain ⟨n0, n1, n2, n3, n4, n5⟩ := HC.out n hlt
      have m0 := Qt.keep H.head.bel n0
      have m1 := Qt.keep H.head.bel n1
      have m2 := Qt.keep H.head.bel n2
      have m3 := Qt.keep H.head.bel n3
      have m4 := Qt.keep H.head.bel n4
      have m5 := Qt.keep H.head.bel n5
      have hal := fun o => (Below.refl wr.heap.size wr).alloc (Nat.le_refl _) o
      have lx := fun o => (H.below (hal o)).flg.cell (boolsL_get K hlt)
      have HAL := Lib.hid (fun o => H.below (hal o))
      have HTK := Lib.hid (fun c (hc : c < 4) (hk : K n = true) => to_kid HR6.out HKP.out hlt hk hc)
      have HKI := Lib.hid (fun c (hc : c < 4) => kid_in HR6.out hlt hc)
      have HNS := Lib.hid (newTo_succ l K n)
      clear n0 n1 n2 n3 n4 n5 hal H
      obtain ⟨wo, rfl⟩ : ∃ wo : World, wo = wr := ⟨_, rfl⟩
      generalize hx : l.getD n deadN = x at *
      obtain ⟨lv, k, pp⟩ := x
      dsimp only at m0 m1 m2 m3 m4 m5 HNS HTK HKI
      have HX := Lib.hid hx
      clear hx
      cases hKn : K n with
      | false =>
        rw [hKn] at lx
        have HN : Hid (LvAt w (wo.alloc (.cells #[.int .i64 lv, .int .i64 k.1, .int .i64 k.2.1, .int .i64 k.2.2.1, .int .i64 k.2.2.2, .int .i64 pp] 49)) (some ⟨b0, off, none⟩) l c room K o (o + 1) t (n + 1) v) := by
          have h1 := HAL.out (.cells #[.int .i64 lv, .int .i64 k.1, .int .i64 k.2.1, .int .i64 k.2.2.1, .int .i64 k.2.2.2, .int .i64 pp] 49)
          have hs := HNS.out
          rw [if_neg (by rw [hKn]; decide)] at hs
          exact ⟨h1.head, h1.flg, by rw [← toF_off K n hKn]; exact h1.tor, h1.out, by rw [hs]; exact h1.own, h1.lo⟩
        clear hKn HNS HTK HKI HAL
        go_wp2
        go_roundw
        case measure => simp [intOf]; omega
        case rel => exact ⟨n + 1, v, by omega, by go_num, HN.out⟩
      | true =>
        rw [hKn] at lx
        have HKN := Lib.hid hKn
        clear hKn
        go_wp2
        obtain ⟨A2, c2, rfl, hc2, _⟩ := HH.out.own.reads
        have hbox0 := RowV.made wo 49 (cellsN (lv, k, pp))
        have HB0 : Hid (RowV (wo.alloc (.cells #[.int .i64 lv, .int .i64 k.1, .int .i64 k.2.1, .int .i64 k.2.2.1, .int .i64 k.2.2.2, .int .i64 pp] 49)) wo.heap.size 49 (cellsN (lv, mixK K k 0, pp)) ∧ Below wo.heap.size wo (wo.alloc (.cells #[.int .i64 lv, .int .i64 k.1, .int .i64 k.2.1, .int .i64 k.2.2.1, .int .i64 k.2.2.2, .int .i64 pp] 49))) := ⟨hbox0, (Below.refl _ _).alloc (Nat.le_refl _) _⟩
        have hix := kd_index k
        clear lx m0 m1 m2 m3 m4 m5 hbox0 HAL
        go_loopw [54] (fun i wr => ∃ j : Nat, j ≤ 4 ∧ i = .int .i64 j ∧ Hid (RowV wr wo.heap.size 49 (cellsN (lv, mixK K k j, pp)) ∧ Below wo.heap.size wo wr)) (fun i _ => 4 - (intOf i).toNat)
        case atStart => exact ⟨0, by omega, rfl, HB0.out⟩
        case round =>
          obtain ⟨j, hj, rfl, HJ⟩ := hrel
          by_cases hlt4 : j < 4
          · have hltz4 : (j : Int) < 4 := by omega
            have hixj := hix j hlt4
            have hki := HKI.out j hlt4
            have htk := HTK.out j hlt4 HKN.out
            obtain ⟨p, hp⟩ : ∃ p : Nat, kd k j = (p : Int) := ⟨(kd k j).toNat, by omega⟩
            have hpl : (p : Int) < (l.length : Int) := by omega
            have hpn : p < l.length := by omega
            rw [hp] at hixj htk
            rw [Int.toNat_natCast] at htk
            have hL := HH.out.below HJ.out.2
            have ct := hL.tor.cell (intsL_get (by rw [numsL_len]; exact hpn))
            rw [numsL_get _ hpn, htk] at ct
            obtain ⟨ov, hov⟩ := mixK_get K lv pp k j hlt4
            have cj := HJ.out.1.cell hov
            have fj := HJ.out.1.free (1 + j)
            have hset := HJ.out.1.set (1 + j) (.int .i64 (cnt K p : Int))
            have hms := mixK_set K lv pp k j hlt4
            rw [hp, Int.toNat_natCast] at hms
            rw [hms] at hset
            have HN : Hid (RowV (wr.setCell ⟨wo.heap.size, 1 + j, none⟩ (.int .i64 (cnt K p : Int))) wo.heap.size 49 (cellsN (lv, mixK K k (j + 1), pp)) ∧ Below wo.heap.size wo (wr.setCell ⟨wo.heap.size, 1 + j, none⟩ (.int .i64 (cnt K p : Int)))) := ⟨hset, HJ.out.2.setCell (Nat.le_refl _) _⟩
            clear hix hki htk hp hL hov hset hms HJ
            generalize (cnt K p : Int) = cp at *
            go_wp2
            go_roundw
            case measure => simp [intOf]; omega
            case rel => exact ⟨j + 1, by omega, by go_num, HN.out⟩
          · obtain rfl : j = 4 := by omega
            have hltz4 : ¬ ((4 : Nat) : Int) < 4 := by decide
            have hL := HH.out.below HJ.out.2
            have hmt : (newTo l K n).length = cnt K n := newTo_len l K n
            have hcn : cnt K n ≤ n := cnt_le K n
            have hs := HNS.out
            rw [if_pos HKN.out] at hs
            have htold := hL.told n ((newTo l K n).length : Int) (toF K (n + 1)) (by rw [hmt]; exact toF_on K n HKN.out)
            have ct := hL.tor.cell (intsL_get (l := numsL l.length (toF K n)) (i := n) (by rw [numsL_len]; exact hlt))
            have ft := hL.tor.free n
            have c0 := hL.c0
            have htn : wo.heap.size ≠ t := by have := HH.out.tor.lt; omega
            have hbx7 := HJ.out.1.other htn n (.int .i64 ((newTo l K n).length : Int))
            obtain ⟨th, tf, tt, tout, town⟩ := htold
            have hlo := hL.lo
            have hsz7 : w.heap.size + 2 ≤ (wr.setCell ⟨t, n, none⟩ (.int .i64 ((newTo l K n).length : Int))).heap.size := by have := th.size; exact this
            obtain ⟨v8, w8, rp, op, gp, bp⟩ := pushN_any (w := wr.setCell ⟨t, n, none⟩ (.int .i64 ((newTo l K n).length : Int))) (B := w.heap.size + 2) (v := .slice A2 (newTo l K n).length c2) (out := newTo l K n) ((lv, mapK K k, pp) : Nd) hsz7 town (by omega)
            obtain ⟨A3, c3, rfl, hc3, _⟩ := OwnN.reads op
            have hx1 : (newTo l K n ++ [((lv, mapK K k, pp) : Nd)]).length = (newTo l K n).length + 1 := by simp
            have hsw : (wr.setCell ⟨t, n, none⟩ (.int .i64 ((newTo l K n).length : Int))).heap.size = wr.heap.size := by simp [World.setCell]
            rw [hx1, hsw] at rp
            dsimp only at rp
            have hpu := LvAt.pushed (K := K) (l := l) (n := n) th tf tt tout town hlo gp bp op hs
            rw [hx1] at hpu
            have HPU := Lib.hid hpu.1
            have o0 : w8.cell? ⟨o, 0, none⟩ = some (.slice A2 (newTo l K n).length c2) := by rw [Lib.cell_of_heap hpu.2]; rfl
            have of0 := Lib.frozen_of_heap hpu.2 0
            have c07 : (wr.setCell ⟨t, n, none⟩ (.int .i64 ((newTo l K n).length : Int))).cell? ⟨o, 0, none⟩ = some (.slice A2 (newTo l K n).length c2) := by rw [Lib.cell_of_heap tout]; rfl
            have d0 : (wr.setCell ⟨t, n, none⟩ (.int .i64 ((newTo l K n).length : Int))).cell? ⟨wo.heap.size, 0, none⟩ = some (.int .i64 lv) := hbx7.cell rfl
            have d1 : (wr.setCell ⟨t, n, none⟩ (.int .i64 ((newTo l K n).length : Int))).cell? ⟨wo.heap.size, 1, none⟩ = some (.int .i64 (mapK K k).1) := hbx7.cell rfl
            have d2 : (wr.setCell ⟨t, n, none⟩ (.int .i64 ((newTo l K n).length : Int))).cell? ⟨wo.heap.size, 2, none⟩ = some (.int .i64 (mapK K k).2.1) := hbx7.cell rfl
            have d3 : (wr.setCell ⟨t, n, none⟩ (.int .i64 ((newTo l K n).length : Int))).cell? ⟨wo.heap.size, 3, none⟩ = some (.int .i64 (mapK K k).2.2.1) := hbx7.cell rfl
            have d4 : (wr.setCell ⟨t, n, none⟩ (.int .i64 ((newTo l K n).length : Int))).cell? ⟨wo.heap.size, 4, none⟩ = some (.int .i64 (mapK K k).2.2.2) := hbx7.cell rfl
            have d5 : (wr.setCell ⟨t, n, none⟩ (.int .i64 ((newTo l K n).length : Int))).cell? ⟨wo.heap.size, 5, none⟩ = some (.int .i64 pp) := hbx7.cell rfl
            have HLT := Lib.hid hlt
            clear hL hmt hcn hs htn hbx7 th tf tt tout town hlo hsz7 op gp bp hpu hix hc3 HJ hx1 hsw
            go_wp2_with (at_builtin; refine Lib.wpList_append_run _ rfl (.tmp 73) (.tmp 75) 23 23 rfl _ _ rfl rfl _ _ rp ?_)
            go_roundw
            case measure => simp [intOf]; omega
            case rel => exact ⟨n + 1, _, by have := HLT.out; omega, by go_num, HPU.out⟩
    · obtain rfl : n = l.length := by omega
      have hltz : ¬ (l.length : Int) < (l.length : Int) := by omega
      obtain ⟨wo, rfl⟩ : ∃ wo : World, wo = wr := ⟨_, rfl⟩
      have HF0 : Hid (RowV (wo.alloc (.cells (intsL (numsL R.length fun _ => 0)).toArray 3)) wo.heap.size 3 (intsL (numsL R.length (foundF K R 0))) ∧ Below wo.heap.size wo (wo.alloc (.cells (intsL (numsL R.length fun _ => 0)).toArray 3))) := ⟨by rw [foundF_zero]; exact RowV.made wo _ _, (Below.refl _ _).alloc (Nat.le_refl _) _⟩
      clear H hlt
      go_wp2
      clear hmk2
      generalize (wo.alloc (.cells (intsL (numsL R.length fun _ => 0)).toArray 3)) = w7 at *
      go_loopw [84] (fun i wr => ∃ k : Nat, k ≤ R.length ∧ i = .int .i64 k ∧ Hid (RowV wr wo.heap.size 3 (intsL (numsL R.length (foundF K R k))) ∧ Below wo.heap.size wo wr)) (fun i _ => R.length - (intOf i).toNat)
      case atStart => exact ⟨0, Nat.zero_le _, rfl, HF0.out⟩
      case round =>
        obtain ⟨k, hk, rfl, HJ⟩ := hrel
        have hL := HH.out.below HJ.out.2
        by_cases hltk : k < R.length
        · have hltkz : (k : Int) < (R.length : Int) := by omega
          obtain ⟨b1, o1, rfl, hb1, hr1⟩ := HRT.out.at_ (by omega)
          have rk := Qt.keep hL.head.bel (hr1 k hltk)
          have hmem : R.getD k 0 ∈ R := by rw [List.getD_eq_getElem?_getD, List.getElem?_eq_getElem hltk]; exact List.getElem_mem _
          have hrb := HIN.out (R.getD k 0) hmem
          have htr := to_root HKP.out hmem hrb
          obtain ⟨p, hp⟩ : ∃ p : Nat, R.getD k 0 = (p : Int) := ⟨(R.getD k 0).toNat, by omega⟩
          rw [hp] at rk hrb htr
          rw [Int.toNat_natCast] at htr
          have hpl : (p : Int) < (l.length : Int) := hrb.2
          have hpn : p < l.length := by omega
          have ct := hL.tor.cell (intsL_get (by rw [numsL_len]; exact hpn))
          rw [numsL_get _ hpn, htr] at ct
          have ck := HJ.out.1.cell (intsL_get (i := k) (by rw [numsL_len]; exact hltk))
          have fk := HJ.out.1.free k
          have hset := HJ.out.1.set k (.int .i64 (cnt K p : Int))
          have hfs := foundF_succ K R k
          rw [hp, Int.toNat_natCast] at hfs
          rw [intsL_set, numsL_set, hfs] at hset
          have HN : Hid (RowV (wr.setCell ⟨wo.heap.size, k, none⟩ (.int .i64 (cnt K p : Int))) wo.heap.size 3 (intsL (numsL R.length (foundF K R (k + 1)))) ∧ Below wo.heap.size wo (wr.setCell ⟨wo.heap.size, k, none⟩ (.int .i64 (cnt K p : Int)))) := ⟨hset, HJ.out.2.setCell (Nat.le_refl _) _⟩
          clear hr1 hmem hrb htr hp hset hfs hL HJ
          generalize (cnt K p : Int) = cp at *
          go_wp2
          go_roundw
          case measure => simp [intOf]; omega
          case rel => exact ⟨k + 1, by omega, by go_num, HN.out⟩
        · obtain rfl : k = R.length := by omega
          have hltkz : ¬ (R.length : Int) < (R.length : Int) := by omega
          obtain ⟨A2, c2, rfl, hc2, hNw⟩ := hL.own.reads
          have o0 := hL.c0
          have o1 := hL.c1
          have r0 := hL.head.r0
          have r1 := hL.head.r1
          have f0 := hL.head.free 0
          have f1 := hL.head.free 1
          have ht := Lib.hid (hL.head.told (.slice A2 (newTo l K l.length).length c2) (.int .i64 room))
          have hne := own_ne hL.own hL.head.res (by decide)
          have hown := World.ownsRow.kept (World.ownsRow.kept hL.own (but_set (b := w.heap.size + 1) 0 (.slice A2 (newTo l K l.length).length c2)) (.inr hne)) (but_set (b := w.heap.size + 1) 1 (.int .i64 room)) (.inr hne)
          have hfo : wo.heap.size ≠ w.heap.size + 1 := by have := HH.out.head.size; omega
          have hrow := (HJ.out.1.other hfo 0 (.slice A2 (newTo l K l.length).length c2)).other hfo 1 (.int .i64 room)
          rw [foundF_all] at hrow
          have hrd := reads_row hrow
          rw [List.length_map] at hrd
          have HRD := Lib.hid hrd
          have HOW := Lib.hid (OwnN.reads hown)
          have hK2 : newTo l K l.length = liveL l R ∧ (R.map fun r => (cnt K r.toNat : Int)) = liveAt l R := by rw [HKE.out]; exact ⟨rfl, rfl⟩
          have HK2 := Lib.hid hK2
          clear hL hNw hne hown hrow hrd hfo HJ hK2
          go_wp2
          refine bodyPost_ret (results_cell3 rfl _ _ _ _ _ _ _ rfl ht.out.1 Try.underlying25 rfl (by kernel_rfl)) rfl ?_
          exact ⟨_, _, rfl, HK2.out.1 ▸ HOW.out, HK2.out.2 ▸ HRD.out, ht.out.2⟩
theorem nodeLive_any (A : Option Addr) (l : List Nd) (c : Nat) (room : Int) (B : Option Addr) (R : List Int) (d : Nat) (w : World) (hR : RdN w w.heap.size A l) (hl : l.length ≤ 1000000) (hc : l.length ≤ c) (hrt : Rd w w.heap.size B R) (hRl : R.length ≤ 1000000) :
    Calls Try.prog 24 #[storeV A l.length c room, .slice B R.length d] w (LiveR (live6 l room R) room w) := by
  unfold live6
  cases h : (right6 l room && rootsB l R) with
  | false => exact nodeLive_bad A l c room B R d w hR hl hc hrt hRl h
  | true =>
    rw [Bool.and_eq_true] at h
    exact nodeLive_good A l c room B R d w hR hl hc hrt hRl h.1 h.2
end Go.Proofs.Ytcmdhochofoohaa
namespace Go.Proofs.Ytcmdhochofoohaa
open Go.RowKit Go.Sort

def fl (l : List Int) : List Value := l.map (Value.int .i64)
theorem length_fl (l : List Int) : (fl l).length = l.length * 1 := by simp [fl]
theorem fl_append (l m : List Int) : fl (l ++ m) = fl l ++ fl m := List.map_append
theorem fl_at {w : World} {m : List Int} {b off : Nat} (h : ∀ j, j < m.length → w.cell? ⟨b, off + j, none⟩ = some (.int .i64 (m.getD j 0))) : ∀ j u, (fl m)[j]? = some u → w.cell? ((⟨b, off, none⟩ : Addr).add j) = some u := by
  intro j u hj
  have hlt : j < m.length := by
    have := (List.getElem?_eq_some_iff.1 hj).1
    simpa [fl] using this
  have e : u = .int .i64 (m.getD j 0) := by
    simp only [fl, List.getElem?_map, List.getElem?_eq_getElem hlt, Option.map_some, Option.some.injEq] at hj
    rw [← hj, List.getD_eq_getElem?_getD, List.getElem?_eq_getElem hlt, Option.getD_some]
  rw [e]
  rw [Addr.add_lit]
  exact h j hlt
theorem fl_cell1 (m : List Int) : ∀ u ∈ fl m, u.oneCell' = true := by
  intro u hu
  obtain ⟨x, _, rfl⟩ := List.mem_map.1 hu
  rfl

theorem info_int : (Try.prog.info? 3).map (fun i => (i.zero, i.size, i.bytes)) = some (some (.int .i64 0), 1, 8) := by kernel_rfl

theorem append_none {w : World} {B : Nat} {v : Value} {out : List Int} (c : Nat) (ho : Own w B v out) :
    (Builtin.append_ #[28, 28] 28 #[v, .slice none 0 c]).run Try.prog w = .ok v w := by
  obtain ⟨i0, hi, hz0, hz1, hz2⟩ := info_parts info_int
  rcases ho.2 with ⟨rfl, _⟩ | ⟨g, cap, cur, rfl, _, _, hnc, _⟩
  · simp [Builtin.append_, run_underlying Try.underlying28, sizeOf, typeInfo, hi, Builtin.lenOf, Builtin.firstCells]
  · simp [Builtin.append_, run_underlying Try.underlying28, sizeOf, typeInfo, hi, Builtin.lenOf, Builtin.firstCells, storeCells, hnc]

theorem app_any {w : World} {B : Nat} {v : Value} {out m : List Int} {A : Option Addr} (c : Nat) (hB : B ≤ w.heap.size) (ho : Own w B v out) (hm : Now w A m) (hl : out.length + m.length ≤ 1000000) :
    ∃ v' w', (Builtin.append_ #[28, 28] 28 #[v, .slice A m.length c]).run Try.prog w = .ok v' w' ∧ Own w' B v' (out ++ m) ∧ w.grownBy w' v.ownBlock := by
  obtain ⟨i0, hi, hz0, hz1, hz2⟩ := info_parts info_int
  by_cases h0 : m.length = 0
  · have : m = [] := List.eq_nil_of_length_eq_zero h0
    subst this
    cases A with
    | none => exact ⟨v, w, append_none c ho, by rw [List.append_nil]; exact ho, ⟨rfl, rfl, rfl, Nat.le_refl _, fun _ _ _ => rfl⟩⟩
    | some a =>
      obtain ⟨v', w', hr, h2, h3, _⟩ := run_append_own (P := Try.prog) (w := w) B 28 28 3 i0 (.int .i64 0) 1 8 Try.underlying28 hi hz0 hz1 hz2 rfl (by decide) v out.length (fl out) ho a 0 c [] rfl (fun j u h => by simp at h) (fun u h => by cases h) (by unfold maxLen; omega) (by omega) hB
      exact ⟨v', w', hr, by rw [List.append_nil] at h2 ⊢; exact h2, h3⟩
  · obtain ⟨b, off, rfl, _, hcell⟩ := hm.at_ (by omega)
    obtain ⟨v', w', hr, h2, h3, _⟩ := run_append_own (P := Try.prog) (w := w) B 28 28 3 i0 (.int .i64 0) 1 8 Try.underlying28 hi hz0 hz1 hz2 rfl (by decide) v out.length (fl out) ho ⟨b, off, none⟩ m.length c (fl m) (length_fl m) (fl_at hcell) (fl_cell1 m) (by unfold maxLen; omega) (by omega) hB
    refine ⟨v', w', hr, ?_, h3⟩
    show World.ownsRow _ _ _ _ _ _ (fl (out ++ m))
    rw [fl_append, List.length_append]
    exact h2

/-- one number more, that lies in a new block -/
theorem push_any {w : World} {B : Nat} {v : Value} {out : List Int} (x : Int) (hB : B ≤ w.heap.size) (ho : Own w B v out) (hl : out.length ≤ 999999) :
    ∃ v' w', (Builtin.append_ #[28, 28] 28 #[v, .slice (some ⟨w.heap.size, 0, none⟩) 1 1]).run Try.prog (w.alloc (.cells #[.int .i64 x] 3)) = .ok v' w' ∧ Own w' B v' (out ++ [x]) ∧ Below B w w' := by
  have hm : Now (w.alloc (.cells #[.int .i64 x] 3)) (some ⟨w.heap.size, 0, none⟩) [x] := fun j hj => by
    have hj1 : j = 0 := by simp at hj; omega
    subst hj1
    exact ⟨w.heap.size, 0, rfl, by simp, by simp⟩
  have ho' : Own (w.alloc (.cells #[.int .i64 x] 3)) B v out := World.ownsRow.alloc ho _
  obtain ⟨v', w', hr, h1, h2⟩ := app_any (m := [x]) 1 (by simp; omega) ho' hm (by simp; omega)
  exact ⟨v', w', hr, h1, Below.grown ((Below.refl _ _).alloc hB _) h2 (by simp; omega) (fun k e => (World.ownsRow.lt ho' k e).1)⟩

def OutR (l : List Int) (w : World) (e : Ending) (w' : World) : Prop := ∃ v, e = .returned v ∧ Reads w' v l ∧ Below w.heap.size w w'

/-! ### bit k of a number, as the two texts ask for it -/
theorem and_one (m : Nat) : bits .and .i64 (m : Int) 1 = ((m % 2 : Nat) : Int) := by
  have h1 : (BitVec.ofInt IntKind.i64.bits (m : Int) &&& BitVec.ofInt IntKind.i64.bits 1).toNat = m % 2 := by
    rw [BitVec.toNat_and]
    have e1 : (BitVec.ofInt IntKind.i64.bits (m : Int)).toNat = m % 2 ^ 64 := by
      rw [BitVec.toNat_ofInt]
      show ((m : Int) % ((2 ^ 64 : Nat) : Int)).toNat = m % 2 ^ 64
      omega
    have e2 : (BitVec.ofInt IntKind.i64.bits 1).toNat = 1 := by decide
    rw [e1, e2, Nat.and_one_is_mod]
    omega
  show IntKind.i64.wrap _ = _
  rw [h1, IntKind.wrap_i64]
  omega
theorem bit_of (u k : Nat) : ((u : Int) / 2 ^ k) = ((u / 2 ^ k : Nat) : Int) := by simp
theorem bit_yes {u k : Nat} (h : u.testBit k = true) : (bits BinOp.and IntKind.i64 ((u : Int) / 2 ^ k) 1 == 1) = true := by
  rw [Nat.testBit_eq_decide_div_mod_eq] at h
  rw [bit_of, and_one, of_decide_eq_true h]
  rfl
theorem bit_no {u k : Nat} (h : u.testBit k = false) : (bits BinOp.and IntKind.i64 ((u : Int) / 2 ^ k) 1 == 1) = false := by
  rw [Nat.testBit_eq_decide_div_mod_eq] at h
  have := of_decide_eq_false h
  rw [bit_of, and_one, beq_eq_false_iff_ne]
  omega

end Go.Proofs.Ytcmdhochofoohaa
