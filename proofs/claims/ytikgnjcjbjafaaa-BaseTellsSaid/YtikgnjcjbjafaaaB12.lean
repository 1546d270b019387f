/-
  Texts that the claims of this seat share, part 12.
-/
import Derived.Test.YtikgnjcjbjafaaaB11
import Derived.Test.YtikgnjcjbjafaaaB08
import Derived.Test.YtikgnjcjbjafaaaSh
import Derived.Shelf.SlSortCmp.WholeK
import Derived.Laws.CopyRow
set_option linter.unusedVariables false
set_option linter.unusedSimpArgs false
namespace Go.Proofs.Ytikgnjcjbjafaaa
set_option maxRecDepth 100000
set_option linter.unusedVariables false
set_option linter.unusedSimpArgs false
open Go.RowKit Go.Sort

/-- what an append of some cells leaves -/
structure GrA (w w' : World) (v v' : Value) : Prop where
  grown : w.grownBy w' v.ownBlock
  own : v'.ownBlock = v.ownBlock ∨ ∃ q, v'.ownBlock = some q ∧ w.heap.size ≤ q
theorem GrA.refl (w : World) (v : Value) : GrA w w v v := ⟨⟨rfl, rfl, rfl, Nat.le_refl _, fun _ _ _ => rfl⟩, .inl rfl⟩
theorem GrA.trans {w w1 w2 : World} {v v1 v2 : Value} (h : GrA w w1 v v1) (h2 : GrA w1 w2 v1 v2) : GrA w w2 v v2 := by
  have hsz := h.grown.size
  refine ⟨⟨h2.grown.os.trans h.grown.os, h2.grown.tape.trans h.grown.tape, h2.grown.output.trans h.grown.output, Nat.le_trans hsz h2.grown.size, fun i hi hne => ?_⟩, ?_⟩
  · rw [h2.grown.block i (by omega) ?_, h.grown.block i hi hne]
    rcases h.own with e | ⟨q, e, hq⟩
    · rw [e]; exact hne
    · rw [e]; intro h3; injection h3 with h3; omega
  · rcases h2.own with e | ⟨q, e, hq⟩
    · rw [e]; exact h.own
    · exact .inr ⟨q, e, by omega⟩
theorem GrA.below {w w' : World} {v : Value} (hb : Below w.heap.size w w') : GrA w w' v v := ⟨⟨hb.os, hb.tape, hb.output, hb.size, fun i hi _ => hb.block i hi⟩, .inl rfl⟩
theorem GrA.bel {w w' : World} {v v' : Value} {B : Nat} {l : List (Int × Int)} (h : GrA w w' v v') (ho : OwnC w B v l) (hB : B ≤ w.heap.size) : Below B w w' :=
  (Below.refl B w).grown h.grown hB (fun r e => (World.ownsRow.lt ho r e).1)
theorem GrA.push {w w' : World} {v v' : Value} {o : Obj} (hg : (w.alloc o).grownBy w' v.ownBlock) (hw : v'.ownBlock = v.ownBlock ∨ v'.ownBlock = some (w.heap.size + 1)) : GrA w w' v v' := by
  have hs : (w.alloc o).heap.size = w.heap.size + 1 := by simp
  have hsz := hg.size
  refine ⟨⟨hg.os, hg.tape, hg.output, by omega, fun i hi hne => ?_⟩, ?_⟩
  · rw [hg.block i (by omega) hne, Lib.alloc_old _ _ _ hi]
  · rcases hw with e | e
    · exact .inl e
    · exact .inr ⟨_, e, by omega⟩
/-- a node's box and its corner's, while cells are appended -/
structure GaAt (n : Nat) (w2 wr : World) (v v' : Value) (p : Int × Int) (lev : Int) (kk : Kd) (pp : Int) : Prop where
  cl : ClB wr n p
  nd : NR wr (n + 1) lev kk pp
  gr : GrA w2 wr v v'
  sz : w2.heap.size = n + 2
  low : ∀ q, v.ownBlock = some q → q < n
section
variable {n : Nat} {w2 wr w' : World} {v v1 v2 : Value} {p : Int × Int} {lev : Int} {kk : Kd} {pp : Int}
theorem GaAt.next (h : GaAt n w2 wr v v1 p lev kk pp) (hg : GrA wr w' v1 v2) : GaAt n w2 w' v v2 p lev kk pp := by
  have hne : ∀ i, i < n + 2 → n ≤ i → some i ≠ v1.ownBlock := fun i hi hn e => by
    rcases h.gr.own with e1 | ⟨q, e1, hq⟩
    · rw [e1] at e
      have := h.low i e.symm
      omega
    · rw [e1] at e
      injection e with e
      have := h.sz
      omega
  exact ⟨⟨(hg.grown.block _ (lt_heap6 h.cl.row) (hne n (by omega) (Nat.le_refl _))).trans h.cl.row⟩, (hg.grown.block _ (lt_heap6 h.nd) (hne (n + 1) (by omega) (by omega))).trans h.nd, h.gr.trans hg, h.sz, h.low⟩
end
end Go.Proofs.Ytikgnjcjbjafaaa
namespace Go.Proofs.Ytikgnjcjbjafaaa.Cel
open Go.RowKit Go.Sort

/-- Has: whether a cell is in a list -/
def hasB (l : List (Int × Int)) (q : Int × Int) : Bool := l.any fun p => decide (p = q)
end Go.Proofs.Ytikgnjcjbjafaaa.Cel
namespace Go.Proofs.Ytikgnjcjbjafaaa.Cel
open Go.RowKit Go.Sort Go.Shelf

def Grew (w w' : World) : Prop := ∃ q os, w' = grow (w.drewN q) os
theorem Grew.refl (w : World) : Grew w w := ⟨0, #[], by rw [grow_empty]; rfl⟩
theorem Grew.alloc {w w' : World} (h : Grew w w') (o : Obj) : Grew w (w'.alloc o) := by
  obtain ⟨q, os, rfl⟩ := h
  exact ⟨q, os ++ #[o], by rw [alloc_eq_grow, grow_grow]⟩
theorem Grew.trans {w w' w'' : World} (h : Grew w w') (k : Grew w' w'') : Grew w w'' := by
  obtain ⟨q, os, rfl⟩ := h
  obtain ⟨q', os', rfl⟩ := k
  exact ⟨q + q', os ++ os', by show grow (grow ((w.drewN q).drewN q') os) os' = _; rw [grow_grow, World.drewN_drewN]⟩

end Go.Proofs.Ytikgnjcjbjafaaa.Cel
namespace Go.Proofs.Ytikgnjcjbjafaaa.Cel
open Go.RowKit Go.Sort

/-! ### in plain words -/
def ddS (acc : List (Int × Int)) (x : Int × Int) : List (Int × Int) := if acc.getLast? = some x then acc else acc ++ [x]
def ddL (l : List (Int × Int)) : List (Int × Int) := l.foldl ddS []
theorem ddL_snoc (l : List (Int × Int)) (x : Int × Int) : ddL (l ++ [x]) = ddS (ddL l) x := by simp [ddL, List.foldl_append]

theorem snoc_ind {P : List (Int × Int) → Prop} (h0 : P []) (hs : ∀ l x, P l → P (l ++ [x])) (l : List (Int × Int)) : P l := by
  have h : ∀ m : List (Int × Int), P m.reverse := by
    intro m
    induction m with
    | nil => exact h0
    | cons x m ih => rw [List.reverse_cons]; exact hs _ _ ih
  have := h l.reverse
  rwa [List.reverse_reverse] at this

theorem last_ddL (l : List (Int × Int)) : (ddL l).getLast? = l.getLast? := by
  refine snoc_ind (P := fun l => (ddL l).getLast? = l.getLast?) rfl (fun l x ih => ?_) l
  show (ddL (l ++ [x])).getLast? = (l ++ [x]).getLast?
  rw [ddL_snoc, ddS]
  split
  · rename_i h; rw [h]; simp
  · simp
theorem ddL_same {l : List (Int × Int)} {k : Nat} (h0 : 0 < k) (hk : k < l.length) (h : l.getD k (0, 0) = l.getD (k - 1) (0, 0)) : ddL (l.take (k + 1)) = ddL (l.take k) := by
  rw [take_snoc hk, ddL_snoc, ddS, last_ddL]
  have : (l.take k).getLast? = some (l.getD (k - 1) (0, 0)) := by
    rw [List.getLast?_eq_getElem?, List.length_take, Nat.min_eq_left (by omega), List.getElem?_take, if_pos (by omega), List.getD_eq_getElem?_getD, List.getElem?_eq_getElem (by omega)]
    rfl
  rw [this, h, if_pos rfl]
theorem ddL_other {l : List (Int × Int)} {k : Nat} (hk : k < l.length) (h : k = 0 ∨ l.getD k (0, 0) ≠ l.getD (k - 1) (0, 0)) : ddL (l.take (k + 1)) = ddL (l.take k) ++ [l.getD k (0, 0)] := by
  rw [take_snoc hk, ddL_snoc, ddS, last_ddL, if_neg]
  rcases h with h | h
  · subst h; simp
  · by_cases h0 : k = 0
    · subst h0; simp
    · have : (l.take k).getLast? = some (l.getD (k - 1) (0, 0)) := by
        rw [List.getLast?_eq_getElem?, List.length_take, Nat.min_eq_left (by omega), List.getElem?_take, if_pos (by omega), List.getD_eq_getElem?_getD, List.getElem?_eq_getElem (by omega)]
        rfl
      rw [this]
      intro e
      exact h (Option.some.inj e).symm

/-! ### clear -/
theorem fl_take (l : List (Int × Int)) (k : Nat) : fl (l.take k) = (fl l).take (k * 2) := by
  induction l generalizing k with
  | nil => simp [fl]
  | cons x l ih =>
    cases k with
    | zero => rfl
    | succ k =>
      have e1 : (k + 1) * 2 = k * 2 + 1 + 1 := by omega
      have e2 : ∀ (q : Int × Int) (m : List (Int × Int)), fl (q :: m) = .int .i64 q.1 :: .int .i64 q.2 :: fl m := fun _ _ => rfl
      rw [List.take_succ_cons, e2, e2, ih, e1]
      rfl

theorem Row.cut {w : World} {B T g n cap k : Nat} {l : List (Int × Int)} (h : Row w B T g n cap l) (hk : k ≤ n) : Row w B T g k cap (l.take k) := by
  obtain ⟨hn, hlen, h' | ⟨g', cap', cur, hv, hB, hg, hnc, hcm, hcs, htake⟩⟩ := h
  · simp at h'
  · simp only [Value.slice.injEq, Option.some.injEq, Addr.mk.injEq, and_true, true_and] at hv
    obtain ⟨rfl, rfl⟩ := hv
    have e := fl_take l k
    refine ⟨by rw [List.length_take]; omega, by rw [length_fl, List.length_take]; omega, .inr ⟨g, cap, cur, rfl, hB, hg, by omega, hcm, hcs, ?_⟩⟩
    rw [e, ← htake, List.take_take, Nat.min_eq_left (by omega)]

/-- What the second loop has done: the first kk places hold what is kept of the first p. -/
structure Packs (l : List (Int × Int)) (p kk : Nat) (cur : List (Int × Int)) : Prop where
  len : cur.length = l.length
  kept : cur.take kk = ddL (l.take p)
  size : (ddL (l.take p)).length = kk
  lt : kk < p
  high : ∀ j, p ≤ j + 1 → cur.getD j (0, 0) = l.getD j (0, 0)

theorem Packs.skip {l cur : List (Int × Int)} {p kk : Nat} (h : Packs l p kk cur) (h0 : 0 < p) (hp : p < l.length) (he : l.getD p (0, 0) = l.getD (p - 1) (0, 0)) : Packs l (p + 1) kk cur := by
  have e := ddL_same h0 hp he
  exact ⟨h.len, by rw [e]; exact h.kept, by rw [e]; exact h.size, by have := h.lt; omega, fun j hj => h.high j (by omega)⟩
theorem Packs.keep {l cur : List (Int × Int)} {p kk : Nat} (h : Packs l p kk cur) (hp : p < l.length) (he : l.getD p (0, 0) ≠ l.getD (p - 1) (0, 0)) : Packs l (p + 1) (kk + 1) (cur.set kk (l.getD p (0, 0))) := by
  have e := ddL_other hp (.inr he)
  have hlt := h.lt
  have hkl : kk < cur.length := by rw [h.len]; omega
  refine ⟨by rw [List.length_set]; exact h.len, ?_, by rw [e]; simp [h.size], by omega, fun j hj => ?_⟩
  · rw [e, ← h.kept]
    apply List.ext_getElem?
    intro i
    rw [List.getElem?_take]
    by_cases hi : i < kk
    · rw [if_pos (by omega), List.getElem?_set_ne (by omega), List.getElem?_append_left (by rw [List.length_take]; omega), List.getElem?_take, if_pos hi]
    · by_cases hi2 : i = kk
      · subst hi2
        rw [if_pos (by omega), List.getElem?_set_self hkl, List.getElem?_append_right (by rw [List.length_take]; omega)]
        have : i - (List.take i cur).length = 0 := by rw [List.length_take]; omega
        rw [this]
        rfl
      · rw [if_neg (by omega), List.getElem?_append_right (by rw [List.length_take]; omega), List.getElem?_eq_none]
        rw [List.length_take]; simp; omega
  · rw [← h.high j (by omega), List.getD_eq_getElem?_getD, List.getElem?_set_ne (by omega), List.getD_eq_getElem?_getD]

end Go.Proofs.Ytikgnjcjbjafaaa.Cel
namespace Go.Proofs.Ytikgnjcjbjafaaa
set_option maxRecDepth 100000
set_option linter.unusedVariables false
set_option linter.unusedSimpArgs false
open Go.RowKit Go.Sort

/-- the cells of a node, about the middle -/
def about7 (l : List Nd) (e n : Nat) : List (Int × Int) := flat l (e + 1) n (-(2 ^ e), -(2 ^ e))
/-- what Cells answers -/
def cells7 (l : List Nd) (room n : Int) : List (Int × Int) × Int :=
  if (right6 l room && hasB l n) = true then
    (if 2000 < (ndAt l n).2.2 then ([], 3) else if ((about7 l ((ndAt l n).1.toNat - 1) n.toNat).any fun p => !Cel.inB p) = true then ([], 2) else (Cel.setL (about7 l ((ndAt l n).1.toNat - 1) n.toNat), 0))
  else ([], 1)
theorem StoreAt.below7 {w wr w' : World} {A : Option Addr} {n c : Nat} {room : Int} (h : StoreAt w wr A n c room) (hb : Below wr.heap.size wr w') : StoreAt w w' A n c room := ⟨(hb.block _ (lt_heap6 h.store)).trans h.store, Qt.more h.bel h.bel.size hb⟩
end Go.Proofs.Ytikgnjcjbjafaaa
namespace Go.Proofs.Ytikgnjcjbjafaaa
set_option maxRecDepth 100000
set_option linter.unusedVariables false
set_option linter.unusedSimpArgs false

theorem kid_alive (l : List Nd) (k n : Nat) {i : Nat} (hi : i < 4) (c : Int × Int) : ∃ c', q7 k c' = i ∧ Agree k c' c ∧ alive l k (kidN l n i) c = alive l (k + 1) n c' := by
  obtain ⟨c', h1, h2⟩ := with_bit k i c hi
  refine ⟨c', h1, h2, ?_⟩
  show _ = alive l k (kidN l n (q7 k c')) c'
  rw [h1, alive_agree k _ h2]
/-- a node without cells is the empty one of its level -/
theorem emp_of {l : List Nd} {room : Int} (hr : Right6 l room) : ∀ (k n : Nat), Is l k n → (∀ c, alive l k n c = false) → Emp l k n
  | 0, n, h, ha => by
    have h0 : decide (n = 1) = false := ha (0, 0)
    have h1 := h.zero hr
    have h2 : ¬ n = 1 := by simpa using h0
    show n = 0
    omega
  | k + 1, n, h, ha => by
    have hk : ∀ i, i < 4 → ∀ c, alive l k (kidN l n i) c = false := fun i hi c => by
      obtain ⟨c', _, _, e⟩ := kid_alive l k n hi c
      rw [e]
      exact ha c'
    have he : ∀ i, i < 4 → kidN l n i = kidN l n 0 := fun i hi => alive_inj hr k _ _ (kid_is hr h hi) (kid_is hr h (by decide)) fun c => by rw [hk i hi c, hk 0 (by decide) c]
    have h0 := emp_of hr k _ (kid_is hr h (i := 0) (by decide)) (hk 0 (by decide))
    refine ⟨kidN l n 0, h0, ?_⟩
    have f1 := (fits_iff.1 (hr.fits n (h.two hr) h.lt)).first
    have e : (l.getD n deadN).2.1 = (((kidN l n 0 : Nat) : Int), ((kidN l n 0 : Nat) : Int), ((kidN l n 0 : Nat) : Int), ((kidN l n 0 : Nat) : Int)) := kd_ext fun i hi => by rw [kid_cast hr h hi, he i hi, kd_four _ i hi]
    rw [e] at f1
    exact f1
theorem kids_fit7 {l : List Nd} {room : Int} (hr : Right6 l room) {k n : Nat} (h : Is l (k + 1) n) (hk : k + 1 ≤ 42) : Fit4 l (l.getD n deadN).2.1 := by
  refine ⟨fun i hi => ?_, ?_⟩
  · have hi' := kid_is hr h hi
    have h0 := kid_is hr h (i := 0) (by decide)
    have c0 : (l.getD n deadN).2.1.1 = _ := kid_cast hr h (i := 0) (by decide)
    rw [kid_cast hr h hi, c0, ndAt_nat, ndAt_nat, hi'.lev, h0.lev]
    exact ⟨by omega, by have := hi'.lt; omega, rfl⟩
  · have h0 := kid_is hr h (i := 0) (by decide)
    have c0 : (l.getD n deadN).2.1.1 = _ := kid_cast hr h (i := 0) (by decide)
    rw [c0, ndAt_nat, h0.lev]
    omega
/-- a node that is there is found -/
theorem build_had {l : List Nd} {room : Int} (hr : Right6 l room) : ∀ (k n : Nat) (S : List (Int × Int)), k ≤ 42 → Is l k n → (∀ c, alive l k n c = S.any fun s => agreeB k s c) → buildC room k l S = (l, (n : Int), 0)
  | 0, n, S, _, h, ha => by
    have h0 : decide (n = 1) = S.any fun s => agreeB 0 s (0, 0) := ha (0, 0)
    have h1 := h.zero hr
    unfold buildC
    by_cases hS : S = []
    · subst hS
      have : ¬ n = 1 := by simpa using h0
      obtain rfl : n = 0 := by omega
      rfl
    · rw [if_neg hS]
      obtain ⟨s, t, rfl⟩ := List.exists_cons_of_ne_nil hS
      have e : agreeB 0 s (0, 0) = true := rfl
      rw [List.any_cons, e, Bool.true_or] at h0
      obtain rfl : n = 1 := by simpa using h0
      rfl
  | k + 1, n, S, hk, h, ha => by
    by_cases hS : S = []
    · subst hS
      rw [buildC_nil]
      exact empty_had hr _ _ hk (emp_of hr _ _ h fun c => by rw [ha c]; rfl)
    · unfold buildC
      rw [if_neg hS]
      have hq : ∀ i, i < 4 → buildC room k l (S.filter fun c => decide (q7 k c = i)) = (l, ((kidN l n i : Nat) : Int), 0) := fun i hi => by
        refine build_had hr k _ _ (by omega) (kid_is hr h hi) fun c => ?_
        obtain ⟨c', h1, h2, e⟩ := kid_alive l k n hi c
        rw [e, ha c', Bool.eq_iff_iff, List.any_eq_true, List.any_eq_true]
        constructor
        · rintro ⟨s, hs, hs2⟩
          obtain ⟨g1, g2⟩ := agree_succ.1 (agree_iff.1 hs2)
          exact ⟨s, List.mem_filter.2 ⟨hs, by simpa using g1.trans h1⟩, agree_iff.2 (g2.trans h2)⟩
        · rintro ⟨s, hs, hs2⟩
          obtain ⟨g1, g2⟩ := List.mem_filter.1 hs
          have g3 : q7 k s = i := by simpa using g2
          exact ⟨s, g1, agree_iff.2 (agree_succ.2 ⟨g3.trans h1.symm, (agree_iff.1 hs2).trans h2.symm⟩)⟩
      have h4 : fourTo (fun i l => buildC room k l (S.filter fun c => decide (q7 k c = i))) l 4 = (l, (l.getD n deadN).2.1, 0) := by
        have e : (l.getD n deadN).2.1 = (((kidN l n 0 : Nat) : Int), ((kidN l n 1 : Nat) : Int), ((kidN l n 2 : Nat) : Int), ((kidN l n 3 : Nat) : Int)) := kd_ext fun i hi => by
          rw [kid_cast hr h hi]
          rcases (by omega : i = 0 ∨ i = 1 ∨ i = 2 ∨ i = 3) with rfl | rfl | rfl | rfl <;> rfl
        have q0 := hq 0 (by decide)
        have q1 := hq 1 (by decide)
        have q2 := hq 2 (by decide)
        have q3 := hq 3 (by decide)
        rw [e]
        simp only [fourTo, q0, q1, q2, q3, if_pos, kset]
      unfold four
      rw [h4, if_pos rfl]
      exact put_again (kids_fit7 hr h hk) (fits_iff.1 (hr.fits n (h.two hr) h.lt)).first

/-- A node that stands for a set. -/
structure Sq (l : List Nd) (room : Int) (e n : Nat) (S : List (Int × Int)) : Prop where
  right : Right6 l room
  is : Is l (e + 1) n
  low : e ≤ 41
  set : Cel.rightB S = true
  ins : ∀ s ∈ S, insideB e s = true
  alive : ∀ c, alive l (e + 1) n c = (S.map (inwardC e)).any fun s => agreeB (e + 1) s c
section
variable {l m : List Nd} {room : Int} {e n p : Nat} {S T : List (Int × Int)}
theorem Sq.grows (h : Sq l room e n S) (g : Grows l m) (hr : Right6 m room) : Sq m room e n S := ⟨hr, h.is.grows g, h.low, h.set, h.ins, fun c => by rw [alive_grows h.right g c _ _ h.is, h.alive c]⟩
theorem inside_sq {e : Nat} {c : Int × Int} (h : insideB e c = true) : InSq (e + 1) (inwardC e c) := by
  unfold insideB at h
  have h' := of_decide_eq_true h
  have hp : (2 : Int) ^ (e + 1) = 2 ^ e * 2 := Int.pow_succ _ _
  unfold InSq inwardC
  rw [hp]
  generalize (2 : Int) ^ e = P at *
  refine ⟨?_, ?_, ?_, ?_⟩ <;> simp only <;> omega
theorem Sq.mem (h : Sq l room e n S) {c : Int × Int} (hc : insideB e c = true) : Go.Proofs.Ytikgnjcjbjafaaa.alive l (e + 1) n (inwardC e c) = true ↔ c ∈ S := by
  rw [h.alive, List.any_eq_true]
  constructor
  · rintro ⟨s, hs, ha⟩
    obtain ⟨t, ht, rfl⟩ := List.mem_map.1 hs
    have := agree_ext (inside_sq (h.ins t ht)) (inside_sq hc) (agree_iff.1 ha)
    unfold inwardC at this
    injection this with e1 e2
    have : t = c := Prod.ext (by omega) (by omega)
    exact this ▸ ht
  · intro hs
    exact ⟨inwardC e c, List.mem_map_of_mem hs, agree_iff.2 (Agree.refl _ _)⟩
theorem Sq.same (h : Sq l room e n S) (h2 : Sq l room e n T) : S = T :=
  Cel.rises_ext ((Cel.rightB_iff _).1 h.set).2.2 ((Cel.rightB_iff _).1 h2.set).2.2 fun y => ⟨fun hy => (h2.mem (h.ins y hy)).1 ((h.mem (h.ins y hy)).2 hy), fun hy => (h.mem (h2.ins y hy)).1 ((h2.mem (h2.ins y hy)).2 hy)⟩
theorem Sq.one (h : Sq l room e n S) (h2 : Sq l room e p S) : n = p := alive_inj h.right _ _ _ h.is h2.is fun c => by rw [h.alive, h2.alive]
theorem makeZ_yes (hlow : e ≤ 41) (hS : Cel.rightB S = true) (hin : ∀ s ∈ S, insideB e s = true) : makeZ room l S ((e : Int) + 1) = buildC room (e + 1) l (S.map (inwardC e)) := by
  unfold makeZ
  have e1 : ((e : Int) + 1).toNat = e + 1 := by omega
  rw [e1, Nat.add_sub_cancel, if_pos, if_pos]
  · exact List.all_eq_true.2 hin
  · simp only [hS, Bool.and_true, Bool.and_eq_true, decide_eq_true_eq]
    omega
theorem Sq.again (h : Sq l room e n S) : make7 l room S ((e : Int) + 1) = (l, (n : Int), 0) := by
  unfold make7 grown6
  rw [if_pos (right_iff.2 h.right), makeZ_yes h.low h.set h.ins, build_had h.right _ _ _ (by have := h.low; omega) h.is h.alive, if_pos rfl]
theorem Sq.flat (h : Sq l room e n S) (c : Int × Int) : c ∈ about7 l e n ↔ c ∈ S := by
  unfold about7
  rw [mem_flat]
  have hp : (2 : Int) ^ (e + 1) = 2 ^ e * 2 := Int.pow_succ _ _
  have e2 : (c.1 - -(2 ^ e), c.2 - -(2 ^ e)) = inwardC e c := by unfold inwardC; exact Prod.ext (by omega) (by omega)
  have e3 : InAt7 (e + 1) (-(2 ^ e), -(2 ^ e)) c ↔ insideB e c = true := by
    unfold InAt7 insideB
    rw [hp, decide_eq_true_iff]
    generalize (2 : Int) ^ e = P
    simp only
    omega
  rw [e2, e3]
  exact ⟨fun ⟨h1, h2⟩ => (h.mem h1).1 h2, fun hc => ⟨h.ins c hc, (h.mem (h.ins c hc)).2 hc⟩⟩
theorem Sq.len (h : Sq l room e n S) : (about7 l e n).length = S.length :=
  ((List.perm_ext_iff_of_nodup (flat_nodup _ _ _) (((Cel.rightB_iff _).1 h.set).2.2.imp fun {a b} hab hE => by subst hE; exact absurd hab (by simp [Cel.lessB]))).2 h.flat).length_eq
theorem Sq.pop (h : Sq l room e n S) : (l.getD n deadN).2.2 = S.length := by
  have h1 := flat_pop h.right _ _ (-(2 ^ e), -(2 ^ e)) h.is
  have h2 := h.len
  have h3 := ((Cel.rightB_iff _).1 h.set).1
  unfold about7 at h2
  rw [h2] at h1
  omega
theorem Sq.has (h : Sq l room e n S) : hasB l n = true := by
  unfold hasB
  rw [decide_eq_true_iff, ndAt_nat, h.is.lev]
  have := h.is.lt
  omega
theorem Sq.cells (h : Sq l room e n S) : cells7 l room n = (S, 0) := by
  unfold cells7
  have h3 := (Cel.rightB_iff _).1 h.set
  have e1 : ((l.getD n deadN).1).toNat - 1 = e := by rw [h.is.lev]; omega
  rw [if_pos (by rw [right_iff.2 h.right, h.has]; rfl), ndAt_nat, h.pop, if_neg (by omega), e1, Int.toNat_natCast, if_neg, Cel.rises_ext (Cel.rises_setL _) h3.2.2 fun y => (Cel.mem_setL _ y).trans (h.flat y)]
  intro ha
  obtain ⟨c, hc, hb⟩ := List.any_eq_true.1 ha
  rw [h3.2.1 c ((h.flat c).1 hc)] at hb
  exact absurd hb (by decide)
end
end Go.Proofs.Ytikgnjcjbjafaaa
namespace Go.Proofs.Ytikgnjcjbjafaaa
set_option maxRecDepth 100000
set_option linter.unusedVariables false
set_option linter.unusedSimpArgs false

abbrev Bx := Int × Int × Int × Int
end Go.Proofs.Ytikgnjcjbjafaaa
