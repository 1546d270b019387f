/-
  Texts that the claims of this seat share, part 10.
-/
import Derived.Test.YtklccoodfhejbaaB09
import Derived.Test.YtklccoodfhejbaaB05
import Derived.Test.YtklccoodfhejbaaSh
import Derived.Laws.CopyRow
import Derived.Test.YtklccoodfhejbaaB04
set_option linter.unusedVariables false
set_option linter.unusedSimpArgs false
namespace Go.Proofs.Ytklccoodfhejbaa
set_option maxRecDepth 100000
set_option linter.unusedVariables false
set_option linter.unusedSimpArgs false
open Go.RowKit Go.Sort

/-- what an append of some cells leaves -/
structure GrA (w w' : World) (v v' : Value) : Prop where
  grown : w.grownBy w' v.ownBlock
  own : v'.ownBlock = v.ownBlock ∨ ∃ q, v'.ownBlock = some q ∧ w.heap.size ≤ q
theorem GrA.refl (w : World) (v : Value) : GrA w w v v := ⟨⟨rfl, rfl, rfl, Nat.le_refl _, fun _ _ _ => rfl⟩, .inl rfl⟩
theorem GrA.trans {w w1 w2 : World} {v v1 v2 : Value} (h : GrA w w1 v v1) (h2 : GrA w1 w2 v1 v2) : GrA w w2 v v2 := by
  have hsz := h.grown.size
  refine ⟨⟨h2.grown.os.trans h.grown.os, h2.grown.tape.trans h.grown.tape, h2.grown.output.trans h.grown.output, Nat.le_trans hsz h2.grown.size, fun i hi hne => ?_⟩, ?_⟩
  · rw [h2.grown.block i (by omega) ?_, h.grown.block i hi hne]
    rcases h.own with e | ⟨q, e, hq⟩
    · rw [e]; exact hne
    · rw [e]; intro h3; injection h3 with h3; omega
  · rcases h2.own with e | ⟨q, e, hq⟩
    · rw [e]; exact h.own
    · exact .inr ⟨q, e, by omega⟩
theorem GrA.below {w w' : World} {v : Value} (hb : Below w.heap.size w w') : GrA w w' v v := ⟨⟨hb.os, hb.tape, hb.output, hb.size, fun i hi _ => hb.block i hi⟩, .inl rfl⟩
theorem GrA.bel {w w' : World} {v v' : Value} {B : Nat} {l : List (Int × Int)} (h : GrA w w' v v') (ho : OwnC w B v l) (hB : B ≤ w.heap.size) : Below B w w' :=
  (Below.refl B w).grown h.grown hB (fun r e => (World.ownsRow.lt ho r e).1)
theorem GrA.push {w w' : World} {v v' : Value} {o : Obj} (hg : (w.alloc o).grownBy w' v.ownBlock) (hw : v'.ownBlock = v.ownBlock ∨ v'.ownBlock = some (w.heap.size + 1)) : GrA w w' v v' := by
  have hs : (w.alloc o).heap.size = w.heap.size + 1 := by simp
  have hsz := hg.size
  refine ⟨⟨hg.os, hg.tape, hg.output, by omega, fun i hi hne => ?_⟩, ?_⟩
  · rw [hg.block i (by omega) hne, Lib.alloc_old _ _ _ hi]
  · rcases hw with e | e
    · exact .inl e
    · exact .inr ⟨_, e, by omega⟩
/-- a node's box and its corner's, while cells are appended -/
structure GaAt (n : Nat) (w2 wr : World) (v v' : Value) (p : Int × Int) (lev : Int) (kk : Kd) (pp : Int) : Prop where
  cl : ClB wr n p
  nd : NR wr (n + 1) lev kk pp
  gr : GrA w2 wr v v'
  sz : w2.heap.size = n + 2
  low : ∀ q, v.ownBlock = some q → q < n
section
variable {n : Nat} {w2 wr w' : World} {v v1 v2 : Value} {p : Int × Int} {lev : Int} {kk : Kd} {pp : Int}
theorem GaAt.next (h : GaAt n w2 wr v v1 p lev kk pp) (hg : GrA wr w' v1 v2) : GaAt n w2 w' v v2 p lev kk pp := by
  have hne : ∀ i, i < n + 2 → n ≤ i → some i ≠ v1.ownBlock := fun i hi hn e => by
    rcases h.gr.own with e1 | ⟨q, e1, hq⟩
    · rw [e1] at e
      have := h.low i e.symm
      omega
    · rw [e1] at e
      injection e with e
      have := h.sz
      omega
  exact ⟨⟨(hg.grown.block _ (lt_heap6 h.cl.row) (hne n (by omega) (Nat.le_refl _))).trans h.cl.row⟩, (hg.grown.block _ (lt_heap6 h.nd) (hne (n + 1) (by omega) (by omega))).trans h.nd, h.gr.trans hg, h.sz, h.low⟩
end
end Go.Proofs.Ytklccoodfhejbaa
namespace Go.Proofs.Ytklccoodfhejbaa.Cel
open Go.RowKit Go.Sort

/-- Has: whether a cell is in a list -/
def hasB (l : List (Int × Int)) (q : Int × Int) : Bool := l.any fun p => decide (p = q)
end Go.Proofs.Ytklccoodfhejbaa.Cel
namespace Go.Proofs.Ytklccoodfhejbaa.Cel
open Go.RowKit Go.Sort

/-! ### in plain words -/
def ddS (acc : List (Int × Int)) (x : Int × Int) : List (Int × Int) := if acc.getLast? = some x then acc else acc ++ [x]
def ddL (l : List (Int × Int)) : List (Int × Int) := l.foldl ddS []
theorem ddL_snoc (l : List (Int × Int)) (x : Int × Int) : ddL (l ++ [x]) = ddS (ddL l) x := by simp [ddL, List.foldl_append]

theorem snoc_ind {P : List (Int × Int) → Prop} (h0 : P []) (hs : ∀ l x, P l → P (l ++ [x])) (l : List (Int × Int)) : P l := by
  have h : ∀ m : List (Int × Int), P m.reverse := by
    intro m
    induction m with
    | nil => exact h0
    | cons x m ih => rw [List.reverse_cons]; exact hs _ _ ih
  have := h l.reverse
  rwa [List.reverse_reverse] at this

theorem last_ddL (l : List (Int × Int)) : (ddL l).getLast? = l.getLast? := by
  refine snoc_ind (P := fun l => (ddL l).getLast? = l.getLast?) rfl (fun l x ih => ?_) l
  show (ddL (l ++ [x])).getLast? = (l ++ [x]).getLast?
  rw [ddL_snoc, ddS]
  split
  · rename_i h; rw [h]; simp
  · simp
theorem ddL_same {l : List (Int × Int)} {k : Nat} (h0 : 0 < k) (hk : k < l.length) (h : l.getD k (0, 0) = l.getD (k - 1) (0, 0)) : ddL (l.take (k + 1)) = ddL (l.take k) := by
  rw [take_snoc hk, ddL_snoc, ddS, last_ddL]
  have : (l.take k).getLast? = some (l.getD (k - 1) (0, 0)) := by
    rw [List.getLast?_eq_getElem?, List.length_take, Nat.min_eq_left (by omega), List.getElem?_take, if_pos (by omega), List.getD_eq_getElem?_getD, List.getElem?_eq_getElem (by omega)]
    rfl
  rw [this, h, if_pos rfl]
theorem ddL_other {l : List (Int × Int)} {k : Nat} (hk : k < l.length) (h : k = 0 ∨ l.getD k (0, 0) ≠ l.getD (k - 1) (0, 0)) : ddL (l.take (k + 1)) = ddL (l.take k) ++ [l.getD k (0, 0)] := by
  rw [take_snoc hk, ddL_snoc, ddS, last_ddL, if_neg]
  rcases h with h | h
  · subst h; simp
  · by_cases h0 : k = 0
    · subst h0; simp
    · have : (l.take k).getLast? = some (l.getD (k - 1) (0, 0)) := by
        rw [List.getLast?_eq_getElem?, List.length_take, Nat.min_eq_left (by omega), List.getElem?_take, if_pos (by omega), List.getD_eq_getElem?_getD, List.getElem?_eq_getElem (by omega)]
        rfl
      rw [this]
      intro e
      exact h (Option.some.inj e).symm

/-! ### clear -/
theorem fl_take (l : List (Int × Int)) (k : Nat) : fl (l.take k) = (fl l).take (k * 2) := by
  induction l generalizing k with
  | nil => simp [fl]
  | cons x l ih =>
    cases k with
    | zero => rfl
    | succ k =>
      have e1 : (k + 1) * 2 = k * 2 + 1 + 1 := by omega
      have e2 : ∀ (q : Int × Int) (m : List (Int × Int)), fl (q :: m) = .int .i64 q.1 :: .int .i64 q.2 :: fl m := fun _ _ => rfl
      rw [List.take_succ_cons, e2, e2, ih, e1]
      rfl

theorem Row.cut {w : World} {B T g n cap k : Nat} {l : List (Int × Int)} (h : Row w B T g n cap l) (hk : k ≤ n) : Row w B T g k cap (l.take k) := by
  obtain ⟨hn, hlen, h' | ⟨g', cap', cur, hv, hB, hg, hnc, hcm, hcs, htake⟩⟩ := h
  · simp at h'
  · simp only [Value.slice.injEq, Option.some.injEq, Addr.mk.injEq, and_true, true_and] at hv
    obtain ⟨rfl, rfl⟩ := hv
    have e := fl_take l k
    refine ⟨by rw [List.length_take]; omega, by rw [length_fl, List.length_take]; omega, .inr ⟨g, cap, cur, rfl, hB, hg, by omega, hcm, hcs, ?_⟩⟩
    rw [e, ← htake, List.take_take, Nat.min_eq_left (by omega)]

/-- What the second loop has done: the first kk places hold what is kept of the first p. -/
structure Packs (l : List (Int × Int)) (p kk : Nat) (cur : List (Int × Int)) : Prop where
  len : cur.length = l.length
  kept : cur.take kk = ddL (l.take p)
  size : (ddL (l.take p)).length = kk
  lt : kk < p
  high : ∀ j, p ≤ j + 1 → cur.getD j (0, 0) = l.getD j (0, 0)

theorem Packs.skip {l cur : List (Int × Int)} {p kk : Nat} (h : Packs l p kk cur) (h0 : 0 < p) (hp : p < l.length) (he : l.getD p (0, 0) = l.getD (p - 1) (0, 0)) : Packs l (p + 1) kk cur := by
  have e := ddL_same h0 hp he
  exact ⟨h.len, by rw [e]; exact h.kept, by rw [e]; exact h.size, by have := h.lt; omega, fun j hj => h.high j (by omega)⟩
theorem Packs.keep {l cur : List (Int × Int)} {p kk : Nat} (h : Packs l p kk cur) (hp : p < l.length) (he : l.getD p (0, 0) ≠ l.getD (p - 1) (0, 0)) : Packs l (p + 1) (kk + 1) (cur.set kk (l.getD p (0, 0))) := by
  have e := ddL_other hp (.inr he)
  have hlt := h.lt
  have hkl : kk < cur.length := by rw [h.len]; omega
  refine ⟨by rw [List.length_set]; exact h.len, ?_, by rw [e]; simp [h.size], by omega, fun j hj => ?_⟩
  · rw [e, ← h.kept]
    apply List.ext_getElem?
    intro i
    rw [List.getElem?_take]
    by_cases hi : i < kk
    · rw [if_pos (by omega), List.getElem?_set_ne (by omega), List.getElem?_append_left (by rw [List.length_take]; omega), List.getElem?_take, if_pos hi]
    · by_cases hi2 : i = kk
      · subst hi2
        rw [if_pos (by omega), List.getElem?_set_self hkl, List.getElem?_append_right (by rw [List.length_take]; omega)]
        have : i - (List.take i cur).length = 0 := by rw [List.length_take]; omega
        rw [this]
        rfl
      · rw [if_neg (by omega), List.getElem?_append_right (by rw [List.length_take]; omega), List.getElem?_eq_none]
        rw [List.length_take]; simp; omega
  · rw [← h.high j (by omega), List.getD_eq_getElem?_getD, List.getElem?_set_ne (by omega), List.getD_eq_getElem?_getD]

end Go.Proofs.Ytklccoodfhejbaa.Cel
namespace Go.Proofs.Ytklccoodfhejbaa
set_option maxRecDepth 100000
set_option linter.unusedVariables false
set_option linter.unusedSimpArgs false
open Go.RowKit Go.Sort

/-- the cells of a node, about the middle -/
def about7 (l : List Nd) (e n : Nat) : List (Int × Int) := flat l (e + 1) n (-(2 ^ e), -(2 ^ e))
/-- what Cells answers -/
def cells7 (l : List Nd) (room n : Int) : List (Int × Int) × Int :=
  if (right6 l room && hasB l n) = true then
    (if 2000 < (ndAt l n).2.2 then ([], 3) else if ((about7 l ((ndAt l n).1.toNat - 1) n.toNat).any fun p => !Cel.inB p) = true then ([], 2) else (Cel.setL (about7 l ((ndAt l n).1.toNat - 1) n.toNat), 0))
  else ([], 1)
theorem StoreAt.below7 {w wr w' : World} {A : Option Addr} {n c : Nat} {room : Int} (h : StoreAt w wr A n c room) (hb : Below wr.heap.size wr w') : StoreAt w w' A n c room := ⟨(hb.block _ (lt_heap6 h.store)).trans h.store, Qt.more h.bel h.bel.size hb⟩
end Go.Proofs.Ytklccoodfhejbaa
namespace Go.Proofs.Ytklccoodfhejbaa
set_option maxRecDepth 100000
set_option linter.unusedVariables false
set_option linter.unusedSimpArgs false

theorem kid_alive (l : List Nd) (k n : Nat) {i : Nat} (hi : i < 4) (c : Int × Int) : ∃ c', q7 k c' = i ∧ Agree k c' c ∧ alive l k (kidN l n i) c = alive l (k + 1) n c' := by
  obtain ⟨c', h1, h2⟩ := with_bit k i c hi
  refine ⟨c', h1, h2, ?_⟩
  show _ = alive l k (kidN l n (q7 k c')) c'
  rw [h1, alive_agree k _ h2]
/-- a node without cells is the empty one of its level -/
theorem emp_of {l : List Nd} {room : Int} (hr : Right6 l room) : ∀ (k n : Nat), Is l k n → (∀ c, alive l k n c = false) → Emp l k n
  | 0, n, h, ha => by
    have h0 : decide (n = 1) = false := ha (0, 0)
    have h1 := h.zero hr
    have h2 : ¬ n = 1 := by simpa using h0
    show n = 0
    omega
  | k + 1, n, h, ha => by
    have hk : ∀ i, i < 4 → ∀ c, alive l k (kidN l n i) c = false := fun i hi c => by
      obtain ⟨c', _, _, e⟩ := kid_alive l k n hi c
      rw [e]
      exact ha c'
    have he : ∀ i, i < 4 → kidN l n i = kidN l n 0 := fun i hi => alive_inj hr k _ _ (kid_is hr h hi) (kid_is hr h (by decide)) fun c => by rw [hk i hi c, hk 0 (by decide) c]
    have h0 := emp_of hr k _ (kid_is hr h (i := 0) (by decide)) (hk 0 (by decide))
    refine ⟨kidN l n 0, h0, ?_⟩
    have f1 := (fits_iff.1 (hr.fits n (h.two hr) h.lt)).first
    have e : (l.getD n deadN).2.1 = (((kidN l n 0 : Nat) : Int), ((kidN l n 0 : Nat) : Int), ((kidN l n 0 : Nat) : Int), ((kidN l n 0 : Nat) : Int)) := kd_ext fun i hi => by rw [kid_cast hr h hi, he i hi, kd_four _ i hi]
    rw [e] at f1
    exact f1
theorem kids_fit7 {l : List Nd} {room : Int} (hr : Right6 l room) {k n : Nat} (h : Is l (k + 1) n) (hk : k + 1 ≤ 42) : Fit4 l (l.getD n deadN).2.1 := by
  refine ⟨fun i hi => ?_, ?_⟩
  · have hi' := kid_is hr h hi
    have h0 := kid_is hr h (i := 0) (by decide)
    have c0 : (l.getD n deadN).2.1.1 = _ := kid_cast hr h (i := 0) (by decide)
    rw [kid_cast hr h hi, c0, ndAt_nat, ndAt_nat, hi'.lev, h0.lev]
    exact ⟨by omega, by have := hi'.lt; omega, rfl⟩
  · have h0 := kid_is hr h (i := 0) (by decide)
    have c0 : (l.getD n deadN).2.1.1 = _ := kid_cast hr h (i := 0) (by decide)
    rw [c0, ndAt_nat, h0.lev]
    omega
/-- a node that is there is found -/
theorem build_had {l : List Nd} {room : Int} (hr : Right6 l room) : ∀ (k n : Nat) (S : List (Int × Int)), k ≤ 42 → Is l k n → (∀ c, alive l k n c = S.any fun s => agreeB k s c) → buildC room k l S = (l, (n : Int), 0)
  | 0, n, S, _, h, ha => by
    have h0 : decide (n = 1) = S.any fun s => agreeB 0 s (0, 0) := ha (0, 0)
    have h1 := h.zero hr
    unfold buildC
    by_cases hS : S = []
    · subst hS
      have : ¬ n = 1 := by simpa using h0
      obtain rfl : n = 0 := by omega
      rfl
    · rw [if_neg hS]
      obtain ⟨s, t, rfl⟩ := List.exists_cons_of_ne_nil hS
      have e : agreeB 0 s (0, 0) = true := rfl
      rw [List.any_cons, e, Bool.true_or] at h0
      obtain rfl : n = 1 := by simpa using h0
      rfl
  | k + 1, n, S, hk, h, ha => by
    by_cases hS : S = []
    · subst hS
      rw [buildC_nil]
      exact empty_had hr _ _ hk (emp_of hr _ _ h fun c => by rw [ha c]; rfl)
    · unfold buildC
      rw [if_neg hS]
      have hq : ∀ i, i < 4 → buildC room k l (S.filter fun c => decide (q7 k c = i)) = (l, ((kidN l n i : Nat) : Int), 0) := fun i hi => by
        refine build_had hr k _ _ (by omega) (kid_is hr h hi) fun c => ?_
        obtain ⟨c', h1, h2, e⟩ := kid_alive l k n hi c
        rw [e, ha c', Bool.eq_iff_iff, List.any_eq_true, List.any_eq_true]
        constructor
        · rintro ⟨s, hs, hs2⟩
          obtain ⟨g1, g2⟩ := agree_succ.1 (agree_iff.1 hs2)
          exact ⟨s, List.mem_filter.2 ⟨hs, by simpa using g1.trans h1⟩, agree_iff.2 (g2.trans h2)⟩
        · rintro ⟨s, hs, hs2⟩
          obtain ⟨g1, g2⟩ := List.mem_filter.1 hs
          have g3 : q7 k s = i := by simpa using g2
          exact ⟨s, g1, agree_iff.2 (agree_succ.2 ⟨g3.trans h1.symm, (agree_iff.1 hs2).trans h2.symm⟩)⟩
      have h4 : fourTo (fun i l => buildC room k l (S.filter fun c => decide (q7 k c = i))) l 4 = (l, (l.getD n deadN).2.1, 0) := by
        have e : (l.getD n deadN).2.1 = (((kidN l n 0 : Nat) : Int), ((kidN l n 1 : Nat) : Int), ((kidN l n 2 : Nat) : Int), ((kidN l n 3 : Nat) : Int)) := kd_ext fun i hi => by
          rw [kid_cast hr h hi]
          rcases (by omega : i = 0 ∨ i = 1 ∨ i = 2 ∨ i = 3) with rfl | rfl | rfl | rfl <;> rfl
        have q0 := hq 0 (by decide)
        have q1 := hq 1 (by decide)
        have q2 := hq 2 (by decide)
        have q3 := hq 3 (by decide)
        rw [e]
        simp only [fourTo, q0, q1, q2, q3, if_pos, kset]
      unfold four
      rw [h4, if_pos rfl]
      exact put_again (kids_fit7 hr h hk) (fits_iff.1 (hr.fits n (h.two hr) h.lt)).first

/-- A node that stands for a set. -/
structure Sq (l : List Nd) (room : Int) (e n : Nat) (S : List (Int × Int)) : Prop where
  right : Right6 l room
  is : Is l (e + 1) n
  low : e ≤ 41
  set : Cel.rightB S = true
  ins : ∀ s ∈ S, insideB e s = true
  alive : ∀ c, alive l (e + 1) n c = (S.map (inwardC e)).any fun s => agreeB (e + 1) s c
section
variable {l m : List Nd} {room : Int} {e n p : Nat} {S T : List (Int × Int)}
theorem Sq.grows (h : Sq l room e n S) (g : Grows l m) (hr : Right6 m room) : Sq m room e n S := ⟨hr, h.is.grows g, h.low, h.set, h.ins, fun c => by rw [alive_grows h.right g c _ _ h.is, h.alive c]⟩
theorem inside_sq {e : Nat} {c : Int × Int} (h : insideB e c = true) : InSq (e + 1) (inwardC e c) := by
  unfold insideB at h
  have h' := of_decide_eq_true h
  have hp : (2 : Int) ^ (e + 1) = 2 ^ e * 2 := Int.pow_succ _ _
  unfold InSq inwardC
  rw [hp]
  generalize (2 : Int) ^ e = P at *
  refine ⟨?_, ?_, ?_, ?_⟩ <;> simp only <;> omega
theorem Sq.mem (h : Sq l room e n S) {c : Int × Int} (hc : insideB e c = true) : Go.Proofs.Ytklccoodfhejbaa.alive l (e + 1) n (inwardC e c) = true ↔ c ∈ S := by
  rw [h.alive, List.any_eq_true]
  constructor
  · rintro ⟨s, hs, ha⟩
    obtain ⟨t, ht, rfl⟩ := List.mem_map.1 hs
    have := agree_ext (inside_sq (h.ins t ht)) (inside_sq hc) (agree_iff.1 ha)
    unfold inwardC at this
    injection this with e1 e2
    have : t = c := Prod.ext (by omega) (by omega)
    exact this ▸ ht
  · intro hs
    exact ⟨inwardC e c, List.mem_map_of_mem hs, agree_iff.2 (Agree.refl _ _)⟩
theorem Sq.same (h : Sq l room e n S) (h2 : Sq l room e n T) : S = T :=
  Cel.rises_ext ((Cel.rightB_iff _).1 h.set).2.2 ((Cel.rightB_iff _).1 h2.set).2.2 fun y => ⟨fun hy => (h2.mem (h.ins y hy)).1 ((h.mem (h.ins y hy)).2 hy), fun hy => (h.mem (h2.ins y hy)).1 ((h2.mem (h2.ins y hy)).2 hy)⟩
theorem Sq.one (h : Sq l room e n S) (h2 : Sq l room e p S) : n = p := alive_inj h.right _ _ _ h.is h2.is fun c => by rw [h.alive, h2.alive]
theorem makeZ_yes (hlow : e ≤ 41) (hS : Cel.rightB S = true) (hin : ∀ s ∈ S, insideB e s = true) : makeZ room l S ((e : Int) + 1) = buildC room (e + 1) l (S.map (inwardC e)) := by
  unfold makeZ
  have e1 : ((e : Int) + 1).toNat = e + 1 := by omega
  rw [e1, Nat.add_sub_cancel, if_pos, if_pos]
  · exact List.all_eq_true.2 hin
  · simp only [hS, Bool.and_true, Bool.and_eq_true, decide_eq_true_eq]
    omega
theorem make_ok (hr : Right6 l room) (hlow : e ≤ 41) (hS : Cel.rightB S = true) (hin : ∀ s ∈ S, insideB e s = true) (hroom : ((l.length + S.length * (e + 1) + (e + 1) : Nat) : Int) ≤ room) :
    ∃ (m : List Nd) (n : Nat), make7 l room S ((e : Int) + 1) = (m, (n : Int), 0) ∧ Grows l m ∧ Sq m room e n S ∧ m.length ≤ l.length + S.length * (e + 1) + (e + 1) := by
  obtain ⟨m, n, h', e1, hm⟩ := build_res (room := room) (K := e + 1) (by omega) (e + 1) (Nat.le_refl _) l 0 (S.map (inwardC e)) hr (by omega) ⟨0, rfl⟩ (by rw [List.length_map]; omega)
  refine ⟨m, n, ?_, hm.grows, ⟨hm.right, hm.is, hlow, hS, hin, hm.alive⟩, ?_⟩
  · unfold make7 grown6
    rw [if_pos (right_iff.2 hr), makeZ_yes hlow hS hin, e1, if_pos rfl]
  · have := hm.len
    have := hm.hi
    rw [List.length_map] at *
    omega
theorem Sq.again (h : Sq l room e n S) : make7 l room S ((e : Int) + 1) = (l, (n : Int), 0) := by
  unfold make7 grown6
  rw [if_pos (right_iff.2 h.right), makeZ_yes h.low h.set h.ins, build_had h.right _ _ _ (by have := h.low; omega) h.is h.alive, if_pos rfl]
theorem Sq.flat (h : Sq l room e n S) (c : Int × Int) : c ∈ about7 l e n ↔ c ∈ S := by
  unfold about7
  rw [mem_flat]
  have hp : (2 : Int) ^ (e + 1) = 2 ^ e * 2 := Int.pow_succ _ _
  have e2 : (c.1 - -(2 ^ e), c.2 - -(2 ^ e)) = inwardC e c := by unfold inwardC; exact Prod.ext (by omega) (by omega)
  have e3 : InAt7 (e + 1) (-(2 ^ e), -(2 ^ e)) c ↔ insideB e c = true := by
    unfold InAt7 insideB
    rw [hp, decide_eq_true_iff]
    generalize (2 : Int) ^ e = P
    simp only
    omega
  rw [e2, e3]
  exact ⟨fun ⟨h1, h2⟩ => (h.mem h1).1 h2, fun hc => ⟨h.ins c hc, (h.mem (h.ins c hc)).2 hc⟩⟩
theorem Sq.len (h : Sq l room e n S) : (about7 l e n).length = S.length :=
  ((List.perm_ext_iff_of_nodup (flat_nodup _ _ _) (((Cel.rightB_iff _).1 h.set).2.2.imp fun {a b} hab hE => by subst hE; exact absurd hab (by simp [Cel.lessB]))).2 h.flat).length_eq
theorem Sq.pop (h : Sq l room e n S) : (l.getD n deadN).2.2 = S.length := by
  have h1 := flat_pop h.right _ _ (-(2 ^ e), -(2 ^ e)) h.is
  have h2 := h.len
  have h3 := ((Cel.rightB_iff _).1 h.set).1
  unfold about7 at h2
  rw [h2] at h1
  omega
theorem Sq.has (h : Sq l room e n S) : hasB l n = true := by
  unfold hasB
  rw [decide_eq_true_iff, ndAt_nat, h.is.lev]
  have := h.is.lt
  omega
theorem Sq.cells (h : Sq l room e n S) : cells7 l room n = (S, 0) := by
  unfold cells7
  have h3 := (Cel.rightB_iff _).1 h.set
  have e1 : ((l.getD n deadN).1).toNat - 1 = e := by rw [h.is.lev]; omega
  rw [if_pos (by rw [right_iff.2 h.right, h.has]; rfl), ndAt_nat, h.pop, if_neg (by omega), e1, Int.toNat_natCast, if_neg, Cel.rises_ext (Cel.rises_setL _) h3.2.2 fun y => (Cel.mem_setL _ y).trans (h.flat y)]
  intro ha
  obtain ⟨c, hc, hb⟩ := List.any_eq_true.1 ha
  rw [h3.2.1 c ((h.flat c).1 hc)] at hb
  exact absurd hb (by decide)
end
end Go.Proofs.Ytklccoodfhejbaa
namespace Go.Proofs.Ytklccoodfhejbaa
set_option maxRecDepth 100000
set_option linter.unusedVariables false
set_option linter.unusedSimpArgs false

theorem agreeB_right {k : Nat} {c d d' : Int × Int} (h : Agree k d' d) : agreeB k c d' = agreeB k c d := by
  rw [Bool.eq_iff_iff, agree_iff, agree_iff]
  exact ⟨fun h' => h'.trans h, fun h' => h'.trans h.symm⟩
theorem any_set {e : Nat} {S T : List (Int × Int)} {c : Int × Int} {a : Bool} (hS : ∀ s ∈ S, insideB e s = true) (hT : ∀ s ∈ T, insideB e s = true) (hc : insideB e c = true) (hST : ∀ y, y ∈ S ↔ if y = c then a = true else y ∈ T) (d : Int × Int) :
    ((S.map (inwardC e)).any fun s => agreeB (e + 1) s d) = if agreeB (e + 1) (inwardC e c) d = true then a else (T.map (inwardC e)).any fun s => agreeB (e + 1) s d := by
  have hone : ∀ s, insideB e s = true → agreeB (e + 1) (inwardC e c) d = true → agreeB (e + 1) (inwardC e s) d = true → s = c := fun s hs h1 h2 => by
    have := agree_ext (inside_sq hs) (inside_sq hc) ((agree_iff.1 h2).trans (agree_iff.1 h1).symm)
    unfold inwardC at this
    injection this with e1 e2
    exact Prod.ext (by omega) (by omega)
  by_cases h : agreeB (e + 1) (inwardC e c) d = true
  · rw [if_pos h, Bool.eq_iff_iff, List.any_eq_true]
    constructor
    · rintro ⟨t, ht, ha⟩
      obtain ⟨s, hs, rfl⟩ := List.mem_map.1 ht
      have := (hST s).1 hs
      rwa [if_pos (hone s (hS s hs) h ha)] at this
    · intro ha
      exact ⟨_, List.mem_map_of_mem ((hST c).2 (by rw [if_pos rfl]; exact ha)), h⟩
  · rw [if_neg h, Bool.eq_iff_iff, List.any_eq_true, List.any_eq_true]
    constructor
    · rintro ⟨t, ht, ha⟩
      obtain ⟨s, hs, rfl⟩ := List.mem_map.1 ht
      have hne : ¬ s = c := fun q => by subst q; exact h ha
      have := (hST s).1 hs
      rw [if_neg hne] at this
      exact ⟨_, List.mem_map_of_mem this, ha⟩
    · rintro ⟨t, ht, ha⟩
      obtain ⟨s, hs, rfl⟩ := List.mem_map.1 ht
      have hne : ¬ s = c := fun q => by subst q; exact h ha
      exact ⟨_, List.mem_map_of_mem ((hST s).2 (by rw [if_neg hne]; exact hs)), ha⟩
section
variable {l m : List Nd} {room : Int} {e n p : Nat} {S T : List (Int × Int)} {c : Int × Int}
theorem Sq.lev7 (h : Sq l room e n S) : (ndAt l (n : Int)).1.toNat = e + 1 := by rw [ndAt_nat, h.is.lev]; omega
theorem setZ_yes (h : Sq l room e n S) (hc : insideB e c = true) (a : Bool) : setZ room l n c a = setC room (e + 1) l n (inwardC e c) a := by
  unfold setZ
  rw [if_pos h.has, h.lev7, Nat.add_sub_cancel, if_pos hc, Int.toNat_natCast]
theorem set7_yes (h : Sq l room e n S) (hc : insideB e c = true) (a : Bool) {m : List Nd} {p : Int} (hz : setC room (e + 1) l n (inwardC e c) a = (m, p, 0)) : set7 l room n c a = (m, p, 0) := by
  unfold set7 grown6
  rw [if_pos (right_iff.2 h.right), setZ_yes h hc, hz, if_pos rfl]
theorem Sq.set_fine (h : Sq l room e n S) (hc : insideB e c = true) (a : Bool) (hroom : ((l.length + (e + 1) : Nat) : Int) ≤ room) :
    ∃ (m : List Nd) (p : Nat), set7 l room n c a = (m, (p : Int), 0) ∧ Grows l m ∧ Right6 m room ∧ Is m (e + 1) p ∧ m.length ≤ l.length + (e + 1) ∧ ∀ d, Go.Proofs.Ytklccoodfhejbaa.alive m (e + 1) p d = if agreeB (e + 1) (inwardC e c) d = true then a else Go.Proofs.Ytklccoodfhejbaa.alive l (e + 1) n d := by
  obtain ⟨m, _, p, rfl, e1, g, r, is, len, al⟩ := set_ok (room := room) (e + 1) l n (inwardC e c) a (by have := h.low; omega) h.right h.is hroom
  exact ⟨m, p, set7_yes h hc a e1, g, r, is, len, al⟩
theorem set_mem (a : Bool) (y : Int × Int) : y ∈ (if a = true then Cel.putL c S else Cel.outL c S) ↔ if y = c then a = true else y ∈ S := by
  cases a with
  | true =>
    rw [if_pos rfl, Cel.mem_putL]
    by_cases h : y = c <;> simp [h]
  | false =>
    rw [if_neg (by decide)]
    unfold Cel.outL
    by_cases h : y = c <;> simp [h]
theorem set_right (hS : Cel.rightB S = true) (hc : Cel.inB c = true) (hl : S.length < 2000) (a : Bool) : Cel.rightB (if a = true then Cel.putL c S else Cel.outL c S) = true := by
  have h3 := (Cel.rightB_iff _).1 hS
  refine (Cel.rightB_iff _).2 ⟨?_, fun s hs => ?_, ?_⟩
  · cases a with
    | true => rw [if_pos rfl]; have := Cel.length_putL_le c S; omega
    | false => rw [if_neg (by decide)]; have : (Cel.outL c S).length ≤ S.length := List.length_filter_le _ _; omega
  · have := (set_mem a s).1 hs
    by_cases h : s = c
    · rw [h]; exact hc
    · rw [if_neg h] at this; exact h3.2.1 s this
  · cases a with
    | true => rw [if_pos rfl]; exact Cel.rises_putL _ h3.2.2
    | false => rw [if_neg (by decide)]; exact List.Pairwise.filter _ h3.2.2
theorem set_ins (hS : ∀ s ∈ S, insideB e s = true) (hc : insideB e c = true) (a : Bool) : ∀ s ∈ (if a = true then Cel.putL c S else Cel.outL c S), insideB e s = true := fun s hs => by
  have := (set_mem a s).1 hs
  by_cases h : s = c
  · rw [h]; exact hc
  · rw [if_neg h] at this; exact hS s this
/-- a cell is set -/
theorem Sq.put (h : Sq l room e n S) (hc : insideB e c = true) (hin : Cel.inB c = true) (hl : S.length < 2000) (a : Bool) (hroom : ((l.length + (e + 1) : Nat) : Int) ≤ room) :
    ∃ (m : List Nd) (p : Nat), set7 l room n c a = (m, (p : Int), 0) ∧ Grows l m ∧ Sq m room e p (if a = true then Cel.putL c S else Cel.outL c S) ∧ m.length ≤ l.length + (e + 1) := by
  obtain ⟨m, p, e1, g, r, is, len, al⟩ := h.set_fine hc a hroom
  refine ⟨m, p, e1, g, ⟨r, is, h.low, set_right h.set hin hl a, set_ins h.ins hc a, fun d => ?_⟩, len⟩
  rw [al d, any_set (set_ins h.ins hc a) h.ins hc (set_mem a) d, h.alive d]
theorem Sq.get (h : Sq l room e n S) (c : Int × Int) : get7 l room n c = (insideB e c && decide (c ∈ S), 0) := by
  unfold get7
  rw [if_pos (by rw [right_iff.2 h.right, h.has]; rfl), h.lev7, Nat.add_sub_cancel, Int.toNat_natCast]
  cases hc : insideB e c with
  | false => rfl
  | true =>
    have hm := h.mem hc
    simp only [Bool.true_and]
    congr 1
    rw [Bool.eq_iff_iff, decide_eq_true_iff]
    exact hm
end

/-! ### a node of four quarters that are there -/
theorem node_res {room : Int} {K : Nat} {l : List Nd} {h k : Nat} {q : Kd} {A : Nat → Int × Int → Bool} (hk : k + 1 ≤ 42) (hr : Right6 l room) (hK : h ≤ K) (he : ∃ e, Emp l h e)
    (hall : ∀ i, i < 4 → ∃ n : Nat, kd q i = (n : Int) ∧ Is l k n ∧ ∀ c, alive l k n c = A i c) (hroom : ((l.length + 1 : Nat) : Int) ≤ room) :
    Res room K l h (put6 l room q) (k + 1) (fun c => A (q7 k c) c) 1 := by
  have hlev : ∀ i, i < 4 → (ndAt l (kd q i)).1 = (k : Int) := fun i hi => by
    obtain ⟨n, en, isn, _⟩ := hall i hi
    rw [en, ndAt_nat]
    exact isn.lev
  have h0 : (ndAt l q.1).1 = (k : Int) := hlev 0 (by decide)
  have hfit : Fit4 l q := by
    refine ⟨fun i hi => ?_, by omega⟩
    obtain ⟨n, en, isn, _⟩ := hall i hi
    have h1 := hlev i hi
    have := isn.lt
    exact ⟨by omega, by omega, by rw [h1, h0]⟩
  rcases put_ok hr hfit with ⟨m', n', e', hp⟩ | ⟨_, hf, _⟩
  · obtain ⟨_, p2, p3, p4, _⟩ := hp.node hfit
    refine ⟨m', n', h, e', hp.grows, hp.right, ⟨p2, by rw [p4, h0]; omega⟩, fun c => ?_, Nat.le_refl _, hK, ?_, by have := hp.more; omega⟩
    · obtain ⟨n, en, isn, aln⟩ := hall (q7 k c) (q7_lt k c)
      show alive m' k (kidN m' n' (q7 k c)) c = _
      have : kidN m' n' (q7 k c) = n := by unfold kidN; rw [p3, en, Int.toNat_natCast]
      rw [this, alive_grows hr hp.grows c k n isn, aln c]
    · obtain ⟨e2, he2⟩ := he
      exact ⟨e2, emp_grows hp.grows _ _ he2⟩
  · omega

/-! ### a node grown -/
theorem div_zero {x P : Int} (h0 : 0 ≤ x) (h1 : x < P) : x / P = 0 := Int.ediv_eq_zero_of_lt h0 h1
theorem div_one {x P : Int} (hP : 0 < P) (h0 : P ≤ x) (h1 : x < P * 2) : x / P = 1 := by
  have e : x = (x - P) + P * 1 := by omega
  rw [e, Int.add_mul_ediv_left _ _ (by omega), div_zero (by omega) (by omega)]
  rfl
theorem grow_bits {e : Nat} {s : Int × Int} (hs : insideB e s = true) : q7 (e + 1) (inwardC (e + 1) s) = q7 e (inwardC e s) ∧ q7 e (inwardC (e + 1) s) = 3 - q7 e (inwardC e s) ∧ Agree e (inwardC (e + 1) s) (inwardC e s) := by
  have hin := inside_sq hs
  have e2 : (2 : Int) ^ (e + 1) = 2 ^ e * 2 := Int.pow_succ _ _
  have hu : inwardC (e + 1) s = ((inwardC e s).1 + 2 ^ e * 1, (inwardC e s).2 + 2 ^ e * 1) := by
    unfold inwardC
    rw [e2]
    exact Prod.ext (by simp only; omega) (by simp only; omega)
  refine ⟨?_, ?_, by rw [hu]; exact agree_shift _ _ _ _⟩
  all_goals
    rw [hu]
    unfold InSq at hin
    unfold q7
    rw [e2] at hin
    try rw [e2]
    simp only
    have hp := pow_pos7 e
    generalize (inwardC e s).1 = x at *
    generalize (inwardC e s).2 = y at *
    generalize (2 : Int) ^ e = P at *
    have key : ∀ z : Int, 0 ≤ z → z < P * 2 → (z / P = 0 ∧ (z + P * 1) / P = 1 ∧ (z + P * 1) / (P * 2) = 0) ∨ (z / P = 1 ∧ (z + P * 1) / P = 2 ∧ (z + P * 1) / (P * 2) = 1) := fun z h0 h1 => by
      have hz : (z + P * 1) / P = z / P + 1 := Int.add_mul_ediv_left _ _ (by omega)
      by_cases hlt : z < P
      · left
        rw [hz, div_zero h0 hlt, div_zero (by omega) (by omega)]
        exact ⟨rfl, rfl, rfl⟩
      · right
        rw [hz, div_one hp (by omega) h1, div_one (by omega) (by omega) (by omega)]
        exact ⟨rfl, rfl, rfl⟩
    obtain ⟨h1, h2, h3, h4⟩ := hin
    rcases key x h1 h2 with ⟨a1, a2, a3⟩ | ⟨a1, a2, a3⟩ <;> rcases key y h3 h4 with ⟨b1, b2, b3⟩ | ⟨b1, b2, b3⟩ <;> simp only [a1, a2, a3, b1, b2, b3] <;> decide
theorem grow_agree {e : Nat} {s : Int × Int} (hs : insideB e s = true) (c : Int × Int) : agreeB (e + 2) (inwardC (e + 1) s) c = true ↔ q7 e c = 3 - q7 (e + 1) c ∧ q7 e (inwardC e s) = q7 (e + 1) c ∧ Agree e (inwardC e s) c := by
  obtain ⟨h1, h2, h3⟩ := grow_bits hs
  rw [agree_iff, agree_succ, agree_succ, h1, h2]
  constructor
  · rintro ⟨a, b, d⟩
    exact ⟨by rw [← a]; exact b.symm, a, h3.symm.trans d⟩
  · rintro ⟨a, b, d⟩
    exact ⟨b, by rw [b]; exact a.symm, h3.trans d⟩
theorem growZ_yes {l : List Nd} {room : Int} {e n : Nat} {S : List (Int × Int)} (h : Sq l room e n S) (he : e + 1 ≤ 41) : growZ room l n = growC room l n e := by
  unfold growZ
  have h1 : ¬ (ndAt l (n : Int)).1 = 42 := by rw [ndAt_nat, h.is.lev]; omega
  rw [if_pos (by rw [h.has, decide_eq_true h1]; rfl), h.lev7, Int.toNat_natCast, Nat.add_sub_cancel]
theorem Sq.grow {l : List Nd} {room : Int} {e n : Nat} {S : List (Int × Int)} (h : Sq l room e n S) (he : e + 1 ≤ 41) {t : Nat} (hE : ∃ x, Emp l t x) (ht : t ≤ 42) (hroom : ((l.length + 5 + (max t e - t) : Nat) : Int) ≤ room) :
    ∃ (m : List Nd) (p : Nat), grow7 l room n = (m, (p : Int), 0) ∧ Grows l m ∧ Sq m room (e + 1) p S ∧ (∃ x, Emp m (max t e) x) ∧ m.length ≤ l.length + 5 + (max t e - t) := by
  have hr := h.right
  -- a dead node of the kids' level
  obtain ⟨l1, d, e1, g1, r1, em1, em1', len1⟩ : ∃ (l1 : List Nd) (d : Nat), emptyTo l room e = (l1, (d : Int), 0) ∧ Grows l l1 ∧ Right6 l1 room ∧ Emp l1 e d ∧ (∃ x, Emp l1 (max t e) x) ∧ l1.length ≤ l.length + (max t e - t) := by
    obtain ⟨x, hx⟩ := hE
    by_cases hte : e ≤ t
    · obtain ⟨d, hd⟩ := emp_below t x hx e hte
      exact ⟨l, d, empty_had hr e d (by omega) hd, Grows.refl l, hr, hd, ⟨x, by rw [Nat.max_eq_left hte]; exact hx⟩, by omega⟩
    · obtain ⟨m, n', e2, g, r, em, len⟩ := empty_from hr (i := t) (e := x) ht hx (e - t) (by omega) (by omega)
      rw [show t + (e - t) = e by omega] at e2 em
      exact ⟨m, n', e2, g, r, em, ⟨n', by rw [Nat.max_eq_right (by omega)]; exact em⟩, by omega⟩
  have hn1 := h.is.grows g1
  have hdis := emp_is r1 em1
  have hkd : ∀ i, i < 4 → kd (l.getD n deadN).2.1 i = ((kidN l n i : Nat) : Int) := fun i hi => kid_cast hr h.is hi
  obtain ⟨m, p, h', e3, R⟩ := four_res (room := room) (K := max t e) (l := l1) (h := max t e) (k := e + 1) (F := fun i l' => put6 l' room (growK (l.getD n deadN).2.1 (d : Int) i)) (A := fun i c => if q7 e c = 3 - i then Go.Proofs.Ytklccoodfhejbaa.alive l e (kidN l n i) c else false) (cost := fun _ => 1)
    (by omega) r1 (Nat.le_refl _) em1' (fun i hi l' h' g' r' lo hi' em' len' => by
      refine node_res (A := fun j c => if j = 3 - i then Go.Proofs.Ytklccoodfhejbaa.alive l e (kidN l n i) c else false) (by omega) r' hi' em' (fun j hj => ?_) (by
        have : ((List.range i).map fun _ => 1).sum ≤ 3 := by
          rcases (by omega : i = 0 ∨ i = 1 ∨ i = 2 ∨ i = 3) with rfl | rfl | rfl | rfl <;> decide
        omega)
      show ∃ n' : Nat, kd (kset ((d : Int), (d : Int), (d : Int), (d : Int)) (3 - i) (kd (l.getD n deadN).2.1 i)) j = (n' : Int) ∧ _
      rw [kd_kset _ _ (by omega) hj]
      by_cases hji : j = 3 - i
      · rw [if_pos hji]
        exact ⟨kidN l n i, hkd i hi, ((kid_is hr h.is hi).grows g1).grows g', fun c => by rw [if_pos hji, alive_grows hr (g1.trans g') c e _ (kid_is hr h.is hi)]⟩
      · rw [if_neg hji, kd_four _ j hj]
        exact ⟨d, rfl, hdis.grows g', fun c => by rw [if_neg hji]; exact emp_alive c e d (emp_grows g' _ _ em1)⟩) (by
      have : ((List.range 4).map fun _ => 1).sum = 4 := rfl
      omega)
  have hz : growC room l n e = (m, (p : Int), 0) := by
    unfold growC
    rw [e1, if_pos rfl]
    exact e3
  have hgr : grow7 l room n = (m, (p : Int), 0) := by
    unfold grow7 grown6
    rw [if_pos (right_iff.2 hr), growZ_yes h he, hz, if_pos rfl]
  have hh : h' = max t e := Nat.le_antisymm R.hi R.lo
  refine ⟨m, p, hgr, g1.trans R.grows, ⟨R.right, R.is, he, h.set, fun s hs => ?_, fun c => ?_⟩, by rw [← hh]; exact R.emp, ?_⟩
  · have := of_decide_eq_true (h.ins s hs)
    have e2 : (2 : Int) ^ (e + 1) = 2 ^ e * 2 := Int.pow_succ _ _
    have hp := pow_pos7 e
    unfold insideB
    rw [e2]
    generalize (2 : Int) ^ e = P at *
    exact decide_eq_true (by omega)
  · rw [R.alive c]
    have hq := q7_lt (e + 1) c
    obtain ⟨c', h1, h2, e4⟩ := kid_alive l e n hq c
    show (if q7 e c = 3 - q7 (e + 1) c then Go.Proofs.Ytklccoodfhejbaa.alive l e (kidN l n (q7 (e + 1) c)) c else false) = _
    rw [Bool.eq_iff_iff, List.any_eq_true]
    constructor
    · intro ha
      by_cases hqq : q7 e c = 3 - q7 (e + 1) c
      · rw [if_pos hqq, e4, h.alive c', List.any_eq_true] at ha
        obtain ⟨u, hu, hua⟩ := ha
        obtain ⟨s, hs, rfl⟩ := List.mem_map.1 hu
        obtain ⟨b1, b2⟩ := agree_succ.1 (agree_iff.1 hua)
        exact ⟨_, List.mem_map_of_mem hs, (grow_agree (h.ins s hs) c).2 ⟨hqq, b1.trans h1, b2.trans h2⟩⟩
      · rw [if_neg hqq] at ha
        cases ha
    · rintro ⟨u, hu, hua⟩
      obtain ⟨s, hs, rfl⟩ := List.mem_map.1 hu
      obtain ⟨b1, b2, b3⟩ := (grow_agree (h.ins s hs) c).1 hua
      rw [if_pos b1, e4, h.alive c', List.any_eq_true]
      exact ⟨_, List.mem_map_of_mem hs, agree_iff.2 (agree_succ.2 ⟨b2.trans h1.symm, b3.trans h2.symm⟩)⟩
  · have := R.len
    have hs : ((List.range 4).map fun _ : Nat => 1).sum = 4 := rfl
    omega
end Go.Proofs.Ytklccoodfhejbaa
namespace Go.Proofs.Ytklccoodfhejbaa
set_option maxRecDepth 100000
set_option linter.unusedVariables false
set_option linter.unusedSimpArgs false

/-- a node's kids' kids, row by row -/
def sx (l : List Nd) (n y x : Nat) : Nat := kidN l (kidN l n (y / 2 * 2 + x / 2)) (y % 2 * 2 + x % 2)
/-- the kids of a square at a row and a column -/
def sqK (l : List Nd) (n y x : Nat) : Kd := ((sx l n y x : Nat), (sx l n y (x + 1) : Nat), (sx l n (y + 1) x : Nat), (sx l n (y + 1) (x + 1) : Nat))
theorem kd_sqK (l : List Nd) (n y x : Nat) {j : Nat} (hj : j < 4) : kd (sqK l n y x) j = ((sx l n (y + j / 2) (x + j % 2) : Nat) : Int) := by
  rcases (by omega : j = 0 ∨ j = 1 ∨ j = 2 ∨ j = 3) with rfl | rfl | rfl | rfl <;> rfl
section
variable {l m : List Nd} {room : Int} {e n p : Nat} {S : List (Int × Int)}
theorem sx_is (hr : Right6 l room) (hn : Is l (e + 2) n) {y x : Nat} (hy : y < 4) (hx : x < 4) : Is l e (sx l n y x) := kid_is hr (kid_is hr hn (by omega)) (by omega)
theorem sx_grows (hr : Right6 l room) (hn : Is l (e + 2) n) (g : Grows l m) {y x : Nat} (hy : y < 4) (hx : x < 4) : sx m n y x = sx l n y x := by
  unfold sx
  rw [kidN_grows g hn.lt, kidN_grows g (kid_is hr hn (by omega)).lt]
theorem sqK_grows (hr : Right6 l room) (hn : Is l (e + 2) n) (g : Grows l m) {y x : Nat} (hy : y < 3) (hx : x < 3) : sqK m n y x = sqK l n y x := by
  unfold sqK
  rw [sx_grows hr hn g (by omega) (by omega), sx_grows hr hn g (by omega) (by omega), sx_grows hr hn g (by omega) (by omega), sx_grows hr hn g (by omega) (by omega)]
theorem sq_fit (hr : Right6 l room) (hn : Is l (e + 2) n) (he : e + 2 ≤ 42) {y x : Nat} (hy : y < 3) (hx : x < 3) : Fit4 l (sqK l n y x) := by
  have hall : ∀ j, j < 4 → Is l e (sx l n (y + j / 2) (x + j % 2)) := fun j hj => sx_is hr hn (by omega) (by omega)
  have h0 : (ndAt l (sqK l n y x).1).1 = (e : Int) := by
    show (ndAt l ((sx l n y x : Nat) : Int)).1 = _
    rw [ndAt_nat]
    exact (hall 0 (by decide)).lev
  refine ⟨fun j hj => ?_, by omega⟩
  have hj' := hall j hj
  rw [kd_sqK l n y x hj, h0]
  refine ⟨by omega, by have := hj'.lt; omega, ?_⟩
  rw [ndAt_nat]
  exact hj'.lev
/-- a corner of the nine is a quarter of the node -/
theorem sqK_corner (hr : Right6 l room) (hn : Is l (e + 2) n) {k : Nat} (hk : k < 4) : sqK l n (k / 2 * 2) (k % 2 * 2) = (l.getD (kidN l n k) deadN).2.1 := kd_ext fun j hj => by
  rw [kd_sqK l n _ _ hj, kid_cast hr (kid_is hr hn hk) hj]
  congr 1
  unfold sx
  have e1 : (k / 2 * 2 + j / 2) / 2 * 2 + (k % 2 * 2 + j % 2) / 2 = k := by omega
  have e2 : (k / 2 * 2 + j / 2) % 2 * 2 + (k % 2 * 2 + j % 2) % 2 = j := by omega
  rw [e1, e2]
theorem corner_at (hr : Right6 l room) (hn : Is l (e + 2) n) {k : Nat} (hk : k < 4) : at6 l (sqK l n (k / 2 * 2) (k % 2 * 2)) = some (kidN l n k) := by
  have hi := kid_is hr hn hk
  rw [sqK_corner hr hn hk]
  exact (fits_iff.1 (hr.fits _ (hi.two hr) hi.lt)).first

/-! ### which of a node's cells are alive, by its sixteen -/
theorem div_two (u : Int) (k : Nat) : u / 2 ^ (k + 1) = u / 2 ^ k / 2 := by
  rw [show (2 : Int) ^ (k + 1) = 2 ^ k * 2 from Int.pow_succ .., Int.ediv_ediv_of_nonneg (Int.le_of_lt (pow_pos7 k))]
theorem alive_sx (l : List Nd) (n : Nat) (u : Int × Int) {y x : Nat} (hy : u.2 / 2 ^ e = (y : Int)) (hx : u.1 / 2 ^ e = (x : Int)) (hy4 : y < 4) (hx4 : x < 4) : alive l (e + 2) n u = alive l e (sx l n y x) u := by
  have h1 : q7 (e + 1) u = y / 2 * 2 + x / 2 := by
    unfold q7
    rw [div_two, div_two, hy, hx]
    omega
  have h2 : q7 e u = y % 2 * 2 + x % 2 := by
    unfold q7
    rw [hy, hx]
    omega
  show alive l e (kidN l (kidN l n (q7 (e + 1) u)) (q7 e u)) u = _
  rw [h1, h2]
  rfl
theorem agree_mod (k : Nat) (c : Int × Int) : Agree k c (c.1 % 2 ^ k, c.2 % 2 ^ k) ∧ InSq k (c.1 % 2 ^ k, c.2 % 2 ^ k) := by
  have hp := pow_pos7 k
  have e1 : c.1 % 2 ^ k = c.1 + 2 ^ k * (- (c.1 / 2 ^ k)) := by have := Int.emod_add_mul_ediv c.1 (2 ^ k); rw [Int.mul_neg]; omega
  have e2 : c.2 % 2 ^ k = c.2 + 2 ^ k * (- (c.2 / 2 ^ k)) := by have := Int.emod_add_mul_ediv c.2 (2 ^ k); rw [Int.mul_neg]; omega
  refine ⟨?_, Int.emod_nonneg _ (by omega), Int.emod_lt_of_pos _ hp, Int.emod_nonneg _ (by omega), Int.emod_lt_of_pos _ hp⟩
  rw [e1, e2]
  exact (agree_shift c _ _ k).symm
/-- what is alive need be told within the square alone -/
theorem alive_within {T : List (Int × Int)} {k : Nat} (h : ∀ c, InSq k c → alive m k p c = T.any fun s => agreeB k s c) (c : Int × Int) : alive m k p c = T.any fun s => agreeB k s c := by
  obtain ⟨h1, h2⟩ := agree_mod k c
  rw [alive_agree k p h1, h _ h2]
  congr 1
  funext s
  exact agreeB_right h1.symm
/-- the cells of a set that are in a square about a place, as that one's own -/
def cropL (S : List (Int × Int)) (dx dy : Int) (e : Nat) : List (Int × Int) := (S.map fun c => (c.1 - dx, c.2 - dy)).filter (insideB e)
theorem mem_crop {dx dy : Int} {c : Int × Int} : c ∈ cropL S dx dy e ↔ (c.1 + dx, c.2 + dy) ∈ S ∧ insideB e c = true := by
  unfold cropL
  rw [List.mem_filter, List.mem_map]
  constructor
  · rintro ⟨⟨s, hs, rfl⟩, h⟩
    exact ⟨by simpa using hs, h⟩
  · rintro ⟨h1, h2⟩
    exact ⟨⟨_, h1, Prod.ext (by simp only; omega) (by simp only; omega)⟩, h2⟩
theorem rises_crop (hS : Cel.Rises S) (dx dy : Int) (e : Nat) : Cel.Rises (cropL S dx dy e) := by
  unfold cropL
  refine List.Pairwise.filter _ ?_
  rw [List.pairwise_map]
  refine List.Pairwise.imp ?_ hS
  intro p q hpq
  unfold Cel.lessB at *
  replace hpq := of_decide_eq_true hpq
  exact decide_eq_true (by simp only; omega)
theorem len_crop (S : List (Int × Int)) (dx dy : Int) (e : Nat) : (cropL S dx dy e).length ≤ S.length := by
  unfold cropL
  exact Nat.le_trans (List.length_filter_le _ _) (by simp)
theorem inside_in (he : e ≤ 40) {c : Int × Int} (h : insideB e c = true) : Cel.inB c = true := by
  have h' := of_decide_eq_true h
  have hp : (2 : Int) ^ e ≤ 2 ^ 40 := pow_le7 he
  have e4 : (2 : Int) ^ 40 = 1099511627776 := rfl
  unfold Cel.inB
  exact decide_eq_true (by omega)
theorem crop_right (hS : Cel.rightB S = true) (he : e ≤ 40) (dx dy : Int) : Cel.rightB (cropL S dx dy e) = true := by
  have h3 := (Cel.rightB_iff _).1 hS
  refine (Cel.rightB_iff _).2 ⟨Nat.le_trans (len_crop _ _ _ _) h3.1, fun c hc => inside_in he (mem_crop.1 hc).2, rises_crop h3.2.2 _ _ _⟩
/-- a node whose kids are those of a square within stands for that part of the set -/
theorem Sq.part (h : Sq l room (e + 1) n S) (g : Grows l m) (hm : Right6 m room) (hp : Is m (e + 1) p) {y x : Nat} (hy : y < 3) (hx : x < 3) (hk : (m.getD p deadN).2.1 = sqK l n y x) :
    Sq m room e p (cropL S (((x : Int) - 1) * 2 ^ e) (((y : Int) - 1) * 2 ^ e) e) := by
  have hr := h.right
  refine ⟨hm, hp, by have := h.low; omega, crop_right h.set (by have := h.low; omega) _ _, fun s hs => (mem_crop.1 hs).2, alive_within fun c hc => ?_⟩
  have hP := pow_pos7 e
  have e2 : (2 : Int) ^ (e + 1) = 2 ^ e * 2 := Int.pow_succ _ _
  obtain ⟨c1, c2, c3, c4⟩ := hc
  rw [e2] at c2 c4
  have hcb : ∀ z : Int, 0 ≤ z → z < 2 ^ e * 2 → z / 2 ^ e = 0 ∨ z / 2 ^ e = 1 := fun z h0 h1 => by
    by_cases hz : z < 2 ^ e
    · exact .inl (div_zero h0 hz)
    · exact .inr (div_one hP (by omega) h1)
  obtain ⟨a, ha, ha2⟩ : ∃ a : Nat, c.1 / 2 ^ e = (a : Int) ∧ a < 2 := by
    rcases hcb c.1 c1 c2 with h | h
    · exact ⟨0, h, by decide⟩
    · exact ⟨1, h, by decide⟩
  obtain ⟨b, hb, hb2⟩ : ∃ b : Nat, c.2 / 2 ^ e = (b : Int) ∧ b < 2 := by
    rcases hcb c.2 c3 c4 with h | h
    · exact ⟨0, h, by decide⟩
    · exact ⟨1, h, by decide⟩
  have hq : q7 e c = b * 2 + a := by unfold q7; rw [ha, hb]; omega
  have hkid : kidN m p (q7 e c) = sx l n (y + b) (x + a) := by
    unfold kidN
    rw [hk, kd_sqK l n y x (q7_lt e c), hq, Int.toNat_natCast, show (b * 2 + a) / 2 = b by omega, show (b * 2 + a) % 2 = a by omega]
  obtain ⟨u, hu⟩ : ∃ u : Int × Int, u = (c.1 + 2 ^ e * (x : Int), c.2 + 2 ^ e * (y : Int)) := ⟨_, rfl⟩
  have hu1 : u.1 / 2 ^ e = ((x + a : Nat) : Int) := by rw [hu]; simp only; rw [Int.add_mul_ediv_left _ _ (by omega), ha]; omega
  have hu2 : u.2 / 2 ^ e = ((y + b : Nat) : Int) := by rw [hu]; simp only; rw [Int.add_mul_ediv_left _ _ (by omega), hb]; omega
  have hag : Agree e u c := by rw [hu]; exact agree_shift c _ _ e
  have hal : Go.Proofs.Ytklccoodfhejbaa.alive m (e + 1) p c = Go.Proofs.Ytklccoodfhejbaa.alive l (e + 1 + 1) n u := by
    show Go.Proofs.Ytklccoodfhejbaa.alive m e (kidN m p (q7 e c)) c = _
    rw [hkid, alive_grows hr g c e _ (sx_is hr h.is (by omega) (by omega)), ← alive_agree e _ hag]
    exact (alive_sx l n u hu2 hu1 (by omega) (by omega)).symm
  rw [hal, h.alive u, Bool.eq_iff_iff, List.any_eq_true, List.any_eq_true]
  have e4 : (2 : Int) ^ (e + 1 + 1) = 2 ^ e * 4 := by rw [Int.pow_succ, e2]; omega
  have hmulx : (2 : Int) ^ e * (x : Int) ≤ 2 ^ e * 2 := Int.mul_le_mul_of_nonneg_left (by omega) (by omega)
  have hmuly : (2 : Int) ^ e * (y : Int) ≤ 2 ^ e * 2 := Int.mul_le_mul_of_nonneg_left (by omega) (by omega)
  have hmx0 : 0 ≤ (2 : Int) ^ e * (x : Int) := Int.mul_nonneg (by omega) (by omega)
  have hmy0 : 0 ≤ (2 : Int) ^ e * (y : Int) := Int.mul_nonneg (by omega) (by omega)
  have husq : InSq (e + 1 + 1) u := by
    rw [hu]
    unfold InSq
    rw [e4]
    simp only
    omega
  have hdx : ((x : Int) - 1) * 2 ^ e = 2 ^ e * (x : Int) - 2 ^ e := by rw [Int.sub_mul, Int.mul_comm]; omega
  have hdy : ((y : Int) - 1) * 2 ^ e = 2 ^ e * (y : Int) - 2 ^ e := by rw [Int.sub_mul, Int.mul_comm]; omega
  rw [hdx, hdy]
  have hcin : insideB e (c.1 - 2 ^ e, c.2 - 2 ^ e) = true := by unfold insideB; exact decide_eq_true (by simp only; omega)
  have hcsq : InSq (e + 1) c := by unfold InSq; rw [e2]; exact ⟨c1, c2, c3, c4⟩
  constructor
  · rintro ⟨t, ht, hta⟩
    obtain ⟨s, hs, rfl⟩ := List.mem_map.1 ht
    have heq := agree_ext (inside_sq (h.ins s hs)) husq (agree_iff.1 hta)
    rw [hu] at heq
    unfold inwardC at heq
    rw [e2] at heq
    injection heq with q1 q2
    refine ⟨inwardC e (c.1 - 2 ^ e, c.2 - 2 ^ e), List.mem_map_of_mem (mem_crop.2 ⟨?_, hcin⟩), ?_⟩
    · have : (c.1 - 2 ^ e + (2 ^ e * (x : Int) - 2 ^ e), c.2 - 2 ^ e + (2 ^ e * (y : Int) - 2 ^ e)) = s := Prod.ext (by simp only; omega) (by simp only; omega)
      simp only
      rw [this]
      exact hs
    · have : inwardC e (c.1 - 2 ^ e, c.2 - 2 ^ e) = c := by unfold inwardC; exact Prod.ext (by simp only; omega) (by simp only; omega)
      rw [this]
      exact agree_iff.2 (Agree.refl _ _)
  · rintro ⟨t, ht, hta⟩
    obtain ⟨s, hs, rfl⟩ := List.mem_map.1 ht
    obtain ⟨hs1, hs2⟩ := mem_crop.1 hs
    have heq := agree_ext (inside_sq hs2) hcsq (agree_iff.1 hta)
    have q1 : s.1 + 2 ^ e = c.1 := by rw [← heq]; rfl
    have q2 : s.2 + 2 ^ e = c.2 := by rw [← heq]; rfl
    refine ⟨_, List.mem_map_of_mem hs1, ?_⟩
    have : inwardC (e + 1) (s.1 + (2 ^ e * (x : Int) - 2 ^ e), s.2 + (2 ^ e * (y : Int) - 2 ^ e)) = u := by
      rw [hu]
      unfold inwardC
      rw [e2]
      exact Prod.ext (by simp only; omega) (by simp only; omega)
    rw [this]
    exact agree_iff.2 (Agree.refl _ _)
end

/-! ### the nine -/
/-- the first of the nine are made; the first error ends it -/
def nineTo (room : Int) (l : List Nd) (n : Nat) : Nat → List Nd × (Nat → Int) × Int
  | 0 => (l, fun _ => 0, 0)
  | i + 1 => if (nineTo room l n i).2.2 = 0 then ((put6 (nineTo room l n i).1 room (sqK l n (i / 3) (i % 3))).1, fun j => if j = i then (put6 (nineTo room l n i).1 room (sqK l n (i / 3) (i % 3))).2.1 else (nineTo room l n i).2.1 j, (put6 (nineTo room l n i).1 room (sqK l n (i / 3) (i % 3))).2.2) else nineTo room l n i
theorem nineTo_right {room : Int} {l : List Nd} {n : Nat} (h : Right6 l room) : ∀ i, Right6 (nineTo room l n i).1 room
  | 0 => h
  | i + 1 => by
    have ih := nineTo_right h (n := n) i
    unfold nineTo
    split
    · exact put_right ih _
    · exact ih
theorem nineTo_stop {room : Int} {l : List Nd} {n i : Nat} (h : ¬ (nineTo room l n i).2.2 = 0) : ∀ d, nineTo room l n (i + d) = nineTo room l n i
  | 0 => rfl
  | d + 1 => by
    have ih := nineTo_stop h d
    show (if (nineTo room l n (i + d)).2.2 = 0 then _ else nineTo room l n (i + d)) = _
    rw [ih, if_neg h]
/-- What is known of the first of the nine. -/
structure NineAt (room : Int) (l : List Nd) (e n i : Nat) (m : List Nd) (p : Nat → Nat) : Prop where
  list : (nineTo room l n i).1 = m
  err : (nineTo room l n i).2.2 = 0
  at_ : ∀ j, j < i → (nineTo room l n i).2.1 j = (p j : Int)
  grows : Grows l m
  right : Right6 m room
  len : m.length ≤ l.length + i
  is : ∀ j, j < i → Is m (e + 1) (p j)
  kids : ∀ j, j < i → at6 m (sqK l n (j / 3) (j % 3)) = some (p j)
theorem sq_lev {l : List Nd} {room : Int} {e n : Nat} (hr : Right6 l room) (hn : Is l (e + 2) n) {m : List Nd} (g : Grows l m) {y x : Nat} (hy : y < 3) (hx : x < 3) : (ndAt m (sqK l n y x).1).1 = (e : Int) := by
  show (ndAt m ((sx l n y x : Nat) : Int)).1 = _
  rw [ndAt_nat]
  exact ((sx_is hr hn (by omega) (by omega)).grows g).lev
theorem NineAt.kid {room : Int} {l m : List Nd} {e n i : Nat} {p : Nat → Nat} (h : NineAt room l e n i m p) {j : Nat} (hj : j < i) : (m.getD (p j) deadN).2.1 = sqK l n (j / 3) (j % 3) := (at_some (h.kids j hj)).2.2.1
/-- made again, in a store that grew -/
theorem NineAt.again {room : Int} {l m b : List Nd} {e n : Nat} {p : Nat → Nat} (hr : Right6 l room) (hn : Is l (e + 2) n) (he : e + 2 ≤ 42) (h : NineAt room l e n 9 m p) (g : Grows m b) {y x : Nat} (hy : y < 3) (hx : x < 3) : put6 b room (sqK b n y x) = (b, ((p (y * 3 + x) : Nat) : Int), 0) := by
  have g' := h.grows.trans g
  have hfit := g'.fit4 (sq_fit hr hn he hy hx)
  rw [sqK_grows hr hn g' hy hx]
  refine put_again hfit ?_
  have := h.kids (y * 3 + x) (by omega)
  rw [show (y * 3 + x) / 3 = y by omega, show (y * 3 + x) % 3 = x by omega] at this
  exact g.at_ this
end Go.Proofs.Ytklccoodfhejbaa
namespace Go.Proofs.Ytklccoodfhejbaa.Cel

/-- whether p is a neighbour of c -/
def nbB (c p : Int × Int) : Bool := decide (-1 ≤ c.1 - p.1 ∧ c.1 - p.1 ≤ 1 ∧ -1 ≤ c.2 - p.2 ∧ c.2 - p.2 ≤ 1 ∧ c ≠ p)
def nbr (l : List (Int × Int)) (p : Int × Int) : Nat := l.countP fun c => nbB c p
def livesB (a : Bool) (n : Int) : Bool := decide (n = 3) || (a && decide (n = 2))
/-- alive behind a generation -/
def aliveB (l : List (Int × Int)) (p : Int × Int) : Bool := livesB (decide (p ∈ l)) (nbr l p)
/-- a cell and its neighbours, row by row -/
def nine (c : Int × Int) : List (Int × Int) :=
  [(c.1 - 1, c.2 - 1), (c.1, c.2 - 1), (c.1 + 1, c.2 - 1), (c.1 - 1, c.2), (c.1, c.2), (c.1 + 1, c.2), (c.1 - 1, c.2 + 1), (c.1, c.2 + 1), (c.1 + 1, c.2 + 1)]
def cand (l : List (Int × Int)) : List (Int × Int) := l.flatMap nine
def nextL (l : List (Int × Int)) : List (Int × Int) := setL ((cand l).filter fun p => aliveB l p)

theorem mem_nine (c p : Int × Int) : p ∈ nine c ↔ -1 ≤ c.1 - p.1 ∧ c.1 - p.1 ≤ 1 ∧ -1 ≤ c.2 - p.2 ∧ c.2 - p.2 ≤ 1 := by
  obtain ⟨a, b⟩ := c
  obtain ⟨x, y⟩ := p
  simp only [nine, List.mem_cons, List.not_mem_nil, or_false, Prod.mk.injEq]
  omega
theorem mem_cand (l : List (Int × Int)) (p : Int × Int) : p ∈ cand l ↔ ∃ c ∈ l, -1 ≤ c.1 - p.1 ∧ c.1 - p.1 ≤ 1 ∧ -1 ≤ c.2 - p.2 ∧ c.2 - p.2 ≤ 1 := by
  unfold cand
  rw [List.mem_flatMap]
  constructor
  · rintro ⟨c, hc, h⟩; exact ⟨c, hc, (mem_nine c p).1 h⟩
  · rintro ⟨c, hc, h⟩; exact ⟨c, hc, (mem_nine c p).2 h⟩
theorem alive_cand {l : List (Int × Int)} {p : Int × Int} (h : aliveB l p = true) : p ∈ cand l := by
  rw [mem_cand]
  by_cases hp : p ∈ l
  · exact ⟨p, hp, by omega⟩
  · have h3 : nbr l p = 3 := by
      simp only [aliveB, livesB, hp, decide_false, Bool.false_and, Bool.or_false, decide_eq_true_eq] at h
      omega
    have hpos : 0 < l.countP fun c => nbB c p := by unfold nbr at h3; omega
    obtain ⟨c, hc, hn⟩ := List.countP_pos_iff.1 hpos
    simp only [nbB, decide_eq_true_eq] at hn
    exact ⟨c, hc, by omega⟩
theorem mem_nextL (l : List (Int × Int)) (p : Int × Int) : p ∈ nextL l ↔ aliveB l p = true := by
  unfold nextL
  rw [mem_setL, List.mem_filter]
  exact ⟨fun h => h.2, fun h => ⟨alive_cand h, h⟩⟩
theorem rises_nextL (l : List (Int × Int)) : Rises (nextL l) := rises_setL _

/-- what Of answers: an error's number, and a list -/
def ofR (l : List (Int × Int)) : Int × List (Int × Int) :=
  if (l.any fun p => !inB p) = true then (2, []) else if 2000 < (setL l).length then (3, []) else (0, setL l)
/-! ### where a generation reaches -/

/-- a box that holds a list -/
def InBox (a b c d : Int) (l : List (Int × Int)) : Prop := ∀ p ∈ l, a ≤ p.1 ∧ p.1 ≤ b ∧ c ≤ p.2 ∧ p.2 ≤ d
theorem length_le_of_subset {α : Type} [DecidableEq α] : ∀ (l m : List α), l.Nodup → (∀ y ∈ l, y ∈ m) → l.length ≤ m.length
  | [], _, _, _ => Nat.zero_le _
  | x :: l, m, hn, h => by
    obtain ⟨h1, h2⟩ := List.nodup_cons.1 hn
    have hx : x ∈ m := h x (by simp)
    have := length_le_of_subset l (m.erase x) h2 fun y hy => by
      have hne : y ≠ x := fun e => h1 (e ▸ hy)
      exact (List.mem_erase_of_ne hne).2 (h y (by simp [hy]))
    rw [List.length_erase_of_mem hx] at this
    have hpos := List.length_pos_of_mem hx
    simp only [List.length_cons]
    omega
theorem rises_nodup {l : List (Int × Int)} (h : Rises l) : l.Nodup := by
  refine List.Pairwise.imp ?_ h
  intro p q hpq e
  rw [e, lessB_irrefl] at hpq
  cases hpq

/-- all cells of a box -/
def boxL (a c : Int) (w h : Nat) : List (Int × Int) := (List.range h).flatMap fun (j : Nat) => (List.range w).map fun (i : Nat) => (a + (i : Int), c + (j : Int))
theorem mem_boxL {a c : Int} {w h : Nat} {p : Int × Int} (h1 : a ≤ p.1 ∧ p.1 < a + w ∧ c ≤ p.2 ∧ p.2 < c + h) : p ∈ boxL a c w h := by
  unfold boxL
  rw [List.mem_flatMap]
  refine ⟨(p.2 - c).toNat, List.mem_range.2 (by omega), List.mem_map.2 ⟨(p.1 - a).toNat, List.mem_range.2 (by omega), ?_⟩⟩
  obtain ⟨x, y⟩ := p
  simp only at h1
  simp only [Prod.mk.injEq]
  omega
theorem length_boxL (a c : Int) (w h : Nat) : (boxL a c w h).length = h * w := by
  unfold boxL
  rw [List.length_flatMap]
  simp only [List.length_map, List.length_range]
  induction h with
  | zero => simp
  | succ h ih => rw [List.range_succ, List.map_append, List.sum_append, ih]; simp [Nat.succ_mul]
theorem box_len {a b c d : Int} {l : List (Int × Int)} (h : InBox a b c d l) (hs : Rises l) (w t : Nat) (hw : b < a + w) (ht : d < c + t) : l.length ≤ t * w := by
  rw [← length_boxL a c w t]
  refine length_le_of_subset _ _ (rises_nodup hs) fun p hp => mem_boxL ?_
  have := h p hp
  omega

/-- generations of lists, without bounds -/
def iterL : Nat → List (Int × Int) → List (Int × Int)
  | 0, l => l
  | n + 1, l => iterL n (nextL l)
end Go.Proofs.Ytklccoodfhejbaa.Cel
