/-
  The library's sort at places, by the shelf's contract: what it leaves is a permutation that rises, and nothing below the row has turned.
-/
import Derived.Test.YtafoleafhkadiaaCe
import Derived.Test.YtafoleafhkadiaaSh
import Derived.Shelf.SlSortCmp.WholeK
namespace Go.Proofs.Ytafoleafhkadiaa
open Go.RowKit Go.Sort Go.Shelf

def Grew (w w' : World) : Prop := ∃ q os, w' = grow (w.drewN q) os
theorem Grew.refl (w : World) : Grew w w := ⟨0, #[], by rw [grow_empty]; rfl⟩
theorem Grew.alloc {w w' : World} (h : Grew w w') (o : Obj) : Grew w (w'.alloc o) := by
  obtain ⟨q, os, rfl⟩ := h
  exact ⟨q, os ++ #[o], by rw [alloc_eq_grow, grow_grow]⟩
theorem Grew.trans {w w' w'' : World} (h : Grew w w') (k : Grew w' w'') : Grew w w'' := by
  obtain ⟨q, os, rfl⟩ := h
  obtain ⟨q', os', rfl⟩ := k
  exact ⟨q + q', os ++ os', by show grow (grow ((w.drewN q).drewN q') os) os' = _; rw [grow_grow, World.drewN_drewN]⟩

set_option maxHeartbeats 400000 in
theorem compare_grown (p q : Int × Int) (w : World) :
    Calls Try.prog 42 #[.agg #[.int .i64 p.1, .int .i64 p.2], .agg #[.int .i64 q.1, .int .i64 q.2]] w fun e w' => e = .returned (.int .i64 (cmpP p q)) ∧ Grew w w' := by
  obtain ⟨a, b⟩ := p
  obtain ⟨c, d⟩ := q
  simp only [cmpP]
  have hB : Grew w ((w.alloc (.cells #[.int .i64 a, .int .i64 b] 62)).alloc (.cells #[.int .i64 c, .int .i64 d] 62)) := ((Grew.refl _).alloc _).alloc _
  have k0 := cell_grown (w := (w.alloc (.cells #[.int .i64 a, .int .i64 b] 62)).alloc (.cells #[.int .i64 c, .int .i64 d] 62)) (a := ⟨w.heap.size, 0, none⟩) (v := .int .i64 a) (by simp; omega) (by simp)
  have k1 := cell_grown (w := (w.alloc (.cells #[.int .i64 a, .int .i64 b] 62)).alloc (.cells #[.int .i64 c, .int .i64 d] 62)) (a := ⟨w.heap.size, 1, none⟩) (v := .int .i64 b) (by simp; omega) (by simp)
  have k2 := cell_grown (w := (w.alloc (.cells #[.int .i64 a, .int .i64 b] 62)).alloc (.cells #[.int .i64 c, .int .i64 d] 62)) (a := ⟨w.heap.size + 1, 0, none⟩) (v := .int .i64 c) (by simp) (by simp)
  have k3 := cell_grown (w := (w.alloc (.cells #[.int .i64 a, .int .i64 b] 62)).alloc (.cells #[.int .i64 c, .int .i64 d] 62)) (a := ⟨w.heap.size + 1, 1, none⟩) (v := .int .i64 d) (by simp) (by simp)
  go_enter Try.func42, Try.ntmps42
  go_wp2
  generalize (w.alloc (.cells #[.int .i64 a, .int .i64 b] 62)).alloc (.cells #[.int .i64 c, .int .i64 d] 62) = W at *
  refine Qt.region_tail (C := fun w' => ∃ p : GrownBy, w' = grow (W.drewN p.n) p.os) 10 (by kernel_rfl) (by kernel_rfl) ⟨⟨1, #[]⟩, by rw [grow_empty]; rfl⟩ ?_
  simp only [List.take_succ_cons, List.take_zero, List.drop_succ_cons, List.drop_zero]
  repeat (go_big_quiet_step (first | (go_at_call 59; exact Calls.grown_of ((cmp_any _ _ _).mono fun _ _ ⟨he, hw⟩ => ⟨he, hw ▸ Grew.refl _⟩))))
  refine wpQuiet_nil ?_
  rintro w1 ⟨p1, hw1⟩
  have hb1 : Grew W w1 := ⟨p1.n, p1.os, hw1⟩
  clear hw1
  go_wp2_with fail
  refine (or_any (cmpI b d) (cmpI a c) _ w1.heap.size (by simp) (by simp)).mono ?_
  rintro e w' ⟨rfl, rfl⟩
  go_wp2
  go_ret
  exact ⟨rfl, (hB.trans hb1).alloc _⟩

def encP (x : Int × Int) : List Value := [.int .i64 x.1, .int .i64 x.2]

theorem ltOf_cmpP (x y : Int × Int) : ltOf cmpP x y = lessB x y := by
  unfold ltOf
  rw [Bool.eq_iff_iff, decide_eq_true_eq, cmpP_neg]
theorem swoP : SWO (ltOf cmpP) where
  irrefl x := by rw [ltOf_cmpP]; exact lessB_irrefl x
  trans x y z h1 h2 := by rw [ltOf_cmpP] at *; exact lessB_trans h1 h2
  ntrans x y z h1 h2 := by
    rw [ltOf_cmpP, Bool.eq_false_iff, ne_eq, lessB_iff] at *
    omega

theorem fl_flat (l : List (Int × Int)) (t : Nat) (ht : t < l.length * 2) : (flatK encP 2 l.toArray)[t]! = (fl l)[t]?.getD default := by
  rw [get_flatK _ _ _ _ (by simpa using ht)]
  have hf := fl_get l (t / 2) (by omega)
  have e : (l.toArray)[t / 2]! = l.getD (t / 2) (0, 0) := by
    have h : t / 2 < l.length := by omega
    rw [List.getD_eq_getElem?_getD, List.getElem?_eq_getElem h]
    simp [h]
  rw [e]
  have h2 : t = t / 2 * 2 ∨ t = t / 2 * 2 + 1 := by omega
  rcases h2 with h | h
  · have hm : t % 2 = 0 := by omega
    rw [hm]
    conv => rhs; rw [h, hf.1]
    rfl
  · have hm : t % 2 = 1 := by omega
    rw [hm]
    conv => rhs; rw [h, hf.2]
    rfl

theorem Row.holdsK {w : World} {B T g n cap : Nat} {l : List (Int × Int)} (h : Row w B T g n cap l) : HoldsK encP 2 w g 0 l.toArray := by
  intro j hj
  have hj' : j < l.length * 2 := by simpa using hj
  have hjn : j < n * 2 := by rw [← h.1]; exact hj'
  rw [Nat.zero_add]
  refine ⟨?_, h.free j⟩
  rw [World.ownsRow.cellAt h.2 j hjn]
  show _ = some ((flatK encP 2 l.toArray)[j]!)
  rw [fl_flat l j hj', List.getElem?_eq_getElem (by rw [length_fl]; exact hj')]
  rfl

/-- The row behind the sort. -/
theorem Row.sorted {w : World} {B T g n cap : Nat} {l l' : List (Int × Int)} (h : Row w B T g n cap l) (hl : l'.length = l.length) (m : Nat) (os : Array Obj) :
    Row (sortWorldK encP 2 w g 0 m l'.toArray os) B T g n cap l' ∧ RowKit.Below B w (sortWorldK encP 2 w g 0 m l'.toArray os) := by
  obtain ⟨hn, hlen, h' | ⟨g', cap', cur, hv, hB, hg, hnc, hcm, hcs, htake⟩⟩ := h
  · simp at h'
  · simp only [Value.slice.injEq, Option.some.injEq, Addr.mk.injEq, and_true, true_and] at hv
    obtain ⟨rfl, rfl⟩ := hv
    have hlt : g < w.heap.size := by
      rcases Nat.lt_or_ge g w.heap.size with h | h
      · exact h
      · rw [Array.getElem?_eq_none h] at hg; cases hg
    have hheap : (sortWorldK encP 2 w g 0 m l'.toArray os).heap[g]? = some (.cells (putCells id 0 (flatK encP 2 l'.toArray) cur) T (0, 0)) := by
      show ((w.heap.modify g _) ++ os)[g]? = _
      rw [Array.getElem?_append_left (by simpa using hlt), Array.getElem?_modify, if_pos rfl, hg]
      rfl
    refine ⟨⟨by rw [hl, hn], by rw [length_fl, hl, hn], .inr ⟨g, cap, _, rfl, hB, hheap, hnc, hcm, by simp [putCells, hcs], ?_⟩⟩, ⟨rfl, rfl, rfl, ?_, fun k hk => ?_⟩⟩
    · apply List.ext_getElem?
      intro j
      rw [List.getElem?_take]
      by_cases hj : j < n * 2
      · have hj' : j < l'.length * 2 := by omega
        have hjc : j < cur.size := by rw [hcs]; have := Nat.mul_le_mul_right 2 hnc; omega
        rw [if_pos hj, Array.getElem?_toList]
        have e := fl_flat l' j hj'
        rw [List.getElem?_eq_getElem (by rw [length_fl]; exact hj')] at e
        rw [List.getElem?_eq_getElem (by rw [length_fl]; exact hj')]
        simp only [putCells, Array.getElem?_mapIdx, Array.getElem?_eq_getElem hjc, Option.map_some, Nat.zero_le, true_and, Nat.zero_add, size_flatK, List.size_toArray, hj', if_true, Nat.sub_zero, id]
        rw [e]
        rfl
      · rw [if_neg hj, List.getElem?_eq_none (by rw [length_fl]; omega)]
    · show w.heap.size ≤ ((w.heap.modify g _) ++ os).size
      simp
    · show ((w.heap.modify g _) ++ os)[k]? = _
      have hkg : ¬ g = k := by omega
      rw [Array.getElem?_append_left (by simp; omega), Array.getElem?_modify, if_neg hkg]

theorem sortFunc_any (g : Nat) (l : List (Int × Int)) (cap : Nat) (w : World) {B : Nat} (hR : Row w B 62 g l.length cap l) (hl : l.length ≤ 1000000) :
    Calls Try.prog 41 #[.slice (some ⟨g, 0, none⟩) l.length cap, .func (.func 42) #[] #[]] w fun e w' => e = .returned (.tuple #[]) ∧
      ∃ l' : List (Int × Int), l'.Perm l ∧ (l'.Pairwise fun p q => lessB q p = false) ∧ Row w' B 62 g l.length cap l' ∧ RowKit.Below B w w' := by
  have eg : ∀ args w, (callFunc 42 args).run Try.prog w = .ok (.enter 42 args) w := enters_of Try.func42 (by kernel_rfl) rfl
  have hc : CmpLays Try.prog 42 #[] encP 2 cmpP g 0 l.toArray.size w := fun _ _ _ _ x y => compare_grown x y _
  have hcon := AnyQ.slices_SortFunc Try.sortP 2 Try.isAgg62 Try.sizeOf62 encP (fun _ => rfl) (fun x v hv => by simp [encP] at hv; rcases hv with rfl | rfl <;> rfl) cmpP swoP 42 #[] g 0 cap l.toArray w eg hc hR.holdsK hR.lt.2 (by simp; omega)
  change Calls Try.prog 41 _ _ _ at hcon
  refine hcon.mono ?_
  rintro e w' ⟨he, d', m, os, hp, hs, rfl⟩
  obtain ⟨hsz, _, hperm⟩ := hp
  have hsz' : d'.size = l.length := by simpa using hsz
  have e0 : (d'.extract 0 l.toArray.size) = d' := by rw [← hsz]; simp
  have e1 : (l.toArray.extract 0 l.toArray.size) = l.toArray := by simp
  rw [e0, e1] at hperm
  have hr := hR.sorted (l' := d'.toList) (by simpa using hsz') m os
  rw [Array.toArray_toList] at hr
  refine ⟨he, d'.toList, by simpa using hperm, ?_, hr⟩
  rw [List.pairwise_iff_getElem]
  intro i j hi hj hij
  have hj2 : j < d'.size := by simpa using hj
  have hi2 : i < d'.size := by simpa using hi
  have h1 := hs i j (Nat.zero_le _) hij (by rw [← hsz]; exact hj2)
  rw [ltOf_cmpP, getElem!_pos d' j hj2, getElem!_pos d' i hi2] at h1
  simpa using h1

end Go.Proofs.Ytafoleafhkadiaa
