/-
  Texts that the claims of this seat share, part 4.
-/
import Derived.Test.YtacpncmdgkljdaaGreatDoorB03
import Derived.Laws.ResultCell
import Derived.BigRegion
import Derived.Deep.RegionWith
set_option linter.unusedVariables false
set_option linter.unusedSimpArgs false
namespace Go.Proofs.YtacpncmdgkljdaaGreatDoor.Cel
open Go.RowKit Go.Sort

/-- clear of places behind the row: the row stays. -/
theorem clear_behind {P : Program} {w : World} {B T t g n cap k c : Nat} {l : List (Int × Int)} (h : Row w B T g k cap l) (hk : k < n) (hn : n ≤ cap) (ht : P.underlying t = some (.slice T)) (hv : ∀ w, (zeroValue T).run P w = .ok (.agg #[.int .i64 0, .int .i64 0]) w) :
    ∃ w', (∀ ty, (Builtin.clear_ #[t] ty #[.slice (some ⟨g, k * 2, none⟩) (n - k) c]).run P w = .ok (.tuple #[]) w') ∧ Row w' B T g k cap l ∧ Below B w w' := by
  obtain ⟨hl, hlen, h' | ⟨g', cap', cur, hvv, hB, hg, hnc, hcm, hcs, htake⟩⟩ := h
  · simp at h'
  · simp only [Value.slice.injEq, Option.some.injEq, Addr.mk.injEq, and_true, true_and] at hvv
    obtain ⟨rfl, rfl⟩ := hvv
    obtain ⟨Z, hZ⟩ : ∃ Z, Z = (Builtin.zeroCells #[.int .i64 0, .int .i64 0] (n - k)).toList := ⟨_, rfl⟩
    have hz1 : ∀ u ∈ Z, u.oneCell' = true := by
      intro u hu
      rw [hZ] at hu
      simp only [Builtin.zeroCells, Array.toList_map, List.mem_map] at hu
      obtain ⟨i, _, rfl⟩ := hu
      have : i % 2 = 0 ∨ i % 2 = 1 := by omega
      rcases this with h | h <;> simp [h] <;> rfl
    have hzl : Z.length = (n - k) * 2 := by rw [hZ]; simp [Builtin.zeroCells]
    have hle : k * 2 + 0 + (n - k) * 2 ≤ cur.size := by
      rw [hcs]
      have := Nat.mul_le_mul_right 2 hn
      omega
    have hst := run_storeCells_at P g (k * 2) T Z 0 cur w hg (by rw [hzl]; exact hle) hz1
    rw [hzl, Nat.add_zero] at hst
    refine ⟨w.setRow g (cur.toList.take (k * 2) ++ Z ++ cur.toList.drop (k * 2 + (n - k) * 2)).toArray, fun ty => ?_, ?_, ?_⟩
    · obtain ⟨m, hm⟩ : ∃ m, n - k = m + 1 := ⟨n - k - 1, by omega⟩
      rw [hm] at hst hZ ⊢
      simp only [Builtin.clear_]
      simp [run_underlying ht, hv, Value.cells, ← hZ, hst]
    · refine ⟨hl, hlen, .inr ⟨g, cap, _, rfl, hB, setRow_heap w g cur _ T _ hg, by omega, hcm, ?_, ?_⟩⟩
      · simp [hzl, hcs]
        have := Nat.mul_le_mul_right 2 hn
        omega
      · have hkc : k * 2 ≤ cur.toList.length := by rw [Array.length_toList, hcs]; have := Nat.mul_le_mul_right 2 hnc; omega
        show List.take (k * 2) (List.take (k * 2) cur.toList ++ Z ++ _) = _
        rw [List.append_assoc, List.take_append_of_le_length (by rw [List.length_take]; omega), List.take_take, Nat.min_self]
        exact htake
    · exact ⟨rfl, rfl, rfl, by simp, fun j hj => setRow_other w g j _ (by omega)⟩

theorem fl_cell1 (l : List (Int × Int)) : ∀ u ∈ fl l, u.oneCell' = true := by
  intro u hu
  simp only [fl, List.mem_flatMap] at hu
  obtain ⟨c, _, hu⟩ := hu
  simp at hu
  rcases hu with rfl | rfl <;> rfl
theorem fl_drop (l : List (Int × Int)) (k : Nat) : fl (l.drop k) = (fl l).drop (k * 2) := by
  have h1 : fl l = fl (l.take k) ++ fl (l.drop k) := by rw [← fl_append, List.take_append_drop]
  by_cases hk : k ≤ l.length
  · conv => rhs; rw [h1]
    have h2 : (fl (l.take k)).drop (k * 2) = [] := List.drop_eq_nil_of_le (by rw [length_fl, List.length_take]; omega)
    rw [List.drop_append_of_le_length (by rw [length_fl, List.length_take]; omega), h2, List.nil_append]
  · rw [List.drop_eq_nil_of_le (by omega), List.drop_eq_nil_of_le (by rw [length_fl]; omega)]; rfl

/-- The cells from place k on, where Go's 's[k:]' looks for them. -/
theorem Row.tail {w : World} {B T g n cap : Nat} {l : List (Int × Int)} (h : Row w B T g n cap l) (k : Nat) : ∀ j u, (fl (l.drop k))[j]? = some u → w.cell? ((⟨g, k * 2, none⟩ : Addr).add j) = some u := by
  intro j u hu
  rw [fl_drop, List.getElem?_drop] at hu
  have hj : k * 2 + j < n * 2 := by
    have := (List.getElem?_eq_some_iff.1 hu).1
    rwa [length_fl, h.1] at this
  rw [Addr.add_lit, World.ownsRow.cellAt h.2 _ hj]
  exact hu

end Go.Proofs.YtacpncmdgkljdaaGreatDoor.Cel
namespace Go.Proofs.YtacpncmdgkljdaaGreatDoor.Cel
open Go.RowKit Go.Sort

theorem stands_found {l : List (Int × Int)} {t : Int × Int} {i : Nat} (hs : Rises l) (hi : i < l.length) (he : l.getD i (0, 0) = t) : l.take i ++ l.drop (i + 1) = outL t l := by
  have hsplit : l = l.take i ++ t :: l.drop (i + 1) := by
    conv => lhs; rw [← List.take_append_drop i l, drop_cons hi, he]
  have hp : Rises (l.take i ++ t :: l.drop (i + 1)) := by rw [← hsplit]; exact hs
  have hp2 := List.pairwise_append.1 hp
  conv => rhs; rw [outL, hsplit]
  rw [List.filter_append, List.filter_cons_of_neg (by simp)]
  congr 1
  · rw [List.filter_eq_self.2]
    intro y hy
    have := hp2.2.2 y hy t (List.mem_cons_self ..)
    simpa using lessB_ne this
  · rw [List.filter_eq_self.2]
    intro y hy
    have := (List.pairwise_cons.1 hp2.2.1).1 y hy
    simpa using (lessB_ne this).symm
theorem stands_not {l : List (Int × Int)} {t : Int × Int} {i : Nat} (hs : Rises l) (h : Stands l t i) (hn : ¬ (i < l.length ∧ l.getD i (0, 0) = t)) : t ∉ l := by
  intro ht
  obtain ⟨j, hj, he⟩ := List.getElem_of_mem ht
  have he' : l.getD j (0, 0) = t := by rw [List.getD_eq_getElem?_getD, List.getElem?_eq_getElem hj]; exact he
  by_cases hji : j < i
  · have := h.low j hji
    rw [he', lessB_irrefl] at this
    cases this
  · by_cases hij : j = i
    · subst hij; exact hn ⟨hj, he'⟩
    · have h1 := rises_get hs (i := i) (j := j) (by omega) hj
      rw [he'] at h1
      rw [h.high i (Nat.le_refl _) (by omega)] at h1
      cases h1
theorem outL_not {l : List (Int × Int)} {t : Int × Int} (h : t ∉ l) : outL t l = l := by
  rw [outL, List.filter_eq_self.2]
  intro y hy
  have : y ≠ t := fun e => h (e ▸ hy)
  simpa using this

theorem right_yes {A : Option Addr} {l : List (Int × Int)} {c : Nat} {w : World} (hR : Rd w w.heap.size A l) (hl : l.length ≤ 1000000) (hc : l.length ≤ c) (h : rightB l = true) :
    Calls Tryz.prog 14 #[.slice A l.length c] w fun e w' => e = .returned (.bool true) ∧ Below w.heap.size w w' := by
  have := right_any A l c w hR hl hc; rw [h] at this; exact this
theorem right_no {A : Option Addr} {l : List (Int × Int)} {c : Nat} {w : World} (hR : Rd w w.heap.size A l) (hl : l.length ≤ 1000000) (hc : l.length ≤ c) (h : rightB l = false) :
    Calls Tryz.prog 14 #[.slice A l.length c] w fun e w' => e = .returned (.bool false) ∧ Below w.heap.size w w' := by
  have := right_any A l c w hR hl hc; rw [h] at this; exact this

end Go.Proofs.YtacpncmdgkljdaaGreatDoor.Cel
namespace Go.Proofs.YtacpncmdgkljdaaGreatDoor.Cel
open Go.RowKit Go.Sort

def shL (dx dy : Int) (l : List (Int × Int)) : List (Int × Int) := l.map fun c => (c.1 + dx, c.2 + dy)
theorem length_shL (dx dy : Int) (l : List (Int × Int)) : (shL dx dy l).length = l.length := List.length_map _
theorem getD_shL (dx dy : Int) (l : List (Int × Int)) {k : Nat} (hk : k < l.length) : (shL dx dy l).getD k (0, 0) = ((l.getD k (0, 0)).1 + dx, (l.getD k (0, 0)).2 + dy) := by
  rw [List.getD_eq_getElem?_getD, List.getD_eq_getElem?_getD, shL, List.getElem?_map, List.getElem?_eq_getElem hk]
  rfl

theorem inB_iff (p : Int × Int) : inB p = true ↔ -1099511627776 ≤ p.1 ∧ p.1 ≤ 1099511627776 ∧ -1099511627776 ≤ p.2 ∧ p.2 ≤ 1099511627776 := by simp [inB]

/-- What went round is not within bounds either. -/
theorem inB_wrap {x y dx dy : Int} (h : inB (x, y) = true) (hdx : -9223372036854775808 ≤ dx ∧ dx ≤ 9223372036854775807) (hdy : -9223372036854775808 ≤ dy ∧ dy ≤ 9223372036854775807) (hn : inB (x + dx, y + dy) = false) : inB (wrap64 (x + dx), wrap64 (y + dy)) = false := by
  rw [Bool.eq_false_iff] at hn ⊢
  intro h2
  apply hn
  rw [inB_iff] at h h2 ⊢
  simp only at h h2 ⊢
  unfold wrap64 at h2
  omega

/-- The world behind Shift: the set elsewhere, or what is said of bounds. -/
def Shifted (l : List (Int × Int)) (dx dy : Int) (w : World) (e : Ending) (w' : World) : Prop :=
  Below w.heap.size w w' ∧ if (shL dx dy l).all inB = true then ∃ g, e = .returned (.tuple #[.slice (some ⟨g, 0, none⟩) l.length l.length, .int .i64 0]) ∧ Row w' w.heap.size 37 g l.length l.length (shL dx dy l)
    else e = .returned (.tuple #[.slice none 0 0, .int .i64 2])

end Go.Proofs.YtacpncmdgkljdaaGreatDoor.Cel
namespace Go.Proofs.YtacpncmdgkljdaaGreatDoor.Cel
open Go.RowKit Go.Sort

/-- the least and the greatest X of the first k cells -/
def loX (l : List (Int × Int)) (k : Nat) : Int := (l.take k).foldl (fun m c => min m c.1) (l.getD 0 (0, 0)).1
def hiX (l : List (Int × Int)) (k : Nat) : Int := (l.take k).foldl (fun m c => max m c.1) (l.getD 0 (0, 0)).1
theorem loX_zero (l : List (Int × Int)) : loX l 0 = (l.getD 0 (0, 0)).1 := rfl
theorem hiX_zero (l : List (Int × Int)) : hiX l 0 = (l.getD 0 (0, 0)).1 := rfl
theorem loX_succ {l : List (Int × Int)} {k : Nat} (hk : k < l.length) : loX l (k + 1) = min (loX l k) (l.getD k (0, 0)).1 := by
  unfold loX; rw [take_snoc hk, List.foldl_append]; rfl
theorem hiX_succ {l : List (Int × Int)} {k : Nat} (hk : k < l.length) : hiX l (k + 1) = max (hiX l k) (l.getD k (0, 0)).1 := by
  unfold hiX; rw [take_snoc hk, List.foldl_append]; rfl

theorem fold_min_bd {m : List (Int × Int)} {a : Int} (h : ∀ p ∈ m, inB p = true) (ha : -1099511627776 ≤ a ∧ a ≤ 1099511627776) : -1099511627776 ≤ m.foldl (fun m c => min m c.1) a ∧ m.foldl (fun m c => min m c.1) a ≤ 1099511627776 := by
  induction m generalizing a with
  | nil => exact ha
  | cons p m ih =>
    have hp := (inB_iff _).1 (h p (List.mem_cons_self ..))
    exact ih (fun q hq => h q (List.mem_cons_of_mem _ hq)) (by show _ ≤ min a p.1 ∧ min a p.1 ≤ _; omega)
theorem fold_max_bd {m : List (Int × Int)} {a : Int} (h : ∀ p ∈ m, inB p = true) (ha : -1099511627776 ≤ a ∧ a ≤ 1099511627776) : -1099511627776 ≤ m.foldl (fun m c => max m c.1) a ∧ m.foldl (fun m c => max m c.1) a ≤ 1099511627776 := by
  induction m generalizing a with
  | nil => exact ha
  | cons p m ih =>
    have hp := (inB_iff _).1 (h p (List.mem_cons_self ..))
    exact ih (fun q hq => h q (List.mem_cons_of_mem _ hq)) (by show _ ≤ max a p.1 ∧ max a p.1 ≤ _; omega)
theorem loX_bd {l : List (Int × Int)} (h : ∀ p ∈ l, inB p = true) (h0 : 0 < l.length) (k : Nat) : -1099511627776 ≤ loX l k ∧ loX l k ≤ 1099511627776 := by
  have h1 := (inB_iff _).1 (h _ (getD_mem h0))
  exact fold_min_bd (fun p hp => h p (List.mem_of_mem_take hp)) (by omega)
theorem hiX_bd {l : List (Int × Int)} (h : ∀ p ∈ l, inB p = true) (h0 : 0 < l.length) (k : Nat) : -1099511627776 ≤ hiX l k ∧ hiX l k ≤ 1099511627776 := by
  have h1 := (inB_iff _).1 (h _ (getD_mem h0))
  exact fold_max_bd (fun p hp => h p (List.mem_of_mem_take hp)) (by omega)

def boxV (l : List (Int × Int)) : Value := .agg #[.int .i64 (loX l l.length), .int .i64 (l.getD 0 (0, 0)).2, .int .i64 (hiX l l.length - loX l l.length + 1), .int .i64 ((l.getD (l.length - 1) (0, 0)).2 - (l.getD 0 (0, 0)).2 + 1)]
def noBox : Value := .agg #[.int .i64 0, .int .i64 0, .int .i64 0, .int .i64 0]

/-- a block that is known whole -/
def Whole (w : World) (g T : Nat) (cs : Array Value) : Prop := w.heap[g]? = some (.cells cs T (0, 0))
section
variable {w w' : World} {g T : Nat} {cs : Array Value}
theorem Whole.lt (h : Whole w g T cs) : g < w.heap.size := by
  rcases Nat.lt_or_ge g w.heap.size with h' | h'
  · exact h'
  · unfold Whole at h; rw [Array.getElem?_eq_none h'] at h; cases h
theorem Whole.below (h : Whole w g T cs) (hb : Below w.heap.size w w') : Whole w' g T cs := (hb.block g h.lt).trans h
theorem Whole.cell (h : Whole w g T cs) (i : Nat) : w.cell? ⟨g, i, none⟩ = cs[i]? := cell_of_row w g i cs T (0, 0) h
theorem Whole.free (h : Whole w g T cs) (i : Nat) : w.frozen? ⟨g, i, none⟩ = false := frozen_of_row w g i cs T h
theorem Whole.new (w : World) (T : Nat) (cs : Array Value) : Whole (w.alloc (.cells cs T)) w.heap.size T cs := heap_alloc_new w _
end

/-- a Box's block: its cells, none frozen -/
theorem Whole.four {w : World} {g T : Nat} {a b c d : Value} (h : Whole w g T #[a, b, c, d]) :
    w.cell? ⟨g, 0, none⟩ = some a ∧ w.cell? ⟨g, 1, none⟩ = some b ∧ w.cell? ⟨g, 2, none⟩ = some c ∧ w.cell? ⟨g, 3, none⟩ = some d ∧
    w.frozen? ⟨g, 0, none⟩ = false ∧ w.frozen? ⟨g, 1, none⟩ = false ∧ w.frozen? ⟨g, 2, none⟩ = false ∧ w.frozen? ⟨g, 3, none⟩ = false :=
  ⟨h.cell 0, h.cell 1, h.cell 2, h.cell 3, h.free 0, h.free 1, h.free 2, h.free 3⟩

theorem box_nil (A : Option Addr) (c : Nat) (w : World) :
    Calls Tryz.prog 15 #[.slice A 0 c] w fun e w' => e = .returned (.tuple #[noBox, .bool false]) ∧ Below w.heap.size w w' := by
  go_enter Tryz.func15, Tryz.ntmps15
  go_wp2
  refine bodyPost_ret (v := .tuple #[noBox, .bool false]) (by simp [results, Tryz.results15, go_sem, noBox]) rfl ⟨rfl, (Below.refl _ _).alloc (Nat.le_refl _) _⟩

theorem box_bad (A : Option Addr) (l : List (Int × Int)) (c : Nat) (w : World) (hR : Rd w w.heap.size A l) (hl : l.length ≤ 1000000) (hc : l.length ≤ c) (h0 : 0 < l.length) (hr : rightB l = false) :
    Calls Tryz.prog 15 #[.slice A l.length c] w fun e w' => e = .returned (.tuple #[noBox, .bool false]) ∧ Below w.heap.size w w' := by
  have hb0 : Below w.heap.size w (w.alloc (.cells #[.int .i64 0, .int .i64 0, .int .i64 0, .int .i64 0] 42)) := (Below.refl _ w).alloc (Nat.le_refl _) _
  have h := right_no (w := w.alloc (.cells #[.int .i64 0, .int .i64 0, .int .i64 0, .int .i64 0] 42)) ((hR.below hb0 (Nat.le_refl _)).more (by simp)) hl hc hr
  have hz : ((l.length : Int) == 0) = false := beq_eq_false_iff_ne.2 (by omega)
  have HW := Lib.hid (Whole.new w 42 #[.int .i64 0, .int .i64 0, .int .i64 0, .int .i64 0])
  clear hr
  go_enter Tryz.func15, Tryz.ntmps15
  go_wp2_with (go_at_call 14; refine h.mono ?_; rintro e w1 ⟨rfl, hb1⟩; obtain ⟨q0, q1, q2, q3, f0, f1, f2, f3⟩ := (HW.out.below hb1).four)
  refine bodyPost_ret (v := .tuple #[noBox, .bool false]) (by simp [results, Tryz.results15, go_sem, noBox, q0, q1, q2, q3, f0, f1, f2, f3]) rfl ⟨rfl, ?_⟩
  exact ((((Qt.more hb0 hb0.size hb1).setCell (Nat.le_refl _) _).setCell (Nat.le_refl _) _).setCell (Nat.le_refl _) _).setCell (Nat.le_refl _) _

set_option maxHeartbeats 1000000 in
theorem box_any (A : Option Addr) (l : List (Int × Int)) (c : Nat) (w : World) (hR : Rd w w.heap.size A l) (hl : l.length ≤ 1000000) (hc : l.length ≤ c) (h0 : 0 < l.length) (hr : rightB l = true) (hin : ∀ p ∈ l, inB p = true) :
    Calls Tryz.prog 15 #[.slice A l.length c] w fun e w' => e = .returned (.tuple #[boxV l, .bool true]) ∧ Below w.heap.size w w' := by
  have hb0 : Below w.heap.size w (w.alloc (.cells #[.int .i64 0, .int .i64 0, .int .i64 0, .int .i64 0] 42)) := (Below.refl _ w).alloc (Nat.le_refl _) _
  have h := right_yes (w := w.alloc (.cells #[.int .i64 0, .int .i64 0, .int .i64 0, .int .i64 0] 42)) ((hR.below hb0 (Nat.le_refl _)).more (by simp)) hl hc hr
  have hz : ((l.length : Int) == 0) = false := beq_eq_false_iff_ne.2 (by omega)
  have HW := Lib.hid (Whole.new w 42 #[.int .i64 0, .int .i64 0, .int .i64 0, .int .i64 0])
  have HIN := Lib.hid hin
  obtain ⟨b, off, rfl, hbB, hcell⟩ := hR.at_ h0
  obtain ⟨⟨fx, fy⟩, hf⟩ : ∃ p, p = l.getD 0 (0, 0) := ⟨_, rfl⟩
  obtain ⟨⟨ex, ey⟩, he⟩ : ∃ p, p = l.getD (l.length - 1) (0, 0) := ⟨_, rfl⟩
  have a0 := (hcell 0 h0).1
  have a1 := (hcell 0 h0).2
  have z0 := (hcell (l.length - 1) (by omega)).1
  have z1 := (hcell (l.length - 1) (by omega)).2
  rw [← hf] at a0 a1
  rw [← he] at z0 z1
  simp only [Nat.zero_mul, Nat.add_zero] at a0 a1 z0 z1
  have HF := Lib.hid hf
  have HE := Lib.hid he
  have HC := Lib.hid hcell
  have hlz : (1 : Int) ≤ (l.length : Int) := by omega
  clear hr hin hf he hcell
  go_enter Tryz.func15, Tryz.ntmps15
  go_wp2_with (go_at_call 14; refine h.mono ?_; rintro e w1 ⟨rfl, hb1⟩)
  have HB1 : Below w.heap.size w w1 := Qt.more hb0 hb0.size hb1
  have k0 := Qt.keep HB1 a0
  have k1 := Qt.keep HB1 a1
  have k2 := Qt.keep HB1 z0
  have k3 := Qt.keep HB1 z1
  have hA1 : ∀ O, Below w1.heap.size w1 (w1.alloc O) := fun O => (Below.refl _ _).alloc (Nat.le_refl _) _
  have hA2 : ∀ O O', Below w1.heap.size w1 ((w1.alloc O).alloc O') := fun O O' => (hA1 O).alloc (by simp) _
  have p0 := fun O => Qt.keep (hA1 O) k0
  have p1 := fun O => Qt.keep (hA1 O) k1
  have p2 := fun O => Qt.keep (hA1 O) k2
  have p3 := fun O => Qt.keep (hA1 O) k3
  have r0 := fun O O' => Qt.keep (hA2 O O') k0
  have r1 := fun O O' => Qt.keep (hA2 O O') k1
  have r2 := fun O O' => Qt.keep (hA2 O O') k2
  have r3 := fun O O' => Qt.keep (hA2 O O') k3
  go_region
  · have e0 : (((w1.alloc (.cells #[.int .i64 fx, .int .i64 fy] 37)).alloc (.cells #[.int .i64 ex, .int .i64 ey] 37)).drew).cell? ⟨w1.heap.size, 0, none⟩ = some (.int .i64 fx) := by simp
    have e1 : (((w1.alloc (.cells #[.int .i64 fx, .int .i64 fy] 37)).alloc (.cells #[.int .i64 ex, .int .i64 ey] 37)).drew).cell? ⟨w1.heap.size, 1, none⟩ = some (.int .i64 fy) := by simp
    have e2 : (((w1.alloc (.cells #[.int .i64 fx, .int .i64 fy] 37)).alloc (.cells #[.int .i64 ex, .int .i64 ey] 37)).drew).cell? ⟨w1.heap.size + 1, 1, none⟩ = some (.int .i64 ey) := by simp
    have HBW : Below w1.heap.size w1 (((w1.alloc (.cells #[.int .i64 fx, .int .i64 fy] 37)).alloc (.cells #[.int .i64 ex, .int .i64 ey] 37)).drew) := (hA2 _ _).drew
    clear p0 p1 p2 p3 r0 r1 r2 r3 k0 k1 k2 k3 hA1 hA2
    generalize ((w1.alloc (.cells #[.int .i64 fx, .int .i64 fy] 37)).alloc (.cells #[.int .i64 ex, .int .i64 ey] 37)).drew = W at *
    have u0 := Qt.cell_in e0
    go_wp2
    refine Qt.below_all (by kernel_rfl) (by kernel_rfl) ?_
    repeat (go_big_quiet_step (fail))
    refine wpQuiet_nil ?_
    intro w2 hb2
    have e1 := Qt.keep hb2 e1
    have e2 := Qt.keep hb2 e2
    have HB2 : Below w.heap.size w w2 := Qt.more (Qt.more HB1 HB1.size HBW) (Nat.le_trans HB1.size HBW.size) hb2
    have HW2 := Lib.hid ((HW.out.below (show Below (w.alloc (.cells #[.int .i64 0, .int .i64 0, .int .i64 0, .int .i64 0] 42)).heap.size _ w2 from Qt.more (Qt.more hb1 hb1.size HBW) (Nat.le_trans hb1.size HBW.size) hb2)))
    clear u0 e0 hb2 HBW
    go_wp2
    go_loopw [6, 7, 34] (fun sl sr si wr => ∃ k : Nat, k ≤ l.length ∧ si = .int .i64 k ∧ sl = .int .i64 (loX l k) ∧ sr = .int .i64 (hiX l k) ∧ Below w2.heap.size w2 wr) (fun _ _ i _ => l.length - (intOf i).toNat)
    case atStart => exact ⟨0, Nat.zero_le _, rfl, by rw [loX_zero, ← HF.out], by rw [hiX_zero, ← HF.out], Below.refl _ _⟩
    case round =>
      obtain ⟨k, hk, rfl, rfl, rfl, hbr⟩ := hrel
      obtain ⟨lo, hlo⟩ : ∃ x, x = loX l k := ⟨_, rfl⟩
      obtain ⟨hi, hhi⟩ : ∃ x, x = hiX l k := ⟨_, rfl⟩
      rw [← hlo, ← hhi]
      have HLO := Lib.hid hlo
      have HHI := Lib.hid hhi
      clear hlo hhi
      by_cases hlt : k < l.length
      · have hltz : (k : Int) < (l.length : Int) := by omega
        obtain ⟨⟨x, y⟩, hxy⟩ : ∃ p, p = l.getD k (0, 0) := ⟨_, rfl⟩
        obtain ⟨c0, c1⟩ := HC.out k hlt
        rw [← hxy] at c0 c1
        simp only at c0 c1
        have c0 := Qt.keep hbr (Qt.keep HB2 c0)
        have c1 := Qt.keep hbr (Qt.keep HB2 c1)
        have HXY := Lib.hid hxy
        have d0 := Qt.cell_in (w := wr.alloc (.cells #[.int .i64 x, .int .i64 y] 37)) (a := ⟨wr.heap.size, 0, none⟩) (v := .int .i64 x) (by simp)
        clear hxy
        go_wp2
        refine Qt.below_all (by kernel_rfl) (by kernel_rfl) ?_
        repeat (go_big_quiet_step (fail))
        refine wpQuiet_nil ?_
        intro w3 hb3
        go_wp2
        go_roundw
        case measure => simp [intOf]; omega
        case rel =>
          refine ⟨k + 1, by omega, by go_num, ?_, ?_, (hbr.alloc hbr.size _).trans (hb3.mono (by have := hbr.size; simp; omega))⟩
          · rw [loX_succ hlt, ← HXY.out, HLO.out]
          · rw [hiX_succ hlt, ← HXY.out, HHI.out]
      · have hltz : ¬ (k : Int) < (l.length : Int) := by omega
        have hkl : k = l.length := by omega
        have hbl := loX_bd HIN.out h0 k
        have hbh := hiX_bd HIN.out h0 k
        rw [← HLO.out] at hbl
        rw [← HHI.out] at hbh
        have hfb := (inB_iff _).1 (HIN.out _ (getD_mem h0))
        have heb := (inB_iff _).1 (HIN.out _ (getD_mem (l := l) (k := l.length - 1) (by omega)))
        rw [← HF.out] at hfb
        rw [← HE.out] at heb
        simp only at hfb heb
        obtain ⟨hbl1, hbl2⟩ := hbl
        obtain ⟨hbh1, hbh2⟩ := hbh
        obtain ⟨_, _, hfb1, hfb2⟩ := hfb
        obtain ⟨_, _, heb1, heb2⟩ := heb
        have HKL := Lib.hid hkl
        have e1 := Qt.keep hbr e1
        have e2 := Qt.keep hbr e2
        obtain ⟨q0, q1, q2, q3, f0, f1, f2, f3⟩ := (HW2.out.below hbr).four
        clear hkl
        go_wp2
        have hv : boxV l = .agg #[.int .i64 lo, .int .i64 fy, .int .i64 (hi - lo + 1), .int .i64 (ey - fy + 1)] := by
          unfold boxV
          rw [← HKL.out, ← HLO.out, ← HHI.out, ← HF.out, HKL.out, ← HE.out]
        rw [hv]
        refine bodyPost_ret (v := .tuple #[.agg #[.int .i64 lo, .int .i64 fy, .int .i64 (hi - lo + 1), .int .i64 (ey - fy + 1)], .bool true]) (by simp [results, Tryz.results15, go_sem, q0, q1, q2, q3, f0, f1, f2, f3]) rfl ⟨rfl, ?_⟩
        exact ((((Qt.more HB2 HB2.size hbr).setCell (Nat.le_refl _) _).setCell (Nat.le_refl _) _).setCell (Nat.le_refl _) _).setCell (Nat.le_refl _) _
  · have e0 : (((w1.alloc (.cells #[.int .i64 ex, .int .i64 ey] 37)).alloc (.cells #[.int .i64 fx, .int .i64 fy] 37)).drew).cell? ⟨w1.heap.size + 1, 0, none⟩ = some (.int .i64 fx) := by simp
    have e1 : (((w1.alloc (.cells #[.int .i64 ex, .int .i64 ey] 37)).alloc (.cells #[.int .i64 fx, .int .i64 fy] 37)).drew).cell? ⟨w1.heap.size + 1, 1, none⟩ = some (.int .i64 fy) := by simp
    have e2 : (((w1.alloc (.cells #[.int .i64 ex, .int .i64 ey] 37)).alloc (.cells #[.int .i64 fx, .int .i64 fy] 37)).drew).cell? ⟨w1.heap.size, 1, none⟩ = some (.int .i64 ey) := by simp
    have HBW : Below w1.heap.size w1 (((w1.alloc (.cells #[.int .i64 ex, .int .i64 ey] 37)).alloc (.cells #[.int .i64 fx, .int .i64 fy] 37)).drew) := (hA2 _ _).drew
    clear p0 p1 p2 p3 r0 r1 r2 r3 k0 k1 k2 k3 hA1 hA2
    generalize ((w1.alloc (.cells #[.int .i64 ex, .int .i64 ey] 37)).alloc (.cells #[.int .i64 fx, .int .i64 fy] 37)).drew = W at *
    have u0 := Qt.cell_in e0
    go_wp2
    refine Qt.below_all (by kernel_rfl) (by kernel_rfl) ?_
    repeat (go_big_quiet_step (fail))
    refine wpQuiet_nil ?_
    intro w2 hb2
    have e1 := Qt.keep hb2 e1
    have e2 := Qt.keep hb2 e2
    have HB2 : Below w.heap.size w w2 := Qt.more (Qt.more HB1 HB1.size HBW) (Nat.le_trans HB1.size HBW.size) hb2
    have HW2 := Lib.hid ((HW.out.below (show Below (w.alloc (.cells #[.int .i64 0, .int .i64 0, .int .i64 0, .int .i64 0] 42)).heap.size _ w2 from Qt.more (Qt.more hb1 hb1.size HBW) (Nat.le_trans hb1.size HBW.size) hb2)))
    clear u0 e0 hb2 HBW
    go_wp2
    go_loopw [6, 7, 34] (fun sl sr si wr => ∃ k : Nat, k ≤ l.length ∧ si = .int .i64 k ∧ sl = .int .i64 (loX l k) ∧ sr = .int .i64 (hiX l k) ∧ Below w2.heap.size w2 wr) (fun _ _ i _ => l.length - (intOf i).toNat)
    case atStart => exact ⟨0, Nat.zero_le _, rfl, by rw [loX_zero, ← HF.out], by rw [hiX_zero, ← HF.out], Below.refl _ _⟩
    case round =>
      obtain ⟨k, hk, rfl, rfl, rfl, hbr⟩ := hrel
      obtain ⟨lo, hlo⟩ : ∃ x, x = loX l k := ⟨_, rfl⟩
      obtain ⟨hi, hhi⟩ : ∃ x, x = hiX l k := ⟨_, rfl⟩
      rw [← hlo, ← hhi]
      have HLO := Lib.hid hlo
      have HHI := Lib.hid hhi
      clear hlo hhi
      by_cases hlt : k < l.length
      · have hltz : (k : Int) < (l.length : Int) := by omega
        obtain ⟨⟨x, y⟩, hxy⟩ : ∃ p, p = l.getD k (0, 0) := ⟨_, rfl⟩
        obtain ⟨c0, c1⟩ := HC.out k hlt
        rw [← hxy] at c0 c1
        simp only at c0 c1
        have c0 := Qt.keep hbr (Qt.keep HB2 c0)
        have c1 := Qt.keep hbr (Qt.keep HB2 c1)
        have HXY := Lib.hid hxy
        have d0 := Qt.cell_in (w := wr.alloc (.cells #[.int .i64 x, .int .i64 y] 37)) (a := ⟨wr.heap.size, 0, none⟩) (v := .int .i64 x) (by simp)
        clear hxy
        go_wp2
        refine Qt.below_all (by kernel_rfl) (by kernel_rfl) ?_
        repeat (go_big_quiet_step (fail))
        refine wpQuiet_nil ?_
        intro w3 hb3
        go_wp2
        go_roundw
        case measure => simp [intOf]; omega
        case rel =>
          refine ⟨k + 1, by omega, by go_num, ?_, ?_, (hbr.alloc hbr.size _).trans (hb3.mono (by have := hbr.size; simp; omega))⟩
          · rw [loX_succ hlt, ← HXY.out, HLO.out]
          · rw [hiX_succ hlt, ← HXY.out, HHI.out]
      · have hltz : ¬ (k : Int) < (l.length : Int) := by omega
        have hkl : k = l.length := by omega
        have hbl := loX_bd HIN.out h0 k
        have hbh := hiX_bd HIN.out h0 k
        rw [← HLO.out] at hbl
        rw [← HHI.out] at hbh
        have hfb := (inB_iff _).1 (HIN.out _ (getD_mem h0))
        have heb := (inB_iff _).1 (HIN.out _ (getD_mem (l := l) (k := l.length - 1) (by omega)))
        rw [← HF.out] at hfb
        rw [← HE.out] at heb
        simp only at hfb heb
        obtain ⟨hbl1, hbl2⟩ := hbl
        obtain ⟨hbh1, hbh2⟩ := hbh
        obtain ⟨_, _, hfb1, hfb2⟩ := hfb
        obtain ⟨_, _, heb1, heb2⟩ := heb
        have HKL := Lib.hid hkl
        have e1 := Qt.keep hbr e1
        have e2 := Qt.keep hbr e2
        obtain ⟨q0, q1, q2, q3, f0, f1, f2, f3⟩ := (HW2.out.below hbr).four
        clear hkl
        go_wp2
        have hv : boxV l = .agg #[.int .i64 lo, .int .i64 fy, .int .i64 (hi - lo + 1), .int .i64 (ey - fy + 1)] := by
          unfold boxV
          rw [← HKL.out, ← HLO.out, ← HHI.out, ← HF.out, HKL.out, ← HE.out]
        rw [hv]
        refine bodyPost_ret (v := .tuple #[.agg #[.int .i64 lo, .int .i64 fy, .int .i64 (hi - lo + 1), .int .i64 (ey - fy + 1)], .bool true]) (by simp [results, Tryz.results15, go_sem, q0, q1, q2, q3, f0, f1, f2, f3]) rfl ⟨rfl, ?_⟩
        exact ((((Qt.more HB2 HB2.size hbr).setCell (Nat.le_refl _) _).setCell (Nat.le_refl _) _).setCell (Nat.le_refl _) _).setCell (Nat.le_refl _) _

end Go.Proofs.YtacpncmdgkljdaaGreatDoor.Cel
namespace Go.Proofs.YtacpncmdgkljdaaGreatDoor.Cel
open Go.RowKit Go.Sort

def rawCell (p : Int × Int) : Int × Int := (pickI p.1 16 - 8, pickI p.2 16 - 8)
/-- the cells that the first k raw numbers tell -/
def rawTo (raw : List (Int × Int)) (k : Nat) : List (Int × Int) := (raw.take k).map rawCell
/-- the set that the laws make of raw numbers -/
def rawSet (raw : List (Int × Int)) : List (Int × Int) := setL (rawTo raw 60)
theorem rawTo_succ {raw : List (Int × Int)} {k : Nat} (hk : k < raw.length) : rawTo raw (k + 1) = rawTo raw k ++ [rawCell (raw.getD k (0, 0))] := by
  unfold rawTo; rw [take_snoc hk, List.map_append]; rfl
theorem length_rawTo (raw : List (Int × Int)) (k : Nat) : (rawTo raw k).length ≤ k := by
  unfold rawTo; rw [List.length_map, List.length_take]; omega
theorem rawCell_bd (p : Int × Int) : -8 ≤ (rawCell p).1 ∧ (rawCell p).1 ≤ 7 ∧ -8 ≤ (rawCell p).2 ∧ (rawCell p).2 ≤ 7 := by
  have h1 := pickI_bd p.1 16 (by omega)
  have h2 := pickI_bd p.2 16 (by omega)
  unfold rawCell
  simp only
  omega
theorem rawTo_bd {raw : List (Int × Int)} {k : Nat} {p : Int × Int} (h : p ∈ rawTo raw k) : -8 ≤ p.1 ∧ p.1 ≤ 7 ∧ -8 ≤ p.2 ∧ p.2 ≤ 7 := by
  unfold rawTo at h
  obtain ⟨q, _, rfl⟩ := List.mem_map.1 h
  exact rawCell_bd q

/-- A slice that reads as a list, whatever its place and capacity. -/
def Reads (w : World) (v : Value) (l : List (Int × Int)) : Prop := ∃ A c, v = .slice A l.length c ∧ l.length ≤ c ∧ Rd w w.heap.size A l
theorem Reads.below {w w' : World} {v : Value} {l : List (Int × Int)} (h : Reads w v l) (hb : Below w.heap.size w w') : Reads w' v l := by
  obtain ⟨A, c, e, hc, hr⟩ := h
  exact ⟨A, c, e, hc, (hr.below hb (Nat.le_refl _)).more hb.size⟩

def I64 (x : Int) : Prop := -9223372036854775808 ≤ x ∧ x ≤ 9223372036854775807

/-- where a slice of cells of the call's own lies -/
def Shape (A : Option Addr) (n c : Nat) : Prop := (A = none ∧ c = 0 ∧ n = 0) ∨ ∃ g, A = some ⟨g, 0, none⟩
theorem shape_own {w : World} {B T : Nat} {A : Option Addr} {n c : Nat} {l : List (Int × Int)} (h : Own w B T (.slice A n c) l) : Shape A n c := by
  rcases h.2 with ⟨h1, h2⟩ | ⟨g, cap, cur, h1, _⟩
  · simp only [Value.slice.injEq] at h1
    exact .inl ⟨h1.1, h1.2.2, h1.2.1⟩
  · simp only [Value.slice.injEq] at h1
    exact .inr ⟨g, h1.1⟩

set_option maxHeartbeats 1000000 in
theorem set_own (A : Option Addr) (raw : List (Int × Int)) (c : Nat) (w : World) (hR : Rd w w.heap.size A raw) (hl : raw.length ≤ 9223372036854775807) (hc : raw.length ≤ c) (hw : ∀ p ∈ raw, I64 p.1 ∧ I64 p.2) :
    Calls Tryz.prog 12 #[.slice A raw.length c] w fun e w' => ∃ v, e = .returned v ∧ Own w' 0 37 v (rawSet raw) ∧ Below w.heap.size w w' := by
  have HW := Lib.hid hw
  clear hw
  go_enter Tryz.func12, Tryz.ntmps12
  go_wp2
  go_loopw [3, 4] (fun v i wr => ∃ k : Nat, k ≤ raw.length ∧ k ≤ 60 ∧ i = .int .i64 k ∧ Aside (Own wr 0 37 v (setL (rawTo raw k))) ∧ Below w.heap.size w wr) (fun _ i _ => 60 - (intOf i).toNat)
  case atStart => exact ⟨0, Nat.zero_le _, by omega, rfl, World.ownsRow_nil _ _ _ _, Below.refl _ _⟩
  case round =>
    obtain ⟨k, hk, hk60, rfl, HO, hb⟩ := hrel
    by_cases hlt : k < raw.length ∧ k < 60
    · obtain ⟨hlt, h60⟩ := hlt
      have hltz : (k : Int) < (raw.length : Int) := by omega
      have h60z : (k : Int) < 60 := by omega
      obtain ⟨b, off, rfl, hbB, hcell⟩ := hR.at_ (by omega)
      obtain ⟨⟨x, y⟩, hxy⟩ : ∃ p, p = raw.getD k (0, 0) := ⟨_, rfl⟩
      obtain ⟨c0, c1⟩ := hcell k hlt
      rw [← hxy] at c0 c1
      simp only at c0 c1
      have c0 := Qt.keep hb c0
      have c1 := Qt.keep hb c1
      have hwf := HW.out _ (getD_mem hlt)
      rw [← hxy] at hwf
      have HWF := Lib.hid hwf
      have hbd := rawCell_bd (x, y)
      unfold rawCell at hbd
      simp only at hbd
      obtain ⟨n1, n2, n3, n4⟩ := hbd
      have HXY := Lib.hid hxy
      obtain ⟨A', c', hv, hc', hr'⟩ := HO.out.rd
      have hsl := length_setL (rawTo raw k)
      have hrl := length_rawTo raw k
      have k0 := Qt.cell_in c0
      have k1 := Qt.cell_in c1
      have HR' := Lib.hid hr'
      subst hv
      clear hxy hcell hwf hr'
      go_wp2
      refine Qt.below_tail 16 (by kernel_rfl) (by kernel_rfl) ?_
      simp only [List.take_succ_cons, List.take_zero, List.drop_succ_cons, List.drop_zero]
      repeat (go_big_quiet_step (first | (go_at_call_of 32 x; exact Qt.at_same fun _ _ => pick_any x 16 _ HWF.out.1.1 HWF.out.1.2 (by omega) (by omega)) | (go_at_call_of 32 y; exact Qt.at_same fun _ _ => pick_any y 16 _ HWF.out.2.1 HWF.out.2.2 (by omega) (by omega))))
      refine wpQuiet_nil ?_
      intro w1 hb1
      have HR1 := (HR'.out.below hb1 (Nat.le_refl _)).more hb1.size
      have hp := put_any A' (setL (rawTo raw k)) c' (pickI x 16 - 8, pickI y 16 - 8) w1 HR1 (by omega) hc'
      have hset : putL (pickI x 16 - 8, pickI y 16 - 8) (setL (rawTo raw k)) = setL (rawTo raw (k + 1)) := by
        rw [rawTo_succ hlt, setL_snoc, ← HXY.out]
        rfl
      rw [hset] at hp
      clear hset HR1
      go_wp2_with (go_at_call 13; refine hp.mono ?_; rintro e w2 ⟨v2, rfl, hown2, hb2⟩)
      go_roundw
      case measure => simp [intOf]; omega
      case rel =>
        refine ⟨k + 1, by omega, by omega, by go_num, ?_, Qt.more (Qt.more hb hb.size hb1) (Nat.le_trans hb.size hb1.size) hb2⟩
        exact hown2.mono (Nat.zero_le _)
    · have hset : rawTo raw k = rawTo raw 60 := by
        unfold rawTo
        by_cases h : k < raw.length
        · rw [show k = 60 by omega]
        · rw [List.take_of_length_le (by omega), List.take_of_length_le (by omega)]
      have HSET := Lib.hid hset
      clear hset
      by_cases h1 : k < raw.length
      · have h1z : (k : Int) < (raw.length : Int) := by omega
        have h2z : ¬ (k : Int) < 60 := by omega
        go_wp2
        go_ret
        have := HO.out
        rw [HSET.out] at this
        exact ⟨_, rfl, this, hb⟩
      · have h1z : ¬ (k : Int) < (raw.length : Int) := by omega
        go_wp2
        go_ret
        have := HO.out
        rw [HSET.out] at this
        exact ⟨_, rfl, this, hb⟩

theorem set_any (A : Option Addr) (raw : List (Int × Int)) (c : Nat) (w : World) (hR : Rd w w.heap.size A raw) (hl : raw.length ≤ 9223372036854775807) (hc : raw.length ≤ c) (hw : ∀ p ∈ raw, I64 p.1 ∧ I64 p.2) :
    Calls Tryz.prog 12 #[.slice A raw.length c] w fun e w' => ∃ v, e = .returned v ∧ Reads w' v (rawSet raw) ∧ Below w.heap.size w w' :=
  (set_own A raw c w hR hl hc hw).mono fun e w' ⟨v, he, ho, hb⟩ => by
    obtain ⟨A2, c2, h1, h2, h3⟩ := ho.rd
    exact ⟨v, he, ⟨A2, c2, h1, h2, h3⟩, hb⟩

end Go.Proofs.YtacpncmdgkljdaaGreatDoor.Cel
namespace Go.Proofs.YtacpncmdgkljdaaGreatDoor
set_option linter.unusedVariables false
set_option linter.unusedSimpArgs false
open Go.RowKit Go.Sort

/-- The pen at block g: where it is, its cells, in rows from block B on. -/
structure Pen (w : World) (g B : Nat) (x y : Nat) (out : List (Int × Int)) (v : Value) : Prop where
  row : w.heap[g]? = some (.cells #[.int .i64 x, .int .i64 y, v] 91 (0, 0))
  own : Cel.Own w B 37 v out
  ahead : g < B
theorem Pen.lt {w : World} {g B x y : Nat} {out : List (Int × Int)} {v : Value} (h : Pen w g B x y out v) : g < w.heap.size := by
  rcases Nat.lt_or_ge g w.heap.size with h' | h'
  · exact h'
  · have := h.row; rw [Array.getElem?_eq_none h'] at this; cases this
theorem Pen.x0 {w : World} {g B x y : Nat} {out : List (Int × Int)} {v : Value} (h : Pen w g B x y out v) : w.cell? ⟨g, 0, none⟩ = some (.int .i64 x) := by rw [Lib.cell_of_heap h.row]; rfl
theorem Pen.y0 {w : World} {g B x y : Nat} {out : List (Int × Int)} {v : Value} (h : Pen w g B x y out v) : w.cell? ⟨g, 1, none⟩ = some (.int .i64 y) := by rw [Lib.cell_of_heap h.row]; rfl
theorem Pen.v0 {w : World} {g B x y : Nat} {out : List (Int × Int)} {v : Value} (h : Pen w g B x y out v) : w.cell? ⟨g, 2, none⟩ = some v := by rw [Lib.cell_of_heap h.row]; rfl
theorem Pen.free {w : World} {g B x y : Nat} {out : List (Int × Int)} {v : Value} (h : Pen w g B x y out v) (j : Nat) : w.frozen? ⟨g, j, none⟩ = false := Lib.frozen_of_heap h.row j
theorem Pen.own_ne {w : World} {g B x y : Nat} {out : List (Int × Int)} {v : Value} (h : Pen w g B x y out v) : v.ownBlock = none ∨ v.ownBlock ≠ some g := by
  cases e : v.ownBlock with
  | none => exact .inl rfl
  | some b => exact .inr (fun h2 => by injection h2 with h2; have := (World.ownsRow.lt h.own b e).1; have := h.ahead; omega)
theorem cown_kept {w w' : World} {b B T : Nat} {v : Value} {l : List (Int × Int)} (h : Cel.Own w B T v l) (hk : w.grownBy w' (some b)) (hne : v.ownBlock = none ∨ v.ownBlock ≠ some b) : Cel.Own w' B T v l := World.ownsRow.kept h hk hne
theorem Pen.below {w w' : World} {g B x y : Nat} {out : List (Int × Int)} {v : Value} (h : Pen w g B x y out v) (hb : Below w.heap.size w w') : Pen w' g B x y out v := ⟨(hb.block g h.lt).trans h.row, h.own.below hb, h.ahead⟩
theorem Pen.setX {w : World} {g B x y : Nat} {out : List (Int × Int)} {v : Value} (h : Pen w g B x y out v) (z : Nat) : Pen (w.setCell ⟨g, 0, none⟩ (.int .i64 z)) g B z y out v := by
  refine ⟨?_, cown_kept h.own (But.setCell 0 _) h.own_ne, h.ahead⟩
  have := h.row
  simp [World.setCell, Array.getElem?_modify, this]
theorem Pen.setY {w : World} {g B x y : Nat} {out : List (Int × Int)} {v : Value} (h : Pen w g B x y out v) (z : Nat) : Pen (w.setCell ⟨g, 1, none⟩ (.int .i64 z)) g B x z out v := by
  refine ⟨?_, cown_kept h.own (But.setCell 1 _) h.own_ne, h.ahead⟩
  have := h.row
  simp [World.setCell, Array.getElem?_modify, this]
/-- Whatever is neither the pen's block nor a row of cells stands; below the pen all does. -/
structure PR (g : Nat) (w w' : World) : Prop where
  bel : Below g w w'
  oth : Lib.OthersKept 37 (some g) w w'
theorem PR.refl (g : Nat) (w : World) : PR g w w := ⟨Below.refl _ _, Lib.OthersKept.refl _ _ _⟩
theorem PR.trans {g : Nat} {a b c : World} (h : PR g a b) (k : PR g b c) : PR g a c := ⟨h.bel.trans k.bel, h.oth.trans k.oth⟩
theorem PR.setCell {g : Nat} {a w : World} (h : PR g a w) (j : Nat) (u : Value) : PR g a (w.setCell ⟨g, j, none⟩ u) := ⟨h.bel.setCell (Nat.le_refl _) _, h.oth.setCell _ rfl _⟩
theorem PR.alloc {g : Nat} {a w : World} (h : PR g a w) (hg : g ≤ w.heap.size) (o : Obj) : PR g a (w.alloc o) := ⟨h.bel.alloc hg _, h.oth.alloc _⟩
theorem PR.drew {g : Nat} {a w : World} (h : PR g a w) : PR g a w.drew := ⟨h.bel.drew, h.oth.drew⟩
theorem PR.below {g : Nat} {a w w' : World} (h : PR g a w) (hg : g ≤ w.heap.size) (hb : Below w.heap.size w w') : PR g a w' := by
  refine ⟨Qt.more h.bel hg hb, fun k o hk hb' ho => ?_⟩
  have h1 := h.oth k o hk hb' ho
  exact (hb.block k (Array.getElem?_eq_some_iff.1 h1).1).trans h1
/-- what one call does to the pen -/
def Penned (g B x y : Nat) (out : List (Int × Int)) (w : World) (e : Ending) (w' : World) : Prop := e = .returned (.tuple #[]) ∧ ∃ v, Pen w' g B x y out v ∧ PR g w w'

theorem skip_any {g B x y : Nat} {out : List (Int × Int)} {v : Value} (n : Nat) {w : World} (h : Pen w g B x y out v) (hx : x ≤ 1099511627776) (hn : n ≤ 1099511627776) :
    Calls Tryz.prog 53 #[.pointer (some ⟨g, 0, none⟩), .int .i64 n] w (Penned g B (x + n) y out w) := by
  have c0 := h.x0
  have f0 := h.free 0
  have HP := Lib.hid (h.setX (x + n))
  have e : ((x + n : Nat) : Int) = (x : Int) + (n : Int) := by omega
  rw [e] at HP
  have HR := Lib.hid ((PR.refl g w).setCell 0 (.int .i64 ((x : Int) + (n : Int))))
  clear h e
  go_enter Tryz.func53, Tryz.ntmps53
  go_wp2
  go_end0
  exact ⟨rfl, v, HP.out, HR.out⟩
theorem down_any {g B x y : Nat} {out : List (Int × Int)} {v : Value} (n : Nat) {w : World} (h : Pen w g B x y out v) (hy : y ≤ 1099511627776) (hn : n ≤ 1099511627776) :
    Calls Tryz.prog 55 #[.pointer (some ⟨g, 0, none⟩), .int .i64 n] w (Penned g B 0 (y + n) out w) := by
  have c0 := h.x0
  have c1 := h.y0
  have f0 := h.free 0
  have f1 := h.free 1
  have HP := Lib.hid ((h.setX 0).setY (y + n))
  have e : ((y + n : Nat) : Int) = (y : Int) + (n : Int) := by omega
  rw [e] at HP
  have HR := Lib.hid (((PR.refl g w).setCell 0 (.int .i64 ((0 : Nat) : Int))).setCell 1 (.int .i64 ((y : Int) + (n : Int))))
  clear h e
  go_enter Tryz.func55, Tryz.ntmps55
  go_wp2
  go_end0
  exact ⟨rfl, v, HP.out, HR.out⟩
/-- what is wrong at a pen -/
def faultL (x y n : Nat) : Int := if 1099511627776 < x ∨ 1099511627776 < y then 2 else if 2000 < n then 3 else 0
theorem fault_any {g B x y : Nat} {out : List (Int × Int)} {v : Value} {w : World} (h : Pen w g B x y out v) (hx : x ≤ 9000000000000) (hy : y ≤ 9000000000000) (hl : out.length ≤ 1000000) :
    Calls Tryz.prog 56 #[.pointer (some ⟨g, 0, none⟩)] w fun e w' => e = .returned (.int .i64 (faultL x y out.length)) ∧ Below w.heap.size w w' := by
  obtain ⟨A, c, rfl, _, _⟩ := h.own.rd
  have c0 := h.x0
  have c1 := h.y0
  have c2 := h.v0
  have k0 := Qt.cell_in c0
  have k1 := Qt.cell_in c1
  have HC := Lib.hid c2
  clear h c2
  have hz : (out.length : Int) ≤ 1000000 := by omega
  generalize out.length = n at *
  by_cases hfar : 1099511627776 < x ∨ 1099511627776 < y
  · have e : faultL x y n = 2 := by unfold faultL; rw [if_pos hfar]
    rw [e]
    have hm : (1099511627776 : Int) < max (x : Int) (y : Int) := by omega
    clear e hfar
    go_enter Tryz.func56, Tryz.ntmps56
    go_wp2
    refine Qt.below_all (by kernel_rfl) (by kernel_rfl) ?_
    repeat (go_big_quiet_step (fail))
    refine wpQuiet_nil ?_
    intro w1 hb1
    clear k0 k1
    go_wp2
    go_ret
    exact ⟨rfl, hb1⟩
  · have hm : ¬ (1099511627776 : Int) < max (x : Int) (y : Int) := by omega
    have e : faultL x y n = if 2000 < n then 3 else 0 := by unfold faultL; rw [if_neg hfar]
    rw [e]
    clear e hfar
    by_cases hl2 : 2000 < n
    · rw [if_pos hl2]
      have hz2 : (2000 : Int) < (n : Int) := by omega
      go_enter Tryz.func56, Tryz.ntmps56
      go_wp2
      refine Qt.below_all (by kernel_rfl) (by kernel_rfl) ?_
      repeat (go_big_quiet_step (fail))
      refine wpQuiet_nil ?_
      intro w1 hb1
      have d2 := Qt.keep hb1 HC.out
      clear k0 k1
      go_wp2
      go_ret
      exact ⟨rfl, hb1⟩
    · rw [if_neg hl2]
      have hz2 : ¬ (2000 : Int) < (n : Int) := by omega
      go_enter Tryz.func56, Tryz.ntmps56
      go_wp2
      refine Qt.below_all (by kernel_rfl) (by kernel_rfl) ?_
      repeat (go_big_quiet_step (fail))
      refine wpQuiet_nil ?_
      intro w1 hb1
      have d2 := Qt.keep hb1 HC.out
      clear k0 k1
      go_wp2
      go_ret
      exact ⟨rfl, hb1⟩
end Go.Proofs.YtacpncmdgkljdaaGreatDoor
