/-
  Texts that the claims of this seat share, part 4.
-/
import Derived.Test.YtacpncmdgkljdaaDoorB03
import Derived.Test.YtacpncmdgkljdaaDoorSh
import Derived.Laws.CopyRow
import Derived.Laws.ResultCell
import Derived.BigRegion
import Derived.Deep.RegionWith
set_option linter.unusedVariables false
set_option linter.unusedSimpArgs false
namespace Go.Proofs.YtacpncmdgkljdaaDoor.Cel
open Go.RowKit Go.Sort

/-- where the first cell stands of which p holds; -1 -/
def ixL (p : Int × Int → Bool) (l : List (Int × Int)) : Int := match l.findIdx? p with | some k => k | none => -1
theorem ixL_hit {p : Int × Int → Bool} {l : List (Int × Int)} {k : Nat} (hk : k < l.length) (h : p (l.getD k (0, 0)) = true) (hb : ∀ j, j < k → p (l.getD j (0, 0)) = false) : ixL p l = k := by
  unfold ixL
  have e : l.findIdx? p = some k := by
    rw [List.findIdx?_eq_some_iff_getElem]
    refine ⟨hk, by rwa [List.getD_eq_getElem?_getD, List.getElem?_eq_getElem hk] at h, fun j hj => ?_⟩
    have := hb j hj
    rw [List.getD_eq_getElem?_getD, List.getElem?_eq_getElem (by omega)] at this
    simpa using this
  rw [e]
theorem ixL_miss {p : Int × Int → Bool} {l : List (Int × Int)} (hb : ∀ j, j < l.length → p (l.getD j (0, 0)) = false) : ixL p l = -1 := by
  unfold ixL
  have e : l.findIdx? p = none := by
    rw [List.findIdx?_eq_none_iff]
    intro x hx
    obtain ⟨j, hj, rfl⟩ := List.getElem_of_mem hx
    have := hb j hj
    rwa [List.getD_eq_getElem?_getD, List.getElem?_eq_getElem hj] at this
  rw [e]
theorem ixL_any (p : Int × Int → Bool) (l : List (Int × Int)) : decide (0 ≤ ixL p l) = l.any p := by
  unfold ixL
  cases h : l.findIdx? p with
  | none =>
    rw [List.findIdx?_eq_none_iff] at h
    have : l.any p = false := by rw [List.any_eq_false]; intro x hx; rw [h x hx]; simp
    rw [this]; rfl
  | some k =>
    rw [List.findIdx?_eq_some_iff_getElem] at h
    obtain ⟨hk, hp, _⟩ := h
    have : l.any p = true := List.any_eq_true.2 ⟨_, List.getElem_mem hk, hp⟩
    rw [this]; simp

/-- Has: whether a cell is in a list -/
def hasB (l : List (Int × Int)) (q : Int × Int) : Bool := l.any fun p => decide (p = q)
theorem hasB_iff (l : List (Int × Int)) (q : Int × Int) : hasB l q = true ↔ q ∈ l := by
  simp [hasB]

end Go.Proofs.YtacpncmdgkljdaaDoor.Cel
namespace Go.Proofs.YtacpncmdgkljdaaDoor.Cel
open Go.RowKit Go.Sort

/-! ### in plain words -/
def ddS (acc : List (Int × Int)) (x : Int × Int) : List (Int × Int) := if acc.getLast? = some x then acc else acc ++ [x]
def ddL (l : List (Int × Int)) : List (Int × Int) := l.foldl ddS []
theorem ddL_snoc (l : List (Int × Int)) (x : Int × Int) : ddL (l ++ [x]) = ddS (ddL l) x := by simp [ddL, List.foldl_append]

theorem snoc_ind {P : List (Int × Int) → Prop} (h0 : P []) (hs : ∀ l x, P l → P (l ++ [x])) (l : List (Int × Int)) : P l := by
  have h : ∀ m : List (Int × Int), P m.reverse := by
    intro m
    induction m with
    | nil => exact h0
    | cons x m ih => rw [List.reverse_cons]; exact hs _ _ ih
  have := h l.reverse
  rwa [List.reverse_reverse] at this

theorem last_ddL (l : List (Int × Int)) : (ddL l).getLast? = l.getLast? := by
  refine snoc_ind (P := fun l => (ddL l).getLast? = l.getLast?) rfl (fun l x ih => ?_) l
  show (ddL (l ++ [x])).getLast? = (l ++ [x]).getLast?
  rw [ddL_snoc, ddS]
  split
  · rename_i h; rw [h]; simp
  · simp
theorem length_ddL (l : List (Int × Int)) : (ddL l).length ≤ l.length := by
  refine snoc_ind (P := fun l => (ddL l).length ≤ l.length) (Nat.le_refl _) (fun l x ih => ?_) l
  show (ddL (l ++ [x])).length ≤ (l ++ [x]).length
  rw [ddL_snoc, ddS]
  have ih' : (ddL l).length ≤ l.length := ih
  split <;> simp <;> omega
theorem ddL_same {l : List (Int × Int)} {k : Nat} (h0 : 0 < k) (hk : k < l.length) (h : l.getD k (0, 0) = l.getD (k - 1) (0, 0)) : ddL (l.take (k + 1)) = ddL (l.take k) := by
  rw [take_snoc hk, ddL_snoc, ddS, last_ddL]
  have : (l.take k).getLast? = some (l.getD (k - 1) (0, 0)) := by
    rw [List.getLast?_eq_getElem?, List.length_take, Nat.min_eq_left (by omega), List.getElem?_take, if_pos (by omega), List.getD_eq_getElem?_getD, List.getElem?_eq_getElem (by omega)]
    rfl
  rw [this, h, if_pos rfl]
theorem ddL_other {l : List (Int × Int)} {k : Nat} (hk : k < l.length) (h : k = 0 ∨ l.getD k (0, 0) ≠ l.getD (k - 1) (0, 0)) : ddL (l.take (k + 1)) = ddL (l.take k) ++ [l.getD k (0, 0)] := by
  rw [take_snoc hk, ddL_snoc, ddS, last_ddL, if_neg]
  rcases h with h | h
  · subst h; simp
  · by_cases h0 : k = 0
    · subst h0; simp
    · have : (l.take k).getLast? = some (l.getD (k - 1) (0, 0)) := by
        rw [List.getLast?_eq_getElem?, List.length_take, Nat.min_eq_left (by omega), List.getElem?_take, if_pos (by omega), List.getD_eq_getElem?_getD, List.getElem?_eq_getElem (by omega)]
        rfl
      rw [this]
      intro e
      exact h (Option.some.inj e).symm

/-- Of what is sorted it makes the set. -/
theorem ddL_sorted {l : List (Int × Int)} (h : l.Pairwise fun p q => lessB q p = false) : Rises (ddL l) ∧ ∀ y, y ∈ ddL l ↔ y ∈ l := by
  refine snoc_ind (P := fun l => (l.Pairwise fun p q => lessB q p = false) → Rises (ddL l) ∧ ∀ y, y ∈ ddL l ↔ y ∈ l) (fun _ => ⟨List.Pairwise.nil, fun _ => Iff.rfl⟩) (fun l x ih hs => ?_) l h
  have hp := List.pairwise_append.1 hs
  obtain ⟨h1, h2⟩ := ih hp.1
  rw [ddL_snoc, ddS]
  split
  · rename_i hl
    refine ⟨h1, fun y => ?_⟩
    rw [h2, List.mem_append, List.mem_singleton]
    constructor
    · exact .inl
    · rintro (h | rfl)
      · exact h
      · rw [last_ddL] at hl
        exact List.mem_of_getLast? hl
  · rename_i hl
    rw [last_ddL] at hl
    refine ⟨List.pairwise_append.2 ⟨h1, List.pairwise_singleton _ _, fun y hy z hz => ?_⟩, fun y => by rw [List.mem_append, List.mem_append, h2]⟩
    rw [List.mem_singleton] at hz
    subst hz
    have hyl := (h2 y).1 hy
    have hxy : lessB z y = false := hp.2.2 y hyl z (List.mem_singleton.2 rfl)
    refine lessB_total (fun e => ?_) hxy
    subst e
    -- z itself is in l: then it is the last one
    obtain ⟨i, hi, hiz⟩ := List.getElem_of_mem hyl
    have hlast : l.getLast? = some (l[l.length - 1]'(by omega)) := by rw [List.getLast?_eq_getElem?, List.getElem?_eq_getElem (by omega)]
    have h3 : lessB z (l[l.length - 1]'(by omega)) = false := hp.2.2 _ (List.getElem_mem _) z (List.mem_singleton.2 rfl)
    by_cases hil : i = l.length - 1
    · subst hil
      rw [hiz] at hlast
      exact hl hlast
    · have h4 := List.pairwise_iff_getElem.1 hp.1 i (l.length - 1) hi (by omega) (by omega)
      rw [hiz] at h4
      by_cases e : l[l.length - 1]'(by omega) = z
      · rw [e] at hlast; exact hl hlast
      · have := lessB_total e h4
        rw [this] at h3
        cases h3

theorem ddL_setL {l : List (Int × Int)} (h : l.Pairwise fun p q => lessB q p = false) : ddL l = setL l :=
  rises_ext (ddL_sorted h).1 (rises_setL l) fun y => by rw [(ddL_sorted h).2, mem_setL]

/-! ### clear -/
theorem fl_take (l : List (Int × Int)) (k : Nat) : fl (l.take k) = (fl l).take (k * 2) := by
  induction l generalizing k with
  | nil => simp [fl]
  | cons x l ih =>
    cases k with
    | zero => rfl
    | succ k =>
      have e1 : (k + 1) * 2 = k * 2 + 1 + 1 := by omega
      have e2 : ∀ (q : Int × Int) (m : List (Int × Int)), fl (q :: m) = .int .i64 q.1 :: .int .i64 q.2 :: fl m := fun _ _ => rfl
      rw [List.take_succ_cons, e2, e2, ih, e1]
      rfl

theorem Row.cut {w : World} {B T g n cap k : Nat} {l : List (Int × Int)} (h : Row w B T g n cap l) (hk : k ≤ n) : Row w B T g k cap (l.take k) := by
  obtain ⟨hn, hlen, h' | ⟨g', cap', cur, hv, hB, hg, hnc, hcm, hcs, htake⟩⟩ := h
  · simp at h'
  · simp only [Value.slice.injEq, Option.some.injEq, Addr.mk.injEq, and_true, true_and] at hv
    obtain ⟨rfl, rfl⟩ := hv
    have e := fl_take l k
    refine ⟨by rw [List.length_take]; omega, by rw [length_fl, List.length_take]; omega, .inr ⟨g, cap, cur, rfl, hB, hg, by omega, hcm, hcs, ?_⟩⟩
    rw [e, ← htake, List.take_take, Nat.min_eq_left (by omega)]

/-- clear of the row's end: what stands ahead of it stays. -/
theorem clear_row {P : Program} {w : World} {B T t g n cap k c : Nat} {l : List (Int × Int)} (h : Row w B T g n cap l) (hk : k < n) (ht : P.underlying t = some (.slice T)) (hv : ∀ w, (zeroValue T).run P w = .ok (.agg #[.int .i64 0, .int .i64 0]) w) :
    ∃ w', (∀ ty, (Builtin.clear_ #[t] ty #[.slice (some ⟨g, k * 2, none⟩) (n - k) c]).run P w = .ok (.tuple #[]) w') ∧ Row w' B T g k cap (l.take k) ∧ Below B w w' := by
  have hcut := h.cut (Nat.le_of_lt hk)
  obtain ⟨hn, hlen, h' | ⟨g', cap', cur, hvv, hB, hg, hnc, hcm, hcs, htake⟩⟩ := h
  · simp at h'
  · simp only [Value.slice.injEq, Option.some.injEq, Addr.mk.injEq, and_true, true_and] at hvv
    obtain ⟨rfl, rfl⟩ := hvv
    obtain ⟨Z, hZ⟩ : ∃ Z, Z = (Builtin.zeroCells #[.int .i64 0, .int .i64 0] (n - k)).toList := ⟨_, rfl⟩
    have hz1 : ∀ u ∈ Z, u.oneCell' = true := by
      intro u hu
      rw [hZ] at hu
      simp only [Builtin.zeroCells, Array.toList_map, List.mem_map] at hu
      obtain ⟨i, _, rfl⟩ := hu
      have : i % 2 = 0 ∨ i % 2 = 1 := by omega
      rcases this with h | h <;> simp [h] <;> rfl
    have hzl : Z.length = (n - k) * 2 := by rw [hZ]; simp [Builtin.zeroCells]
    have hle : k * 2 + 0 + (n - k) * 2 ≤ cur.size := by
      rw [hcs]
      have := Nat.mul_le_mul_right 2 hnc
      omega
    have hst := run_storeCells_at P g (k * 2) T Z 0 cur w hg (by rw [hzl]; exact hle) hz1
    rw [hzl, Nat.add_zero] at hst
    refine ⟨w.setRow g (cur.toList.take (k * 2) ++ Z ++ cur.toList.drop (k * 2 + (n - k) * 2)).toArray, fun ty => ?_, ?_, ?_⟩
    · obtain ⟨m, hm⟩ : ∃ m, n - k = m + 1 := ⟨n - k - 1, by omega⟩
      rw [hm] at hst hZ ⊢
      simp only [Builtin.clear_]
      simp [run_underlying ht, hv, Value.cells, ← hZ, hst]
    · obtain ⟨hn2, hlen2, _⟩ := hcut
      refine ⟨hn2, hlen2, .inr ⟨g, cap, _, rfl, hB, setRow_heap w g cur _ T _ hg, by omega, hcm, ?_, ?_⟩⟩
      · simp [hzl, hcs]
        have := Nat.mul_le_mul_right 2 hnc
        omega
      · have hkc : k * 2 ≤ cur.toList.length := by rw [Array.length_toList, hcs]; have := Nat.mul_le_mul_right 2 hnc; omega
        show List.take (k * 2) (List.take (k * 2) cur.toList ++ Z ++ _) = _
        rw [List.append_assoc, List.take_append_of_le_length (by rw [List.length_take]; omega), List.take_take, Nat.min_self]
        have e := fl_take l k
        rw [e, ← htake, List.take_take, Nat.min_eq_left (by omega)]
    · exact ⟨rfl, rfl, rfl, by simp, fun j hj => setRow_other w g j _ (by omega)⟩

/-- What the second loop has done: the first kk places hold what is kept of the first p. -/
structure Packs (l : List (Int × Int)) (p kk : Nat) (cur : List (Int × Int)) : Prop where
  len : cur.length = l.length
  kept : cur.take kk = ddL (l.take p)
  size : (ddL (l.take p)).length = kk
  lt : kk < p
  high : ∀ j, p ≤ j + 1 → cur.getD j (0, 0) = l.getD j (0, 0)

theorem Packs.skip {l cur : List (Int × Int)} {p kk : Nat} (h : Packs l p kk cur) (h0 : 0 < p) (hp : p < l.length) (he : l.getD p (0, 0) = l.getD (p - 1) (0, 0)) : Packs l (p + 1) kk cur := by
  have e := ddL_same h0 hp he
  exact ⟨h.len, by rw [e]; exact h.kept, by rw [e]; exact h.size, by have := h.lt; omega, fun j hj => h.high j (by omega)⟩
theorem Packs.keep {l cur : List (Int × Int)} {p kk : Nat} (h : Packs l p kk cur) (hp : p < l.length) (he : l.getD p (0, 0) ≠ l.getD (p - 1) (0, 0)) : Packs l (p + 1) (kk + 1) (cur.set kk (l.getD p (0, 0))) := by
  have e := ddL_other hp (.inr he)
  have hlt := h.lt
  have hkl : kk < cur.length := by rw [h.len]; omega
  refine ⟨by rw [List.length_set]; exact h.len, ?_, by rw [e]; simp [h.size], by omega, fun j hj => ?_⟩
  · rw [e, ← h.kept]
    apply List.ext_getElem?
    intro i
    rw [List.getElem?_take]
    by_cases hi : i < kk
    · rw [if_pos (by omega), List.getElem?_set_ne (by omega), List.getElem?_append_left (by rw [List.length_take]; omega), List.getElem?_take, if_pos hi]
    · by_cases hi2 : i = kk
      · subst hi2
        rw [if_pos (by omega), List.getElem?_set_self hkl, List.getElem?_append_right (by rw [List.length_take]; omega)]
        have : i - (List.take i cur).length = 0 := by rw [List.length_take]; omega
        rw [this]
        rfl
      · rw [if_neg (by omega), List.getElem?_append_right (by rw [List.length_take]; omega), List.getElem?_eq_none]
        rw [List.length_take]; simp; omega
  · rw [← h.high j (by omega), List.getD_eq_getElem?_getD, List.getElem?_set_ne (by omega), List.getD_eq_getElem?_getD]

theorem zeroPlace : ∀ w, (zeroValue 65).run Tryd.prog w = .ok (.agg #[.int .i64 0, .int .i64 0]) w := fun _ => by kernel_rfl

/-- in the first k places nothing stands twice in a row -/
def noTwin (l : List (Int × Int)) (k : Nat) : Prop := ∀ j, 0 < j → j < k → l.getD j (0, 0) ≠ l.getD (j - 1) (0, 0)
theorem noTwin_ddL {l : List (Int × Int)} {k : Nat} (hk : k ≤ l.length) (h : noTwin l k) : ddL (l.take k) = l.take k := by
  induction k with
  | zero => simp [ddL]
  | succ k ih =>
    rw [ddL_other (by omega), ih (by omega) (fun j h0 hj => h j h0 (by omega)), ← take_snoc (by omega)]
    by_cases h0 : k = 0
    · exact .inl h0
    · exact .inr (h k (by omega) (by omega))

end Go.Proofs.YtacpncmdgkljdaaDoor.Cel
namespace Go.Proofs.YtacpncmdgkljdaaDoor.Cel
open Go.RowKit Go.Sort

theorem any_out {l : List (Int × Int)} : (l.any fun p => !inB p) = false ↔ ∀ c ∈ l, inB c = true := by
  rw [List.any_eq_false]
  constructor
  · intro h c hc; have := h c hc; simpa using this
  · intro h c hc; rw [h c hc]; simp

end Go.Proofs.YtacpncmdgkljdaaDoor.Cel
namespace Go.Proofs.YtacpncmdgkljdaaDoor.Cel
open Go.RowKit Go.Sort

/-- where a cell stands, or would stand, in a list that rises -/
structure Stands (l : List (Int × Int)) (t : Int × Int) (i : Nat) : Prop where
  le : i ≤ l.length
  low : ∀ j, j < i → lessB (l.getD j (0, 0)) t = true
  high : ∀ j, i ≤ j → j < l.length → lessB (l.getD j (0, 0)) t = false

def FoundAt (l : List (Int × Int)) (t : Int × Int) (w : World) (e : Ending) (w' : World) : Prop :=
  ∃ i, Stands l t i ∧ e = .returned (.tuple #[.int .i64 (i : Nat), .bool (decide (i < l.length ∧ l.getD i (0, 0) = t))]) ∧ Below w.heap.size w w'

theorem rises_get {l : List (Int × Int)} (h : Rises l) {i j : Nat} (hij : i < j) (hj : j < l.length) : lessB (l.getD i (0, 0)) (l.getD j (0, 0)) = true := by
  have := List.pairwise_iff_getElem.1 h i j (by omega) hj hij
  rw [List.getD_eq_getElem?_getD, List.getD_eq_getElem?_getD, List.getElem?_eq_getElem (by omega), List.getElem?_eq_getElem hj]
  exact this

end Go.Proofs.YtacpncmdgkljdaaDoor.Cel
namespace Go.Proofs.YtacpncmdgkljdaaDoor.Cel
open Go.RowKit Go.Sort

/-- clear of places behind the row: the row stays. -/
theorem clear_behind {P : Program} {w : World} {B T t g n cap k c : Nat} {l : List (Int × Int)} (h : Row w B T g k cap l) (hk : k < n) (hn : n ≤ cap) (ht : P.underlying t = some (.slice T)) (hv : ∀ w, (zeroValue T).run P w = .ok (.agg #[.int .i64 0, .int .i64 0]) w) :
    ∃ w', (∀ ty, (Builtin.clear_ #[t] ty #[.slice (some ⟨g, k * 2, none⟩) (n - k) c]).run P w = .ok (.tuple #[]) w') ∧ Row w' B T g k cap l ∧ Below B w w' := by
  obtain ⟨hl, hlen, h' | ⟨g', cap', cur, hvv, hB, hg, hnc, hcm, hcs, htake⟩⟩ := h
  · simp at h'
  · simp only [Value.slice.injEq, Option.some.injEq, Addr.mk.injEq, and_true, true_and] at hvv
    obtain ⟨rfl, rfl⟩ := hvv
    obtain ⟨Z, hZ⟩ : ∃ Z, Z = (Builtin.zeroCells #[.int .i64 0, .int .i64 0] (n - k)).toList := ⟨_, rfl⟩
    have hz1 : ∀ u ∈ Z, u.oneCell' = true := by
      intro u hu
      rw [hZ] at hu
      simp only [Builtin.zeroCells, Array.toList_map, List.mem_map] at hu
      obtain ⟨i, _, rfl⟩ := hu
      have : i % 2 = 0 ∨ i % 2 = 1 := by omega
      rcases this with h | h <;> simp [h] <;> rfl
    have hzl : Z.length = (n - k) * 2 := by rw [hZ]; simp [Builtin.zeroCells]
    have hle : k * 2 + 0 + (n - k) * 2 ≤ cur.size := by
      rw [hcs]
      have := Nat.mul_le_mul_right 2 hn
      omega
    have hst := run_storeCells_at P g (k * 2) T Z 0 cur w hg (by rw [hzl]; exact hle) hz1
    rw [hzl, Nat.add_zero] at hst
    refine ⟨w.setRow g (cur.toList.take (k * 2) ++ Z ++ cur.toList.drop (k * 2 + (n - k) * 2)).toArray, fun ty => ?_, ?_, ?_⟩
    · obtain ⟨m, hm⟩ : ∃ m, n - k = m + 1 := ⟨n - k - 1, by omega⟩
      rw [hm] at hst hZ ⊢
      simp only [Builtin.clear_]
      simp [run_underlying ht, hv, Value.cells, ← hZ, hst]
    · refine ⟨hl, hlen, .inr ⟨g, cap, _, rfl, hB, setRow_heap w g cur _ T _ hg, by omega, hcm, ?_, ?_⟩⟩
      · simp [hzl, hcs]
        have := Nat.mul_le_mul_right 2 hn
        omega
      · have hkc : k * 2 ≤ cur.toList.length := by rw [Array.length_toList, hcs]; have := Nat.mul_le_mul_right 2 hnc; omega
        show List.take (k * 2) (List.take (k * 2) cur.toList ++ Z ++ _) = _
        rw [List.append_assoc, List.take_append_of_le_length (by rw [List.length_take]; omega), List.take_take, Nat.min_self]
        exact htake
    · exact ⟨rfl, rfl, rfl, by simp, fun j hj => setRow_other w g j _ (by omega)⟩

theorem fl_cell1 (l : List (Int × Int)) : ∀ u ∈ fl l, u.oneCell' = true := by
  intro u hu
  simp only [fl, List.mem_flatMap] at hu
  obtain ⟨c, _, hu⟩ := hu
  simp at hu
  rcases hu with rfl | rfl <;> rfl
theorem fl_drop (l : List (Int × Int)) (k : Nat) : fl (l.drop k) = (fl l).drop (k * 2) := by
  have h1 : fl l = fl (l.take k) ++ fl (l.drop k) := by rw [← fl_append, List.take_append_drop]
  by_cases hk : k ≤ l.length
  · conv => rhs; rw [h1]
    have h2 : (fl (l.take k)).drop (k * 2) = [] := List.drop_eq_nil_of_le (by rw [length_fl, List.length_take]; omega)
    rw [List.drop_append_of_le_length (by rw [length_fl, List.length_take]; omega), h2, List.nil_append]
  · rw [List.drop_eq_nil_of_le (by omega), List.drop_eq_nil_of_le (by rw [length_fl]; omega)]; rfl

/-- The cells from place k on, where Go's 's[k:]' looks for them. -/
theorem Row.tail {w : World} {B T g n cap : Nat} {l : List (Int × Int)} (h : Row w B T g n cap l) (k : Nat) : ∀ j u, (fl (l.drop k))[j]? = some u → w.cell? ((⟨g, k * 2, none⟩ : Addr).add j) = some u := by
  intro j u hu
  rw [fl_drop, List.getElem?_drop] at hu
  have hj : k * 2 + j < n * 2 := by
    have := (List.getElem?_eq_some_iff.1 hu).1
    rwa [length_fl, h.1] at this
  rw [Addr.add_lit, World.ownsRow.cellAt h.2 _ hj]
  exact hu

end Go.Proofs.YtacpncmdgkljdaaDoor.Cel
namespace Go.Proofs.YtacpncmdgkljdaaDoor.Cel
open Go.RowKit Go.Sort

theorem stands_found {l : List (Int × Int)} {t : Int × Int} {i : Nat} (hs : Rises l) (hi : i < l.length) (he : l.getD i (0, 0) = t) : l.take i ++ l.drop (i + 1) = outL t l := by
  have hsplit : l = l.take i ++ t :: l.drop (i + 1) := by
    conv => lhs; rw [← List.take_append_drop i l, drop_cons hi, he]
  have hp : Rises (l.take i ++ t :: l.drop (i + 1)) := by rw [← hsplit]; exact hs
  have hp2 := List.pairwise_append.1 hp
  conv => rhs; rw [outL, hsplit]
  rw [List.filter_append, List.filter_cons_of_neg (by simp)]
  congr 1
  · rw [List.filter_eq_self.2]
    intro y hy
    have := hp2.2.2 y hy t (List.mem_cons_self ..)
    simpa using lessB_ne this
  · rw [List.filter_eq_self.2]
    intro y hy
    have := (List.pairwise_cons.1 hp2.2.1).1 y hy
    simpa using (lessB_ne this).symm
theorem stands_not {l : List (Int × Int)} {t : Int × Int} {i : Nat} (hs : Rises l) (h : Stands l t i) (hn : ¬ (i < l.length ∧ l.getD i (0, 0) = t)) : t ∉ l := by
  intro ht
  obtain ⟨j, hj, he⟩ := List.getElem_of_mem ht
  have he' : l.getD j (0, 0) = t := by rw [List.getD_eq_getElem?_getD, List.getElem?_eq_getElem hj]; exact he
  by_cases hji : j < i
  · have := h.low j hji
    rw [he', lessB_irrefl] at this
    cases this
  · by_cases hij : j = i
    · subst hij; exact hn ⟨hj, he'⟩
    · have h1 := rises_get hs (i := i) (j := j) (by omega) hj
      rw [he'] at h1
      rw [h.high i (Nat.le_refl _) (by omega)] at h1
      cases h1
theorem outL_not {l : List (Int × Int)} {t : Int × Int} (h : t ∉ l) : outL t l = l := by
  rw [outL, List.filter_eq_self.2]
  intro y hy
  have : y ≠ t := fun e => h (e ▸ hy)
  simpa using this

theorem right_yes {A : Option Addr} {l : List (Int × Int)} {c : Nat} {w : World} (hR : Rd w w.heap.size A l) (hl : l.length ≤ 1000000) (hc : l.length ≤ c) (h : rightB l = true) :
    Calls Tryd.prog 21 #[.slice A l.length c] w fun e w' => e = .returned (.bool true) ∧ Below w.heap.size w w' := by
  have := right_any A l c w hR hl hc; rw [h] at this; exact this
theorem right_no {A : Option Addr} {l : List (Int × Int)} {c : Nat} {w : World} (hR : Rd w w.heap.size A l) (hl : l.length ≤ 1000000) (hc : l.length ≤ c) (h : rightB l = false) :
    Calls Tryd.prog 21 #[.slice A l.length c] w fun e w' => e = .returned (.bool false) ∧ Below w.heap.size w w' := by
  have := right_any A l c w hR hl hc; rw [h] at this; exact this

end Go.Proofs.YtacpncmdgkljdaaDoor.Cel
namespace Go.Proofs.YtacpncmdgkljdaaDoor.Cel
open Go.RowKit Go.Sort

def shL (dx dy : Int) (l : List (Int × Int)) : List (Int × Int) := l.map fun c => (c.1 + dx, c.2 + dy)
theorem length_shL (dx dy : Int) (l : List (Int × Int)) : (shL dx dy l).length = l.length := List.length_map _
theorem getD_shL (dx dy : Int) (l : List (Int × Int)) {k : Nat} (hk : k < l.length) : (shL dx dy l).getD k (0, 0) = ((l.getD k (0, 0)).1 + dx, (l.getD k (0, 0)).2 + dy) := by
  rw [List.getD_eq_getElem?_getD, List.getD_eq_getElem?_getD, shL, List.getElem?_map, List.getElem?_eq_getElem hk]
  rfl

theorem inB_iff (p : Int × Int) : inB p = true ↔ -1099511627776 ≤ p.1 ∧ p.1 ≤ 1099511627776 ∧ -1099511627776 ≤ p.2 ∧ p.2 ≤ 1099511627776 := by simp [inB]

/-- What went round is not within bounds either. -/
theorem inB_wrap {x y dx dy : Int} (h : inB (x, y) = true) (hdx : -9223372036854775808 ≤ dx ∧ dx ≤ 9223372036854775807) (hdy : -9223372036854775808 ≤ dy ∧ dy ≤ 9223372036854775807) (hn : inB (x + dx, y + dy) = false) : inB (wrap64 (x + dx), wrap64 (y + dy)) = false := by
  rw [Bool.eq_false_iff] at hn ⊢
  intro h2
  apply hn
  rw [inB_iff] at h h2 ⊢
  simp only at h h2 ⊢
  unfold wrap64 at h2
  omega

/-- The world behind Shift: the set elsewhere, or what is said of bounds. -/
def Shifted (l : List (Int × Int)) (dx dy : Int) (w : World) (e : Ending) (w' : World) : Prop :=
  Below w.heap.size w w' ∧ if (shL dx dy l).all inB = true then ∃ g, e = .returned (.tuple #[.slice (some ⟨g, 0, none⟩) l.length l.length, .int .i64 0]) ∧ Row w' w.heap.size 49 g l.length l.length (shL dx dy l)
    else e = .returned (.tuple #[.slice none 0 0, .int .i64 2])

end Go.Proofs.YtacpncmdgkljdaaDoor.Cel
namespace Go.Proofs.YtacpncmdgkljdaaDoor.Cel
open Go.RowKit Go.Sort

/-- the least and the greatest X of the first k cells -/
def loX (l : List (Int × Int)) (k : Nat) : Int := (l.take k).foldl (fun m c => min m c.1) (l.getD 0 (0, 0)).1
def hiX (l : List (Int × Int)) (k : Nat) : Int := (l.take k).foldl (fun m c => max m c.1) (l.getD 0 (0, 0)).1
theorem loX_zero (l : List (Int × Int)) : loX l 0 = (l.getD 0 (0, 0)).1 := rfl
theorem hiX_zero (l : List (Int × Int)) : hiX l 0 = (l.getD 0 (0, 0)).1 := rfl
theorem loX_succ {l : List (Int × Int)} {k : Nat} (hk : k < l.length) : loX l (k + 1) = min (loX l k) (l.getD k (0, 0)).1 := by
  unfold loX; rw [take_snoc hk, List.foldl_append]; rfl
theorem hiX_succ {l : List (Int × Int)} {k : Nat} (hk : k < l.length) : hiX l (k + 1) = max (hiX l k) (l.getD k (0, 0)).1 := by
  unfold hiX; rw [take_snoc hk, List.foldl_append]; rfl

theorem fold_min_bd {m : List (Int × Int)} {a : Int} (h : ∀ p ∈ m, inB p = true) (ha : -1099511627776 ≤ a ∧ a ≤ 1099511627776) : -1099511627776 ≤ m.foldl (fun m c => min m c.1) a ∧ m.foldl (fun m c => min m c.1) a ≤ 1099511627776 := by
  induction m generalizing a with
  | nil => exact ha
  | cons p m ih =>
    have hp := (inB_iff _).1 (h p (List.mem_cons_self ..))
    exact ih (fun q hq => h q (List.mem_cons_of_mem _ hq)) (by show _ ≤ min a p.1 ∧ min a p.1 ≤ _; omega)
theorem fold_max_bd {m : List (Int × Int)} {a : Int} (h : ∀ p ∈ m, inB p = true) (ha : -1099511627776 ≤ a ∧ a ≤ 1099511627776) : -1099511627776 ≤ m.foldl (fun m c => max m c.1) a ∧ m.foldl (fun m c => max m c.1) a ≤ 1099511627776 := by
  induction m generalizing a with
  | nil => exact ha
  | cons p m ih =>
    have hp := (inB_iff _).1 (h p (List.mem_cons_self ..))
    exact ih (fun q hq => h q (List.mem_cons_of_mem _ hq)) (by show _ ≤ max a p.1 ∧ max a p.1 ≤ _; omega)
theorem loX_bd {l : List (Int × Int)} (h : ∀ p ∈ l, inB p = true) (h0 : 0 < l.length) (k : Nat) : -1099511627776 ≤ loX l k ∧ loX l k ≤ 1099511627776 := by
  have h1 := (inB_iff _).1 (h _ (getD_mem h0))
  exact fold_min_bd (fun p hp => h p (List.mem_of_mem_take hp)) (by omega)
theorem hiX_bd {l : List (Int × Int)} (h : ∀ p ∈ l, inB p = true) (h0 : 0 < l.length) (k : Nat) : -1099511627776 ≤ hiX l k ∧ hiX l k ≤ 1099511627776 := by
  have h1 := (inB_iff _).1 (h _ (getD_mem h0))
  exact fold_max_bd (fun p hp => h p (List.mem_of_mem_take hp)) (by omega)

def boxV (l : List (Int × Int)) : Value := .agg #[.int .i64 (loX l l.length), .int .i64 (l.getD 0 (0, 0)).2, .int .i64 (hiX l l.length - loX l l.length + 1), .int .i64 ((l.getD (l.length - 1) (0, 0)).2 - (l.getD 0 (0, 0)).2 + 1)]
def noBox : Value := .agg #[.int .i64 0, .int .i64 0, .int .i64 0, .int .i64 0]

/-- a block that is known whole -/
def Whole (w : World) (g T : Nat) (cs : Array Value) : Prop := w.heap[g]? = some (.cells cs T (0, 0))
section
variable {w w' : World} {g T : Nat} {cs : Array Value}
theorem Whole.lt (h : Whole w g T cs) : g < w.heap.size := by
  rcases Nat.lt_or_ge g w.heap.size with h' | h'
  · exact h'
  · unfold Whole at h; rw [Array.getElem?_eq_none h'] at h; cases h
theorem Whole.below (h : Whole w g T cs) (hb : Below w.heap.size w w') : Whole w' g T cs := (hb.block g h.lt).trans h
theorem Whole.cell (h : Whole w g T cs) (i : Nat) : w.cell? ⟨g, i, none⟩ = cs[i]? := cell_of_row w g i cs T (0, 0) h
theorem Whole.free (h : Whole w g T cs) (i : Nat) : w.frozen? ⟨g, i, none⟩ = false := frozen_of_row w g i cs T h
theorem Whole.new (w : World) (T : Nat) (cs : Array Value) : Whole (w.alloc (.cells cs T)) w.heap.size T cs := heap_alloc_new w _
end

/-- a Box's block: its cells, none frozen -/
theorem Whole.four {w : World} {g T : Nat} {a b c d : Value} (h : Whole w g T #[a, b, c, d]) :
    w.cell? ⟨g, 0, none⟩ = some a ∧ w.cell? ⟨g, 1, none⟩ = some b ∧ w.cell? ⟨g, 2, none⟩ = some c ∧ w.cell? ⟨g, 3, none⟩ = some d ∧
    w.frozen? ⟨g, 0, none⟩ = false ∧ w.frozen? ⟨g, 1, none⟩ = false ∧ w.frozen? ⟨g, 2, none⟩ = false ∧ w.frozen? ⟨g, 3, none⟩ = false :=
  ⟨h.cell 0, h.cell 1, h.cell 2, h.cell 3, h.free 0, h.free 1, h.free 2, h.free 3⟩

theorem box_nil (A : Option Addr) (c : Nat) (w : World) :
    Calls Tryd.prog 22 #[.slice A 0 c] w fun e w' => e = .returned (.tuple #[noBox, .bool false]) ∧ Below w.heap.size w w' := by
  go_enter Tryd.func22, Tryd.ntmps22
  go_wp2
  refine bodyPost_ret (v := .tuple #[noBox, .bool false]) (by simp [results, Tryd.results22, go_sem, noBox]) rfl ⟨rfl, (Below.refl _ _).alloc (Nat.le_refl _) _⟩

theorem box_bad (A : Option Addr) (l : List (Int × Int)) (c : Nat) (w : World) (hR : Rd w w.heap.size A l) (hl : l.length ≤ 1000000) (hc : l.length ≤ c) (h0 : 0 < l.length) (hr : rightB l = false) :
    Calls Tryd.prog 22 #[.slice A l.length c] w fun e w' => e = .returned (.tuple #[noBox, .bool false]) ∧ Below w.heap.size w w' := by
  have hb0 : Below w.heap.size w (w.alloc (.cells #[.int .i64 0, .int .i64 0, .int .i64 0, .int .i64 0] 27)) := (Below.refl _ w).alloc (Nat.le_refl _) _
  have h := right_no (w := w.alloc (.cells #[.int .i64 0, .int .i64 0, .int .i64 0, .int .i64 0] 27)) ((hR.below hb0 (Nat.le_refl _)).more (by simp)) hl hc hr
  have hz : ((l.length : Int) == 0) = false := beq_eq_false_iff_ne.2 (by omega)
  have HW := Lib.hid (Whole.new w 27 #[.int .i64 0, .int .i64 0, .int .i64 0, .int .i64 0])
  clear hr
  go_enter Tryd.func22, Tryd.ntmps22
  go_wp2_with (go_at_call 21; refine h.mono ?_; rintro e w1 ⟨rfl, hb1⟩; obtain ⟨q0, q1, q2, q3, f0, f1, f2, f3⟩ := (HW.out.below hb1).four)
  refine bodyPost_ret (v := .tuple #[noBox, .bool false]) (by simp [results, Tryd.results22, go_sem, noBox, q0, q1, q2, q3, f0, f1, f2, f3]) rfl ⟨rfl, ?_⟩
  exact ((((Qt.more hb0 hb0.size hb1).setCell (Nat.le_refl _) _).setCell (Nat.le_refl _) _).setCell (Nat.le_refl _) _).setCell (Nat.le_refl _) _

set_option maxHeartbeats 1000000 in
theorem box_any (A : Option Addr) (l : List (Int × Int)) (c : Nat) (w : World) (hR : Rd w w.heap.size A l) (hl : l.length ≤ 1000000) (hc : l.length ≤ c) (h0 : 0 < l.length) (hr : rightB l = true) (hin : ∀ p ∈ l, inB p = true) :
    Calls Tryd.prog 22 #[.slice A l.length c] w fun e w' => e = .returned (.tuple #[boxV l, .bool true]) ∧ Below w.heap.size w w' := by
  have hb0 : Below w.heap.size w (w.alloc (.cells #[.int .i64 0, .int .i64 0, .int .i64 0, .int .i64 0] 27)) := (Below.refl _ w).alloc (Nat.le_refl _) _
  have h := right_yes (w := w.alloc (.cells #[.int .i64 0, .int .i64 0, .int .i64 0, .int .i64 0] 27)) ((hR.below hb0 (Nat.le_refl _)).more (by simp)) hl hc hr
  have hz : ((l.length : Int) == 0) = false := beq_eq_false_iff_ne.2 (by omega)
  have HW := Lib.hid (Whole.new w 27 #[.int .i64 0, .int .i64 0, .int .i64 0, .int .i64 0])
  have HIN := Lib.hid hin
  obtain ⟨b, off, rfl, hbB, hcell⟩ := hR.at_ h0
  obtain ⟨⟨fx, fy⟩, hf⟩ : ∃ p, p = l.getD 0 (0, 0) := ⟨_, rfl⟩
  obtain ⟨⟨ex, ey⟩, he⟩ : ∃ p, p = l.getD (l.length - 1) (0, 0) := ⟨_, rfl⟩
  have a0 := (hcell 0 h0).1
  have a1 := (hcell 0 h0).2
  have z0 := (hcell (l.length - 1) (by omega)).1
  have z1 := (hcell (l.length - 1) (by omega)).2
  rw [← hf] at a0 a1
  rw [← he] at z0 z1
  simp only [Nat.zero_mul, Nat.add_zero] at a0 a1 z0 z1
  have HF := Lib.hid hf
  have HE := Lib.hid he
  have HC := Lib.hid hcell
  have hlz : (1 : Int) ≤ (l.length : Int) := by omega
  clear hr hin hf he hcell
  go_enter Tryd.func22, Tryd.ntmps22
  go_wp2_with (go_at_call 21; refine h.mono ?_; rintro e w1 ⟨rfl, hb1⟩)
  have HB1 : Below w.heap.size w w1 := Qt.more hb0 hb0.size hb1
  have k0 := Qt.keep HB1 a0
  have k1 := Qt.keep HB1 a1
  have k2 := Qt.keep HB1 z0
  have k3 := Qt.keep HB1 z1
  have hA1 : ∀ O, Below w1.heap.size w1 (w1.alloc O) := fun O => (Below.refl _ _).alloc (Nat.le_refl _) _
  have hA2 : ∀ O O', Below w1.heap.size w1 ((w1.alloc O).alloc O') := fun O O' => (hA1 O).alloc (by simp) _
  have p0 := fun O => Qt.keep (hA1 O) k0
  have p1 := fun O => Qt.keep (hA1 O) k1
  have p2 := fun O => Qt.keep (hA1 O) k2
  have p3 := fun O => Qt.keep (hA1 O) k3
  have r0 := fun O O' => Qt.keep (hA2 O O') k0
  have r1 := fun O O' => Qt.keep (hA2 O O') k1
  have r2 := fun O O' => Qt.keep (hA2 O O') k2
  have r3 := fun O O' => Qt.keep (hA2 O O') k3
  go_region
  · have e0 : (((w1.alloc (.cells #[.int .i64 fx, .int .i64 fy] 49)).alloc (.cells #[.int .i64 ex, .int .i64 ey] 49)).drew).cell? ⟨w1.heap.size, 0, none⟩ = some (.int .i64 fx) := by simp
    have e1 : (((w1.alloc (.cells #[.int .i64 fx, .int .i64 fy] 49)).alloc (.cells #[.int .i64 ex, .int .i64 ey] 49)).drew).cell? ⟨w1.heap.size, 1, none⟩ = some (.int .i64 fy) := by simp
    have e2 : (((w1.alloc (.cells #[.int .i64 fx, .int .i64 fy] 49)).alloc (.cells #[.int .i64 ex, .int .i64 ey] 49)).drew).cell? ⟨w1.heap.size + 1, 1, none⟩ = some (.int .i64 ey) := by simp
    have HBW : Below w1.heap.size w1 (((w1.alloc (.cells #[.int .i64 fx, .int .i64 fy] 49)).alloc (.cells #[.int .i64 ex, .int .i64 ey] 49)).drew) := (hA2 _ _).drew
    clear p0 p1 p2 p3 r0 r1 r2 r3 k0 k1 k2 k3 hA1 hA2
    generalize ((w1.alloc (.cells #[.int .i64 fx, .int .i64 fy] 49)).alloc (.cells #[.int .i64 ex, .int .i64 ey] 49)).drew = W at *
    have u0 := Qt.cell_in e0
    go_wp2
    refine Qt.below_all (by kernel_rfl) (by kernel_rfl) ?_
    repeat (go_big_quiet_step (fail))
    refine wpQuiet_nil ?_
    intro w2 hb2
    have e1 := Qt.keep hb2 e1
    have e2 := Qt.keep hb2 e2
    have HB2 : Below w.heap.size w w2 := Qt.more (Qt.more HB1 HB1.size HBW) (Nat.le_trans HB1.size HBW.size) hb2
    have HW2 := Lib.hid ((HW.out.below (show Below (w.alloc (.cells #[.int .i64 0, .int .i64 0, .int .i64 0, .int .i64 0] 27)).heap.size _ w2 from Qt.more (Qt.more hb1 hb1.size HBW) (Nat.le_trans hb1.size HBW.size) hb2)))
    clear u0 e0 hb2 HBW
    go_wp2
    go_loopw [6, 7, 34] (fun sl sr si wr => ∃ k : Nat, k ≤ l.length ∧ si = .int .i64 k ∧ sl = .int .i64 (loX l k) ∧ sr = .int .i64 (hiX l k) ∧ Below w2.heap.size w2 wr) (fun _ _ i _ => l.length - (intOf i).toNat)
    case atStart => exact ⟨0, Nat.zero_le _, rfl, by rw [loX_zero, ← HF.out], by rw [hiX_zero, ← HF.out], Below.refl _ _⟩
    case round =>
      obtain ⟨k, hk, rfl, rfl, rfl, hbr⟩ := hrel
      obtain ⟨lo, hlo⟩ : ∃ x, x = loX l k := ⟨_, rfl⟩
      obtain ⟨hi, hhi⟩ : ∃ x, x = hiX l k := ⟨_, rfl⟩
      rw [← hlo, ← hhi]
      have HLO := Lib.hid hlo
      have HHI := Lib.hid hhi
      clear hlo hhi
      by_cases hlt : k < l.length
      · have hltz : (k : Int) < (l.length : Int) := by omega
        obtain ⟨⟨x, y⟩, hxy⟩ : ∃ p, p = l.getD k (0, 0) := ⟨_, rfl⟩
        obtain ⟨c0, c1⟩ := HC.out k hlt
        rw [← hxy] at c0 c1
        simp only at c0 c1
        have c0 := Qt.keep hbr (Qt.keep HB2 c0)
        have c1 := Qt.keep hbr (Qt.keep HB2 c1)
        have HXY := Lib.hid hxy
        have d0 := Qt.cell_in (w := wr.alloc (.cells #[.int .i64 x, .int .i64 y] 49)) (a := ⟨wr.heap.size, 0, none⟩) (v := .int .i64 x) (by simp)
        clear hxy
        go_wp2
        refine Qt.below_all (by kernel_rfl) (by kernel_rfl) ?_
        repeat (go_big_quiet_step (fail))
        refine wpQuiet_nil ?_
        intro w3 hb3
        go_wp2
        go_roundw
        case measure => simp [intOf]; omega
        case rel =>
          refine ⟨k + 1, by omega, by go_num, ?_, ?_, (hbr.alloc hbr.size _).trans (hb3.mono (by have := hbr.size; simp; omega))⟩
          · rw [loX_succ hlt, ← HXY.out, HLO.out]
          · rw [hiX_succ hlt, ← HXY.out, HHI.out]
      · have hltz : ¬ (k : Int) < (l.length : Int) := by omega
        have hkl : k = l.length := by omega
        have hbl := loX_bd HIN.out h0 k
        have hbh := hiX_bd HIN.out h0 k
        rw [← HLO.out] at hbl
        rw [← HHI.out] at hbh
        have hfb := (inB_iff _).1 (HIN.out _ (getD_mem h0))
        have heb := (inB_iff _).1 (HIN.out _ (getD_mem (l := l) (k := l.length - 1) (by omega)))
        rw [← HF.out] at hfb
        rw [← HE.out] at heb
        simp only at hfb heb
        obtain ⟨hbl1, hbl2⟩ := hbl
        obtain ⟨hbh1, hbh2⟩ := hbh
        obtain ⟨_, _, hfb1, hfb2⟩ := hfb
        obtain ⟨_, _, heb1, heb2⟩ := heb
        have HKL := Lib.hid hkl
        have e1 := Qt.keep hbr e1
        have e2 := Qt.keep hbr e2
        obtain ⟨q0, q1, q2, q3, f0, f1, f2, f3⟩ := (HW2.out.below hbr).four
        clear hkl
        go_wp2
        have hv : boxV l = .agg #[.int .i64 lo, .int .i64 fy, .int .i64 (hi - lo + 1), .int .i64 (ey - fy + 1)] := by
          unfold boxV
          rw [← HKL.out, ← HLO.out, ← HHI.out, ← HF.out, HKL.out, ← HE.out]
        rw [hv]
        refine bodyPost_ret (v := .tuple #[.agg #[.int .i64 lo, .int .i64 fy, .int .i64 (hi - lo + 1), .int .i64 (ey - fy + 1)], .bool true]) (by simp [results, Tryd.results22, go_sem, q0, q1, q2, q3, f0, f1, f2, f3]) rfl ⟨rfl, ?_⟩
        exact ((((Qt.more HB2 HB2.size hbr).setCell (Nat.le_refl _) _).setCell (Nat.le_refl _) _).setCell (Nat.le_refl _) _).setCell (Nat.le_refl _) _
  · have e0 : (((w1.alloc (.cells #[.int .i64 ex, .int .i64 ey] 49)).alloc (.cells #[.int .i64 fx, .int .i64 fy] 49)).drew).cell? ⟨w1.heap.size + 1, 0, none⟩ = some (.int .i64 fx) := by simp
    have e1 : (((w1.alloc (.cells #[.int .i64 ex, .int .i64 ey] 49)).alloc (.cells #[.int .i64 fx, .int .i64 fy] 49)).drew).cell? ⟨w1.heap.size + 1, 1, none⟩ = some (.int .i64 fy) := by simp
    have e2 : (((w1.alloc (.cells #[.int .i64 ex, .int .i64 ey] 49)).alloc (.cells #[.int .i64 fx, .int .i64 fy] 49)).drew).cell? ⟨w1.heap.size, 1, none⟩ = some (.int .i64 ey) := by simp
    have HBW : Below w1.heap.size w1 (((w1.alloc (.cells #[.int .i64 ex, .int .i64 ey] 49)).alloc (.cells #[.int .i64 fx, .int .i64 fy] 49)).drew) := (hA2 _ _).drew
    clear p0 p1 p2 p3 r0 r1 r2 r3 k0 k1 k2 k3 hA1 hA2
    generalize ((w1.alloc (.cells #[.int .i64 ex, .int .i64 ey] 49)).alloc (.cells #[.int .i64 fx, .int .i64 fy] 49)).drew = W at *
    have u0 := Qt.cell_in e0
    go_wp2
    refine Qt.below_all (by kernel_rfl) (by kernel_rfl) ?_
    repeat (go_big_quiet_step (fail))
    refine wpQuiet_nil ?_
    intro w2 hb2
    have e1 := Qt.keep hb2 e1
    have e2 := Qt.keep hb2 e2
    have HB2 : Below w.heap.size w w2 := Qt.more (Qt.more HB1 HB1.size HBW) (Nat.le_trans HB1.size HBW.size) hb2
    have HW2 := Lib.hid ((HW.out.below (show Below (w.alloc (.cells #[.int .i64 0, .int .i64 0, .int .i64 0, .int .i64 0] 27)).heap.size _ w2 from Qt.more (Qt.more hb1 hb1.size HBW) (Nat.le_trans hb1.size HBW.size) hb2)))
    clear u0 e0 hb2 HBW
    go_wp2
    go_loopw [6, 7, 34] (fun sl sr si wr => ∃ k : Nat, k ≤ l.length ∧ si = .int .i64 k ∧ sl = .int .i64 (loX l k) ∧ sr = .int .i64 (hiX l k) ∧ Below w2.heap.size w2 wr) (fun _ _ i _ => l.length - (intOf i).toNat)
    case atStart => exact ⟨0, Nat.zero_le _, rfl, by rw [loX_zero, ← HF.out], by rw [hiX_zero, ← HF.out], Below.refl _ _⟩
    case round =>
      obtain ⟨k, hk, rfl, rfl, rfl, hbr⟩ := hrel
      obtain ⟨lo, hlo⟩ : ∃ x, x = loX l k := ⟨_, rfl⟩
      obtain ⟨hi, hhi⟩ : ∃ x, x = hiX l k := ⟨_, rfl⟩
      rw [← hlo, ← hhi]
      have HLO := Lib.hid hlo
      have HHI := Lib.hid hhi
      clear hlo hhi
      by_cases hlt : k < l.length
      · have hltz : (k : Int) < (l.length : Int) := by omega
        obtain ⟨⟨x, y⟩, hxy⟩ : ∃ p, p = l.getD k (0, 0) := ⟨_, rfl⟩
        obtain ⟨c0, c1⟩ := HC.out k hlt
        rw [← hxy] at c0 c1
        simp only at c0 c1
        have c0 := Qt.keep hbr (Qt.keep HB2 c0)
        have c1 := Qt.keep hbr (Qt.keep HB2 c1)
        have HXY := Lib.hid hxy
        have d0 := Qt.cell_in (w := wr.alloc (.cells #[.int .i64 x, .int .i64 y] 49)) (a := ⟨wr.heap.size, 0, none⟩) (v := .int .i64 x) (by simp)
        clear hxy
        go_wp2
        refine Qt.below_all (by kernel_rfl) (by kernel_rfl) ?_
        repeat (go_big_quiet_step (fail))
        refine wpQuiet_nil ?_
        intro w3 hb3
        go_wp2
        go_roundw
        case measure => simp [intOf]; omega
        case rel =>
          refine ⟨k + 1, by omega, by go_num, ?_, ?_, (hbr.alloc hbr.size _).trans (hb3.mono (by have := hbr.size; simp; omega))⟩
          · rw [loX_succ hlt, ← HXY.out, HLO.out]
          · rw [hiX_succ hlt, ← HXY.out, HHI.out]
      · have hltz : ¬ (k : Int) < (l.length : Int) := by omega
        have hkl : k = l.length := by omega
        have hbl := loX_bd HIN.out h0 k
        have hbh := hiX_bd HIN.out h0 k
        rw [← HLO.out] at hbl
        rw [← HHI.out] at hbh
        have hfb := (inB_iff _).1 (HIN.out _ (getD_mem h0))
        have heb := (inB_iff _).1 (HIN.out _ (getD_mem (l := l) (k := l.length - 1) (by omega)))
        rw [← HF.out] at hfb
        rw [← HE.out] at heb
        simp only at hfb heb
        obtain ⟨hbl1, hbl2⟩ := hbl
        obtain ⟨hbh1, hbh2⟩ := hbh
        obtain ⟨_, _, hfb1, hfb2⟩ := hfb
        obtain ⟨_, _, heb1, heb2⟩ := heb
        have HKL := Lib.hid hkl
        have e1 := Qt.keep hbr e1
        have e2 := Qt.keep hbr e2
        obtain ⟨q0, q1, q2, q3, f0, f1, f2, f3⟩ := (HW2.out.below hbr).four
        clear hkl
        go_wp2
        have hv : boxV l = .agg #[.int .i64 lo, .int .i64 fy, .int .i64 (hi - lo + 1), .int .i64 (ey - fy + 1)] := by
          unfold boxV
          rw [← HKL.out, ← HLO.out, ← HHI.out, ← HF.out, HKL.out, ← HE.out]
        rw [hv]
        refine bodyPost_ret (v := .tuple #[.agg #[.int .i64 lo, .int .i64 fy, .int .i64 (hi - lo + 1), .int .i64 (ey - fy + 1)], .bool true]) (by simp [results, Tryd.results22, go_sem, q0, q1, q2, q3, f0, f1, f2, f3]) rfl ⟨rfl, ?_⟩
        exact ((((Qt.more HB2 HB2.size hbr).setCell (Nat.le_refl _) _).setCell (Nat.le_refl _) _).setCell (Nat.le_refl _) _).setCell (Nat.le_refl _) _

end Go.Proofs.YtacpncmdgkljdaaDoor.Cel
namespace Go.Proofs.YtacpncmdgkljdaaDoor.Cel
open Go.RowKit Go.Sort

def rawCell (p : Int × Int) : Int × Int := (pickI p.1 16 - 8, pickI p.2 16 - 8)
/-- the cells that the first k raw numbers tell -/
def rawTo (raw : List (Int × Int)) (k : Nat) : List (Int × Int) := (raw.take k).map rawCell
/-- the set that the laws make of raw numbers -/
def rawSet (raw : List (Int × Int)) : List (Int × Int) := setL (rawTo raw 60)
theorem rawTo_succ {raw : List (Int × Int)} {k : Nat} (hk : k < raw.length) : rawTo raw (k + 1) = rawTo raw k ++ [rawCell (raw.getD k (0, 0))] := by
  unfold rawTo; rw [take_snoc hk, List.map_append]; rfl
theorem length_rawTo (raw : List (Int × Int)) (k : Nat) : (rawTo raw k).length ≤ k := by
  unfold rawTo; rw [List.length_map, List.length_take]; omega
theorem rawCell_bd (p : Int × Int) : -8 ≤ (rawCell p).1 ∧ (rawCell p).1 ≤ 7 ∧ -8 ≤ (rawCell p).2 ∧ (rawCell p).2 ≤ 7 := by
  have h1 := pickI_bd p.1 16 (by omega)
  have h2 := pickI_bd p.2 16 (by omega)
  unfold rawCell
  simp only
  omega
theorem rawTo_bd {raw : List (Int × Int)} {k : Nat} {p : Int × Int} (h : p ∈ rawTo raw k) : -8 ≤ p.1 ∧ p.1 ≤ 7 ∧ -8 ≤ p.2 ∧ p.2 ≤ 7 := by
  unfold rawTo at h
  obtain ⟨q, _, rfl⟩ := List.mem_map.1 h
  exact rawCell_bd q

/-- A slice that reads as a list, whatever its place and capacity. -/
def Reads (w : World) (v : Value) (l : List (Int × Int)) : Prop := ∃ A c, v = .slice A l.length c ∧ l.length ≤ c ∧ Rd w w.heap.size A l
theorem Reads.below {w w' : World} {v : Value} {l : List (Int × Int)} (h : Reads w v l) (hb : Below w.heap.size w w') : Reads w' v l := by
  obtain ⟨A, c, e, hc, hr⟩ := h
  exact ⟨A, c, e, hc, (hr.below hb (Nat.le_refl _)).more hb.size⟩

def I64 (x : Int) : Prop := -9223372036854775808 ≤ x ∧ x ≤ 9223372036854775807

/-- where a slice of cells of the call's own lies -/
def Shape (A : Option Addr) (n c : Nat) : Prop := (A = none ∧ c = 0 ∧ n = 0) ∨ ∃ g, A = some ⟨g, 0, none⟩
theorem shape_own {w : World} {B T : Nat} {A : Option Addr} {n c : Nat} {l : List (Int × Int)} (h : Own w B T (.slice A n c) l) : Shape A n c := by
  rcases h.2 with ⟨h1, h2⟩ | ⟨g, cap, cur, h1, _⟩
  · simp only [Value.slice.injEq] at h1
    exact .inl ⟨h1.1, h1.2.2, h1.2.1⟩
  · simp only [Value.slice.injEq] at h1
    exact .inr ⟨g, h1.1⟩

set_option maxHeartbeats 1000000 in
theorem set_own (A : Option Addr) (raw : List (Int × Int)) (c : Nat) (w : World) (hR : Rd w w.heap.size A raw) (hl : raw.length ≤ 9223372036854775807) (hc : raw.length ≤ c) (hw : ∀ p ∈ raw, I64 p.1 ∧ I64 p.2) :
    Calls Tryd.prog 17 #[.slice A raw.length c] w fun e w' => ∃ v, e = .returned v ∧ Own w' 0 49 v (rawSet raw) ∧ Below w.heap.size w w' := by
  have HW := Lib.hid hw
  clear hw
  go_enter Tryd.func17, Tryd.ntmps17
  go_wp2
  go_loopw [3, 4] (fun v i wr => ∃ k : Nat, k ≤ raw.length ∧ k ≤ 60 ∧ i = .int .i64 k ∧ Aside (Own wr 0 49 v (setL (rawTo raw k))) ∧ Below w.heap.size w wr) (fun _ i _ => 60 - (intOf i).toNat)
  case atStart => exact ⟨0, Nat.zero_le _, by omega, rfl, World.ownsRow_nil _ _ _ _, Below.refl _ _⟩
  case round =>
    obtain ⟨k, hk, hk60, rfl, HO, hb⟩ := hrel
    by_cases hlt : k < raw.length ∧ k < 60
    · obtain ⟨hlt, h60⟩ := hlt
      have hltz : (k : Int) < (raw.length : Int) := by omega
      have h60z : (k : Int) < 60 := by omega
      obtain ⟨b, off, rfl, hbB, hcell⟩ := hR.at_ (by omega)
      obtain ⟨⟨x, y⟩, hxy⟩ : ∃ p, p = raw.getD k (0, 0) := ⟨_, rfl⟩
      obtain ⟨c0, c1⟩ := hcell k hlt
      rw [← hxy] at c0 c1
      simp only at c0 c1
      have c0 := Qt.keep hb c0
      have c1 := Qt.keep hb c1
      have hwf := HW.out _ (getD_mem hlt)
      rw [← hxy] at hwf
      have HWF := Lib.hid hwf
      have hbd := rawCell_bd (x, y)
      unfold rawCell at hbd
      simp only at hbd
      obtain ⟨n1, n2, n3, n4⟩ := hbd
      have HXY := Lib.hid hxy
      obtain ⟨A', c', hv, hc', hr'⟩ := HO.out.rd
      have hsl := length_setL (rawTo raw k)
      have hrl := length_rawTo raw k
      have k0 := Qt.cell_in c0
      have k1 := Qt.cell_in c1
      have HR' := Lib.hid hr'
      subst hv
      clear hxy hcell hwf hr'
      go_wp2
      refine Qt.below_tail 16 (by kernel_rfl) (by kernel_rfl) ?_
      simp only [List.take_succ_cons, List.take_zero, List.drop_succ_cons, List.drop_zero]
      repeat (go_big_quiet_step (first | (go_at_call_of 32 x; exact Qt.at_same fun _ _ => pick_any x 16 _ HWF.out.1.1 HWF.out.1.2 (by omega) (by omega)) | (go_at_call_of 32 y; exact Qt.at_same fun _ _ => pick_any y 16 _ HWF.out.2.1 HWF.out.2.2 (by omega) (by omega))))
      refine wpQuiet_nil ?_
      intro w1 hb1
      have HR1 := (HR'.out.below hb1 (Nat.le_refl _)).more hb1.size
      have hp := put_any A' (setL (rawTo raw k)) c' (pickI x 16 - 8, pickI y 16 - 8) w1 HR1 (by omega) hc'
      have hset : putL (pickI x 16 - 8, pickI y 16 - 8) (setL (rawTo raw k)) = setL (rawTo raw (k + 1)) := by
        rw [rawTo_succ hlt, setL_snoc, ← HXY.out]
        rfl
      rw [hset] at hp
      clear hset HR1
      go_wp2_with (go_at_call 19; refine hp.mono ?_; rintro e w2 ⟨v2, rfl, hown2, hb2⟩)
      go_roundw
      case measure => simp [intOf]; omega
      case rel =>
        refine ⟨k + 1, by omega, by omega, by go_num, ?_, Qt.more (Qt.more hb hb.size hb1) (Nat.le_trans hb.size hb1.size) hb2⟩
        exact hown2.mono (Nat.zero_le _)
    · have hset : rawTo raw k = rawTo raw 60 := by
        unfold rawTo
        by_cases h : k < raw.length
        · rw [show k = 60 by omega]
        · rw [List.take_of_length_le (by omega), List.take_of_length_le (by omega)]
      have HSET := Lib.hid hset
      clear hset
      by_cases h1 : k < raw.length
      · have h1z : (k : Int) < (raw.length : Int) := by omega
        have h2z : ¬ (k : Int) < 60 := by omega
        go_wp2
        go_ret
        have := HO.out
        rw [HSET.out] at this
        exact ⟨_, rfl, this, hb⟩
      · have h1z : ¬ (k : Int) < (raw.length : Int) := by omega
        go_wp2
        go_ret
        have := HO.out
        rw [HSET.out] at this
        exact ⟨_, rfl, this, hb⟩

theorem set_any (A : Option Addr) (raw : List (Int × Int)) (c : Nat) (w : World) (hR : Rd w w.heap.size A raw) (hl : raw.length ≤ 9223372036854775807) (hc : raw.length ≤ c) (hw : ∀ p ∈ raw, I64 p.1 ∧ I64 p.2) :
    Calls Tryd.prog 17 #[.slice A raw.length c] w fun e w' => ∃ v, e = .returned v ∧ Reads w' v (rawSet raw) ∧ Below w.heap.size w w' :=
  (set_own A raw c w hR hl hc hw).mono fun e w' ⟨v, he, ho, hb⟩ => by
    obtain ⟨A2, c2, h1, h2, h3⟩ := ho.rd
    exact ⟨v, he, ⟨A2, c2, h1, h2, h3⟩, hb⟩

end Go.Proofs.YtacpncmdgkljdaaDoor.Cel
