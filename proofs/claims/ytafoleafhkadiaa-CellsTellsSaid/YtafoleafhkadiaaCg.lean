/-
  The library's Compact at places: what stands there twice is left out once, in the row itself.
-/
import Derived.Test.YtafoleafhkadiaaCf
import Derived.Laws.CopyRow
namespace Go.Proofs.Ytafoleafhkadiaa
open Go.RowKit Go.Sort

/-! ### in plain words -/
def ddS (acc : List (Int × Int)) (x : Int × Int) : List (Int × Int) := if acc.getLast? = some x then acc else acc ++ [x]
def ddL (l : List (Int × Int)) : List (Int × Int) := l.foldl ddS []
theorem ddL_snoc (l : List (Int × Int)) (x : Int × Int) : ddL (l ++ [x]) = ddS (ddL l) x := by simp [ddL, List.foldl_append]

theorem snoc_ind {P : List (Int × Int) → Prop} (h0 : P []) (hs : ∀ l x, P l → P (l ++ [x])) (l : List (Int × Int)) : P l := by
  have h : ∀ m : List (Int × Int), P m.reverse := by
    intro m
    induction m with
    | nil => exact h0
    | cons x m ih => rw [List.reverse_cons]; exact hs _ _ ih
  have := h l.reverse
  rwa [List.reverse_reverse] at this

theorem last_ddL (l : List (Int × Int)) : (ddL l).getLast? = l.getLast? := by
  refine snoc_ind (P := fun l => (ddL l).getLast? = l.getLast?) rfl (fun l x ih => ?_) l
  show (ddL (l ++ [x])).getLast? = (l ++ [x]).getLast?
  rw [ddL_snoc, ddS]
  split
  · rename_i h; rw [h]; simp
  · simp
theorem length_ddL (l : List (Int × Int)) : (ddL l).length ≤ l.length := by
  refine snoc_ind (P := fun l => (ddL l).length ≤ l.length) (Nat.le_refl _) (fun l x ih => ?_) l
  show (ddL (l ++ [x])).length ≤ (l ++ [x]).length
  rw [ddL_snoc, ddS]
  have ih' : (ddL l).length ≤ l.length := ih
  split <;> simp <;> omega
theorem ddL_same {l : List (Int × Int)} {k : Nat} (h0 : 0 < k) (hk : k < l.length) (h : l.getD k (0, 0) = l.getD (k - 1) (0, 0)) : ddL (l.take (k + 1)) = ddL (l.take k) := by
  rw [take_snoc hk, ddL_snoc, ddS, last_ddL]
  have : (l.take k).getLast? = some (l.getD (k - 1) (0, 0)) := by
    rw [List.getLast?_eq_getElem?, List.length_take, Nat.min_eq_left (by omega), List.getElem?_take, if_pos (by omega), List.getD_eq_getElem?_getD, List.getElem?_eq_getElem (by omega)]
    rfl
  rw [this, h, if_pos rfl]
theorem ddL_other {l : List (Int × Int)} {k : Nat} (hk : k < l.length) (h : k = 0 ∨ l.getD k (0, 0) ≠ l.getD (k - 1) (0, 0)) : ddL (l.take (k + 1)) = ddL (l.take k) ++ [l.getD k (0, 0)] := by
  rw [take_snoc hk, ddL_snoc, ddS, last_ddL, if_neg]
  rcases h with h | h
  · subst h; simp
  · by_cases h0 : k = 0
    · subst h0; simp
    · have : (l.take k).getLast? = some (l.getD (k - 1) (0, 0)) := by
        rw [List.getLast?_eq_getElem?, List.length_take, Nat.min_eq_left (by omega), List.getElem?_take, if_pos (by omega), List.getD_eq_getElem?_getD, List.getElem?_eq_getElem (by omega)]
        rfl
      rw [this]
      intro e
      exact h (Option.some.inj e).symm

/-- Of what is sorted it makes the set. -/
theorem ddL_sorted {l : List (Int × Int)} (h : l.Pairwise fun p q => lessB q p = false) : Rises (ddL l) ∧ ∀ y, y ∈ ddL l ↔ y ∈ l := by
  refine snoc_ind (P := fun l => (l.Pairwise fun p q => lessB q p = false) → Rises (ddL l) ∧ ∀ y, y ∈ ddL l ↔ y ∈ l) (fun _ => ⟨List.Pairwise.nil, fun _ => Iff.rfl⟩) (fun l x ih hs => ?_) l h
  have hp := List.pairwise_append.1 hs
  obtain ⟨h1, h2⟩ := ih hp.1
  rw [ddL_snoc, ddS]
  split
  · rename_i hl
    refine ⟨h1, fun y => ?_⟩
    rw [h2, List.mem_append, List.mem_singleton]
    constructor
    · exact .inl
    · rintro (h | rfl)
      · exact h
      · rw [last_ddL] at hl
        exact List.mem_of_getLast? hl
  · rename_i hl
    rw [last_ddL] at hl
    refine ⟨List.pairwise_append.2 ⟨h1, List.pairwise_singleton _ _, fun y hy z hz => ?_⟩, fun y => by rw [List.mem_append, List.mem_append, h2]⟩
    rw [List.mem_singleton] at hz
    subst hz
    have hyl := (h2 y).1 hy
    have hxy : lessB z y = false := hp.2.2 y hyl z (List.mem_singleton.2 rfl)
    refine lessB_total (fun e => ?_) hxy
    subst e
    -- z itself is in l: then it is the last one
    obtain ⟨i, hi, hiz⟩ := List.getElem_of_mem hyl
    have hlast : l.getLast? = some (l[l.length - 1]'(by omega)) := by rw [List.getLast?_eq_getElem?, List.getElem?_eq_getElem (by omega)]
    have h3 : lessB z (l[l.length - 1]'(by omega)) = false := hp.2.2 _ (List.getElem_mem _) z (List.mem_singleton.2 rfl)
    by_cases hil : i = l.length - 1
    · subst hil
      rw [hiz] at hlast
      exact hl hlast
    · have h4 := List.pairwise_iff_getElem.1 hp.1 i (l.length - 1) hi (by omega) (by omega)
      rw [hiz] at h4
      by_cases e : l[l.length - 1]'(by omega) = z
      · rw [e] at hlast; exact hl hlast
      · have := lessB_total e h4
        rw [this] at h3
        cases h3

theorem ddL_setL {l : List (Int × Int)} (h : l.Pairwise fun p q => lessB q p = false) : ddL l = setL l :=
  rises_ext (ddL_sorted h).1 (rises_setL l) fun y => by rw [(ddL_sorted h).2, mem_setL]

/-! ### clear -/
theorem fl_take (l : List (Int × Int)) (k : Nat) : fl (l.take k) = (fl l).take (k * 2) := by
  induction l generalizing k with
  | nil => simp [fl]
  | cons x l ih =>
    cases k with
    | zero => rfl
    | succ k =>
      have e1 : (k + 1) * 2 = k * 2 + 1 + 1 := by omega
      have e2 : ∀ (q : Int × Int) (m : List (Int × Int)), fl (q :: m) = .int .i64 q.1 :: .int .i64 q.2 :: fl m := fun _ _ => rfl
      rw [List.take_succ_cons, e2, e2, ih, e1]
      rfl

theorem Row.cut {w : World} {B T g n cap k : Nat} {l : List (Int × Int)} (h : Row w B T g n cap l) (hk : k ≤ n) : Row w B T g k cap (l.take k) := by
  obtain ⟨hn, hlen, h' | ⟨g', cap', cur, hv, hB, hg, hnc, hcm, hcs, htake⟩⟩ := h
  · simp at h'
  · simp only [Value.slice.injEq, Option.some.injEq, Addr.mk.injEq, and_true, true_and] at hv
    obtain ⟨rfl, rfl⟩ := hv
    have e := fl_take l k
    refine ⟨by rw [List.length_take]; omega, by rw [length_fl, List.length_take]; omega, .inr ⟨g, cap, cur, rfl, hB, hg, by omega, hcm, hcs, ?_⟩⟩
    rw [e, ← htake, List.take_take, Nat.min_eq_left (by omega)]

/-- clear of the row's end: what stands ahead of it stays. -/
theorem clear_row {P : Program} {w : World} {B T t g n cap k c : Nat} {l : List (Int × Int)} (h : Row w B T g n cap l) (hk : k < n) (ht : P.underlying t = some (.slice T)) (hv : ∀ w, (zeroValue T).run P w = .ok (.agg #[.int .i64 0, .int .i64 0]) w) :
    ∃ w', (∀ ty, (Builtin.clear_ #[t] ty #[.slice (some ⟨g, k * 2, none⟩) (n - k) c]).run P w = .ok (.tuple #[]) w') ∧ Row w' B T g k cap (l.take k) ∧ Below B w w' := by
  have hcut := h.cut (Nat.le_of_lt hk)
  obtain ⟨hn, hlen, h' | ⟨g', cap', cur, hvv, hB, hg, hnc, hcm, hcs, htake⟩⟩ := h
  · simp at h'
  · simp only [Value.slice.injEq, Option.some.injEq, Addr.mk.injEq, and_true, true_and] at hvv
    obtain ⟨rfl, rfl⟩ := hvv
    obtain ⟨Z, hZ⟩ : ∃ Z, Z = (Builtin.zeroCells #[.int .i64 0, .int .i64 0] (n - k)).toList := ⟨_, rfl⟩
    have hz1 : ∀ u ∈ Z, u.oneCell' = true := by
      intro u hu
      rw [hZ] at hu
      simp only [Builtin.zeroCells, Array.toList_map, List.mem_map] at hu
      obtain ⟨i, _, rfl⟩ := hu
      have : i % 2 = 0 ∨ i % 2 = 1 := by omega
      rcases this with h | h <;> simp [h] <;> rfl
    have hzl : Z.length = (n - k) * 2 := by rw [hZ]; simp [Builtin.zeroCells]
    have hle : k * 2 + 0 + (n - k) * 2 ≤ cur.size := by
      rw [hcs]
      have := Nat.mul_le_mul_right 2 hnc
      omega
    have hst := run_storeCells_at P g (k * 2) T Z 0 cur w hg (by rw [hzl]; exact hle) hz1
    rw [hzl, Nat.add_zero] at hst
    refine ⟨w.setRow g (cur.toList.take (k * 2) ++ Z ++ cur.toList.drop (k * 2 + (n - k) * 2)).toArray, fun ty => ?_, ?_, ?_⟩
    · obtain ⟨m, hm⟩ : ∃ m, n - k = m + 1 := ⟨n - k - 1, by omega⟩
      rw [hm] at hst hZ ⊢
      simp only [Builtin.clear_]
      simp [run_underlying ht, hv, Value.cells, ← hZ, hst]
    · obtain ⟨hn2, hlen2, _⟩ := hcut
      refine ⟨hn2, hlen2, .inr ⟨g, cap, _, rfl, hB, setRow_heap w g cur _ T _ hg, by omega, hcm, ?_, ?_⟩⟩
      · simp [hzl, hcs]
        have := Nat.mul_le_mul_right 2 hnc
        omega
      · have hkc : k * 2 ≤ cur.toList.length := by rw [Array.length_toList, hcs]; have := Nat.mul_le_mul_right 2 hnc; omega
        show List.take (k * 2) (List.take (k * 2) cur.toList ++ Z ++ _) = _
        rw [List.append_assoc, List.take_append_of_le_length (by rw [List.length_take]; omega), List.take_take, Nat.min_self]
        have e := fl_take l k
        rw [e, ← htake, List.take_take, Nat.min_eq_left (by omega)]
    · exact ⟨rfl, rfl, rfl, by simp, fun j hj => setRow_other w g j _ (by omega)⟩

/-- What the second loop has done: the first kk places hold what is kept of the first p. -/
structure Packs (l : List (Int × Int)) (p kk : Nat) (cur : List (Int × Int)) : Prop where
  len : cur.length = l.length
  kept : cur.take kk = ddL (l.take p)
  size : (ddL (l.take p)).length = kk
  lt : kk < p
  high : ∀ j, p ≤ j + 1 → cur.getD j (0, 0) = l.getD j (0, 0)

theorem Packs.skip {l cur : List (Int × Int)} {p kk : Nat} (h : Packs l p kk cur) (h0 : 0 < p) (hp : p < l.length) (he : l.getD p (0, 0) = l.getD (p - 1) (0, 0)) : Packs l (p + 1) kk cur := by
  have e := ddL_same h0 hp he
  exact ⟨h.len, by rw [e]; exact h.kept, by rw [e]; exact h.size, by have := h.lt; omega, fun j hj => h.high j (by omega)⟩
theorem Packs.keep {l cur : List (Int × Int)} {p kk : Nat} (h : Packs l p kk cur) (hp : p < l.length) (he : l.getD p (0, 0) ≠ l.getD (p - 1) (0, 0)) : Packs l (p + 1) (kk + 1) (cur.set kk (l.getD p (0, 0))) := by
  have e := ddL_other hp (.inr he)
  have hlt := h.lt
  have hkl : kk < cur.length := by rw [h.len]; omega
  refine ⟨by rw [List.length_set]; exact h.len, ?_, by rw [e]; simp [h.size], by omega, fun j hj => ?_⟩
  · rw [e, ← h.kept]
    apply List.ext_getElem?
    intro i
    rw [List.getElem?_take]
    by_cases hi : i < kk
    · rw [if_pos (by omega), List.getElem?_set_ne (by omega), List.getElem?_append_left (by rw [List.length_take]; omega), List.getElem?_take, if_pos hi]
    · by_cases hi2 : i = kk
      · subst hi2
        rw [if_pos (by omega), List.getElem?_set_self hkl, List.getElem?_append_right (by rw [List.length_take]; omega)]
        have : i - (List.take i cur).length = 0 := by rw [List.length_take]; omega
        rw [this]
        rfl
      · rw [if_neg (by omega), List.getElem?_append_right (by rw [List.length_take]; omega), List.getElem?_eq_none]
        rw [List.length_take]; simp; omega
  · rw [← h.high j (by omega), List.getD_eq_getElem?_getD, List.getElem?_set_ne (by omega), List.getD_eq_getElem?_getD]

theorem zeroPlace : ∀ w, (zeroValue 62).run Try.prog w = .ok (.agg #[.int .i64 0, .int .i64 0]) w := fun _ => by kernel_rfl

/-- in the first k places nothing stands twice in a row -/
def noTwin (l : List (Int × Int)) (k : Nat) : Prop := ∀ j, 0 < j → j < k → l.getD j (0, 0) ≠ l.getD (j - 1) (0, 0)
theorem noTwin_ddL {l : List (Int × Int)} {k : Nat} (hk : k ≤ l.length) (h : noTwin l k) : ddL (l.take k) = l.take k := by
  induction k with
  | zero => simp [ddL]
  | succ k ih =>
    rw [ddL_other (by omega), ih (by omega) (fun j h0 hj => h j h0 (by omega)), ← take_snoc (by omega)]
    by_cases h0 : k = 0
    · exact .inl h0
    · exact .inr (h k (by omega) (by omega))

set_option maxHeartbeats 2000000 in
theorem compact_any (g : Nat) (l : List (Int × Int)) (cap : Nat) (w : World) {B : Nat} (hR : Row w B 62 g l.length cap l) (hl : l.length ≤ 1000000) :
    Calls Try.prog 44 #[.slice (some ⟨g, 0, none⟩) l.length cap] w fun e w' => e = .returned (.slice (some ⟨g, 0, none⟩) (ddL l).length cap) ∧ Row w' B 62 g (ddL l).length cap (ddL l) ∧ Below B w w' := by
  have hcap := hR.cap_
  have hBg := hR.lt
  by_cases h2 : l.length < 2
  · have e : ddL l = l := by
      have := noTwin_ddL (l := l) (Nat.le_refl _) (fun j h0 hj => absurd hj (by omega))
      rwa [List.take_length] at this
    rw [e]
    have hz : (l.length : Int) < 2 := by omega
    clear e
    go_enter Try.func44, Try.ntmps44
    go_wp2
    go_ret
    exact ⟨rfl, hR, Below.refl _ _⟩
  · have hz : ¬ (l.length : Int) < 2 := by omega
    generalize hD : ddL l = D
    have HD := Lib.hid hD
    have HR := Lib.hid hR
    clear hD hR
    go_enter Try.func44, Try.ntmps44
    go_wp2
    go_loopw [3] (fun s3 wr => ∃ k : Nat, 1 ≤ k ∧ k ≤ l.length ∧ s3 = .int .i64 k ∧ Hid (noTwin l k) ∧ Hid (Row wr B 62 g l.length cap l) ∧ Below B w wr) (fun i _ => l.length - (intOf i).toNat)
    case atStart => exact ⟨1, Nat.le_refl _, by omega, rfl, fun j h0 hj => absurd hj (by omega), HR.out, Below.refl _ _⟩
    case round =>
      obtain ⟨k, hk1, hk, rfl, HT, HW, hb⟩ := hrel
      by_cases hlt : k < l.length
      · have hltz : (k : Int) < (l.length : Int) := by omega
        obtain ⟨kp, rfl⟩ : ∃ kp, k = kp + 1 := ⟨k - 1, by omega⟩
        obtain ⟨⟨x0, x1⟩, hx⟩ : ∃ p, p = l.getD (kp + 1) (0, 0) := ⟨_, rfl⟩
        obtain ⟨⟨y0, y1⟩, hy⟩ : ∃ p, p = l.getD kp (0, 0) := ⟨_, rfl⟩
        obtain ⟨c0, c1⟩ := HW.out.cell hlt
        obtain ⟨d0, d1⟩ := HW.out.cell (j := kp) (by omega)
        rw [← hx] at c0 c1
        rw [← hy] at d0 d1
        simp only at c0 c1 d0 d1
        have HX := Lib.hid hx
        have HY := Lib.hid hy
        clear hx hy
        have k0 := Qt.cell_in c0
        have k1 := Qt.cell_in c1
        have k2 := Qt.cell_in d0
        have k3 := Qt.cell_in d1
        have hcase : (x0 = y0 ∧ x1 = y1) ∨ (x0 = y0 ∧ ¬ x1 = y1) ∨ ¬ x0 = y0 := by
          by_cases h1 : x0 = y0 <;> by_cases h2 : x1 = y1 <;> simp [h1, h2]
        rcases hcase with ⟨rfl, rfl⟩ | hne
        · go_wp2
          refine Qt.below_all (by kernel_rfl) (by kernel_rfl) ?_
          repeat (go_big_quiet_step (fail))
          refine wpQuiet_nil ?_
          intro w1 hb1
          clear k0 k1 k2 k3 c0 c1 d0 d1
          have hnc : ¬ cap = kp + 1 := by omega
          go_wp2
          have HW1 : Hid (Row w1 B 62 g l.length cap l) := HW.out.below hb1
          have hb2 : Below B w w1 := Qt.more hb (by have := HW.out.lt; omega) hb1
          have HP0 : Hid (Packs l (kp + 1 + 1) (kp + 1) l) := by
            have e := noTwin_ddL (l := l) (k := kp + 1) (by omega) HT.out
            have e2 := ddL_same (l := l) (k := kp + 1) (by omega) hlt (by rw [Nat.add_sub_cancel, ← HX.out, ← HY.out])
            exact ⟨rfl, by rw [e2, e], by rw [e2, e, List.length_take]; omega, by omega, fun _ _ => rfl⟩
          clear hb hb1 HW HX HY HT
          obtain ⟨wo, rfl⟩ : ∃ wo : World, wo = wr := ⟨_, rfl⟩
          go_loopw [3, 5] (fun s3 s5 wr => ∃ (kk k2 : Nat) (cur : List (Int × Int)), s3 = .int .i64 kk ∧ s5 = .int .i64 k2 ∧ 1 ≤ k2 ∧ kp + 1 + k2 ≤ l.length ∧ kk < kp + 1 + k2 ∧ Hid (Packs l (kp + 1 + k2) kk cur) ∧ Hid (Row wr B 62 g l.length cap cur) ∧ Below B w wr) (fun _ i _ => l.length - (kp + 1 + (intOf i).toNat))
          case atStart => exact ⟨kp + 1, 1, l, rfl, rfl, Nat.le_refl _, by omega, by omega, HP0.out, HW1.out, hb2⟩
          case round =>
            obtain ⟨kk, k2, cur, rfl, rfl, h21, h2n, hkk, HP, HC, hbr⟩ := hrel
            by_cases hlt2 : kp + 1 + k2 < l.length
            · obtain ⟨kq, rfl⟩ : ∃ kq, k2 = kq + 1 := ⟨k2 - 1, by omega⟩
              have hltz2 : (kq : Int) + 1 < ((l.length - (kp + 1) : Nat) : Int) := by omega
              obtain ⟨⟨u0, u1⟩, hu⟩ : ∃ p, p = l.getD (kp + 1 + (kq + 1)) (0, 0) := ⟨_, rfl⟩
              obtain ⟨⟨v0, v1⟩, hv⟩ : ∃ p, p = l.getD (kp + 1 + kq) (0, 0) := ⟨_, rfl⟩
              obtain ⟨c0, c1⟩ := HC.out.cell (j := kp + 1 + (kq + 1)) hlt2
              obtain ⟨d0, d1⟩ := HC.out.cell (j := kp + 1 + kq) (by omega)
              rw [HP.out.high _ (by omega), ← hu] at c0 c1
              rw [HP.out.high _ (by omega), ← hv] at d0 d1
              rw [show (kp + 1 + (kq + 1)) * 2 = (kp + 1) * 2 + (kq + 1) * 2 by omega] at c0 c1
              rw [show (kp + 1 + kq) * 2 = (kp + 1) * 2 + kq * 2 by omega] at d0 d1
              simp only at c0 c1 d0 d1
              have HU := Lib.hid hu
              have HV := Lib.hid hv
              clear hu hv
              have k0 := Qt.cell_in c0
              have k1 := Qt.cell_in c1
              have k2 := Qt.cell_in d0
              have k3 := Qt.cell_in d1
              have hcase : (u0 = v0 ∧ u1 = v1) ∨ (u0 = v0 ∧ ¬ u1 = v1) ∨ ¬ u0 = v0 := by
                by_cases h1 : u0 = v0 <;> by_cases h2 : u1 = v1 <;> simp [h1, h2]
              rcases hcase with ⟨rfl, rfl⟩ | hne
              · go_wp2
                refine Qt.below_all (by kernel_rfl) (by kernel_rfl) ?_
                repeat (go_big_quiet_step (fail))
                refine wpQuiet_nil ?_
                intro w3 hb3
                go_wp2
                go_roundw
                case measure => simp [intOf]; omega
                case rel =>
                  exact ⟨kk, kq + 1 + 1, cur, rfl, by go_num, by omega, by omega, by omega, HP.out.skip (by omega) (by omega) (by rw [← HU.out, show kp + 1 + (kq + 1) - 1 = kp + 1 + kq by omega, ← HV.out]), HC.out.below hb3, Qt.more hbr (by have := HC.out.lt; omega) hb3⟩
              · rcases hne with ⟨rfl, hne⟩ | hne
                all_goals
                  go_wp2
                  refine Qt.below_all (by kernel_rfl) (by kernel_rfl) ?_
                  repeat (go_big_quiet_step (fail))
                  refine wpQuiet_nil ?_
                  intro w3 hb3
                  have e0 := Qt.keep hb3 c0
                  have e1 := Qt.keep hb3 c1
                  have HC3 := Lib.hid (HC.out.below hb3)
                  have f0 := HC3.out.free (kk * 2)
                  have f1 := HC3.out.free (kk * 2 + 1)
                  obtain ⟨g0, g1⟩ := HC3.out.cell (j := kk) (by omega)
                  clear k0 k1 k2 k3 c0 c1 d0 d1
                  go_wp2
                  have HS := HC3.out.store kk u0 u1
                  have hbg := HC3.out.lt
                  clear f0 f1 g0 g1 e0 e1
                  go_roundw
                  case measure => simp [intOf]; omega
                  case rel =>
                    refine ⟨kk + 1, kq + 1 + 1, cur.set kk (u0, u1), by go_num, by go_num, by omega, by omega, by omega, ?_, HS, ((Qt.more hbr (by have := HC.out.lt; omega) hb3).setCell hbg.1 _).setCell hbg.1 _⟩
                    have hk3 := HP.out.keep hlt2 (by rw [← HU.out, show kp + 1 + (kq + 1) - 1 = kp + 1 + kq by omega, ← HV.out]; simp [hne])
                    rw [← HU.out] at hk3
                    exact hk3
            · have hltz2 : ¬ (k2 : Int) < ((l.length - (kp + 1) : Nat) : Int) := by omega
              have hend : kp + 1 + k2 = l.length := by omega
              have hkl : kk < l.length := by omega
              obtain ⟨w5, hcl, HR5, hb5⟩ := clear_row (P := Try.prog) (t := 59) (c := cap - kk) HC.out hkl Try.underlying59 zeroPlace
              have hPD : cur.take kk = D ∧ D.length = kk := by
                have h1 := HP.out.kept
                have h2 := HP.out.size
                rw [hend, List.take_length, HD.out] at h1 h2
                exact ⟨h1, h2⟩
              have HPD := Lib.hid hPD
              have HR5' := Lib.hid HR5
              have hnc2 : ¬ cap = kk := by omega
              have hnk : 0 < l.length - kk := by omega
              clear hend HR5 hPD
              go_wp2
              go_ret
              have hq := HR5'.out
              rw [HPD.out.1] at hq
              rw [HPD.out.2]
              exact ⟨rfl, hq, hbr.trans hb5⟩
        · rcases hne with ⟨rfl, hne⟩ | hne
          all_goals
            go_wp2
            refine Qt.below_all (by kernel_rfl) (by kernel_rfl) ?_
            repeat (go_big_quiet_step (fail))
            refine wpQuiet_nil ?_
            intro w1 hb1
            go_wp2
            go_roundw
            case measure => simp [intOf]; omega
            case rel =>
              refine ⟨kp + 1 + 1, by omega, by omega, by go_num, (show noTwin l (kp + 1 + 1) from fun j h0 hj => ?_), HW.out.below hb1, Qt.more hb (by have := HW.out.lt; omega) hb1⟩
              by_cases hjk : j = kp + 1
              · subst hjk
                rw [Nat.add_sub_cancel, ← HX.out, ← HY.out]
                simp [hne]
              · exact HT.out j h0 (by omega)
      · have hltz : ¬ (k : Int) < (l.length : Int) := by omega
        have hkl : k = l.length := by omega
        have e : D = l := by
          have := noTwin_ddL hk HT.out
          rw [hkl, List.take_length, HD.out] at this; exact this
        have HE := Lib.hid e
        clear e hkl
        go_wp2
        go_ret
        rw [HE.out]
        exact ⟨rfl, HW.out, hb⟩

end Go.Proofs.Ytafoleafhkadiaa
