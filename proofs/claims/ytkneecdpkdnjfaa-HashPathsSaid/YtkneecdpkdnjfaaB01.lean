/-
  Texts that the claims of this seat share, part 1.
-/
import Derived.Test.YtkneecdpkdnjfaaB00
import Derived.Test.YtkneecdpkdnjfaaRows
import Derived.WalkKit
import Derived.WalkSpells
import Derived.WalkLawsBesides
import Derived.WalkArith
import Derived.IntWalk
import Derived.Lib.AppendZerosOnto
import Derived.Lib.QuietBelow
import Derived.Lib.Hide
set_option linter.unusedVariables false
set_option linter.unusedSimpArgs false
namespace Go.Proofs.Ytkneecdpkdnjfaa
set_option linter.unusedVariables false
set_option linter.unusedSimpArgs false

def isKid (k : Kd) (x : Nat) : Bool := decide ((x : Int) = k.1) || decide ((x : Int) = k.2.1) || decide ((x : Int) = k.2.2.1) || decide ((x : Int) = k.2.2.2)
theorem isKid_iff {k : Kd} {x : Nat} : isKid k x = true ↔ ∃ i, i < 4 ∧ kd k i = (x : Int) := by
  unfold isKid
  simp only [Bool.or_eq_true, decide_eq_true_eq]
  constructor
  · rintro (((h | h) | h) | h)
    · exact ⟨0, by decide, h.symm⟩
    · exact ⟨1, by decide, h.symm⟩
    · exact ⟨2, by decide, h.symm⟩
    · exact ⟨3, by decide, h.symm⟩
  · rintro ⟨i, hi, h⟩
    match i, hi with
    | 0, _ => exact .inl (.inl (.inl h.symm))
    | 1, _ => exact .inl (.inl (.inr h.symm))
    | 2, _ => exact .inl (.inr h.symm)
    | 3, _ => exact .inr h.symm
def setK (k : Kd) (f : Nat → Bool) : Nat → Bool := fun x => f x || isKid k x
/-- the flags, from a place down -/
def down (l : List Nd) : Nat → (Nat → Bool) → Nat → Bool
  | 0, f => f
  | i + 1, f => down l i (if (decide (2 ≤ i) && f i) = true then setK (l.getD i deadN).2.1 f else f)
def base6 (R : List Int) : Nat → Bool := fun x => decide (x < 2) || R.any fun r => decide (r = (x : Int))
def keepF (l : List Nd) (R : List Int) : Nat → Bool := down l l.length (base6 R)

theorem down_mono (l : List Nd) : ∀ (i : Nat) (f : Nat → Bool) (x : Nat), f x = true → down l i f x = true := by
  intro i
  induction i with
  | zero => intro f x h; exact h
  | succ i ih =>
    intro f x h
    refine ih _ x ?_
    split
    · unfold setK; rw [h]; rfl
    · exact h
theorem down_above {l : List Nd} (hk : ∀ i, 2 ≤ i → i < l.length → ∀ x, isKid (l.getD i deadN).2.1 x = true → x < i) : ∀ (i : Nat), i ≤ l.length → ∀ (f : Nat → Bool) (x : Nat), i ≤ x → down l i f x = f x := by
  intro i
  induction i with
  | zero => intro _ f x _; rfl
  | succ i ih =>
    intro hi f x hx
    show down l i _ x = f x
    rw [ih (by omega) _ x (by omega)]
    split
    · next h =>
      simp only [Bool.and_eq_true, decide_eq_true_eq] at h
      unfold setK
      have : isKid (l.getD i deadN).2.1 x = false := by
        rw [Bool.eq_false_iff]
        intro hx2
        have := hk i h.1 (by omega) x hx2
        omega
      rw [this, Bool.or_false]
    · rfl
theorem down_closed {l : List Nd} (hk : ∀ i, 2 ≤ i → i < l.length → ∀ x, isKid (l.getD i deadN).2.1 x = true → x < i) : ∀ (i : Nat), i ≤ l.length → ∀ (f : Nat → Bool) (j x : Nat), 2 ≤ j → j < i → down l i f j = true → isKid (l.getD j deadN).2.1 x = true → down l i f x = true := by
  intro i
  induction i with
  | zero => intro _ f j x _ hj; omega
  | succ i ih =>
    intro hi f j x h2 hj hd hx
    rcases Nat.lt_or_ge j i with h | h
    · exact ih (by omega) _ j x h2 h hd hx
    · obtain rfl : j = i := by omega
      have hab : down l j (if (decide (2 ≤ j) && f j) = true then setK (l.getD j deadN).2.1 f else f) j = true := hd
      rw [down_above hk j (by omega) _ j (Nat.le_refl _)] at hab
      have hfj : f j = true := by
        by_cases hc : (decide (2 ≤ j) && f j) = true
        · simp only [Bool.and_eq_true] at hc
          exact hc.2
        · rw [if_neg hc] at hab
          exact hab
      show down l j (if (decide (2 ≤ j) && f j) = true then setK (l.getD j deadN).2.1 f else f) x = true
      refine down_mono l j _ x ?_
      rw [if_pos (by rw [hfj, decide_eq_true h2]; rfl)]
      unfold setK
      rw [hx, Bool.or_true]
theorem down_min (l : List Nd) : ∀ (i : Nat) (f : Nat → Bool) (x : Nat), down l i f x = true → f x = true ∨ ∃ j, 2 ≤ j ∧ j < i ∧ down l i f j = true ∧ isKid (l.getD j deadN).2.1 x = true := by
  intro i
  induction i with
  | zero => intro f x h; exact .inl h
  | succ i ih =>
    intro f x h
    rcases ih _ x h with h1 | ⟨j, j1, j2, j3, j4⟩
    · by_cases hc : (decide (2 ≤ i) && f i) = true
      · rw [if_pos hc] at h1
        unfold setK at h1
        simp only [Bool.or_eq_true] at h1
        rcases h1 with h1 | h1
        · exact .inl h1
        · simp only [Bool.and_eq_true, decide_eq_true_eq] at hc
          exact .inr ⟨i, hc.1, Nat.lt_succ_self i, down_mono l (i + 1) f i hc.2, h1⟩
      · rw [if_neg hc] at h1
        exact .inl h1
    · exact .inr ⟨j, j1, by omega, j3, j4⟩
theorem kid_lt {l : List Nd} {room : Int} (h : Right6 l room) : ∀ i, 2 ≤ i → i < l.length → ∀ x, isKid (l.getD i deadN).2.1 x = true → x < i := by
  intro i h2 hi x hx
  obtain ⟨c, hc, e⟩ := isKid_iff.1 hx
  have := (fits_iff.1 (h.fits i h2 hi)).kid c hc
  rw [e] at this
  omega

/-- what is known of the flags -/
structure Kept (l : List Nd) (R : List Int) (K : Nat → Bool) : Prop where
  zero : K 0 = true
  one : K 1 = true
  root : ∀ r ∈ R, 0 ≤ r → K r.toNat = true
  kid : ∀ j, 2 ≤ j → j < l.length → K j = true → ∀ c, c < 4 → K (kd (l.getD j deadN).2.1 c).toNat = true
  why : ∀ x, K x = true → x < 2 ∨ (x : Int) ∈ R ∨ ∃ j, 2 ≤ j ∧ j < l.length ∧ K j = true ∧ isKid (l.getD j deadN).2.1 x = true
theorem kept_keep {l : List Nd} {room : Int} (h : Right6 l room) (R : List Int) : Kept l R (keepF l R) := by
  have hm := down_mono l l.length (base6 R)
  refine ⟨hm 0 rfl, hm 1 rfl, fun r hr h0 => hm _ ?_, fun j h2 hj hK c hc => ?_, fun x hx => ?_⟩
  · unfold base6
    rw [Bool.or_eq_true]
    exact .inr (List.any_eq_true.2 ⟨r, hr, by simp; omega⟩)
  · have hkc := (fits_iff.1 (h.fits j h2 hj)).kid c hc
    exact down_closed (kid_lt h) l.length (Nat.le_refl _) _ j _ h2 hj hK (isKid_iff.2 ⟨c, hc, by omega⟩)
  · rcases down_min l l.length (base6 R) x hx with h1 | h1
    · unfold base6 at h1
      simp only [Bool.or_eq_true, decide_eq_true_eq, List.any_eq_true] at h1
      rcases h1 with h1 | ⟨r, hr, e⟩
      · exact .inl h1
      · exact .inr (.inl (by rw [← e]; exact hr))
    · exact .inr (.inr h1)

/-! ### where what is kept goes -/
def cnt (K : Nat → Bool) (n : Nat) : Nat := ((List.range n).filter K).length
theorem cnt_succ (K : Nat → Bool) (n : Nat) : cnt K (n + 1) = if K n = true then cnt K n + 1 else cnt K n := by
  unfold cnt
  rw [List.range_succ, List.filter_append, List.length_append]
  by_cases h : K n = true
  · rw [if_pos h, List.filter_cons, if_pos h]; rfl
  · rw [if_neg h, List.filter_cons, if_neg h]; rfl
theorem cnt_mono (K : Nat → Bool) {n m : Nat} (h : n ≤ m) : cnt K n ≤ cnt K m := by
  induction m with
  | zero => obtain rfl : n = 0 := by omega
            exact Nat.le_refl _
  | succ m ih =>
    rcases Nat.lt_or_ge n (m + 1) with h1 | h1
    · have := ih (by omega)
      rw [cnt_succ]
      split <;> omega
    · obtain rfl : n = m + 1 := by omega
      exact Nat.le_refl _
theorem cnt_lt {K : Nat → Bool} {n m : Nat} (h : n < m) (hn : K n = true) : cnt K n < cnt K m := by
  have h1 := cnt_succ K n
  rw [if_pos hn] at h1
  have h2 := cnt_mono K (show n + 1 ≤ m from h)
  omega
theorem cnt_inj {K : Nat → Bool} {n m : Nat} (hn : K n = true) (hm : K m = true) (h : cnt K n = cnt K m) : n = m := by
  rcases Nat.lt_trichotomy n m with h1 | h1 | h1
  · have := cnt_lt h1 hn; omega
  · exact h1
  · have := cnt_lt h1 hm; omega
theorem cnt_le (K : Nat → Bool) (n : Nat) : cnt K n ≤ n := by
  unfold cnt
  refine Nat.le_trans (List.length_filter_le _ _) ?_
  simp
def mapK (K : Nat → Bool) (k : Kd) : Kd := (cnt K k.1.toNat, cnt K k.2.1.toNat, cnt K k.2.2.1.toNat, cnt K k.2.2.2.toNat)
theorem mapK_kd (K : Nat → Bool) (k : Kd) (i : Nat) : kd (mapK K k) i = (cnt K (kd k i).toNat : Int) := by
  match i with
  | 0 => rfl
  | 1 => rfl
  | 2 => rfl
  | n + 3 => rfl
def mapN (K : Nat → Bool) (x : Nd) : Nd := (x.1, mapK K x.2.1, x.2.2)
/-- the nodes that are kept, so many seen -/
def newTo (l : List Nd) (K : Nat → Bool) (n : Nat) : List Nd := ((List.range n).filter K).map fun i => mapN K (l.getD i deadN)
theorem newTo_len (l : List Nd) (K : Nat → Bool) (n : Nat) : (newTo l K n).length = cnt K n := by unfold newTo cnt; rw [List.length_map]
theorem newTo_succ (l : List Nd) (K : Nat → Bool) (n : Nat) : newTo l K (n + 1) = if K n = true then newTo l K n ++ [mapN K (l.getD n deadN)] else newTo l K n := by
  unfold newTo
  rw [List.range_succ, List.filter_append, List.map_append]
  by_cases h : K n = true
  · rw [if_pos h, List.filter_cons, if_pos h]; rfl
  · rw [if_neg h, List.filter_cons, if_neg h]; simp
theorem newTo_get {l : List Nd} {K : Nat → Bool} {i : Nat} (hK : K i = true) : ∀ n, i < n → (newTo l K n).getD (cnt K i) deadN = mapN K (l.getD i deadN) := by
  intro n
  induction n with
  | zero => intro h; omega
  | succ n ih =>
    intro h
    rw [newTo_succ]
    rcases Nat.lt_or_ge i n with h1 | h1
    · have h2 := ih h1
      have h3 := cnt_lt h1 hK
      split
      · rw [getD_app (by rw [newTo_len]; exact h3)]; exact h2
      · exact h2
    · obtain rfl : i = n := by omega
      rw [if_pos hK, ← newTo_len l K i, getD_last]
/-- each place of the new store comes from one -/
theorem newTo_from {K : Nat → Bool} : ∀ (n p : Nat), p < cnt K n → ∃ i, i < n ∧ K i = true ∧ cnt K i = p := by
  intro n
  induction n with
  | zero => intro p h; simp [cnt] at h
  | succ n ih =>
    intro p h
    rw [cnt_succ] at h
    by_cases hK : K n = true
    · rw [if_pos hK] at h
      rcases Nat.lt_or_ge p (cnt K n) with h1 | h1
      · obtain ⟨i, i1, i2, i3⟩ := ih p h1
        exact ⟨i, by omega, i2, i3⟩
      · exact ⟨n, Nat.lt_succ_self n, hK, by omega⟩
    · rw [if_neg hK] at h
      obtain ⟨i, i1, i2, i3⟩ := ih p h
      exact ⟨i, by omega, i2, i3⟩
def liveL (l : List Nd) (R : List Int) : List Nd := newTo l (keepF l R) l.length
def liveAt (l : List Nd) (R : List Int) : List Int := R.map fun r => (cnt (keepF l R) r.toNat : Int)

section
variable {l : List Nd} {room : Int} {R : List Int} {K : Nat → Bool}
theorem cnt_01 (hK : Kept l R K) : cnt K 0 = 0 ∧ cnt K 1 = 1 ∧ cnt K 2 = 2 := by
  have h1 := cnt_succ K 0
  have h2 := cnt_succ K 1
  rw [if_pos hK.zero] at h1
  rw [if_pos hK.one] at h2
  have h0 : cnt K 0 = 0 := rfl
  have e1 : cnt K 1 = 1 := h1.trans (by rw [h0])
  exact ⟨h0, e1, h2.trans (by rw [e1])⟩
/-- What is live is right. -/
theorem live_right (h : Right6 l room) (hK : Kept l R K) : Right6 (newTo l K l.length) room := by
  have h2 := h.two
  obtain ⟨c0, c1, c2⟩ := cnt_01 hK
  have hlen := newTo_len l K l.length
  have hm := cnt_mono K h2
  have hle := cnt_le K l.length
  have hr := h.len
  refine ⟨h.room2, h.room100, by omega, by omega, ?_, ?_, fun p hp hpl => ?_⟩
  · have := newTo_get (l := l) hK.zero l.length (by omega)
    rw [c0, h.dead] at this
    rw [this]
    unfold mapN mapK deadN
    simp only [Int.toNat_zero, c0]
    rfl
  · have := newTo_get (l := l) hK.one l.length (by omega)
    rw [c1, h.live] at this
    rw [this]
    unfold mapN mapK liveN
    simp only [Int.toNat_zero, c0]
    rfl
  · obtain ⟨i, i1, i2, rfl⟩ := newTo_from (K := K) l.length p (by omega)
    have hi2 : 2 ≤ i := by
      rcases Nat.lt_or_ge i 2 with h3 | h3
      · rcases (by omega : i = 0 ∨ i = 1) with rfl | rfl <;> omega
      · exact h3
    have hf := fits_iff.1 (h.fits i hi2 i1)
    have e := newTo_get (l := l) i2 l.length i1
    have hkid := hK.kid i hi2 i1 i2
    have hnd : ∀ c, c < 4 → ndAt (newTo l K l.length) (kd (mapK K (l.getD i deadN).2.1) c) = mapN K (ndAt l (kd (l.getD i deadN).2.1 c)) := by
      intro c hc
      rw [mapK_kd, ndAt_nat]
      have := hf.kid c hc
      exact newTo_get (hkid c hc) l.length (by omega)
    rw [fits_iff]
    refine ⟨fun c hc => ?_, by rw [e]; exact hf.lo, by rw [e]; exact hf.hi, ?_, ?_⟩
    · rw [e]
      show 0 ≤ kd (mapK K _) c ∧ kd (mapK K _) c < _ ∧ (ndAt _ (kd (mapK K _) c)).1 = (l.getD i deadN).1 - 1
      rw [hnd c hc, mapK_kd]
      have h3 := hf.kid c hc
      have h4 := cnt_lt (show (kd (l.getD i deadN).2.1 c).toNat < i by omega) (hkid c hc)
      exact ⟨by omega, by omega, h3.2.2⟩
    · rw [e]
      show (l.getD i deadN).2.2 = popTo _ (mapK K _) 4
      rw [hf.pop]
      unfold popTo popTo popTo popTo popTo
      rw [hnd 0 (by decide), hnd 1 (by decide), hnd 2 (by decide), hnd 3 (by decide)]
      rfl
    · rw [e]
      show at6 _ (mapK K _) = some (cnt K i)
      refine at_is (by have := cnt_mono K hi2; omega) (by rw [hlen]; exact cnt_lt i1 i2) (by rw [e]; rfl) (fun q hq1 hq2 hq3 => ?_)
      obtain ⟨j, j1, j2, rfl⟩ := newTo_from (K := K) l.length q (by have := cnt_mono K (Nat.le_of_lt i1); omega)
      have hj2 : 2 ≤ j := by
        rcases Nat.lt_or_ge j 2 with h3 | h3
        · rcases (by omega : j = 0 ∨ j = 1) with rfl | rfl <;> omega
        · exact h3
      have ej := newTo_get (l := l) j2 l.length j1
      rw [ej] at hq3
      have hfj := fits_iff.1 (h.fits j hj2 j1)
      have hkk : (l.getD j deadN).2.1 = (l.getD i deadN).2.1 := kd_ext fun c hc => by
        have h5 := congrArg (fun k => kd k c) (show mapK K (l.getD j deadN).2.1 = mapK K (l.getD i deadN).2.1 from hq3)
        simp only [mapK_kd] at h5
        have := cnt_inj (hK.kid j hj2 j1 j2 c hc) (hkid c hc) (by omega)
        have a1 := hf.kid c hc
        have a2 := hfj.kid c hc
        omega
      have h6 := hfj.first
      rw [hkk, hf.first] at h6
      have := Option.some.inj h6
      subst this
      omega
/-- A node that is kept stands for what it stood for. -/
theorem live_bits (h : Right6 l room) (hK : Kept l R K) : ∀ (j i : Nat), i < l.length → K i = true → (l.getD i deadN).1 = j → bitsN (newTo l K l.length) j (cnt K i) = bitsN l j i := by
  intro j
  induction j with
  | zero =>
    intro i hi hKi _
    unfold bitsN
    rw [newTo_get hKi l.length hi]
    rfl
  | succ j ih =>
    intro i hi hKi hl
    have hi2 : 2 ≤ i := by
      rcases Nat.lt_or_ge i 2 with h3 | h3
      · have := (level_zero h hi).2 h3; omega
      · exact h3
    have hf := fits_iff.1 (h.fits i hi2 hi)
    have key : ∀ c, c < 4 → bitsN (newTo l K l.length) j (kd (mapK K (l.getD i deadN).2.1) c).toNat = bitsN l j (kd (l.getD i deadN).2.1 c).toNat := by
      intro c hc
      rw [mapK_kd, Int.toNat_natCast]
      have h3 := hf.kid c hc
      exact ih _ (by omega) (hK.kid i hi2 hi hKi c hc) (by show (ndAt l _).1 = _; rw [h3.2.2, hl]; omega)
    show joinB _ _ _ _ _ = joinB _ _ _ _ _
    rw [newTo_get hKi l.length hi]
    have k0 := key 0 (by decide)
    have k1 := key 1 (by decide)
    have k2 := key 2 (by decide)
    have k3 := key 3 (by decide)
    simp only [kd] at k0 k1 k2 k3
    show joinB _ (bitsN _ j (mapK K _).1.toNat) (bitsN _ j (mapK K _).2.1.toNat) (bitsN _ j (mapK K _).2.2.1.toNat) (bitsN _ j (mapK K _).2.2.2.toNat) = _
    rw [k0, k1, k2, k3]
/-- Of what is live all is live. -/
theorem live_all (h : Right6 l room) (hK : Kept l R K) {K' : Nat → Bool} (hK' : Kept (newTo l K l.length) (R.map fun r => (cnt K r.toNat : Int)) K') : ∀ (f i : Nat), l.length ≤ i + f → i < l.length → K i = true → K' (cnt K i) = true := by
  obtain ⟨c0, c1, c2⟩ := cnt_01 hK
  intro f
  induction f with
  | zero => intro i h1 h2; omega
  | succ f ih =>
    intro i h1 h2 hKi
    rcases hK.why i hKi with h3 | h3 | ⟨j, j1, j2, j3, j4⟩
    · rcases (by omega : i = 0 ∨ i = 1) with rfl | rfl
      · rw [c0]; exact hK'.zero
      · rw [c1]; exact hK'.one
    · have := hK'.root (cnt K i : Int) (List.mem_map.2 ⟨(i : Int), h3, by rw [Int.toNat_natCast]⟩) (by omega)
      rwa [Int.toNat_natCast] at this
    · have hij := kid_lt h j j1 j2 i j4
      have h5 := ih j (by omega) j2 j3
      have e := newTo_get (l := l) j3 l.length j2
      obtain ⟨c, hc, ec⟩ := isKid_iff.1 j4
      have h6 := hK'.kid (cnt K j) (by have := cnt_mono K j1; omega) (by rw [newTo_len]; exact cnt_lt j2 j3) h5 c hc
      rw [e] at h6
      have e2 : kd (mapN K (l.getD j deadN)).2.1 c = (cnt K i : Int) := by
        show kd (mapK K _) c = _
        rw [mapK_kd, ec, Int.toNat_natCast]
      rw [e2, Int.toNat_natCast] at h6
      exact h6
theorem cnt_full {K : Nat → Bool} : ∀ n, (∀ i, i < n → K i = true) → cnt K n = n := by
  intro n
  induction n with
  | zero => intro _; rfl
  | succ n ih =>
    intro h
    rw [cnt_succ, if_pos (h n (Nat.lt_succ_self n)), ih fun i hi => h i (by omega)]
/-- Done twice it is done once. -/
theorem live_twice (h : Right6 l room) (hK : Kept l R K) {K' : Nat → Bool} (hK' : Kept (newTo l K l.length) (R.map fun r => (cnt K r.toNat : Int)) K') : newTo (newTo l K l.length) K' (newTo l K l.length).length = newTo l K l.length ∧ ∀ p, p < (newTo l K l.length).length → cnt K' p = p := by
  have hr := live_right h hK
  have hall : ∀ p, p < (newTo l K l.length).length → K' p = true := by
    intro p hp
    rw [newTo_len] at hp
    obtain ⟨i, i1, i2, rfl⟩ := newTo_from (K := K) l.length p hp
    exact live_all h hK hK' l.length i (by omega) i1 i2
  have hcnt : ∀ p, p ≤ (newTo l K l.length).length → cnt K' p = p := fun p hp => cnt_full p fun i hi => hall i (by omega)
  generalize newTo l K l.length = m at *
  refine ⟨?_, fun p hp => hcnt p (by omega)⟩
  refine List.ext_getElem (by rw [newTo_len, hcnt _ (Nat.le_refl _)]) fun p h1 h2 => ?_
  have e := newTo_get (l := m) (hall p h2) m.length h2
  rw [hcnt p (by omega), List.getD_eq_getElem?_getD, List.getElem?_eq_getElem h1, Option.getD_some] at e
  rw [e]
  have e2 : m.getD p deadN = m[p] := by rw [List.getD_eq_getElem?_getD, List.getElem?_eq_getElem h2, Option.getD_some]
  rw [← e2]
  have hk : ∀ c, c < 4 → 0 ≤ kd (m.getD p deadN).2.1 c ∧ kd (m.getD p deadN).2.1 c < m.length := by
    intro c hc
    by_cases hp2 : p < 2
    · have h4 := hr.two
      rcases (by omega : p = 0 ∨ p = 1) with rfl | rfl
      · rw [hr.dead]
        have : kd deadN.2.1 c = 0 := by
          match c, hc with
          | 0, _ => rfl
          | 1, _ => rfl
          | 2, _ => rfl
          | 3, _ => rfl
        rw [this]; omega
      · rw [hr.live]
        have : kd liveN.2.1 c = 0 := by
          match c, hc with
          | 0, _ => rfl
          | 1, _ => rfl
          | 2, _ => rfl
          | 3, _ => rfl
        rw [this]; omega
    · have := (fits_iff.1 (hr.fits p (by omega) h2)).kid c hc
      exact ⟨this.1, by omega⟩
  have hmk : mapK K' (m.getD p deadN).2.1 = (m.getD p deadN).2.1 := kd_ext fun c hc => by
    have := hk c hc
    rw [mapK_kd, hcnt _ (by omega)]
    omega
  unfold mapN
  rw [hmk]
end
end Go.Proofs.Ytkneecdpkdnjfaa
namespace Go.Proofs.Ytkneecdpkdnjfaa
set_option linter.unusedVariables false
set_option linter.unusedSimpArgs false
open Go.RowKit Go.Sort

/-- the six cells of a node -/
def cellsN (x : Nd) : List Value := [.int .i64 x.1, .int .i64 x.2.1.1, .int .i64 x.2.1.2.1, .int .i64 x.2.1.2.2.1, .int .i64 x.2.1.2.2.2, .int .i64 x.2.2]
def flN (l : List Nd) : List Value := l.flatMap cellsN
theorem flN_append (l m : List Nd) : flN (l ++ m) = flN l ++ flN m := by unfold flN; simp
theorem flN_one (x : Nd) : flN [x] = cellsN x := by simp [flN]
theorem length_flN (l : List Nd) : (flN l).length = l.length * 6 := by
  induction l with
  | nil => rfl
  | cons x l ih => simp only [flN, cellsN, List.flatMap_cons, List.length_append, List.length_cons, List.length_nil] at ih ⊢; omega
theorem flN_get (l : List Nd) (j : Nat) (h : j < l.length) : (flN l)[j * 6]? = some (.int .i64 (l.getD j deadN).1) ∧ (flN l)[j * 6 + 1]? = some (.int .i64 (l.getD j deadN).2.1.1) ∧ (flN l)[j * 6 + 2]? = some (.int .i64 (l.getD j deadN).2.1.2.1) ∧ (flN l)[j * 6 + 3]? = some (.int .i64 (l.getD j deadN).2.1.2.2.1) ∧ (flN l)[j * 6 + 4]? = some (.int .i64 (l.getD j deadN).2.1.2.2.2) ∧ (flN l)[j * 6 + 5]? = some (.int .i64 (l.getD j deadN).2.2) := by
  induction l generalizing j with
  | nil => exact absurd h (Nat.not_lt_zero j)
  | cons x l ih =>
    cases j with
    | zero => simp [flN, cellsN]
    | succ j =>
      have := ih j (by simpa using h)
      have e1 : (j + 1) * 6 = j * 6 + 1 + 1 + 1 + 1 + 1 + 1 := by omega
      have e2 : flN (x :: l) = .int .i64 x.1 :: .int .i64 x.2.1.1 :: .int .i64 x.2.1.2.1 :: .int .i64 x.2.1.2.2.1 :: .int .i64 x.2.1.2.2.2 :: .int .i64 x.2.2 :: flN l := rfl
      rw [e1, e2]
      simpa using this
theorem flN_cell1 (m : List Nd) : ∀ u ∈ flN m, u.oneCell' = true := by
  intro u hu
  obtain ⟨x, _, hx⟩ := List.mem_flatMap.1 hu
  simp only [cellsN, List.mem_cons, List.not_mem_nil, or_false] at hx
  rcases hx with rfl | rfl | rfl | rfl | rfl | rfl <;> rfl

/-- a node lies here -/
def NdAt (w : World) (b o : Nat) (x : Nd) : Prop := w.cell? ⟨b, o, none⟩ = some (.int .i64 x.1) ∧ w.cell? ⟨b, o + 1, none⟩ = some (.int .i64 x.2.1.1) ∧ w.cell? ⟨b, o + 2, none⟩ = some (.int .i64 x.2.1.2.1) ∧ w.cell? ⟨b, o + 3, none⟩ = some (.int .i64 x.2.1.2.2.1) ∧ w.cell? ⟨b, o + 4, none⟩ = some (.int .i64 x.2.1.2.2.2) ∧ w.cell? ⟨b, o + 5, none⟩ = some (.int .i64 x.2.2)
/-- The slice at A of l.length nodes reads as l, below block B. -/
def RdN (w : World) (B : Nat) (A : Option Addr) (l : List Nd) : Prop :=
  ∀ j, j < l.length → ∃ b off, A = some ⟨b, off, none⟩ ∧ b < B ∧ NdAt w b (off + j * 6) (l.getD j deadN)
theorem NdAt.below {w w' : World} {b o B : Nat} {x : Nd} (h : NdAt w b o x) (hb : Below B w w') (hx : b < B) : NdAt w' b o x := by
  obtain ⟨h0, h1, h2, h3, h4, h5⟩ := h
  exact ⟨(hb.cell (p := ⟨b, o, none⟩) hx).trans h0, (hb.cell (p := ⟨b, o + 1, none⟩) hx).trans h1, (hb.cell (p := ⟨b, o + 2, none⟩) hx).trans h2, (hb.cell (p := ⟨b, o + 3, none⟩) hx).trans h3, (hb.cell (p := ⟨b, o + 4, none⟩) hx).trans h4, (hb.cell (p := ⟨b, o + 5, none⟩) hx).trans h5⟩
theorem RdN.below {w w' : World} {B B' : Nat} {A : Option Addr} {l : List Nd} (h : RdN w B A l) (hb : Below B' w w') (hB : B ≤ B') : RdN w' B A l := fun j hj => by
  obtain ⟨b, off, e, hlt, h0⟩ := h j hj
  exact ⟨b, off, e, hlt, h0.below hb (Nat.lt_of_lt_of_le hlt hB)⟩
theorem RdN.more {w : World} {B B' : Nat} {A : Option Addr} {l : List Nd} (h : RdN w B A l) (hB : B ≤ B') : RdN w B' A l := fun j hj => by
  obtain ⟨b, off, e, hlt, h0⟩ := h j hj
  exact ⟨b, off, e, by omega, h0⟩
theorem RdN.nil (w : World) (B : Nat) (A : Option Addr) : RdN w B A [] := fun j hj => absurd hj (Nat.not_lt_zero j)
theorem RdN.at_ {w : World} {B : Nat} {A : Option Addr} {l : List Nd} (h : RdN w B A l) (hn : 0 < l.length) :
    ∃ b off, A = some ⟨b, off, none⟩ ∧ b < B ∧ ∀ j, j < l.length → NdAt w b (off + j * 6) (l.getD j deadN) := by
  obtain ⟨b, off, e, hlt, _⟩ := h 0 hn
  refine ⟨b, off, e, hlt, fun j hj => ?_⟩
  obtain ⟨b', off', e', _, h0⟩ := h j hj
  rw [e] at e'
  injection e' with e'
  injection e' with e1 e2
  subst e1 e2
  exact h0
def NowN (w : World) (A : Option Addr) (l : List Nd) : Prop := RdN w w.heap.size A l
theorem NowN.below {w w' : World} {A : Option Addr} {l : List Nd} (h : NowN w A l) (hb : Below w.heap.size w w') : NowN w' A l := (RdN.below h hb (Nat.le_refl _)).more hb.size
theorem nowN_nil (w : World) (A : Option Addr) : NowN w A [] := RdN.nil _ _ _

/-- It reads as its list. -/
def ReadsN (w : World) (v : Value) (l : List Nd) : Prop := ∃ A c, v = .slice A l.length c ∧ l.length ≤ c ∧ NowN w A l
theorem ReadsN.below {w w' : World} {v : Value} {l : List Nd} (h : ReadsN w v l) (hb : Below w.heap.size w w') : ReadsN w' v l := by
  obtain ⟨A, c, e, hc, hR⟩ := h
  exact ⟨A, c, e, hc, hR.below hb⟩

theorem nowN_at {w : World} {m : List Nd} {b off : Nat} (h : ∀ j, j < m.length → NdAt w b (off + j * 6) (m.getD j deadN)) :
    ∀ j u, (flN m)[j]? = some u → w.cell? ((⟨b, off, none⟩ : Addr).add j) = some u := by
  intro j u hu
  rw [Addr.add_lit]
  have hj : j < m.length * 6 := by
    rcases Nat.lt_or_ge j (m.length * 6) with h1 | h1
    · exact h1
    · rw [List.getElem?_eq_none (by rw [length_flN]; exact h1)] at hu; cases hu
  obtain ⟨h0, h1, h2, h3, h4, h5⟩ := h (j / 6) (by omega)
  obtain ⟨f0, f1, f2, f3, f4, f5⟩ := flN_get m (j / 6) (by omega)
  have hc : j % 6 = 0 ∨ j % 6 = 1 ∨ j % 6 = 2 ∨ j % 6 = 3 ∨ j % 6 = 4 ∨ j % 6 = 5 := by omega
  rcases hc with hp | hp | hp | hp | hp | hp
  · have e : j = j / 6 * 6 := by omega
    rw [e] at hu ⊢
    rw [f0] at hu
    rw [← hu]
    exact h0
  · have e : j = j / 6 * 6 + 1 := by omega
    rw [e] at hu ⊢
    rw [f1] at hu
    rw [← hu, ← Nat.add_assoc]
    exact h1
  · have e : j = j / 6 * 6 + 2 := by omega
    rw [e] at hu ⊢
    rw [f2] at hu
    rw [← hu, ← Nat.add_assoc]
    exact h2
  · have e : j = j / 6 * 6 + 3 := by omega
    rw [e] at hu ⊢
    rw [f3] at hu
    rw [← hu, ← Nat.add_assoc]
    exact h3
  · have e : j = j / 6 * 6 + 4 := by omega
    rw [e] at hu ⊢
    rw [f4] at hu
    rw [← hu, ← Nat.add_assoc]
    exact h4
  · have e : j = j / 6 * 6 + 5 := by omega
    rw [e] at hu ⊢
    rw [f5] at hu
    rw [← hu, ← Nat.add_assoc]
    exact h5

end Go.Proofs.Ytkneecdpkdnjfaa
namespace Go.Proofs.Ytkneecdpkdnjfaa
set_option linter.unusedVariables false
set_option linter.unusedSimpArgs false
open Go.RowKit Go.Sort

def kidsV (k : Kd) : Value := .agg #[.int .i64 k.1, .int .i64 k.2.1, .int .i64 k.2.2.1, .int .i64 k.2.2.2]
def nodeV (x : Nd) : Value := .agg #[.int .i64 x.1, .int .i64 x.2.1.1, .int .i64 x.2.1.2.1, .int .i64 x.2.1.2.2.1, .int .i64 x.2.1.2.2.2, .int .i64 x.2.2]
theorem kd_eq (x y : Kd) : (x.1 == y.1 && (x.2.1 == y.2.1 && (x.2.2.1 == y.2.2.1 && x.2.2.2 == y.2.2.2))) = decide (x = y) := by
  obtain ⟨a, b, c, d⟩ := x
  obtain ⟨a', b', c', d'⟩ := y
  rw [Bool.eq_iff_iff]
  simp
theorem eqK_at (n : Nat) (a b c d a' b' c' d' : Int) (w : World) : (Op.equalIn (n + 1 + 1) 22 (.agg #[.int .i64 a, .int .i64 b, .int .i64 c, .int .i64 d]) (.agg #[.int .i64 a', .int .i64 b', .int .i64 c', .int .i64 d'])).run Try.prog w = .ok (a == a' && (b == b' && (c == c' && d == d'))) w := by
  have u3 := Try.underlying3
  have a3 := Try.isAgg3
  have z3 := Try.sizeOf3
  rw [Op.equalIn]
  simp only [Sem.run_bind, run_underlying Try.underlying22, Result.andThen_ok]
  simp only [Std.Legacy.Range.forIn_eq_forIn_range', Std.Legacy.Range.size, Nat.sub_zero, Nat.add_sub_cancel, Nat.div_one, List.range'_succ, List.range'_zero, List.forIn_cons, List.forIn_nil]
  go_simp
  by_cases h1 : a = a' <;> by_cases h2 : b = b' <;> by_cases h3 : c = c' <;> by_cases h4 : d = d' <;> simp [h1, h2, h3, h4]
theorem eqlK (x y : Kd) (w : World) : (binOp .eql 22 (.agg #[.int .i64 x.1, .int .i64 x.2.1, .int .i64 x.2.2.1, .int .i64 x.2.2.2]) (.agg #[.int .i64 y.1, .int .i64 y.2.1, .int .i64 y.2.2.1, .int .i64 y.2.2.2])).run Try.prog w = .ok (.bool (decide (x = y))) w := by
  rw [run_eql_struct, show (10000 : Nat) = 9998 + 1 + 1 from rfl, eqK_at, kd_eq]
  rfl

/-- a store as it comes in -/
def storeV (A : Option Addr) (n c : Nat) (room : Int) : Value := .agg #[.slice A n c, .int .i64 room]
def atV (o : Option Nat) : Int := match o with | some n => (n : Int) | none => -1
theorem lt_heap6 {w : World} {k : Nat} {o : Obj} (h : w.heap[k]? = some o) : k < w.heap.size := (Array.getElem?_eq_some_iff.1 h).1
end Go.Proofs.Ytkneecdpkdnjfaa
namespace Go.Proofs.Ytkneecdpkdnjfaa
set_option linter.unusedVariables false
set_option linter.unusedSimpArgs false
open Go.RowKit Go.Sort

section
variable {w wr w' : World} {A : Option Addr} {n c : Nat} {room : Int} {x : Nd}
end
theorem fits_no {l : List Nd} {n i : Nat} (hi : i < 4) (h : kidB l n ((l.getD n deadN).1 - 1) (kd (l.getD n deadN).2.1 i) = false) : fits6 l n = false := by
  rw [Bool.eq_false_iff]
  intro hf
  unfold fits6 at hf
  simp only [Bool.and_eq_true] at hf
  have := kidsB_iff.1 hf.1.1.1.1 i hi
  rw [h] at this
  cases this
/-- what is left to ask, where the kids are right -/
def lastB (l : List Nd) (n : Nat) : Bool := decide (1 ≤ (l.getD n deadN).1) && decide ((l.getD n deadN).1 ≤ 42) && decide ((l.getD n deadN).2.2 = popTo l (l.getD n deadN).2.1 4) && decide (at6 l (l.getD n deadN).2.1 = some n)
theorem fits_last {l : List Nd} {n : Nat} (h : ∀ i, i < 4 → kidB l n ((l.getD n deadN).1 - 1) (kd (l.getD n deadN).2.1 i) = true) : fits6 l n = lastB l n := by
  unfold fits6 lastB
  rw [kidsB_iff.2 h, Bool.true_and]

end Go.Proofs.Ytkneecdpkdnjfaa
namespace Go.Proofs.Ytkneecdpkdnjfaa
set_option linter.unusedVariables false
set_option linter.unusedSimpArgs false
open Go.RowKit Go.Sort

theorem nd_eq (x y : Nd) : (x.1 == y.1 && (decide (x.2.1 = y.2.1) && x.2.2 == y.2.2)) = decide (x = y) := by
  obtain ⟨a, b, c⟩ := x
  obtain ⟨a', b', c'⟩ := y
  rw [Bool.eq_iff_iff]
  simp
/-- levels and cells are within bounds, as far as nodes fit -/
theorem bd_to {l : List Nd} (hd : l.getD 0 deadN = deadN) (hv : l.getD 1 deadN = liveN) (j : Nat) (hf : ∀ i, 2 ≤ i → i < j → fits6 l i = true) : ∀ n, n < j → 0 ≤ (l.getD n deadN).1 ∧ (l.getD n deadN).1 ≤ 42 ∧ 0 ≤ (l.getD n deadN).2.2 ∧ (l.getD n deadN).2.2 ≤ 4611686018427387903 := by
  intro n
  induction n using Nat.strongRecOn with
  | ind n ih =>
    intro hn
    by_cases h2 : n < 2
    · rcases (by omega : n = 0 ∨ n = 1) with rfl | rfl
      · rw [hd]; decide
      · rw [hv]; decide
    · have hft := fits_iff.1 (hf n (by omega) hn)
      have := popTo_bd (l := l) (k := (l.getD n deadN).2.1) (fun i hi => by
        obtain ⟨k1, k2, _⟩ := hft.kid i hi
        have := ih (kd (l.getD n deadN).2.1 i).toNat (by omega) (by omega)
        exact this.2.2.1) 4 (Nat.le_refl _)
      rw [← hft.pop] at this
      exact ⟨by have := hft.lo; omega, hft.hi, this.1, this.2⟩
section
variable {w wr w' : World} {A : Option Addr} {n c : Nat} {room : Int}
end
theorem right_no {l : List Nd} {room : Int} (h : headB6 l room = false) : right6 l room = false := by unfold right6; rw [h]; rfl
theorem right_nofit {l : List Nd} {room : Int} {j : Nat} (h2 : 2 ≤ j) (hj : j < l.length) (h : fits6 l j = false) : right6 l room = false := by
  rw [Bool.eq_false_iff]
  intro hr
  have := (right_iff.1 hr).fits j h2 hj
  rw [h] at this
  cases this

end Go.Proofs.Ytkneecdpkdnjfaa
namespace Go.Proofs.Ytkneecdpkdnjfaa.Qt
open Go Go.Sort Go.RowKit

section
variable {P : Program} {ops : Array Oper} {md : Region.Mode} {C : World → Prop}

/-- whatever stands behind n waits for something that stands at n or behind it -/
def depB (md : Region.Mode) (ops : Array Oper) (n : Nat) : Bool :=
  (List.range ops.size).all fun t => decide (t ≤ n) || (List.range t).any fun j => decide (n ≤ j) && Region.waitsFor md ops t j

theorem last_waits {n : Nat} {listed : Array Bool} (hs : Region.sinkB md ops n = true) (hn : n < ops.size) (inv : HeadInv md ops n listed) (d : Nat) :
    ∀ i, n - i ≤ d → i < n → listed.getD i true = false → n ∉ Region.ready md ops listed := by
  induction d with
  | zero => intro i hd hi; omega
  | succ d ih =>
    intro i hd hi hun hr
    obtain ⟨j, hj, hj2⟩ := List.any_eq_true.1 (List.all_eq_true.1 hs i (List.mem_range.2 hi))
    simp only [Bool.and_eq_true, decide_eq_true_eq] at hj2
    obtain ⟨oj, hoj, e, he, hb, hon⟩ := Region.waitsFor_spec hj2.2
    have hjn := List.mem_range.1 hj
    by_cases hl : listed.getD j false = true
    · have h2 := inv.closed j oj hoj hl e he hb
      rw [hon, getD_both hun] at h2
      cases h2
    · rcases Nat.lt_or_eq_of_le (Nat.le_of_lt_succ hjn) with hlt | heq
      · exact ih j (by omega) hlt (getD_in (by rw [inv.size]; omega) (by simpa using hl)) hr
      · subst heq
        obtain ⟨_, ot, hot, hall⟩ := mem_ready.1 hr
        obtain rfl : oj = ot := Option.some.inj (hoj.symm.trans hot)
        have h2 := hall e he hb
        rw [hon, getD_both hun] at h2
        cases h2

theorem rest_waits {n : Nat} {listed : Array Bool} (hs : Region.sinkB md ops n = true) (hd : depB md ops n = true) (hn : n < ops.size) (inv : HeadInv md ops n listed) {i : Nat} (hi : i < n) (hun : listed.getD i true = false) :
    ∀ t, n ≤ t → t ∉ Region.ready md ops listed := by
  intro t ht hr
  rcases Nat.lt_or_eq_of_le ht with hlt | heq
  · obtain ⟨_, ot, hot, hall⟩ := mem_ready.1 hr
    have hts : t < ops.size := (Array.getElem?_eq_some_iff.1 hot).1
    have h1 := List.all_eq_true.1 hd t (List.mem_range.2 hts)
    simp only [Bool.or_eq_true, decide_eq_true_eq] at h1
    rcases h1 with h1 | h1
    · omega
    · obtain ⟨j, hj, hj2⟩ := List.any_eq_true.1 h1
      simp only [Bool.and_eq_true, decide_eq_true_eq] at hj2
      obtain ⟨oj, hoj, e, he, hb, hon⟩ := Region.waitsFor_spec hj2.2
      obtain rfl : oj = ot := Option.some.inj (hoj.symm.trans hot)
      have h2 := hall e he hb
      have hjt := List.mem_range.1 hj
      rw [hon, getD_both (inv.tail j hj2.1 (by omega))] at h2
      cases h2
  · subst heq
    exact last_waits hs hn inv _ i (Nat.le_refl _) hi hun hr

theorem mid_first {n i : Nat} {oi : Oper} {v : Value} {L : Array Bool → Act → Prop} (hi : ops[i]? = some oi) (hsel : ∀ (j : Nat) (o : Oper) cs b, ops[j]? = some o → o.op ≠ .select cs b)
    (hs : Region.sinkB md ops n = true) (hc : depB md ops n = true) (hn : n < ops.size) (hin : i < n) (hdone : ∀ listed a, L listed a → ∀ j ∈ Region.ready md ops listed, n ≤ j) (f : Nat) :
    ∀ (listed : Array Bool) (a : Act), HeadInv md ops n listed →
      (∀ j oj, ops[j]? = some oj → j ≠ i → listed.getD j true = false → (∀ e ∈ oj.after, Region.binds md e = true → e.on ≠ i) → oi.apart ops oj = true) →
      i ∈ Region.ready md ops listed → YieldsIn P ops C oi v a →
      headAny P md ops C n L f (listed.setIfInBounds i true) (a.put oi.dst v) → headAny P md ops C n L (f + 1) listed a := by
  induction f with
  | zero =>
    intro listed a inv _ hr hy H
    refine ⟨fun h => (by rw [h] at hr; cases hr), fun j hj => ?_⟩
    have hjn : j < n := Nat.lt_of_not_le fun h => rest_waits hs hc hn inv hin (mem_ready.1 hr).1 j h hj
    refine ⟨hjn, ?_⟩
    by_cases hji : j = i
    · subst hji; exact hy.qOp hi H
    · exact absurd (hdone _ _ H j (ready_mono hj hji)) (by omega)
  | succ f ih =>
    intro listed a inv hfree hr hy H
    have hun := (mem_ready.1 hr).1
    refine ⟨fun h => (by rw [h] at hr; cases hr), fun j hj => ?_⟩
    have hjn : j < n := Nat.lt_of_not_le fun h => rest_waits hs hc hn inv hin hun j h hj
    refine ⟨hjn, ?_⟩
    by_cases hji : j = i
    · subst hji; exact hy.qOp hi H
    · obtain ⟨hjun, oj, hoj, hall⟩ := mem_ready.1 hj
      have hnot : ∀ e ∈ oj.after, Region.binds md e = true → e.on ≠ i := fun e he hb heq => by
        have h1 := hall e he hb
        rw [heq, getD_both hun] at h1
        cases h1
      have hq := qOp_put hoj (hfree j oj hoj hji hjun hnot) (fun cs b => hsel i oi cs b hi) (fun cs b => hsel j oj cs b hoj) hy (H.2 j (ready_mono hj hji)).2
      refine qOp_mono (fun a' h3 => ih (listed.setIfInBounds j true) a' (inv.set hj hjn) (fun k ok hk hki hku hno => hfree k ok hk hki ?_ hno) (ready_mono hr (Ne.symm hji)) h3.1 ?_) hq
      · by_cases hjk : j = k
        · subst hjk; exact hjun
        · rwa [getD_set_ne true hjk] at hku
      · rw [Array.setIfInBounds_comm _ _ hji]; exact h3.2

/-- behind the head: n alone may come, and behind it the rest ars it stands -/
def midEnd (md : Region.Mode) (ops : Array Oper) (n : Nat) (listed : Array Bool) : Bool :=
  decide (Region.ready md ops listed = [n]) && Region.lexFrom md ops (ops.size - (n + 1)) (n + 1) (listed.setIfInBounds n true)
def midHead (md : Region.Mode) (ops : Array Oper) (n : Nat) : Nat → Nat → Array Bool → Bool
  | 0, _, listed => midEnd md ops n listed
  | f + 1, k, listed => (Region.ready md ops listed).contains k && Region.free md ops listed k && midHead md ops n f (k + 1) (listed.setIfInBounds k true)
def midB (md : Region.Mode) (ops : Array Oper) (n : Nat) : Bool :=
  Region.noSelect ops && decide (n < ops.size) && Region.sinkB md ops n && depB md ops n && midHead md ops n n 0 (Array.replicate ops.size false)

theorem mid_lex {n : Nat} {Lq : Act → Prop} (hsel : Region.noSelect ops = true) (hs : Region.sinkB md ops n = true) (hc : depB md ops n = true) (hn : n < ops.size) (l : List Oper) :
    ∀ (k : Nat) (listed : Array Bool) (a : Act), (∀ j, j < l.length → l[j]? = ops[k + j]?) → k + l.length = n → HeadInv md ops n listed →
    midHead md ops n l.length k listed = true → wpQuiet P ops C Lq l a →
    headAny P md ops C n (fun listed' a' => midEnd md ops n listed' = true ∧ Lq a') l.length listed a := by
  induction l with
  | nil =>
    intro k listed a _ hk _ hB h
    exact ⟨by simpa [midHead] using hB, h⟩
  | cons o l ih =>
    intro k listed a hl hk inv hB h
    have h0 : ops[k]? = some o := by simpa using (hl 0 (by simp)).symm
    simp only [List.length_cons, midHead, Bool.and_eq_true] at hB
    have hkn : k < n := by simp only [List.length_cons] at hk; omega
    have hr' : k ∈ Region.ready md ops listed := by simpa using hB.1.1
    have hst : qOp P ops C k (wpQuiet P ops C Lq l) a := by unfold qOp; simp only [h0]; exact h
    obtain ⟨v, hy, hK⟩ := yieldsIn_of_qOp h0 hst
    refine mid_first h0 (Region.noSelect_spec hsel) hs hc hn hkn (fun listed' a' hL j hj => ?_) l.length listed a inv (Region.free_spec h0 hB.1.2) hr' hy
      (ih (k + 1) _ _ (fun j hj => by have := hl (j + 1) (by simp; omega); simpa [Nat.add_assoc, Nat.add_comm 1 j] using this) (by simp only [List.length_cons] at hk; omega) (inv.set hr' hkn) hB.2 hK)
    have h1 := hL.1
    simp only [midEnd, Bool.and_eq_true, decide_eq_true_eq] at h1
    rw [h1.1] at hj
    have : j = n := by simpa using hj
    omega

theorem wpOp_call {n : Nat} {o : Oper} {f : FuncId} {ars : Array Operand} {ts : Array TypeId} {Q : Exit → Act → World → Prop} {K : Act → World → Prop} {a : Act} {w : World} (ho : ops[n]? = some o) (hg : o.guard = none)
    {fn : Func} (hf : P.funcs[f]? = some fn) (hnm0 : (fn.name == "runtime.NumGoroutine") = false) (hbd0 : fn.body.isNone = false) (hop : o.op = .call { callee := .value (.func f), args := ars, argTypes := ts }) (h : Calls P f (ars.map a.eval) w fun e w' => ∃ v, e = .returned v ∧ K (a.put o.dst v) w') : wpOp P ops Q n K a w := by
  unfold wpOp
  simp only [ho]
  have hw : Region.wanted o (yielded ops a.tmps) = true := by simp [Region.wanted, hg]
  rw [if_pos hw]
  left
  unfold Oper.wp
  have hnm : ¬ fn.name = "runtime.NumGoroutine" := by simpa using hnm0
  have hbd : ¬ fn.body = none := fun e => by rw [e] at hbd0; cases hbd0
  have he : a.eval (.func f) = .func (.func f) #[] #[] := rfl
  simp [execOp, hop, resolve, invoke, Result.andThen, Oper.upon, he, Deferred.ofValue, callFunc, hf, hnm, hbd]
  refine h.mono ?_
  rintro e w' ⟨v, rfl, hk⟩
  exact hk

/-- One walk of the text: quiet, the call, quiet. -/
theorem region_call {id : Nat} {Q : Exit → Act → World → Prop} {a : Act} {w : World} {l : List Oper} (n : Nat) {o : Oper} {f : FuncId} {ars : Array Operand} {ts : Array TypeId} (hm : P.follows .mixedOrders = true) (hB : midB .any l.toArray n = true)
    (ho : l[n]? = some o) (hg : o.guard = none) {fn : Func} (hf : P.funcs[f]? = some fn) (hnm0 : (fn.name == "runtime.NumGoroutine") = false) (hbd0 : fn.body.isNone = false) (hop : o.op = .call { callee := .value (.func f), args := ars, argTypes := ts })
    (h : wpQuiet P l.toArray (fun w' => ∃ p : Regrown, w' = grow (redrawn w p.d) p.os) (fun a' => ∀ w', Below w.heap.size w w' → Calls P f (ars.map a'.eval) w' fun e w'' => ∃ v, e = .returned v ∧
      wpQuiet P l.toArray (fun w3 => ∃ p : Regrown, w3 = grow (redrawn w'' p.d) p.os) (fun a3 => ∀ w3, Below w''.heap.size w'' w3 → Q .normal a3 w3) (l.drop (n + 1)) (a'.put o.dst v)) (l.take n) a) : (Code.region id l.toArray true).wp P Q a w := by
  simp only [midB, Bool.and_eq_true, decide_eq_true_eq] at hB
  obtain ⟨⟨⟨⟨hsel, hn⟩, hs⟩, hc⟩, hlex⟩ := hB
  have hn' : n < l.length := by simpa using hn
  have htl : (l.take n).length = n := by simp; omega
  have hdl : (l.drop (n + 1)).length = l.toArray.size - (n + 1) := by simp
  have inv0 : HeadInv .any l.toArray n (Array.replicate l.toArray.size false) :=
    ⟨by simp, fun j oj _ hl => (by rw [getD_replicate_false] at hl; cases hl), fun t _ ht => getD_in (by simpa using ht) (getD_replicate_false _ _)⟩
  have ho' : l.toArray[n]? = some o := by simpa using ho
  have H := mid_lex (P := P) (C := fun w' => ∃ p : Regrown, w' = grow (redrawn w p.d) p.os) (md := .any) hsel hs hc hn (l.take n) 0 _ a (fun j hj => by rw [htl] at hj; simp [hj]) (by simpa using htl) inv0 (by rw [htl]; exact hlex) h
  refine wp_region_any hm ?_
  have e := any_of_head (Q := Q) (g := l.toArray.size - n) (fun listed a' w' hw' hL => by
    obtain ⟨h1, h2⟩ := hL
    simp only [midEnd, Bool.and_eq_true, decide_eq_true_eq] at h1
    obtain ⟨p, hp⟩ := hw'
    rw [show l.toArray.size - n = (l.toArray.size - (n + 1)) + 1 by omega]
    refine ⟨fun h0 => (by rw [h1.1] at h0; cases h0), fun i hi => ?_⟩
    rw [h1.1] at hi
    obtain rfl : i = n := by simpa using hi
    refine wpOp_call ho' hg hf hnm0 hbd0 hop ((h2 w' (hp ▸ below_regrown w p.d p.os)).mono fun e w'' ⟨v, he, hq⟩ => ⟨v, he, ?_⟩)
    refine wpAny_of_quiet (C := fun w3 => ∃ p : Regrown, w3 = grow (redrawn w'' p.d) p.os) (Q := fun a3 => ∀ w3, Below w''.heap.size w'' w3 → Q .normal a3 w3) (fun a3 w3 ⟨p3, hp3⟩ h3 => h3 w3 (hp3 ▸ below_regrown w'' p3.d p3.os)) _ _ _ _ ⟨⟨w''.drawn, #[]⟩, by rw [grow_empty]; rfl⟩ ?_
    have := wpAnyQ_lex (P := P) (C := fun w3 => ∃ p : Regrown, w3 = grow (redrawn w'' p.d) p.os) (md := .any) hsel (l.drop (i + 1)) (i + 1) (listed.setIfInBounds i true) (a'.put o.dst v) (fun j => by simp [List.getElem?_drop]) (by rw [hdl]; exact h1.2) hq
    rwa [hdl] at this) _ _ _ w.drew ⟨⟨w.drawn + 1, #[]⟩, by rw [grow_empty]; rfl⟩ H
  rw [htl, show n + (l.toArray.size - n) = l.toArray.size by omega] at e
  exact e
end
end Go.Proofs.Ytkneecdpkdnjfaa.Qt
